import Derived.Test.YtnffjoipinhojaaDoorRw
import Derived.BigQuiet
import Derived.Deep.QuietTactic
namespace Go.Proofs.YtnffjoipinhojaaDoor.Plain
theorem word_bit (V i : Nat) : word V (i / 64) / 2 ^ (i % 64) % 2 = V / 2 ^ i % 2 := by
  have e : (2 : Nat) ^ 64 = 2 ^ (i % 64) * 2 ^ (64 - i % 64) := by rw [← Nat.pow_add]; congr 1; omega
  have e2 : (2 : Nat) ^ (64 - i % 64) = 2 * 2 ^ (63 - i % 64) := by rw [Nat.mul_comm, ← Nat.pow_succ]; congr 1; omega
  unfold word
  rw [e, Nat.mod_mul_right_div_self, e2, Nat.mod_mul_right_mod, Nat.div_div_eq_div_mul, ← Nat.pow_add, show 64 * (i / 64) + i % 64 = i by omega]

theorem pop_word (V j r : Nat) (hr : r ≤ 64) : pop (word V j) r = pop (V / 2 ^ (64 * j)) r := by
  rw [← pop_mod r (word V j), ← pop_mod r (V / 2 ^ (64 * j)), word, Nat.mod_mod_of_dvd _ (Nat.pow_dvd_pow 2 hr)]

theorem pop_low (x r : Nat) (hr : r ≤ 64) : pop (x % 2 ^ r) 64 = pop x r := by
  obtain ⟨d, hd⟩ : ∃ d, 64 = r + d := ⟨64 - r, by omega⟩
  rw [hd, pop_split, pop_mod, Nat.div_eq_of_lt (Nat.mod_lt _ (Nat.two_pow_pos r)), pop_zero]
  rfl

theorem pop_at (V i : Nat) : pop V (64 * (i / 64)) + pop (word V (i / 64) % 2 ^ (i % 64)) 64 = pop V i := by
  rw [pop_low _ _ (by omega), pop_word _ _ _ (by omega), ← pop_split, show 64 * (i / 64) + i % 64 = i by omega]

theorem pop_all (V c m : Nat) (hV : V < 2 ^ c) (hm : c ≤ m) : pop V m = pop V c := by
  obtain ⟨d, rfl⟩ : ∃ d, m = c + d := ⟨m - c, by omega⟩
  rw [pop_split, Nat.div_eq_of_lt hV, pop_zero]
  rfl
end Go.Proofs.YtnffjoipinhojaaDoor.Plain
namespace Go.Proofs.YtnffjoipinhojaaDoor
open Go.RowKit

/-- Bit i of the row. -/
def Bit (V c : Nat) (i : Int) : Bool := decide (0 ≤ i) && decide (i < (c : Int)) && (V / 2 ^ i.toNat % 2 == 1)
/-- How many bits ahead of i are 1. -/
def OnesOf (V c : Nat) (i : Int) : Nat := Plain.pop V (min i.toNat c)

theorem oc_still (x : Nat) (w : World) (hx : x < 18446744073709551616) :
    Calls Tryd.prog 35 #[.int .u64 x] w fun e w' => e = .returned (.int .i64 (Plain.pop x 64 : Nat)) ∧ w' = w :=
  (oc_any x w hx).mono fun _ _ h => ⟨h.1, h.2.symm⟩

theorem low_y {x y r : Nat} {w : World} (hy : Hid (y = x % 2 ^ r)) (hx : x < 18446744073709551616) (h0 : (0 : Int) ≤ (r : Int)) (hr : (r : Int) < 64) :
    Calls Tryd.prog 25 #[.int .u64 (x : Int), .int .i64 (r : Int)] w fun e w' => e = .returned (.int .u64 (y : Int)) ∧ w' = w := by
  rw [hy.out]
  exact low64_still (x : Int) (r : Int) w (by omega) (by omega) (by omega) (by omega)
theorem oc_y {y p : Nat} {w : World} (hp : Hid (p = Plain.pop y 64)) (hy : y < 18446744073709551616) :
    Calls Tryd.prog 35 #[.int .u64 (y : Int)] w fun e w' => e = .returned (.int .i64 (p : Int)) ∧ w' = w := by
  rw [hp.out]
  exact oc_still y w hy

set_option maxHeartbeats 400000 in
theorem get_row {w : World} {b V c n : Nat} (i : Int) (h : RowAt w b V c n) : Calls Tryd.prog 19 #[.pointer (some ⟨b, 0, none⟩), .int .i64 i] w fun x w' => x = .returned (.bool (Bit V c i)) ∧ w' = w := by
  have HR : Hid (RowAt w b V c n) := h
  by_cases hi : i < 0
  · have hB : Bit V c i = false := by simp [Bit]; omega
    rw [hB]
    clear h HR
    go_enter Tryd.func19, Tryd.ntmps19
    go_wp2
    go_ret
    exact ⟨rfl, rfl⟩
  · by_cases hc : i ≥ (c : Int)
    · have hB : Bit V c i = false := by simp [Bit]; omega
      rw [hB]
      clear h
      go_enter Tryd.func19, Tryd.ntmps19
      go_wp2_with (first | (go_at_call 18; refine (len_row HR.out).mono ?_; rintro e w' ⟨rfl, rfl⟩))
      go_ret
      exact ⟨rfl, rfl⟩
    · obtain ⟨m, rfl⟩ := Int.eq_ofNat_of_zero_le (show 0 ≤ i by omega)
      obtain ⟨j, hj⟩ : ∃ j, j = m / 64 := ⟨_, rfl⟩
      obtain ⟨r, hr⟩ : ∃ r, r = m % 64 := ⟨_, rfl⟩
      have hfit := h.fit
      have hlim := h.lim
      have hjn : j < n := by omega
      obtain ⟨ad, cp, k1, k2⟩ := h.c1
      obtain ⟨g, rfl, kw⟩ := k2 j hjn
      obtain ⟨x, hx⟩ : ∃ x, x = Plain.word V j := ⟨_, rfl⟩
      have hx64 : x < 18446744073709551616 := by rw [hx]; exact Plain.word_lt V j
      have hB : Bit V c (m : Int) = (x / 2 ^ r % 2 == 1) := by
        have h1 : (0 : Int) ≤ (m : Int) := by omega
        have h2 : (m : Int) < (c : Int) := by omega
        simp only [Bit, h1, h2, decide_true, Bool.true_and, Int.toNat_natCast, hx, hj, hr, Plain.word_bit]
      rw [hB]
      rw [← hx] at kw
      have hji : (m : Int) / 64 = (j : Int) := by omega
      have hri : (m : Int) % 64 = (r : Int) := by omega
      have hjw : IntKind.i64.wrap (j : Int) = (j : Int) := wraps_i63 _ (by omega) (by omega)
      have hjN : (j : Int) < (n : Int) := by omega
      have hj0 : (0 : Int) ≤ (j : Int) := by omega
      have hr0 : (0 : Int) ≤ (r : Int) := by omega
      have hr64 : (r : Int) < 64 := by omega
      obtain ⟨y, hy⟩ : ∃ y, y = x / 2 ^ r := ⟨_, rfl⟩
      have hyi : (x : Int) / 2 ^ r = (y : Int) := by rw [hy]; simp
      have hy64 : y < 18446744073709551616 := by rw [hy]; exact Nat.lt_of_le_of_lt (Nat.div_le_self _ _) hx64
      rw [← hy]
      clear h k2 hx hB hfit hlim hj hr hy
      go_enter Tryd.func19, Tryd.ntmps19
      go_wp2_with (first | (go_at_call 18; refine (len_row HR.out).mono ?_; rintro e w' ⟨rfl, rfl⟩) | (go_at_call 25; refine (low64_still _ _ _ (by omega) (by omega) (by omega) (by omega)).mono ?_; rintro e w' ⟨rfl, rfl⟩))
      go_ret
      have hfin : ((y : Int) % 2 == 1) = (y % 2 == 1) := by
        rw [Bool.eq_iff_iff, beq_iff_eq, beq_iff_eq]
        omega
      exact ⟨congrArg (fun b => Ending.returned (Value.bool b)) hfin, rfl⟩

theorem ones_neg (V c : Nat) (i : Int) (h : i < 0 ∨ c = 0) : OnesOf V c i = 0 := by
  have e : min i.toNat c = 0 := by omega
  rw [OnesOf, e]
  rfl

set_option maxHeartbeats 800000 in
set_option maxRecDepth 20000 in
theorem ones_row {w : World} {b V c n : Nat} (i : Int) (h : RowAt w b V c n) : Calls Tryd.prog 20 #[.pointer (some ⟨b, 0, none⟩), .int .i64 i] w fun x w' => x = .returned (.int .i64 (OnesOf V c i : Nat)) ∧ ∃ m, w' = w.drewN m := by
  have HR : Hid (RowAt w b V c n) := h
  by_cases hi : i < 0
  · have hO := ones_neg V c i (.inl hi)
    rw [hO]
    clear h HR hO
    go_enter Tryd.func20, Tryd.ntmps20
    go_wp2
    go_ret
    exact ⟨rfl, 0, rfl⟩
  · by_cases hc0 : c = 0
    · have hO := ones_neg V c i (.inr hc0)
      rw [hO]
      subst hc0
      clear h hO
      go_enter Tryd.func20, Tryd.ntmps20
      go_wp2_with (first | (go_at_call 18; refine (len_row HR.out).mono ?_; rintro e w' ⟨rfl, rfl⟩))
      go_ret
      exact ⟨rfl, 0, rfl⟩
    · have hcz : ((c : Int) == 0) = false := by simp; omega
      have hlim := h.lim
      have hfit := h.fit
      obtain ⟨ga, cpa, a1, a2⟩ := h.c2
      obtain ⟨adw, cpw, k1, k2⟩ := h.c1
      have k0 := h.c0
      by_cases hc : i ≥ (c : Int)
      · have hO : OnesOf V c i = Plain.pop V (64 * n) := by
          rw [OnesOf, Nat.min_eq_right (by omega), Plain.pop_all V c _ h.small h.fit]
        rw [hO]
        have a3 := a2 n (Nat.le_refl _)
        obtain ⟨N, hN⟩ : ∃ N, N = n + 1 := ⟨_, rfl⟩
        rw [← hN] at a1
        have hnN : (n : Int) < (N : Int) := by omega
        have hn0 : (0 : Int) ≤ (n : Int) := by omega
        obtain ⟨A, hA⟩ : ∃ A, A = Plain.pop V (64 * n) := ⟨_, rfl⟩
        rw [← hA] at a3 ⊢
        clear h hO a2 k2 hN hA hfit
        go_enter Tryd.func20, Tryd.ntmps20
        go_wp2_with (first | (go_at_call 18; refine (len_row HR.out).mono ?_; rintro e w' ⟨rfl, rfl⟩))
        refine wp_region_still_lit (by kernel_rfl) (by kernel_rfl) ?_
        repeat still_step
        refine wpStill_nil ?_
        go_wp2
        go_ret
        exact ⟨rfl, 1, rfl⟩
      · obtain ⟨m, rfl⟩ := Int.eq_ofNat_of_zero_le (show 0 ≤ i by omega)
        obtain ⟨j, hj⟩ : ∃ j, j = m / 64 := ⟨_, rfl⟩
        obtain ⟨r, hr⟩ : ∃ r, r = m % 64 := ⟨_, rfl⟩
        have hjn : j < n := by omega
        obtain ⟨g, rfl, kw⟩ := k2 j hjn
        have a3 := a2 j (by omega)
        obtain ⟨x, hx⟩ : ∃ x, x = Plain.word V j := ⟨_, rfl⟩
        have hx64 : x < 18446744073709551616 := by rw [hx]; exact Plain.word_lt V j
        have hpa := Plain.pop_at V m
        rw [← hj, ← hr, ← hx] at hpa
        obtain ⟨y, hy⟩ : ∃ y, y = x % 2 ^ r := ⟨_, rfl⟩
        have hy64 : y < 18446744073709551616 := by rw [hy]; exact Nat.lt_of_le_of_lt (Nat.mod_le _ _) hx64
        obtain ⟨A, hA⟩ : ∃ A, A = Plain.pop V (64 * j) := ⟨_, rfl⟩
        have hA64 : A ≤ 64 * j := by rw [hA]; exact Plain.pop_le _ _
        obtain ⟨p, hp⟩ : ∃ p, p = Plain.pop y 64 := ⟨_, rfl⟩
        have hp64 : p ≤ 64 := by rw [hp]; exact Plain.pop_le _ _
        rw [← hy, ← hA, ← hp] at hpa
        obtain ⟨B, hB⟩ : ∃ B, B = A + p := ⟨_, rfl⟩
        have hO : OnesOf V c (m : Int) = B := by
          rw [OnesOf, Int.toNat_natCast, Nat.min_eq_left (by omega), hB, hpa]
        rw [hO]
        rw [← hx] at kw
        rw [← hA] at a3
        have HP : Hid (p = Plain.pop y 64) := hp
        have HY : Hid (y = x % 2 ^ r) := hy
        have hAB : IntKind.i64.wrap ((A : Int) + (p : Int)) = (B : Int) := by rw [IntKind.wrap_i64]; omega
        obtain ⟨N, hN⟩ : ∃ N, N = n + 1 := ⟨_, rfl⟩
        rw [← hN] at a1
        have hjN : (j : Int) < (N : Int) := by omega
        have hjn' : (j : Int) < (n : Int) := by omega
        have hj0 : (0 : Int) ≤ (j : Int) := by omega
        have hji : (m : Int) / 64 = (j : Int) := by omega
        have hri : (m : Int) % 64 = (r : Int) := by omega
        have htm : (m : Int).tmod 64 = (r : Int) := by rw [Int.tmod_eq_emod_of_nonneg (by omega)]; exact hri
        have hjw : IntKind.i64.wrap (j : Int) = (j : Int) := wraps_i63 _ (by omega) (by omega)
        have hr0 : (0 : Int) ≤ (r : Int) := by omega
        have hr64 : (r : Int) < 64 := by omega
        clear h hO a2 k2 hN hA hfit hx hpa hy hp hB hj hr
        go_enter Tryd.func20, Tryd.ntmps20
        go_wp2_with (first | (go_at_call 18; refine (len_row HR.out).mono ?_; rintro e w' ⟨rfl, rfl⟩))
        refine wp_region_still_lit (by kernel_rfl) (by kernel_rfl) ?_
        repeat still_step
        still_call (low_y HY hx64 hr0 hr64)
        repeat still_step
        still_call (oc_y HP hy64)
        repeat still_step
        refine wpStill_nil ?_
        go_wp2
        go_ret
        exact ⟨rfl, 1, rfl⟩
end Go.Proofs.YtnffjoipinhojaaDoor
