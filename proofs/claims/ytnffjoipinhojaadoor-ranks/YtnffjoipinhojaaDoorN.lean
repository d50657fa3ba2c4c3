import Derived.Test.YtnffjoipinhojaaDoorU
import Derived.Test.YtnffjoipinhojaaDoorAt
namespace Go.Proofs.YtnffjoipinhojaaDoor
open Go.RowKit

/-- fault.Number of a placed refusal -/
theorem number_placed (i n : Int) (w : World) (hg : Handle w) :
    Calls Tryd.prog 27 #[.iface 88 (.agg #[.int .i64 i, .iface 82 (.agg #[.int .i64 n])])] w fun e w' => e = .returned (.int .i64 n) ∧ Below w.heap.size w w' := by
  have hlt := hg.pos
  have hgA : (w.alloc (.cells #[.int .i64 0] 82)).cell? ⟨0, 0, none⟩ = some (.iface 108 (.agg #[.pointer (some ⟨2, 57, none⟩)])) := by
    rw [World.cell?_alloc_lt _ _ ⟨0, 0, none⟩ hlt]; exact hg
  clear hg
  go_enter Tryd.func27, Tryd.ntmps27
  go_wp2_with fail
  refine (as_un i n _ (.int .i64 0) _ hgA (by simp) (by simp)).mono ?_
  rintro e w' ⟨rfl, rfl⟩
  go_wp2
  go_ret
  refine ⟨rfl, ?_⟩
  repeat (first | exact Below.refl _ _ | refine Below.alloc ?_ (by simp; try omega) _ | refine Below.setCell ?_ (by simp) _ | apply Below.drew)

/-- fault.Place of a placed refusal -/
theorem place_hit (i n : Int) (w : World) (hg : Handle w) :
    Calls Tryd.prog 29 #[.iface 88 (.agg #[.int .i64 i, .iface 82 (.agg #[.int .i64 n])])] w fun e w' => e = .returned (.int .i64 i) ∧ Below w.heap.size w w' := by
  have hlt := hg.pos
  have hgA : (w.alloc (.cells #[.int .i64 0, .nilIface] 88)).cell? ⟨0, 0, none⟩ = some (.iface 108 (.agg #[.pointer (some ⟨2, 57, none⟩)])) := by
    rw [World.cell?_alloc_lt _ _ ⟨0, 0, none⟩ hlt]; exact hg
  clear hg
  go_enter Tryd.func29, Tryd.ntmps29
  go_wp2_with fail
  refine (as_place_hit i n _ (.int .i64 0) .nilIface _ hgA (by simp) (by simp) (by simp) (by simp)).mono ?_
  rintro e w' ⟨rfl, rfl⟩
  go_wp2
  go_ret
  refine ⟨rfl, ?_⟩
  repeat (first | exact Below.refl _ _ | refine Below.alloc ?_ (by simp; try omega) _ | refine Below.setCell ?_ (by simp) _ | apply Below.drew)

/-- fault.Place of a bare refusal -/
theorem place_miss (n : Int) (w : World) (hg : Handle w) :
    Calls Tryd.prog 29 #[.iface 82 (.agg #[.int .i64 n])] w fun e w' => e = .returned (.int .i64 0) ∧ Below w.heap.size w w' := by
  have hlt := hg.pos
  have hgA : (w.alloc (.cells #[.int .i64 0, .nilIface] 88)).cell? ⟨0, 0, none⟩ = some (.iface 108 (.agg #[.pointer (some ⟨2, 57, none⟩)])) := by
    rw [World.cell?_alloc_lt _ _ ⟨0, 0, none⟩ hlt]; exact hg
  clear hg
  go_enter Tryd.func29, Tryd.ntmps29
  go_wp2_with fail
  refine (as_place_miss n _ _ hgA).mono ?_
  rintro e w1 ⟨rfl, hb⟩
  have HB : Hid (Below w.heap.size w w1) := ((Below.refl w.heap.size w).alloc (Nat.le_refl _) _).trans (hb.mono (by simp))
  clear hb
  go_wp2
  go_ret
  exact ⟨rfl, HB.out⟩

/-- fault.At -/
theorem at_any (i n : Int) (w : World) :
    Calls Tryd.prog 44 #[.int .i64 i, .iface 82 (.agg #[.int .i64 n])] w fun x w' => x = .returned (.iface 88 (.agg #[.int .i64 i, .iface 82 (.agg #[.int .i64 n])])) ∧ w = w' := by
  go_enter Tryd.func44, Tryd.ntmps44
  go_wp2
  go_ret
  exact ⟨rfl, rfl⟩

theorem width_ok (d : Int) (w : World) (h1 : 1 ≤ d) (h2 : d ≤ 62) :
    Calls Tryd.prog 43 #[.int .i64 d] w fun x w' => x = .returned .nilIface ∧ w = w' := by
  go_enter Tryd.func43, Tryd.ntmps43
  go_wp2
  go_ret
  exact ⟨rfl, rfl⟩
theorem width_bad (d : Int) (w : World) (h : d < 1 ∨ 62 < d) :
    Calls Tryd.prog 43 #[.int .i64 d] w fun x w' => x = .returned (.iface 82 (.agg #[.int .i64 3])) ∧ w = w' := by
  rcases h with h | h
  · go_enter Tryd.func43, Tryd.ntmps43
    go_wp2_with (go_at_call 41; refine (new_any _ _).mono ?_; rintro e w' ⟨rfl, rfl⟩)
    go_ret
    exact ⟨rfl, rfl⟩
  · have h1 : ¬ d < 1 := by omega
    go_enter Tryd.func43, Tryd.ntmps43
    go_wp2_with (go_at_call 41; refine (new_any _ _).mono ?_; rintro e w' ⟨rfl, rfl⟩)
    go_ret
    exact ⟨rfl, rfl⟩

/-- A slice that reads as these numbers. -/
def Ints (w : World) (v : Value) (xs : List Int) : Prop :=
  (∃ a cap, v = .slice a 0 cap ∧ xs = []) ∨ ∃ b off cap, v = .slice (some ⟨b, off, none⟩) xs.length cap ∧ ∀ i, i < xs.length → w.cell? ⟨b, off + i, none⟩ = some (.int .i64 (xs.getD i 0))

/-- Does the number fit into that many bits? -/
def fitsB (x : Int) (d : Nat) : Bool := decide (0 ≤ x ∧ x < 2 ^ d)
def bad (d : Nat) (xs : List Int) (i : Nat) : Prop := i < xs.length ∧ (∀ j, j < i → fitsB (xs.getD j 0) d = true) ∧ fitsB (xs.getD i 0) d = false
def I64 (x : Int) : Prop := -9223372036854775808 ≤ x ∧ x ≤ 9223372036854775807

theorem wrap_fits (x : Int) (d : Nat) (hx : I64 x) (hd : d ≤ 62) : ((IntKind.u64.wrap x).toNat / 2 ^ d == 0) = fitsB x d := by
  obtain ⟨h1, h2⟩ := hx
  have hp : (2 : Nat) ^ d ≤ 2 ^ 62 := Nat.pow_le_pow_right (by decide) hd
  have hp0 : 0 < (2 : Nat) ^ d := Nat.two_pow_pos d
  have e : ((2 : Int) ^ d) = ((2 ^ d : Nat) : Int) := by simp
  rw [IntKind.wrap_u64, Bool.eq_iff_iff, fitsB, beq_iff_eq, decide_eq_true_eq, Nat.div_eq_zero_iff, e]
  omega

theorem fits_snoc {xs : List Int} {d k : Nat} (h : ∀ j, j < k → fitsB (xs.getD j 0) d = true) (hk : fitsB (xs.getD k 0) d = true) : ∀ j, j < k + 1 → fitsB (xs.getD j 0) d = true := by
  intro j hj
  rcases Nat.lt_or_ge j k with e | e
  · exact h j e
  · obtain rfl : j = k := by omega
    exact hk

/-- What checkNumbers answers, at a width within its bounds. -/
def NumAns (d : Nat) (xs : List Int) (x : Ending) : Prop :=
  ((∀ j, j < xs.length → fitsB (xs.getD j 0) d = true) ∧ x = .returned .nilIface) ∨
  ∃ i, bad d xs i ∧ x = .returned (.iface 88 (.agg #[.int .i64 (i : Int), .iface 82 (.agg #[.int .i64 3])]))

set_option maxHeartbeats 400000 in
theorem nums_any (xs : List Int) (d : Nat) (v : Value) (w : World) (hv : Ints w v xs) (hx : ∀ i, I64 (xs.getD i 0)) (hl : xs.length ≤ 140737488355328) (h1 : 1 ≤ d) (h2 : d ≤ 62) :
    Calls Tryd.prog 28 #[v, .int .i64 d] w fun x w' => NumAns d xs x ∧ w = w' := by
  rcases hv with ⟨a0, cap0, rfl, rfl⟩ | ⟨b, off, cap, rfl, hc⟩
  · go_enter Tryd.func28, Tryd.ntmps28
    go_wp2_with (go_at_call 43; refine (width_ok _ _ (by omega) (by omega)).mono ?_; rintro e w' ⟨rfl, rfl⟩)
    go_loop [15] (fun i => i = .int .i64 0) (fun _ => 0)
    case atStart => rfl
    case round =>
      subst hrel
      go_wp2
      go_ret
      exact ⟨.inl ⟨by simp, rfl⟩, rfl⟩
  · have HC : Hid (∀ i, i < xs.length → w.cell? ⟨b, off + i, none⟩ = some (.int .i64 (xs.getD i 0))) := hc
    have HX : Hid (∀ i, I64 (xs.getD i 0)) := hx
    clear hc hx
    obtain ⟨n, hn⟩ : ∃ n, n = xs.length := ⟨_, rfl⟩
    rw [← hn] at hl ⊢
    have HN : Hid (n = xs.length) := hn
    clear hn
    go_enter Tryd.func28, Tryd.ntmps28
    go_wp2_with (go_at_call 43; refine (width_ok _ _ (by omega) (by omega)).mono ?_; rintro e w' ⟨rfl, rfl⟩)
    go_loop [15] (fun i => ∃ k : Nat, k ≤ n ∧ i = .int .i64 k ∧ ∀ j, j < k → fitsB (xs.getD j 0) d = true) (fun i => n - (intOf i).toNat)
    case atStart => exact ⟨0, Nat.zero_le _, rfl, fun _ h => by omega⟩
    case round =>
      obtain ⟨k, hk, rfl, hah⟩ := hrel
      have HA : Hid (∀ j, j < k → fitsB (xs.getD j 0) d = true) := hah
      clear hah
      by_cases hlt : k < n
      · have hcell := HC.out k (by have := HN.out; omega)
        obtain ⟨x, hxx⟩ : ∃ x, x = xs.getD k 0 := ⟨_, rfl⟩
        rw [← hxx] at hcell
        have HF : Hid (((IntKind.u64.wrap x).toNat / 2 ^ d == 0) = fitsB x d) := wrap_fits x d (by rw [hxx]; exact HX.out k) h2
        have HXX : Hid (x = xs.getD k 0) := hxx
        clear hxx
        have hw0 : 0 ≤ IntKind.u64.wrap x := by rw [IntKind.wrap_u64]; omega
        go_wp2_with (first | (go_at_call 24; refine (fits64 _ _ _ hw0 (by omega) (by omega)).mono ?_; rintro e w' ⟨rfl, rfl⟩) | (go_at_call 41; refine (new_any _ _).mono ?_; rintro e w' ⟨rfl, rfl⟩) | (go_at_call 44; refine (at_any _ _ _).mono ?_; rintro e w' ⟨rfl, rfl⟩))
        · have h3 : (!(IntKind.u64.wrap x).toNat / 2 ^ d == 0) = true := by assumption
          go_ret
          refine ⟨.inr ⟨k, ⟨by have := HN.out; omega, HA.out, ?_⟩, rfl⟩, rfl⟩
          rw [← HXX.out, ← HF.out]
          simpa using h3
        · have h3 : (!(IntKind.u64.wrap x).toNat / 2 ^ d == 0) = false := by assumption
          go_round
          case rel => exact ⟨k + 1, by omega, by go_num, fits_snoc HA.out (by rw [← HXX.out, ← HF.out]; simpa using h3)⟩
          case measure => simp [intOf]; omega
      · go_wp2
        go_ret
        exact ⟨.inl ⟨fun j hj => HA.out j (by have := HN.out; omega), rfl⟩, rfl⟩
end Go.Proofs.YtnffjoipinhojaaDoor
