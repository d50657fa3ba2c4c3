import Derived.Test.YtnffjoipinhojaaDoorGt
namespace Go.Proofs.YtnffjoipinhojaaDoor
open Go.RowKit

/-- What Find's closure sees: the row, and k. -/
structure Sees (w : World) (rb kb b V c n : Nat) (k : Int) : Prop where
  row : RowAt w b V c n
  r : w.cell? ⟨rb, 0, none⟩ = some (.pointer (some ⟨b, 0, none⟩))
  k : w.cell? ⟨kb, 0, none⟩ = some (.int .i64 k)
theorem Sees.drewN {w : World} {rb kb b V c n : Nat} {k : Int} (h : Sees w rb kb b V c n k) (m : Nat) : Sees (w.drewN m) rb kb b V c n k :=
  ⟨h.row.below (below_drewN (Below.refl _ _) m), h.r, h.k⟩

set_option maxHeartbeats 400000 in
set_option maxRecDepth 20000 in
theorem clo_any {w : World} {rb kb b V c n : Nat} {k : Int} (h : Sees w rb kb b V c n k) (i : Nat) (hi : i < n) :
    Calls Tryd.prog 37 #[.int .i64 i, .pointer (some ⟨rb, 0, none⟩), .pointer (some ⟨kb, 0, none⟩)] w fun x w' => x = .returned (.bool (decide (k ≤ ((Plain.pop V (64 * (i + 1)) : Nat) : Int)))) ∧ ∃ m, w' = w.drewN m := by
  obtain ⟨ga, cpa, a1, a2⟩ := h.row.c2
  have a3 := a2 (i + 1) (by omega)
  have hr := h.r
  have hk := h.k
  have hlim := h.row.lim
  obtain ⟨N, hN⟩ : ∃ N, N = n + 1 := ⟨_, rfl⟩
  rw [← hN] at a1
  obtain ⟨I, hI⟩ : ∃ I, I = i + 1 := ⟨_, rfl⟩
  rw [← hI] at a3 ⊢
  have hIw : IntKind.i64.wrap ((i : Int) + 1) = (I : Int) := by rw [IntKind.wrap_i64]; omega
  have hI0 : (0 : Int) ≤ (I : Int) := by omega
  have hIN : (I : Int) < (N : Int) := by omega
  obtain ⟨A, hA⟩ : ∃ A, A = Plain.pop V (64 * I) := ⟨_, rfl⟩
  rw [← hA] at a3 ⊢
  clear h a2 hN hI hA hi hlim
  go_enter Tryd.func37, Tryd.ntmps37
  go_wp2_with fail
  refine wp_region_still_lit (by kernel_rfl) (by kernel_rfl) ?_
  repeat still_step
  refine wpStill_nil ?_
  go_wp2
  go_ret
  exact ⟨rfl, 1, rfl⟩

set_option maxHeartbeats 800000 in
set_option maxRecDepth 20000 in
theorem search_any {w : World} {rb kb b V c n : Nat} {k : Int} (h : Sees w rb kb b V c n k) :
    Calls Tryd.prog 36 #[.int .i64 n, .func (.func 37) #[] #[.pointer (some ⟨rb, 0, none⟩), .pointer (some ⟨kb, 0, none⟩)]] w fun x w' => (∃ r : Nat, x = .returned (.int .i64 r) ∧ r ≤ n ∧ (∀ a, a < r → ((Plain.pop V (64 * (a + 1)) : Nat) : Int) < k) ∧ (r < n → k ≤ ((Plain.pop V (64 * (r + 1)) : Nat) : Int))) ∧ ∃ m, w' = w.drewN m := by
  have HS : Hid (Sees w rb kb b V c n k) := h
  have hlim := h.row.lim
  clear h
  go_enter Tryd.func36, Tryd.ntmps36
  go_wp2_with fail
  go_loopw [5, 6] (fun i j wr => ∃ a e : Nat, i = .int .i64 a ∧ j = .int .i64 e ∧ a ≤ e ∧ e ≤ n ∧ (∀ q, q < a → ((Plain.pop V (64 * (q + 1)) : Nat) : Int) < k) ∧ (e < n → k ≤ ((Plain.pop V (64 * (e + 1)) : Nat) : Int)) ∧ ∃ m, wr = w.drewN m) (fun i j _ => (intOf j).toNat - (intOf i).toNat)
  case atStart => exact ⟨0, n, rfl, rfl, Nat.zero_le _, Nat.le_refl _, fun q hq => by omega, fun h => by omega, 0, rfl⟩
  case round =>
    obtain ⟨a, e, rfl, rfl, hae, hen, hlo, hhi, m0, rfl⟩ := hrel
    have HL : Hid (∀ q, q < a → ((Plain.pop V (64 * (q + 1)) : Nat) : Int) < k) := hlo
    have HH : Hid (e < n → k ≤ ((Plain.pop V (64 * (e + 1)) : Nat) : Int)) := hhi
    clear hlo hhi
    by_cases hlt : a < e
    · obtain ⟨h, hh⟩ : ∃ h, h = (a + e) / 2 := ⟨_, rfl⟩
      have hlti : (a : Int) < (e : Int) := by omega
      have hhn : h < n := by omega
      have HHH : Hid (a ≤ h ∧ h < e) := ⟨by omega, by omega⟩
      have hh2 : ((a : Int) + (e : Int)) / 2 = (h : Int) := by omega
      clear hh
      go_wp2_with (first | (go_at_call 37; refine (clo_any (HS.out.drewN _) h hhn).mono ?_; rintro e2 w2 ⟨rfl, m1, rfl⟩))
      · have hd : (!decide (k ≤ ((Plain.pop V (64 * (h + 1)) : Nat) : Int))) = true := by assumption
        have hd2 : ((Plain.pop V (64 * (h + 1)) : Nat) : Int) < k := by simp at hd; omega
        go_roundw
        case rel =>
          refine ⟨h + 1, e, by go_num, rfl, by have := HHH.out; omega, hen, fun q hq => ?_, HH.out, _, rfl⟩
          have hm := Plain.pop_mono V (64 * (q + 1)) (64 * (h + 1)) (by omega)
          omega
        case measure => have := HHH.out; simp [intOf]; omega
      · have hd : (!decide (k ≤ ((Plain.pop V (64 * (h + 1)) : Nat) : Int))) = false := by assumption
        have hd2 : k ≤ ((Plain.pop V (64 * (h + 1)) : Nat) : Int) := by simpa using hd
        go_roundw
        case rel => exact ⟨a, h, rfl, rfl, HHH.out.1, by omega, HL.out, fun _ => hd2, _, rfl⟩
        case measure => have := HHH.out; simp [intOf]; omega
    · have hea : e = a := by omega
      subst hea
      go_wp2_with fail
      go_ret
      exact ⟨⟨_, rfl, hen, HL.out, HH.out⟩, m0, rfl⟩
end Go.Proofs.YtnffjoipinhojaaDoor
