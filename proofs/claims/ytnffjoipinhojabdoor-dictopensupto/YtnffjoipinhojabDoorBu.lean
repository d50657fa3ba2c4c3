import Derived.Test.YtnffjoipinhojabDoorBr
set_option linter.unusedVariables false
namespace Go.Proofs.YtnffjoipinhojabDoor
open Go.RowKit

theorem byte_drop (s : ByteArray) (p k : Nat) (h : p + k < s.size) : (s.data.toList.drop p).getD k 0 = s[p + k] := by
  rw [← byte_at s (p + k) h]
  simp [List.getD_eq_getElem?_getD, List.getElem?_drop]

/-- What the document's Unvarint answers. -/
def RefAns (l : List UInt8) (p : Nat) (e : Ending) : Prop :=
  (∃ k, Plain.Good l k ∧ e = .returned (.tuple #[.int .i64 (Plain.grp (k + 1) l), .int .i64 (p + k + 1 : Nat)])) ∨
  ((∀ k, ¬ Plain.Good l k) ∧ e = .returned (.tuple #[.int .i64 0, .int .i64 0]))

theorem refans_yes {l : List UInt8} {p k : Nat} {a b : Int} (ha : ∀ j, j < k → 128 ≤ (l.getD j 0).toNat) (h9 : k < 9) (hl : k < l.length) (h1 : (l.getD k 0).toNat < 128) (h2 : k = 0 ∨ (l.getD k 0).toNat ≠ 0)
    (e1 : a = (Plain.grp (k + 1) l : Int)) (e2 : b = (p + k + 1 : Nat)) : RefAns l p (.returned (.tuple #[.int .i64 a, .int .i64 b])) := by
  subst e1 e2
  exact .inl ⟨k, ⟨h9, hl, ha, h1, h2⟩, rfl⟩

set_option maxHeartbeats 400000 in
set_option maxRecDepth 20000 in
/-- trineref.Unvarint -/
theorem refun_any (s : ByteArray) (p : Nat) (w : World) (hs : s.size ≤ 140737488355328) (ha : p ≤ s.size):
    Calls Tryd.prog 52 #[.string s, .int .i64 p] w fun e w' => RefAns (s.data.toList.drop p) p e ∧ w = w' := by
  go_enter Tryd.func52, Tryd.ntmps52
  go_wp2
  go_loop [6, 7] (fun n i => ∃ k : Nat, k ≤ min (s.size - p) 9 ∧ i = .int .i64 k ∧ n = .int .i64 (Plain.grp k (s.data.toList.drop p)) ∧ ∀ j, j < k → 128 ≤ ((s.data.toList.drop p).getD j 0).toNat) (fun _ i => s.size - (intOf i).toNat)
  case atStart => exact ⟨0, by omega, rfl, rfl, by omega⟩
  case round =>
    obtain ⟨k, hk, rfl, rfl, hah⟩ := hrel
    have HA : Hid (∀ j, j < k → 128 ≤ ((s.data.toList.drop p).getD j 0).toNat) := hah
    clear hah
    by_cases hlt : p + k < s.size ∧ k < 9
    · obtain ⟨hlt2, hlt⟩ := hlt
      have hby : s[p + k].toNat < 256 := s[p + k].toNat_lt
      have HB : Hid ((s.data.toList.drop p).getD k 0 = s[p + k]) := byte_drop s p k hlt2
      have HS : Hid (bits .or .i64 (Plain.grp k (s.data.toList.drop p) : Int) (wrap64 ((s[p + k].toNat : Int) % 128 * 2 ^ (7 * k))) = (Plain.grp (k + 1) (s.data.toList.drop p) : Int)) := Plain.step_i64 k hlt _ _ HB.out
      have HL : Hid (k < (s.data.toList.drop p).length) := by simp [Hid]; omega
      go_wp2
      · have h1 : s[p + k].toNat = 0 := by assumption
        have h2 : 0 < k := by assumption
        go_ret2
        exact ⟨.inr ⟨Plain.no_of_bad HA.out h2 (by rw [HB.out]; exact h1), rfl⟩, rfl⟩
      · have h1 : s[p + k].toNat = 0 := by assumption
        have h2 : ¬ 0 < k := by assumption
        go_ret2
        exact ⟨refans_yes HA.out hlt HL.out (by rw [HB.out]; omega) (.inl (by omega)) (by simpa [wrap64] using Plain.step_i64 k hlt (s.data.toList.drop p) 0 (by rw [HB.out]; exact UInt8.toNat_inj.1 (h1.trans rfl))) (by omega), rfl⟩
      · have h1 : ¬ s[p + k].toNat = 0 := by assumption
        have h3 : (s[p + k].toNat : Int) < 128 := by assumption
        go_ret2
        exact ⟨refans_yes HA.out hlt HL.out (by rw [HB.out]; omega) (.inr (by rw [HB.out]; exact h1)) HS.out (by omega), rfl⟩
      · have h1 : (128 : Int) ≤ (s[p + k].toNat : Int) := by assumption
        go_round
        case rel => exact ⟨k + 1, by omega, by go_num, by rw [HS.out], Plain.ahead_snoc HA.out (by rw [HB.out]; omega)⟩
        case measure => simp [intOf]; omega
    · have HE : Hid ((s.data.toList.drop p).length ≤ k ∨ 9 ≤ k) := by simp [Hid]; omega
      by_cases h9 : k < 9
      · go_wp2
        go_ret2
        exact ⟨.inr ⟨Plain.no_of_end HA.out HE.out, rfl⟩, rfl⟩
      · go_wp2
        go_ret2
        exact ⟨.inr ⟨Plain.no_of_end HA.out HE.out, rfl⟩, rfl⟩


end Go.Proofs.YtnffjoipinhojabDoor
