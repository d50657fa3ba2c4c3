import Derived.Test.YtnffjoipinhojabDoorBa
import Derived.Test.YtnffjoipinhojabDoorBv
import Derived.Lib.MinMax
namespace Go.Proofs.YtnffjoipinhojabDoor
open Go.RowKit

theorem byte_at (s : ByteArray) (k : Nat) (h : k < s.size) : s.data.toList.getD k 0 = s[k] := by
  have h' : k < s.data.toList.length := by simpa using h
  rw [List.getD_eq_getElem?_getD, List.getElem?_eq_getElem h']
  rfl

/-- What readGroups answers. -/
def ReadAns (l : List UInt8) (e : Ending) : Prop :=
  (∃ k, Plain.Good l k ∧ e = .returned (.tuple #[.int .u64 (Plain.grp (k + 1) l), .int .i64 (k + 1 : Nat), .nilIface])) ∨
  ((∀ k, ¬ Plain.Good l k) ∧ e = .returned (.tuple #[.int .u64 0, .int .i64 0, .iface 80 (.agg #[.int .i64 8])]))

theorem ans_yes {l : List UInt8} {k : Nat} {a b : Int} (ha : ∀ j, j < k → 128 ≤ (l.getD j 0).toNat) (h9 : k < 9) (hl : k < l.length) (h1 : (l.getD k 0).toNat < 128) (h2 : k = 0 ∨ (l.getD k 0).toNat ≠ 0)
    (e1 : a = (Plain.grp (k + 1) l : Int)) (e2 : b = (k + 1 : Nat)) : ReadAns l (.returned (.tuple #[.int .u64 a, .int .i64 b, .nilIface])) := by
  subst e1 e2
  exact .inl ⟨k, ⟨h9, hl, ha, h1, h2⟩, rfl⟩

set_option maxHeartbeats 400000 in
theorem read_any (s : ByteArray) (w : World) (hs : s.size ≤ 140737488355328):
    Calls Tryd.prog 71 #[.string s] w fun e w' => ReadAns s.data.toList e ∧ w = w' := by
  go_enter Tryd.func71, Tryd.ntmps71
  go_wp2
  go_loop [5, 11] (fun n i => ∃ k : Nat, k ≤ min s.size 9 ∧ i = .int .i64 k ∧ n = .int .u64 (Plain.grp k s.data.toList) ∧ ∀ j, j < k → 128 ≤ (s.data.toList.getD j 0).toNat) (fun _ i => s.size - (intOf i).toNat)
  case atStart => exact ⟨0, by omega, rfl, rfl, by omega⟩
  case round =>
    obtain ⟨k, hk, rfl, rfl, hah⟩ := hrel
    have HA : Hid (∀ j, j < k → 128 ≤ (s.data.toList.getD j 0).toNat) := hah
    clear hah
    by_cases hlt : k < s.size ∧ k < 9
    · obtain ⟨hlt2, hlt⟩ := hlt
      have hby : s[k].toNat < 256 := s[k].toNat_lt
      have HB : Hid (s.data.toList.getD k 0 = s[k]) := byte_at s k hlt2
      have HS : Hid (bits .or .u64 (Plain.grp k s.data.toList : Int) (IntKind.u64.wrap ((s[k].toNat : Int) % 128 * 2 ^ (k * 7))) = (Plain.grp (k + 1) s.data.toList : Int)) := Plain.step_u64 k hlt _ _ HB.out
      have HL : Hid (k < s.data.toList.length) := by simpa [Hid] using hlt2
      go_wp2_with (first | (go_at_call 72; refine (low8 _ _ _ (by omega) (by omega) (by omega) (by omega)).mono ?_; rintro e w' ⟨rfl, rfl⟩) | (go_at_call 73; refine (fits8 _ _ _ (by omega) (by omega) (by omega)).mono ?_; rintro e w' ⟨rfl, rfl⟩) | (go_at_call 37; refine (new_any _ _).mono ?_; rintro e w' ⟨rfl, rfl⟩))
      · have h1 : (!s[k].toNat / 128 == 0) = true := by assumption
        have h2 : 128 ≤ s[k].toNat := by simp at h1; omega
        go_round
        case rel => exact ⟨k + 1, by omega, by go_num, by rw [HS.out], Plain.ahead_snoc HA.out (by rw [HB.out]; exact h2)⟩
        case measure => simp [intOf]; omega
      · have h1 : s[k].toNat = 0 := by assumption
        have h2 : 0 < k := by assumption
        go_ret3
        exact ⟨.inr ⟨Plain.no_of_bad HA.out h2 (by rw [HB.out]; exact h1), rfl⟩, rfl⟩
      · have h1 : s[k].toNat = 0 := by assumption
        have h2 : ¬ 0 < k := by assumption
        go_ret3
        exact ⟨ans_yes HA.out hlt HL.out (by rw [HB.out]; omega) (.inl (by omega)) (by simpa using Plain.step_u64 k hlt s.data.toList 0 (by rw [HB.out]; exact UInt8.toNat_inj.1 (h1.trans rfl))) (by omega), rfl⟩
      · have h1 : ¬ s[k].toNat = 0 := by assumption
        have h2 : (!s[k].toNat / 128 == 0) = false := by assumption
        have h3 : s[k].toNat < 128 := by simp at h2; omega
        go_ret3
        exact ⟨ans_yes HA.out hlt HL.out (by rw [HB.out]; exact h3) (.inr (by rw [HB.out]; exact h1)) HS.out (by omega), rfl⟩
    · have HE : Hid (s.data.toList.length ≤ k ∨ 9 ≤ k) := by simp [Hid]; omega
      go_wp2_with (first | (go_at_call 37; refine (new_any _ _).mono ?_; rintro e w' ⟨rfl, rfl⟩))
      go_ret3
      exact ⟨.inr ⟨Plain.no_of_end HA.out HE.out, rfl⟩, rfl⟩
end Go.Proofs.YtnffjoipinhojabDoor
