import Derived.Test.YtnffjoipinhojabDoorDw
import Derived.Test.YtnffjoipinhojabDoorDm
set_option linter.unusedSimpArgs false
set_option linter.unusedVariables false
namespace Go.Proofs.YtnffjoipinhojabDoor
open Go.RowKit

theorem byteOf (s : ByteArray) (k : Nat) (h : k < s.size) : s.data.toList[k]? = some s[k] := by
  have h' : k < s.data.toList.length := by rw [Array.length_toList]; exact h
  rw [List.getElem?_eq_getElem h']
  rfl
theorem lenOf (s : ByteArray) : s.data.toList.length = s.size := Array.length_toList

set_option maxHeartbeats 2000000 in
set_option maxRecDepth 20000 in
theorem shared_any (w : World) (a b : ByteArray) (ha : a.size ≤ 1099511627776) (hb : b.size ≤ 1099511627776) :
    Calls Tryd.prog 43 #[.string a, .string b] w fun e w' => e = .returned (.int .i64 (comn a.data.toList b.data.toList)) ∧ ∃ n, w' = w.drewN n := by
  go_enter Tryd.func43, Tryd.ntmps43
  go_wp2_with fail
  go_loopw [5] (fun t wr => ∃ q : Nat, t = .int .i64 q ∧ q ≤ a.size ∧ q ≤ b.size ∧ comn a.data.toList b.data.toList = q + comn (a.data.toList.drop q) (b.data.toList.drop q) ∧ ∃ n, wr = w.drewN n) (fun t wr => a.size - (intOf t).toNat)
  case atStart => exact ⟨0, rfl, Nat.zero_le _, Nat.zero_le _, by simp, 0, rfl⟩
  case round =>
    obtain ⟨q, rfl, hqa, hqb, hc, n, rfl⟩ := hrel
    have HC : Hid (comn a.data.toList b.data.toList = q + comn (a.data.toList.drop q) (b.data.toList.drop q)) := hc
    clear hc
    by_cases h1 : q < a.size
    · by_cases h2 : q < b.size
      · have hxa := byteOf a q h1
        have hxb := byteOf b q h2
        by_cases h3 : a[q] = b[q]
        · have HC2 : Hid (comn a.data.toList b.data.toList = q + 1 + comn (a.data.toList.drop (q + 1)) (b.data.toList.drop (q + 1))) := by
            unfold Hid
            rw [HC.out, comn_on hxa (by rw [hxb, h3])]
            omega
          clear hxa hxb HC
          go_wp2_with fail
          go_quiet (fail)
          go_wp2_with fail
          go_roundw
          case rel => exact ⟨q + 1, by go_num, by omega, by omega, HC2.out, _, by first | rfl | exact World.drewN_drewN _ _ _⟩
          case measure => simp [intOf]; omega
        · have HC2 : Hid (comn a.data.toList b.data.toList = q) := by
            unfold Hid
            rw [HC.out, comn_ne hxa hxb h3]
            rfl
          have h4 : ((a[q].toNat : Int) == (b[q].toNat : Int)) = false := by
            rw [beq_eq_false_iff_ne]
            intro e
            exact h3 (UInt8.toNat_inj.1 (by omega))
          clear hxa hxb HC
          go_wp2_with fail
          go_quiet (fail)
          go_wp2_with fail
          go_ret
          exact ⟨by rw [HC2.out]; rfl, _, by first | rfl | exact World.drewN_drewN _ _ _⟩
      · have HC2 : Hid (comn a.data.toList b.data.toList = q) := by
          unfold Hid
          rw [HC.out, comn_out (.inr (by rw [lenOf]; omega))]
          rfl
        go_wp2_with fail
        go_quiet (fail)
        go_wp2_with fail
        go_ret
        exact ⟨by rw [HC2.out]; rfl, _, by first | rfl | exact World.drewN_drewN _ _ _⟩
    · have HC2 : Hid (comn a.data.toList b.data.toList = q) := by
        unfold Hid
        rw [HC.out, comn_out (.inl (by rw [lenOf]; omega))]
        rfl
      go_wp2_with fail
      go_quiet (fail)
      go_wp2_with fail
      go_ret
      exact ⟨by rw [HC2.out]; rfl, _, by first | rfl | exact World.drewN_drewN _ _ _⟩

set_option maxHeartbeats 2000000 in
set_option maxRecDepth 20000 in
theorem common_any (w : World) (a b : ByteArray) (ha : a.size ≤ 1099511627776) (hb : b.size ≤ 1099511627776) :
    Calls Tryd.prog 24 #[.string a, .string b] w fun e w' => e = .returned (.int .i64 (comn a.data.toList b.data.toList)) ∧ ∃ n, w' = w.drewN n := by
  go_enter Tryd.func24, Tryd.ntmps24
  go_wp2_with fail
  go_loopw [5] (fun t wr => ∃ q : Nat, t = .int .i64 q ∧ q ≤ a.size ∧ q ≤ b.size ∧ comn a.data.toList b.data.toList = q + comn (a.data.toList.drop q) (b.data.toList.drop q) ∧ ∃ n, wr = w.drewN n) (fun t wr => a.size - (intOf t).toNat)
  case atStart => exact ⟨0, rfl, Nat.zero_le _, Nat.zero_le _, by simp, 0, rfl⟩
  case round =>
    obtain ⟨q, rfl, hqa, hqb, hc, n, rfl⟩ := hrel
    have HC : Hid (comn a.data.toList b.data.toList = q + comn (a.data.toList.drop q) (b.data.toList.drop q)) := hc
    clear hc
    by_cases h1 : q < a.size
    · by_cases h2 : q < b.size
      · have hxa := byteOf a q h1
        have hxb := byteOf b q h2
        by_cases h3 : a[q] = b[q]
        · have HC2 : Hid (comn a.data.toList b.data.toList = q + 1 + comn (a.data.toList.drop (q + 1)) (b.data.toList.drop (q + 1))) := by
            unfold Hid
            rw [HC.out, comn_on hxa (by rw [hxb, h3])]
            omega
          clear hxa hxb HC
          go_wp2_with fail
          go_quiet (fail)
          go_wp2_with fail
          go_roundw
          case rel => exact ⟨q + 1, by go_num, by omega, by omega, HC2.out, _, by first | rfl | exact World.drewN_drewN _ _ _⟩
          case measure => simp [intOf]; omega
        · have HC2 : Hid (comn a.data.toList b.data.toList = q) := by
            unfold Hid
            rw [HC.out, comn_ne hxa hxb h3]
            rfl
          have h4 : ((a[q].toNat : Int) == (b[q].toNat : Int)) = false := by
            rw [beq_eq_false_iff_ne]
            intro e
            exact h3 (UInt8.toNat_inj.1 (by omega))
          clear hxa hxb HC
          go_wp2_with fail
          go_quiet (fail)
          go_wp2_with fail
          go_ret
          exact ⟨by rw [HC2.out]; rfl, _, by first | rfl | exact World.drewN_drewN _ _ _⟩
      · have HC2 : Hid (comn a.data.toList b.data.toList = q) := by
          unfold Hid
          rw [HC.out, comn_out (.inr (by rw [lenOf]; omega))]
          rfl
        go_wp2_with fail
        go_quiet (fail)
        go_wp2_with fail
        go_ret
        exact ⟨by rw [HC2.out]; rfl, _, by first | rfl | exact World.drewN_drewN _ _ _⟩
    · have HC2 : Hid (comn a.data.toList b.data.toList = q) := by
        unfold Hid
        rw [HC.out, comn_out (.inl (by rw [lenOf]; omega))]
        rfl
      go_wp2_with fail
      go_quiet (fail)
      go_wp2_with fail
      go_ret
      exact ⟨by rw [HC2.out]; rfl, _, by first | rfl | exact World.drewN_drewN _ _ _⟩

end Go.Proofs.YtnffjoipinhojabDoor
