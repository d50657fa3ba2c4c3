import Derived.Test.YtnffjoipinhojabDoorGa
set_option linter.unusedSimpArgs false
set_option linter.unusedVariables false
namespace Go.Proofs.YtnffjoipinhojabDoor
open Go.RowKit

theorem nan1 (w : World) (S : ByteArray) : Calls Tryd.prog 67 #[.string S] w fun e w' => e = .returned (.bool false) ∧ w = w' := by
  go_enter Tryd.func67, Tryd.ntmps67
  go_wp2
  go_ret
  exact ⟨rfl, rfl⟩
theorem nan2 (w : World) (S : ByteArray) : Calls Tryd.prog 55 #[.string S] w fun e w' => e = .returned (.bool false) ∧ w = w' := by
  go_enter Tryd.func55, Tryd.ntmps55
  go_wp2
  go_ret
  exact ⟨rfl, rfl⟩
theorem less_call (w : World) (T S : ByteArray) : Calls Tryd.prog 54 #[.string T, .string S] w fun e w' => e = .returned (.bool (Op.bytesLess T.data.toList S.data.toList)) ∧ w = w' := by
  go_enter Tryd.func54, Tryd.ntmps54
  go_wp2_with (first | (go_at_call 67; refine (nan1 _ _).mono ?_; rintro e w' ⟨rfl, rfl⟩))
  go_ret
  exact ⟨by rw [← toList_data, ← toList_data]; rfl, rfl⟩

/-- how many of the texts stand ahead of s -/
def IsPos (l : List (List UInt8)) (s : List UInt8) (p : Nat) : Prop := p ≤ l.length ∧ (∀ k t, l[k]? = some t → k < p → Op.bytesLess t s = true) ∧ ∀ k t, l[k]? = some t → p ≤ k → Op.bytesLess t s = false

set_option maxHeartbeats 4000000 in
set_option maxRecDepth 20000 in
theorem binary_any (w : World) (g off cap : Nat) (l : List (List UInt8)) (S : ByteArray) (hL : Strs w g off l) (hr : Rise2 l) (hn : l.length ≤ 1048576) :
    Calls Tryd.prog 35 #[.slice (some ⟨g, off, none⟩) l.length cap, .string S] w fun e w' => (∃ p : Nat, ∃ b : Bool, e = .returned (.tuple #[.int .i64 p, .bool b]) ∧ IsPos l S.data.toList p ∧ (b = true ↔ l[p]? = some S.data.toList)) ∧ w = w' := by
  have HL : Hid (Strs w g off l) := hL
  have HR : Hid (Rise2 l) := hr
  have HLe : Hid (∀ (w1 : World) (T : ByteArray), Calls Tryd.prog 54 #[.string T, .string S] w1 fun e w' => e = .returned (.bool (Op.bytesLess T.data.toList S.data.toList)) ∧ w1 = w') := fun w1 T => less_call w1 T S
  have HNa : Hid (∀ (w1 : World) (T : ByteArray), Calls Tryd.prog 55 #[.string T] w1 fun e w' => e = .returned (.bool false) ∧ w1 = w') := fun w1 T => nan2 w1 T
  clear hL hr
  go_enter Tryd.func35, Tryd.ntmps35
  go_wp2_with fail
  go_loopw [7, 8] (fun t7 t8 wr => ∃ i j : Nat, i ≤ j ∧ j ≤ l.length ∧ t7 = .int .i64 i ∧ t8 = .int .i64 j ∧ (∀ k t, l[k]? = some t → k < i → Op.bytesLess t S.data.toList = true) ∧ (∀ k t, l[k]? = some t → j ≤ k → Op.bytesLess t S.data.toList = false) ∧ w = wr) (fun t7 t8 wr => (intOf t8).toNat - (intOf t7).toNat)
  case atStart => exact ⟨0, l.length, Nat.zero_le _, Nat.le_refl _, rfl, rfl, fun k t _ h => by omega, fun k t hk h => by have := (List.getElem?_eq_some_iff.1 hk).1; omega, rfl⟩
  case round =>
    obtain ⟨i, j, hij, hjl, rfl, rfl, hlo, hhi, rfl⟩ := hrel
    have HLO : Hid (∀ k t, l[k]? = some t → k < i → Op.bytesLess t S.data.toList = true) := hlo
    have HHI : Hid (∀ k t, l[k]? = some t → j ≤ k → Op.bytesLess t S.data.toList = false) := hhi
    clear hlo hhi
    by_cases hlt : i < j
    · obtain ⟨h, hh⟩ : ∃ h, h = (i + j) / 2 := ⟨_, rfl⟩
      have hh1 : i ≤ h ∧ h < j := by omega
      obtain ⟨t, ht⟩ : ∃ t, l[h]? = some t := ⟨_, List.getElem?_eq_getElem (by omega)⟩
      have c1 := HL.out h t ht
      obtain ⟨T, hT⟩ : ∃ T : ByteArray, T = ⟨t.toArray⟩ := ⟨_, rfl⟩
      rw [show strT t = .string T by rw [hT]] at c1
      have hTd : T.data.toList = t := by rw [hT]
      have HLt := HLe.out w T
      rw [hTd] at HLt
      obtain ⟨b, hb⟩ : ∃ b, b = Op.bytesLess t S.data.toList := ⟨_, rfl⟩
      rw [← hb] at HLt
      have HB : Hid (b = Op.bytesLess t S.data.toList) := hb
      have HT : Hid (l[h]? = some t) := ht
      have e1 : ((i : Int) + j) / 2 = (h : Int) := by omega
      have hi0 : (0 : Int) ≤ h := by omega
      have hi1 : (h : Int) < (l.length : Int) := by omega
      clear hT hTd hb ht HNa hh
      go_wp2_with fail
      refine HLt.mono ?_
      rintro e w' ⟨rfl, rfl⟩
      cases b with
      | true =>
        have HN : Hid (∀ k t, l[k]? = some t → k < h + 1 → Op.bytesLess t S.data.toList = true) := fun k x hk hlt2 => by
          by_cases hkh : k = h
          · subst hkh
            rw [HT.out] at hk
            cases hk
            exact HB.out.symm
          · exact less_trans (HR.out.lt' hk HT.out (by omega)) HB.out.symm
        go_wp2_with fail
        go_roundw
        case rel => exact ⟨h + 1, j, by omega, hjl, by go_num, rfl, HN.out, HHI.out, trivial⟩
        case measure => simp [intOf]; omega
      | false =>
        have HN : Hid (∀ k t, l[k]? = some t → h ≤ k → Op.bytesLess t S.data.toList = false) := fun k x hk hle => by
          by_cases hkh : k = h
          · subst hkh
            rw [HT.out] at hk
            cases hk
            exact HB.out.symm
          · have h1 := HR.out.lt' HT.out hk (by omega)
            cases e : Op.bytesLess x S.data.toList with
            | false => rfl
            | true => have h2 := less_trans h1 e; rw [← HB.out] at h2; cases h2
        go_wp2_with fail
        go_roundw
        case rel => exact ⟨i, h, by omega, by omega, rfl, by go_num, HLO.out, HN.out, trivial⟩
        case measure => simp [intOf]; omega
    · obtain rfl : i = j := by omega
      have HP : Hid (IsPos l S.data.toList i) := ⟨hjl, HLO.out, HHI.out⟩
      by_cases hil : i < l.length
      · obtain ⟨t, ht⟩ : ∃ t, l[i]? = some t := ⟨_, List.getElem?_eq_getElem hil⟩
        have c1 := HL.out i t ht
        obtain ⟨T, hT⟩ : ∃ T : ByteArray, T = ⟨t.toArray⟩ := ⟨_, rfl⟩
        rw [show strT t = .string T by rw [hT]] at c1
        have hTd : T.data.toList = t := by rw [hT]
        have hi0 : (0 : Int) ≤ i := by omega
        have hi1 : (i : Int) < (l.length : Int) := by omega
        by_cases hs : t = S.data.toList
        · have hTS : T = S := str_eq.1 (hTd.trans hs)
          have HE : Hid (l[i]? = some S.data.toList) := by unfold Hid; rw [ht, hs]
          subst hTS
          clear hT hTd ht hs HLO HHI HLe
          go_wp2_with (first | (go_at_call 55; refine (HNa.out _ _).mono ?_; rintro e w' ⟨rfl, rfl⟩))
          go_ret2
          exact ⟨⟨i, true, rfl, HP.out, by simp [HE.out]⟩, rfl⟩
        · have HE : Hid (¬ l[i]? = some S.data.toList) := by unfold Hid; rw [ht]; simpa using hs
          have hne : (T.toList == S.toList) = false := by
            rw [beq_eq_false_iff_ne, toList_data, toList_data, hTd]
            exact hs
          clear hT hTd ht hs HLO HHI HLe
          go_wp2_with (first | (go_at_call 55; refine (HNa.out _ _).mono ?_; rintro e w' ⟨rfl, rfl⟩))
          go_ret2
          exact ⟨⟨i, false, rfl, HP.out, by simp [HE.out]⟩, rfl⟩
      · have HE : Hid (¬ l[i]? = some S.data.toList) := by unfold Hid; rw [List.getElem?_eq_none (by omega)]; simp
        clear HLO HHI HLe
        go_wp2_with fail
        go_ret2
        exact ⟨⟨i, false, rfl, HP.out, by simp [HE.out]⟩, rfl⟩

end Go.Proofs.YtnffjoipinhojabDoor
