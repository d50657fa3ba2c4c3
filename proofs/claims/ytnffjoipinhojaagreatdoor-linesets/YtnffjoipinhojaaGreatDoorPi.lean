import Derived.Test.YtnffjoipinhojaaGreatDoorPe
import Derived.Test.YtnffjoipinhojaaGreatDoorSa
set_option linter.unusedSimpArgs false
set_option linter.unusedVariables false
namespace Go.Proofs.YtnffjoipinhojaaGreatDoor
open Go.RowKit
namespace Ref

theorem cat_str (l m : List UInt8) : (⟨l.toArray⟩ : ByteArray) ++ ⟨m.toArray⟩ = ⟨(l ++ m).toArray⟩ := by
  apply ByteArray.ext
  simp
theorem cat_size (a b : ByteArray) : (a ++ b).size = a.size + b.size := ByteArray.size_append
theorem arr_size (l : List UInt8) : (⟨l.toArray⟩ : ByteArray).size = l.length := by show l.toArray.size = _; simp
theorem ret_str {a b : ByteArray} (h : a = b) : Ending.returned (.string a) = .returned (.string b) := by rw [h]
theorem take_succ (s : ByteArray) (q : Nat) (h : q < s.size) : s.data.toList.take (q + 1) = s.data.toList.take q ++ [s[q]] := by
  rw [List.take_succ_eq_append_getElem (by simpa using h)]; rfl
theorem ext_one (s : ByteArray) (q : Nat) (h : q < s.size) : s.extract q (q + 1) = ⟨[s[q]].toArray⟩ := by
  apply ByteArray.ext
  apply Array.ext
  · have e : s.data.size = s.size := rfl
    simp
    omega
  · intro i h1 h2
    have hi : i = 0 := by simp at h2; omega
    subst hi
    simp
    rfl

abbrev stringKindL : List UInt8 := [60, 104, 116, 116, 112, 58, 47, 47, 119, 119, 119, 46, 119, 51, 46, 111, 114, 103, 47, 50, 48, 48, 49, 47, 88, 77, 76, 83, 99, 104, 101, 109, 97, 35, 115, 116, 114, 105, 110, 103, 62]

/-- The document's own writing, the language as it comes. -/
def writ (t l k : List UInt8) : List UInt8 :=
  if l ≠ [] then [34] ++ escaped t ++ [34] ++ [64] ++ l
  else if k ≠ [] ∧ k ≠ stringKind then [34] ++ escaped t ++ [34] ++ [94, 94] ++ k
  else [34] ++ escaped t ++ [34]

set_option maxHeartbeats 2000000 in
theorem written_any (w : World) (s : ByteArray) (l k : List UInt8) (hs : s.size ≤ 43980465111040) (hl : l.length ≤ 43980465111040) (hk : k.length ≤ 43980465111040) :
    Calls Tryz.prog 45 #[.string s, str l, str k] w fun e w' => e = .returned (str (writ s.data.toList l k)) ∧ w' = w := by
  obtain ⟨L, hL⟩ : ∃ L : ByteArray, L = ⟨l.toArray⟩ := ⟨_, rfl⟩
  obtain ⟨K, hK⟩ : ∃ K : ByteArray, K = ⟨k.toArray⟩ := ⟨_, rfl⟩
  have hLs : L.size ≤ 43980465111040 := by rw [hL, arr_size]; exact hl
  have hKs : K.size ≤ 43980465111040 := by rw [hK, arr_size]; exact hk
  have HL : Hid (L = ⟨l.toArray⟩) := hL
  have HK : Hid (K = ⟨k.toArray⟩) := hK
  show Calls Tryz.prog 45 #[.string s, .string ⟨l.toArray⟩, .string ⟨k.toArray⟩] w _
  rw [← hL, ← hK]
  clear hL hK hl hk
  go_enter Tryz.func45, Tryz.ntmps45
  go_wp2_with fail
  go_loop [7, 8] (fun t7 t8 => ∃ (q : Nat) (Y : ByteArray), q ≤ s.size ∧ t8 = .int .i64 q ∧ t7 = .string Y ∧ Y = ⟨([34] ++ escaped (s.data.toList.take q)).toArray⟩ ∧ Y.size ≤ 1 + 2 * q) (fun _ t8 => s.size - (intOf t8).toNat)
  case atStart => exact ⟨0, ⟨#[34]⟩, Nat.zero_le _, rfl, rfl, rfl, by show 1 ≤ _; omega⟩
  case round =>
    obtain ⟨q, Y, hq, rfl, rfl, hY, hYs⟩ := hrel
    have HY : Hid (Y = ⟨([34] ++ escaped (s.data.toList.take q)).toArray⟩) := hY
    clear hY
    by_cases hlt : q < s.size
    · have KDONE : True := trivial
      by_cases k92 : s[q].toNat = 92
      · have hcv : (s[q].toNat : Int) = 92 := by omega
        have HN : Hid (escaped (s.data.toList.take (q + 1)) = escaped (s.data.toList.take q) ++ [92, 92]) := by
          unfold Hid
          rw [take_succ s q hlt, escaped_append, show s[q] = 92 from UInt8.toNat_inj.1 (by rw [k92]; rfl)]
          rfl
        clear k92 KDONE
        go_wp2_with fail
        go_round
        case rel =>
          refine ⟨q + 1, _, by omega, by go_num, rfl, ?_, ?_⟩
          · rw [HY.out, HN.out, show (⟨#[92, 92]⟩ : ByteArray) = ⟨[92, 92].toArray⟩ from rfl, cat_str]
            simp
          · rw [cat_size]
            show Y.size + 2 ≤ _
            omega
        case measure => simp [intOf]; omega
      by_cases k34 : s[q].toNat = 34
      · have hcv : (s[q].toNat : Int) = 34 := by omega
        have HN : Hid (escaped (s.data.toList.take (q + 1)) = escaped (s.data.toList.take q) ++ [92, 34]) := by
          unfold Hid
          rw [take_succ s q hlt, escaped_append, show s[q] = 34 from UInt8.toNat_inj.1 (by rw [k34]; rfl)]
          rfl
        clear k34 KDONE
        go_wp2_with fail
        go_round
        case rel =>
          refine ⟨q + 1, _, by omega, by go_num, rfl, ?_, ?_⟩
          · rw [HY.out, HN.out, show (⟨#[92, 34]⟩ : ByteArray) = ⟨[92, 34].toArray⟩ from rfl, cat_str]
            simp
          · rw [cat_size]
            show Y.size + 2 ≤ _
            omega
        case measure => simp [intOf]; omega
      by_cases k10 : s[q].toNat = 10
      · have hcv : (s[q].toNat : Int) = 10 := by omega
        have HN : Hid (escaped (s.data.toList.take (q + 1)) = escaped (s.data.toList.take q) ++ [92, 110]) := by
          unfold Hid
          rw [take_succ s q hlt, escaped_append, show s[q] = 10 from UInt8.toNat_inj.1 (by rw [k10]; rfl)]
          rfl
        clear k10 KDONE
        go_wp2_with fail
        go_round
        case rel =>
          refine ⟨q + 1, _, by omega, by go_num, rfl, ?_, ?_⟩
          · rw [HY.out, HN.out, show (⟨#[92, 110]⟩ : ByteArray) = ⟨[92, 110].toArray⟩ from rfl, cat_str]
            simp
          · rw [cat_size]
            show Y.size + 2 ≤ _
            omega
        case measure => simp [intOf]; omega
      by_cases k13 : s[q].toNat = 13
      · have hcv : (s[q].toNat : Int) = 13 := by omega
        have HN : Hid (escaped (s.data.toList.take (q + 1)) = escaped (s.data.toList.take q) ++ [92, 114]) := by
          unfold Hid
          rw [take_succ s q hlt, escaped_append, show s[q] = 13 from UInt8.toNat_inj.1 (by rw [k13]; rfl)]
          rfl
        clear k13 KDONE
        go_wp2_with fail
        go_round
        case rel =>
          refine ⟨q + 1, _, by omega, by go_num, rfl, ?_, ?_⟩
          · rw [HY.out, HN.out, show (⟨#[92, 114]⟩ : ByteArray) = ⟨[92, 114].toArray⟩ from rfl, cat_str]
            simp
          · rw [cat_size]
            show Y.size + 2 ≤ _
            omega
        case measure => simp [intOf]; omega
      have HN : Hid (escaped (s.data.toList.take (q + 1)) = escaped (s.data.toList.take q) ++ [s[q]]) := by
        unfold Hid
        have ne : ∀ x : UInt8, s[q].toNat ≠ x.toNat → s[q] ≠ x := by rintro x h rfl; exact h rfl
        rw [take_succ s q hlt, escaped_append]
        congr 1
        simp only [escaped, if_neg (ne 92 k92), if_neg (ne 34 k34), if_neg (ne 10 k10), if_neg (ne 13 k13)]
        rfl
      have z1 : ¬ ((s[q].toNat : Int) = 92) := by omega
      have z2 : ¬ ((s[q].toNat : Int) = 34) := by omega
      have z3 : ¬ ((s[q].toNat : Int) = 10) := by omega
      have z4 : ¬ ((s[q].toNat : Int) = 13) := by omega
      obtain ⟨X, hX⟩ : ∃ X : ByteArray, s.extract q (q + 1) = X := ⟨_, rfl⟩
      have HX : Hid (X = ⟨[s[q]].toArray⟩) := by unfold Hid; rw [← hX]; exact ext_one s q hlt
      have hXs : X.size = 1 := by rw [HX.out]; rfl
      clear k92 k34 k10 k13 KDONE
      go_wp2_with fail
      go_round
      case rel =>
        refine ⟨q + 1, _, by omega, by go_num, rfl, ?_, ?_⟩
        · rw [HY.out, HN.out, HX.out, cat_str]
          simp
        · rw [cat_size]
          omega
      case measure => simp [intOf]; omega
    · have hqe : q = s.size := by omega
      subst hqe
      have HT : Hid (Y = ⟨([34] ++ escaped s.data.toList).toArray⟩) := by
        unfold Hid
        rw [HY.out, List.take_of_length_le (by simp)]
      obtain ⟨y2, hy2⟩ : ∃ y : ByteArray, Y ++ (⟨#[34]⟩ : ByteArray) = y := ⟨_, rfl⟩
      have hs2 : y2.size ≤ 87960930222083 := by rw [← hy2, cat_size]; show Y.size + 1 ≤ _; omega
      have H2 : Hid (y2 = ⟨([34] ++ escaped s.data.toList ++ [34]).toArray⟩) := by
        unfold Hid
        rw [← hy2, HT.out, show (⟨#[34]⟩ : ByteArray) = ⟨[34].toArray⟩ from rfl, cat_str]
      clear HY
      by_cases c1 : l = []
      · have hl1 : L.toList.isEmpty = true := by rw [ByteArray.toList_eq, HL.out, c1]; rfl
        by_cases c2 : k = []
        · have hk1 : K.toList.isEmpty = true := by rw [ByteArray.toList_eq, HK.out, c2]; rfl
          have HF : Hid (writ s.data.toList l k = [34] ++ escaped s.data.toList ++ [34]) := by unfold Hid writ; rw [c1, c2]; simp
          clear c1 c2
          go_wp2_with fail
          go_ret
          exact ⟨ret_str (by rw [HF.out]; exact H2.out), rfl⟩
        · have hk1 : K.toList.isEmpty = false := by
            rw [ByteArray.toList_eq, HK.out]
            cases k with
            | nil => exact absurd rfl c2
            | cons => rfl
          by_cases c3 : k = stringKind
          · have hk2 : (K.toList == stringKindL) = true := by rw [ByteArray.toList_eq, HK.out, c3]; rfl
            have HF : Hid (writ s.data.toList l k = [34] ++ escaped s.data.toList ++ [34]) := by unfold Hid writ; rw [c1, c3]; simp
            simp only [stringKindL] at hk2
            clear c1 c2 c3
            go_wp2_with fail
            go_ret
            exact ⟨ret_str (by rw [HF.out]; exact H2.out), rfl⟩
          · have hk2 : (K.toList == stringKindL) = false := by rw [beq_eq_false_iff_ne, ByteArray.toList_eq, HK.out]; exact c3
            have HF : Hid (writ s.data.toList l k = [34] ++ escaped s.data.toList ++ [34] ++ [94, 94] ++ k) := by unfold Hid writ; rw [if_neg (by simp [c1]), if_pos ⟨c2, c3⟩]
            simp only [stringKindL] at hk2
            obtain ⟨y3, hy3⟩ : ∃ y : ByteArray, y2 ++ (⟨#[94, 94]⟩ : ByteArray) = y := ⟨_, rfl⟩
            have hs3 : y3.size ≤ 87960930222085 := by rw [← hy3, cat_size]; show y2.size + 2 ≤ _; omega
            have H3 : Hid (y3 ++ K = ⟨([34] ++ escaped s.data.toList ++ [34] ++ [94, 94] ++ k).toArray⟩) := by
              unfold Hid
              rw [← hy3, H2.out, HK.out, show (⟨#[94, 94]⟩ : ByteArray) = ⟨[94, 94].toArray⟩ from rfl, cat_str, cat_str]
            clear c1 c2 c3
            go_wp2_with fail
            go_ret
            exact ⟨ret_str (by rw [HF.out]; exact H3.out), rfl⟩
      · have hl1 : L.toList.isEmpty = false := by
          rw [ByteArray.toList_eq, HL.out]
          cases l with
          | nil => exact absurd rfl c1
          | cons => rfl
        have HF : Hid (writ s.data.toList l k = [34] ++ escaped s.data.toList ++ [34] ++ [64] ++ l) := by unfold Hid writ; rw [if_pos c1]
        obtain ⟨y3, hy3⟩ : ∃ y : ByteArray, y2 ++ (⟨#[64]⟩ : ByteArray) = y := ⟨_, rfl⟩
        have hs3 : y3.size ≤ 87960930222085 := by rw [← hy3, cat_size]; show y2.size + 1 ≤ _; omega
        have H3 : Hid (y3 ++ L = ⟨([34] ++ escaped s.data.toList ++ [34] ++ [64] ++ l).toArray⟩) := by
          unfold Hid
          rw [← hy3, H2.out, HL.out, show (⟨#[64]⟩ : ByteArray) = ⟨[64].toArray⟩ from rfl, cat_str, cat_str]
        clear c1
        go_wp2_with fail
        go_ret
        exact ⟨ret_str (by rw [HF.out]; exact H3.out), rfl⟩
end Ref
end Go.Proofs.YtnffjoipinhojaaGreatDoor
