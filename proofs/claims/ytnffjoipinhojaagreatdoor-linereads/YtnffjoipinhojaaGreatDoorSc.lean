import Derived.Test.YtnffjoipinhojaaGreatDoorSb
set_option linter.unusedSimpArgs false
set_option linter.unusedVariables false
namespace Go.Proofs.YtnffjoipinhojaaGreatDoor
open Go.RowKit

theorem cat_str (l m : List UInt8) : (⟨l.toArray⟩ : ByteArray) ++ ⟨m.toArray⟩ = ⟨(l ++ m).toArray⟩ := by
  apply ByteArray.ext
  simp

theorem str_inj {l m : List UInt8} (h : (⟨l.toArray⟩ : ByteArray) = ⟨m.toArray⟩) : l = m := by
  have := congrArg (fun x : ByteArray => x.data.toList) h
  simpa using this

theorem arr_size (l : List UInt8) : (⟨l.toArray⟩ : ByteArray).size = l.length := by show l.toArray.size = _; simp

theorem ret_str {a b : ByteArray} (h : a = b) : Ending.returned (.string a) = .returned (.string b) := by rw [h]
theorem cat_size (a b : ByteArray) : (a ++ b).size = a.size + b.size := ByteArray.size_append

set_option maxHeartbeats 4000000 in
theorem form_any (w : World) (t l k : List UInt8) (ht : VU t) (hl : asc l) (hz : t.length ≤ 4398046511104) (hzl : l.length ≤ 4398046511104) (hzk : k.length ≤ 43980465111040) :
    Calls Tryz.prog 41 #[.agg #[str t, str l, str k]] w fun e w' => e = .returned (str (form t l k)) ∧ Below w.heap.size w w' := by
  have he := escaped_len t
  obtain ⟨X, hX⟩ : ∃ X : ByteArray, X = ⟨(escaped t).toArray⟩ := ⟨_, rfl⟩
  have HE : Hid (∀ w2, Calls Tryz.prog 78 #[str t] w2 fun e w' => e = .returned (.string X) ∧ Below w2.heap.size w2 w') := fun w2 => by rw [hX]; exact escaped_any w2 t ht hz
  have hXs : X.size ≤ 8796093022208 := by rw [hX, arr_size]; omega
  obtain ⟨y1, hy1⟩ : ∃ y : ByteArray, (⟨#[34]⟩ : ByteArray) ++ X = y := ⟨_, rfl⟩
  have hs1 : y1.size ≤ 8796093022209 := by rw [← hy1, cat_size]; show 1 + X.size ≤ _; omega
  obtain ⟨y2, hy2⟩ : ∃ y : ByteArray, y1 ++ (⟨#[34]⟩ : ByteArray) = y := ⟨_, rfl⟩
  have hs2 : y2.size ≤ 8796093022210 := by rw [← hy2, cat_size]; show y1.size + 1 ≤ _; omega
  have HY : Hid (y2 = ⟨([34] ++ escaped t ++ [34]).toArray⟩) := by
    unfold Hid
    rw [← hy2, ← hy1, hX]
    rw [show (⟨#[34]⟩ : ByteArray) = ⟨[34].toArray⟩ from rfl, cat_str, cat_str]
  have CELLS : Hid (∀ (c : Array Value) (T : TypeId) (w2 : World), Below (w.alloc (.cells c T)).heap.size (w.alloc (.cells c T)) w2 → (∀ j, w2.cell? ⟨w.heap.size, j, none⟩ = c[j]?) ∧ Below w.heap.size w w2) := by
    intro c T w2 hb
    refine ⟨fun j => ?_, ((Below.refl _ w).alloc (Nat.le_refl _) _).trans (hb.mono (by simp))⟩
    rw [hb.cell (p := ⟨w.heap.size, j, none⟩) (by simp)]
    simp
  clear hX he ht
  by_cases c1 : l = []
  · subst c1
    by_cases c2 : k = []
    · subst c2
      have HF : Hid (form t [] [] = [34] ++ escaped t ++ [34]) := by unfold Hid form; simp
      go_enter Tryz.func41, Tryz.ntmps41
      go_wp2_with fail
      refine (HE.out _).mono ?_
      rintro e w2 ⟨rfl, hB2⟩
      obtain ⟨cl, hB⟩ := CELLS.out _ _ _ hB2
      have g1 := cl 1
      have g2 := cl 2
      simp at g1 g2
      clear cl hB2
      go_wp2_with fail
      go_ret
      exact ⟨ret_str (by rw [HF.out]; exact HY.out), hB⟩
    · by_cases c3 : k = stringKind
      · subst c3
        have HF : Hid (form t [] stringKind = [34] ++ escaped t ++ [34]) := by unfold Hid form; simp
        have e5 : str stringKind = .string ⟨#[60, 104, 116, 116, 112, 58, 47, 47, 119, 119, 119, 46, 119, 51, 46, 111, 114, 103, 47, 50, 48, 48, 49, 47, 88, 77, 76, 83, 99, 104, 101, 109, 97, 35, 115, 116, 114, 105, 110, 103, 62]⟩ := rfl
        rw [e5]
        clear e5
        go_enter Tryz.func41, Tryz.ntmps41
        go_wp2_with fail
        refine (HE.out _).mono ?_
        rintro e w2 ⟨rfl, hB2⟩
        obtain ⟨cl, hB⟩ := CELLS.out _ _ _ hB2
        have g1 := cl 1
        have g2 := cl 2
        simp at g1 g2
        clear cl hB2
        go_wp2_with fail
        go_ret
        exact ⟨ret_str (by rw [HF.out]; exact HY.out), hB⟩
      · have HF : Hid (form t [] k = [34] ++ escaped t ++ [34] ++ [94, 94] ++ k) := by unfold Hid form; rw [if_neg (by simp), if_pos ⟨c2, c3⟩]
        obtain ⟨K, hK⟩ : ∃ K : ByteArray, K = ⟨k.toArray⟩ := ⟨_, rfl⟩
        have hk1 : K.toList.isEmpty = false := by
          rw [ByteArray.toList_eq, hK]
          cases k with
          | nil => exact absurd rfl c2
          | cons => rfl
        have hk2 : (K.toList == [60, 104, 116, 116, 112, 58, 47, 47, 119, 119, 119, 46, 119, 51, 46, 111, 114, 103, 47, 50, 48, 48, 49, 47, 88, 77, 76, 83, 99, 104, 101, 109, 97, 35, 115, 116, 114, 105, 110, 103, 62]) = false := by
          rw [beq_eq_false_iff_ne, ByteArray.toList_eq, hK]
          exact c3
        have hKs : K.size ≤ 43980465111040 := by rw [hK, arr_size]; omega
        obtain ⟨y3, hy3⟩ : ∃ y : ByteArray, y2 ++ (⟨#[94, 94]⟩ : ByteArray) = y := ⟨_, rfl⟩
        have hs3 : y3.size ≤ 8796093022212 := by rw [← hy3, cat_size]; show y2.size + 2 ≤ _; omega
        have HK : Hid (y3 ++ K = ⟨([34] ++ escaped t ++ [34] ++ [94, 94] ++ k).toArray⟩) := by
          unfold Hid
          rw [← hy3, HY.out, hK, show (⟨#[94, 94]⟩ : ByteArray) = ⟨[94, 94].toArray⟩ from rfl, cat_str, cat_str]
        show Calls Tryz.prog 41 #[.agg #[str t, str [], .string ⟨k.toArray⟩]] w _
        rw [← hK]
        clear hK c2 c3
        go_enter Tryz.func41, Tryz.ntmps41
        go_wp2_with fail
        refine (HE.out _).mono ?_
        rintro e w2 ⟨rfl, hB2⟩
        obtain ⟨cl, hB⟩ := CELLS.out _ _ _ hB2
        have g1 := cl 1
        have g2 := cl 2
        simp at g1 g2
        clear cl hB2
        go_wp2_with fail
        go_ret
        exact ⟨ret_str (by rw [HF.out]; exact HK.out), hB⟩
  · have HF : Hid (form t l k = [34] ++ escaped t ++ [34] ++ [64] ++ Lib.toLowerA l) := by unfold Hid form; rw [if_pos c1]
    obtain ⟨L, hL⟩ : ∃ L : ByteArray, L = ⟨l.toArray⟩ := ⟨_, rfl⟩
    have hl1 : L.toList.isEmpty = false := by
      rw [ByteArray.toList_eq, hL]
      cases l with
      | nil => exact absurd rfl c1
      | cons => rfl
    obtain ⟨M, hM⟩ : ∃ M : ByteArray, M = ⟨(Lib.toLowerA l).toArray⟩ := ⟨_, rfl⟩
    have hMs : M.size ≤ 4398046511104 := by rw [hM, arr_size]; unfold Lib.toLowerA; rw [List.length_map]; omega
    have HT : Hid (∀ w2, Calls Tryz.prog 79 #[.string L] w2 fun e w' => e = .returned (.string M) ∧ Below w2.heap.size w2 w') := fun w2 => by
      have := toLower_any w2 ⟨l.toArray⟩ (by rw [arr_size]; omega) (fun j b hj => hl b (List.mem_of_getElem? hj))
      rw [hL, hM]
      exact this
    obtain ⟨y3, hy3⟩ : ∃ y : ByteArray, y2 ++ (⟨#[64]⟩ : ByteArray) = y := ⟨_, rfl⟩
    have hs3 : y3.size ≤ 8796093022212 := by rw [← hy3, cat_size]; show y2.size + 1 ≤ _; omega
    have HK : Hid (y3 ++ M = ⟨([34] ++ escaped t ++ [34] ++ [64] ++ Lib.toLowerA l).toArray⟩) := by
      unfold Hid
      rw [← hy3, HY.out, hM, show (⟨#[64]⟩ : ByteArray) = ⟨[64].toArray⟩ from rfl, cat_str, cat_str]
    show Calls Tryz.prog 41 #[.agg #[str t, .string ⟨l.toArray⟩, str k]] w _
    rw [← hL]
    clear hL c1 hl hM
    go_enter Tryz.func41, Tryz.ntmps41
    go_wp2_with fail
    refine (HE.out _).mono ?_
    rintro e w2 ⟨rfl, hB2⟩
    obtain ⟨cl, hB⟩ := CELLS.out _ _ _ hB2
    have g1 := cl 1
    simp at g1
    clear cl hB2
    go_wp2_with fail
    refine (HT.out _).mono ?_
    rintro e w3 ⟨rfl, hB3⟩
    go_wp2_with fail
    go_ret
    exact ⟨ret_str (by rw [HF.out]; exact HK.out), hB.trans (hB3.mono hB.size)⟩
end Go.Proofs.YtnffjoipinhojaaGreatDoor
