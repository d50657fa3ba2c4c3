import Derived.Test.YtnffjoipinhojabDoorGd
import Derived.Test.YtnffjoipinhojabDoorBu
set_option linter.unusedSimpArgs false
set_option linter.unusedVariables false
namespace Go.Proofs.YtnffjoipinhojabDoor
open Go.RowKit

/-! The document's own hand. -/

abbrev Hn (r : Nat) (D : ByteArray) (i : Nat) (bad : Bool) (w : World) : Prop := w.heap[r]? = some (.cells #[.string D, .int .i64 i, .bool bad] 69 (0, 0))

section
variable {r : Nat} {D : ByteArray} {i : Nat} {bad : Bool} {w w' : World}
theorem Hn.lt (h : Hn r D i bad w) : r < w.heap.size := (Array.getElem?_eq_some_iff.1 h).1
theorem Hn.below (h : Hn r D i bad w) (hb : Below w.heap.size w w') : Hn r D i bad w' := (hb.block r h.lt).trans h
theorem Hn.c0 (h : Hn r D i bad w) : w.cell? ⟨r, 0, none⟩ = some (.string D) := by rw [Lib.cell_of_heap h]; rfl
theorem Hn.c1 (h : Hn r D i bad w) : w.cell? ⟨r, 1, none⟩ = some (.int .i64 i) := by rw [Lib.cell_of_heap h]; rfl
theorem Hn.c2 (h : Hn r D i bad w) : w.cell? ⟨r, 2, none⟩ = some (.bool bad) := by rw [Lib.cell_of_heap h]; rfl
theorem Hn.f (h : Hn r D i bad w) (k : Nat) : w.frozen? ⟨r, k, none⟩ = false := Lib.frozen_of_heap h k
theorem fm_set (w : World) (r k : Nat) (u : Value) : Fm r w (w.setCell ⟨r, k, none⟩ u) := by
  have hb := (Below.refl r w).setCell (p := ⟨r, k, none⟩) (Nat.le_refl _) u
  exact ⟨hb.os, hb.tape, hb.output, hb.size, fun x hx hr => Below.heap_setCell w ⟨r, k, none⟩ _ x (fun e => hr (by rw [e]))⟩
theorem Hn.set1 (h : Hn r D i bad w) (j : Nat) : Hn r D j bad (w.setCell ⟨r, 1, none⟩ (.int .i64 j)) := by
  have s1 := setCell_eq_setRow w r 1 _ 69 (0, 0) (.int .i64 j) h
  have h1 := setRow_heap w r _ (#[Value.string D, .int .i64 i, .bool bad].setIfInBounds 1 (.int .i64 j)) _ _ h
  rw [← s1] at h1
  exact h1
theorem Hn.set2 (h : Hn r D i bad w) : Hn r D i true (w.setCell ⟨r, 2, none⟩ (.bool true)) := by
  have s1 := setCell_eq_setRow w r 2 _ 69 (0, 0) (.bool true) h
  have h1 := setRow_heap w r _ (#[Value.string D, .int .i64 i, .bool bad].setIfInBounds 2 (.bool true)) _ _ h
  rw [← s1] at h1
  exact h1
end

/-- what a number's reading ends in -/
def NumP (r : Nat) (D : ByteArray) (i : Nat) (bad : Bool) (w : World) (e : Ending) (w' : World) : Prop :=
  ∃ (n j : Nat) (bad' : Bool), e = .returned (.int .i64 n) ∧ Hn r D j bad' w' ∧ Fm r w w' ∧ i ≤ j ∧ j ≤ D.size ∧ n ≤ 9223372036854775807 ∧ (bad' = false → bad = false ∧ i < j) ∧
    ∀ x post, x ≤ 9223372036854775807 → D.data.toList.drop i = Lib.uvarint x ++ post → n = x ∧ j = i + (Lib.uvarint x).length ∧ bad' = bad

set_option maxHeartbeats 4000000 in
set_option maxRecDepth 20000 in
theorem number_h (w : World) (r i : Nat) (D : ByteArray) (bad : Bool) (h : Hn r D i bad w) (hi : i ≤ D.size) (hD : D.size ≤ 140737488355328) :
    Calls Tryd.prog 29 #[.pointer (some ⟨r, 0, none⟩)] w (NumP r D i bad w) := by
  have mixed : Tryd.prog.follows Departure.mixedOrders = true := by kernel_rfl
  have hlenD : D.data.toList.length = D.size := Array.length_toList
  have c0 := h.c0
  have c1 := h.c1
  have HR : Hid (Hn r D i bad w) := h
  by_cases hg : ∃ k, Plain.Good (D.data.toList.drop i) k
  · obtain ⟨k, hk⟩ := hg
    have hk9 := hk.k9
    have hkl := hk.kl
    simp only [List.length_drop, hlenD] at hkl
    obtain ⟨n, hnn⟩ : ∃ n, n = Plain.grp (k + 1) (D.data.toList.drop i) := ⟨_, rfl⟩
    have hb : n ≤ 9223372036854775807 := by have := Plain.grp9 (k + 1) (by omega) (D.data.toList.drop i); omega
    have HU : Hid (∀ w1, Hn r D i bad w1 ∧ Fm r w w1 → Calls Tryd.prog 52 #[.string D, .int .i64 i] w1 fun e w' => e = .returned (.tuple #[.int .i64 n, .int .i64 ((i + k + 1 : Nat) : Int)]) ∧ (Hn r D i bad w' ∧ Fm r w w')) := fun w1 h1 => by
      refine (refun_any D i w1 hD hi).mono ?_
      rintro e w2 ⟨ha, rfl⟩
      rcases ha with ⟨k', hk', rfl⟩ | ⟨hno, _⟩
      · have := hk'.one hk
        subst this
        exact ⟨by rw [hnn], h1⟩
      · exact absurd hk (hno k)
    have HX : Hid (∀ x post, x ≤ 9223372036854775807 → D.data.toList.drop i = Lib.uvarint x ++ post → n = x ∧ i + k + 1 = i + (Lib.uvarint x).length ∧ bad = bad) := fun x post hx hd => by
      have hgood := Plain.good_of_uv x (by omega) post
      have hpos := Lib.uvarint_pos x
      rw [hd] at hk hnn
      have := hk.one hgood.1
      have e : k + 1 = (Lib.uvarint x).length := by omega
      refine ⟨by rw [hnn, e]; exact hgood.2, by omega, rfl⟩
    obtain ⟨j, hj⟩ : ∃ j, j = i + k + 1 := ⟨_, rfl⟩
    rw [← hj] at HU HX
    have hj0 : ¬ ((j : Int) = 0) := by omega
    have HF : Hid (i ≤ j ∧ j ≤ D.size ∧ i < j) := ⟨by omega, by omega, by omega⟩
    clear h hk hnn hj
    go_enter Tryd.func29, Tryd.ntmps29
    go_wp2_with fail
    go_region_held3 (fun w' => w'.cell? ⟨r, 0, none⟩ = some (.string D) ∧ w'.cell? ⟨r, 1, none⟩ = some (.int .i64 i) ∧ (Hn r D i bad w' ∧ Fm r w w')) (first | assumption | exact ⟨c0, c1, HR.out, Fm.refl r w⟩ | exact ⟨c0, c1, HR.out, (Fm.refl r w).drew⟩ | exact ⟨Hn.c0 hS.1, Hn.c1 hS.1, hS⟩) (first | (go_at_call 52; refine (HU.out _ (by first | assumption | exact ⟨HR.out, (Fm.refl r w).drew⟩)).mono ?_; rintro e2 w2 ⟨rfl, hS⟩))
    obtain ⟨hR2, hF2⟩ := hS
    have d1 := hR2.c1
    have f1 := hR2.f 1
    have HS : Hid (Hn r D j bad (w2.setCell ⟨r, 1, none⟩ (.int .i64 j)) ∧ Fm r w (w2.setCell ⟨r, 1, none⟩ (.int .i64 j))) := ⟨hR2.set1 j, hF2.trans (fm_set _ _ _ _)⟩
    clear hR2 hF2 HU HR c0 c1
    go_wp2_with fail
    refine bodyPost_ret (v := .int .i64 n) (by simp [results, Tryd.results29, go_sem]) rfl ?_
    exact ⟨n, j, bad, rfl, HS.out.1, HS.out.2, HF.out.1, HF.out.2.1, hb, fun e => ⟨e, HF.out.2.2⟩, fun x post h1 h2 => ⟨(HX.out x post h1 h2).1, (HX.out x post h1 h2).2.1, rfl⟩⟩
  · have HU : Hid (∀ w1, Hn r D i bad w1 ∧ Fm r w w1 → Calls Tryd.prog 52 #[.string D, .int .i64 i] w1 fun e w' => e = .returned (.tuple #[.int .i64 0, .int .i64 0]) ∧ (Hn r D i bad w' ∧ Fm r w w')) := fun w1 h1 => by
      refine (refun_any D i w1 hD hi).mono ?_
      rintro e w2 ⟨ha, rfl⟩
      rcases ha with ⟨k', hk', rfl⟩ | ⟨hno, rfl⟩
      · exact absurd ⟨k', hk'⟩ hg
      · exact ⟨rfl, h1⟩
    have HX : Hid (∀ x post, x ≤ 9223372036854775807 → D.data.toList.drop i = Lib.uvarint x ++ post → 0 = x ∧ i = i + (Lib.uvarint x).length ∧ true = bad) := fun x post hx hd => by
      have hgood := Plain.good_of_uv x (by omega) post
      exact absurd ⟨_, by rw [hd]; exact hgood.1⟩ hg
    clear h hg
    go_enter Tryd.func29, Tryd.ntmps29
    go_wp2_with fail
    go_region_held3 (fun w' => w'.cell? ⟨r, 0, none⟩ = some (.string D) ∧ w'.cell? ⟨r, 1, none⟩ = some (.int .i64 i) ∧ (Hn r D i bad w' ∧ Fm r w w')) (first | assumption | exact ⟨c0, c1, HR.out, Fm.refl r w⟩ | exact ⟨c0, c1, HR.out, (Fm.refl r w).drew⟩ | exact ⟨Hn.c0 hS.1, Hn.c1 hS.1, hS⟩) (first | (go_at_call 52; refine (HU.out _ (by first | assumption | exact ⟨HR.out, (Fm.refl r w).drew⟩)).mono ?_; rintro e2 w2 ⟨rfl, hS⟩))
    obtain ⟨hR2, hF2⟩ := hS
    have d2 := hR2.c2
    have f2 := hR2.f 2
    have HS : Hid (Hn r D i true (w2.setCell ⟨r, 2, none⟩ (.bool true)) ∧ Fm r w (w2.setCell ⟨r, 2, none⟩ (.bool true))) := ⟨hR2.set2, hF2.trans (fm_set _ _ _ _)⟩
    clear hR2 hF2 HU HR c0 c1
    go_wp2_with fail
    refine bodyPost_ret (v := .int .i64 0) (by simp [results, Tryd.results29, go_sem]) rfl ?_
    exact ⟨0, i, true, rfl, HS.out.1, HS.out.2, Nat.le_refl _, hi, by omega, (fun e => by cases e), HX.out⟩

/-- what a taking ends in -/
def TakP (r : Nat) (D : ByteArray) (i n : Nat) (bad : Bool) (w : World) (e : Ending) (w' : World) : Prop :=
  ∃ (t : List UInt8) (j : Nat) (bad' : Bool), e = .returned (strT t) ∧ Hn r D j bad' w' ∧ Fm r w w' ∧ i ≤ j ∧ j ≤ D.size ∧ i + t.length ≤ j ∧ (bad' = false → bad = false) ∧
    ∀ x post, x.length = n → bad = false → D.data.toList.drop i = x ++ post → t = x ∧ j = i + x.length ∧ bad' = false

set_option maxHeartbeats 4000000 in
set_option maxRecDepth 20000 in
theorem take_h (w : World) (r i n : Nat) (D : ByteArray) (bad : Bool) (h : Hn r D i bad w) (hi : i ≤ D.size) (hD : D.size ≤ 140737488355328) (hn : n ≤ 9223372036854775807) :
    Calls Tryd.prog 30 #[.pointer (some ⟨r, 0, none⟩), .int .i64 n] w (TakP r D i n bad w) := by
  have mixed : Tryd.prog.follows Departure.mixedOrders = true := by kernel_rfl
  have hlenD : D.data.toList.length = D.size := Array.length_toList
  have c0 := h.c0
  have c1 := h.c1
  have c2 := h.c2
  have f1 := h.f 1
  have f2 := h.f 2
  have HR : Hid (Hn r D i bad w) := h
  have hw1 : IntKind.i64.wrap ((D.size : Int) - i) = (D.size : Int) - i := by rw [IntKind.wrap_i64]; omega
  have hi0 : (0 : Int) ≤ i := by omega
  clear h
  by_cases hb : bad = true ∨ D.size - i < n
  · have HX : Hid (∀ x post, x.length = n → bad = false → D.data.toList.drop i = x ++ post → ([] : List UInt8) = x ∧ i = i + x.length ∧ true = false) := fun x post h1 h2 hd => by
      exfalso
      have := congrArg List.length hd
      simp only [List.length_drop, List.length_append, hlenD] at this
      rcases hb with h3 | h3
      · rw [h2] at h3; cases h3
      · omega
    have HE : Hid (∀ m, TakP r D i n bad w (.returned (.string ⟨#[]⟩)) ((w.drewN m).setCell ⟨r, 2, none⟩ (.bool true))) := fun m =>
      ⟨[], i, true, rfl, Hn.set2 (i := i) (bad := bad) HR.out, ((Fm.refl r w).drewN m).trans (fm_set _ _ _ _), Nat.le_refl _, hi, by simp, (fun e => by cases e), HX.out⟩
    cases bad with
    | true =>
      go_enter Tryd.func30, Tryd.ntmps30
      go_wp2_with fail
      go_quiet (fail)
      go_wp2_with fail
      exact bodyPost_ret (v := .string ⟨#[]⟩) (by simp [results, Tryd.results30, go_sem]) rfl (HE.out _)
    | false =>
      have hlt : (D.size : Int) - i < n := by
        rcases hb with h3 | h3
        · cases h3
        · omega
      go_enter Tryd.func30, Tryd.ntmps30
      go_wp2_with fail
      go_quiet (fail)
      go_wp2_with fail
      exact bodyPost_ret (v := .string ⟨#[]⟩) (by simp [results, Tryd.results30, go_sem]) rfl (HE.out _)
  · have hbf : bad = false := by
      cases bad with
      | false => rfl
      | true => exact absurd (.inl rfl) hb
    subst hbf
    have hle : i + n ≤ D.size := by
      have : ¬ D.size - i < n := fun e => hb (.inr e)
      omega
    have hge : ¬ ((D.size : Int) - i < n) := by omega
    have hw2 : IntKind.i64.wrap ((i : Int) + n) = (i : Int) + n := by rw [IntKind.wrap_i64]; omega
    have hi1 : (i : Int) ≤ (i : Int) + n := by omega
    have hi2 : (i : Int) + n ≤ (D.size : Int) := by omega
    obtain ⟨X, hX⟩ : ∃ X : ByteArray, D.extract i (i + n) = X := ⟨_, rfl⟩
    have hXd : X.data.toList = (D.data.toList.drop i).take n := by
      rw [← hX, ByteArray.data_extract, Array.toList_extract]
      simp only [List.extract]
      rw [show i + n - i = n by omega]
    have HE : Hid (∀ w1, Hn r D (i + n) false w1 → Fm r w w1 → TakP r D i n false w (.returned (.string X)) w1) := fun w1 h1 h2 => by
      have hXl : X.data.toList.length = n := by
        rw [hXd, List.length_take, List.length_drop, hlenD]
        omega
      refine ⟨X.data.toList, i + n, false, ?_, h1, h2, by omega, hle, by omega, fun e => e, fun x post h3 _ hd => ⟨?_, by omega, rfl⟩⟩
      · obtain ⟨⟨x⟩⟩ := X
        rfl
      · rw [hXd, hd, ← h3, List.take_left]
    clear hb hXd
    go_enter Tryd.func30, Tryd.ntmps30
    go_wp2_with fail
    go_quiet (fail)
    go_wp2_with fail
    go_quiet (fail)
    go_wp2_with fail
    refine bodyPost_ret (v := .string (D.extract i (i + n))) (by simp [results, Tryd.results30, go_sem]) rfl ?_
    rw [hX]
    refine HE.out _ ?_ ?_
    · have := Hn.set1 (i := i) (bad := false) (r := r) (D := D) (w := w) HR.out (i + n)
      rw [show ((i + n : Nat) : Int) = (i : Int) + n by omega] at this
      exact this
    · exact ((Fm.refl r w).drewN _).trans (fm_set _ _ _ _)

end Go.Proofs.YtnffjoipinhojabDoor
