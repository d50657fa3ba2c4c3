import Derived.Test.YtnffjoipinhojabDoorIb
set_option linter.unusedSimpArgs false
set_option linter.unusedVariables false
namespace Go.Proofs.YtnffjoipinhojabDoor
open Go.RowKit

/-- what the Reader's Take and Text end in -/
def TgP (r : Nat) (D : ByteArray) (i : Nat) (bad : Bool) (w : World) (e : Ending) (w' : World) : Prop :=
  ∃ (t : List UInt8) (j : Nat) (bad' : Bool), e = .returned (strT t) ∧ Rg r D j bad' w' ∧ Fm r w w' ∧ i ≤ j ∧ j ≤ D.size ∧ i + t.length ≤ j ∧ (bad' = false → bad = false)

set_option maxHeartbeats 4000000 in
set_option maxRecDepth 20000 in
theorem take_g (w : World) (r i n : Nat) (D : ByteArray) (bad : Bool) (h : Rg r D i bad w) (hi : i ≤ D.size) (hD : D.size ≤ 140737488355328) (hn : n ≤ 9223372036854775807) :
    Calls Tryd.prog 66 #[.pointer (some ⟨r, 0, none⟩), .int .i64 n] w (TgP r D i bad w) := by
  have mixed : Tryd.prog.follows Departure.mixedOrders = true := by kernel_rfl
  have c0 := h.c0
  have c1 := h.c1
  have HR : Hid (Rg r D i bad w) := h
  have hw1 : IntKind.i64.wrap ((D.size : Int) - i) = (D.size : Int) - i := by rw [IntKind.wrap_i64]; omega
  have HRf : Hid (∀ w1, Rg r D i bad w1 → Calls Tryd.prog 50 #[.pointer (some ⟨r, 0, none⟩)] w1 fun e w' => e = .returned (.tuple #[]) ∧ Rg r D i true w' ∧ Fm r w1 w') := fun w1 h1 => refuse_g w1 r i D bad h1
  by_cases ho : D.size - i < n
  · have ho' : (D.size : Int) - i < n := by omega
    clear h
    go_enter Tryd.func66, Tryd.ntmps66
    go_wp2_with fail
    go_quiet (fail)
    have HC := HRf.out (w.drewN nq) HR.out
    go_wp2_with fail
    refine HC.mono ?_
    rintro e w3 ⟨rfl, hR3, hF3⟩
    have d2 : w3.cell? ⟨r, 2, none⟩ = some (.iface 84 (.agg #[.int .i64 i, .iface 80 (.agg #[.int .i64 8])])) := hR3.c2
    have HS : Hid (Rg r D i true w3 ∧ Fm r w w3) := ⟨hR3, ((Fm.refl r w).drewN nq).trans hF3⟩
    clear hR3 hF3 HC
    go_wp2_with fail
    go_ret
    exact ⟨[], i, true, rfl, HS.out.1, HS.out.2, Nat.le_refl _, hi, by simp, fun e => by cases e⟩
  · cases bad with
    | true =>
      have ho' : ¬ (D.size : Int) - i < n := by omega
      have d2 : w.cell? ⟨r, 2, none⟩ = some (.iface 84 (.agg #[.int .i64 i, .iface 80 (.agg #[.int .i64 8])])) := h.c2
      clear h
      go_enter Tryd.func66, Tryd.ntmps66
      go_wp2_with fail
      go_quiet (fail)
      go_wp2_with fail
      go_ret
      exact ⟨[], i, true, rfl, HR.out, (Fm.refl r w).drewN _, Nat.le_refl _, hi, by simp, fun e => by cases e⟩
    | false =>
      refine (take_rd w r i n D h (by omega) hD).mono ?_
      rintro e w2 ⟨rfl, hR, hF⟩
      have hz : (D.extract i (i + n)).data.toList.length = n := by
        rw [ByteArray.data_extract, Array.toList_extract]
        simp only [List.extract, List.length_take, List.length_drop, Array.length_toList]
        show min (i + n - i) (D.size - i) = n
        omega
      refine ⟨(D.extract i (i + n)).data.toList, i + n, false, ?_, hR, hF, by omega, by omega, by rw [hz]; exact Nat.le_refl _, fun e => e⟩
      generalize D.extract i (i + n) = Z
      obtain ⟨⟨z⟩⟩ := Z
      rfl

set_option maxHeartbeats 4000000 in
set_option maxRecDepth 20000 in
theorem text_g (w : World) (r i : Nat) (D : ByteArray) (bad : Bool) (h : Rg r D i bad w) (hi : i ≤ D.size) (hD : D.size ≤ 140737488355328) (hH : HandR r w) :
    Calls Tryd.prog 53 #[.pointer (some ⟨r, 0, none⟩)] w (TgP r D i bad w) := by
  have HN : Hid (Calls Tryd.prog 45 #[.pointer (some ⟨r, 0, none⟩)] w (NgP r D i bad w)) := number_g w r i D bad h hi hD hH
  have HT : Hid (∀ w1 j n b, Rg r D j b w1 → j ≤ D.size → n ≤ 9223372036854775807 → Calls Tryd.prog 66 #[.pointer (some ⟨r, 0, none⟩), .int .i64 (n : Nat)] w1 (TgP r D j b w1)) := fun w1 j n b h1 h2 h3 => take_g w1 r j n D b h1 h2 hD h3
  clear h
  go_enter Tryd.func53, Tryd.ntmps53
  go_wp2_with fail
  refine HN.out.mono ?_
  rintro e w1 ⟨n, j, b, rfl, hR1, hF1, hij, hj, hn, hb⟩
  have HF1 : Hid (Fm r w w1 ∧ (b = false → bad = false)) := ⟨hF1, fun e => (hb e).1⟩
  have HT1 := HT.out w1 j n b hR1 hj hn
  clear hR1 hF1 hb
  go_wp2_with fail
  refine HT1.mono ?_
  rintro e w2 ⟨t, j2, b2, rfl, hR2, hF2, hjj, hj2, htl, hb2⟩
  have HS : Hid (TgP r D i bad w (.returned (strT t)) w2) := ⟨t, j2, b2, rfl, hR2, HF1.out.1.trans hF2, by omega, hj2, by omega, fun e => HF1.out.2 (hb2 e)⟩
  clear hR2 hF2 HT1
  go_wp2_with fail
  go_ret
  exact HS.out

theorem place_g (w : World) (r i : Nat) (D : ByteArray) (bad : Bool) (h : Rg r D i bad w) :
    Calls Tryd.prog 46 #[.pointer (some ⟨r, 0, none⟩)] w fun e w' => e = .returned (.int .i64 i) ∧ w' = w := by
  have c1 := h.c1
  go_enter Tryd.func46, Tryd.ntmps46
  go_wp2
  go_ret
  exact ⟨rfl, rfl⟩
theorem err_g (w : World) (r i : Nat) (D : ByteArray) (bad : Bool) (h : Rg r D i bad w) :
    Calls Tryd.prog 28 #[.pointer (some ⟨r, 0, none⟩)] w fun e w' => e = .returned (erV bad i) ∧ w' = w := by
  have c1 := h.c2
  go_enter Tryd.func28, Tryd.ntmps28
  go_wp2
  go_ret
  exact ⟨rfl, rfl⟩
set_option maxHeartbeats 1000000 in
theorem since_g (w : World) (r i p : Nat) (D : ByteArray) (bad : Bool) (h : Rg r D i bad w) (hp : p ≤ i) (hi : i ≤ D.size) (hD : D.size ≤ 140737488355328) :
    Calls Tryd.prog 48 #[.pointer (some ⟨r, 0, none⟩), .int .i64 p] w fun e w' => e = .returned (.string (D.extract p i)) ∧ ∃ n, w' = w.drewN n := by
  have mixed : Tryd.prog.follows Departure.mixedOrders = true := by kernel_rfl
  have c0 := h.c0
  have c1 := h.c1
  have hi0 : (0 : Int) ≤ p := by omega
  have hi1 : (p : Int) ≤ (i : Int) := by omega
  have hi2 : (i : Int) ≤ (D.size : Int) := by omega
  obtain ⟨X, hX⟩ : ∃ X : ByteArray, D.extract p i = X := ⟨_, rfl⟩
  rw [hX]
  go_enter Tryd.func48, Tryd.ntmps48
  go_wp2_with fail
  go_quiet (fail)
  go_wp2_with fail
  go_ret
  exact ⟨rfl, _, rfl⟩
set_option maxHeartbeats 1000000 in
theorem end_g (w : World) (r i : Nat) (D : ByteArray) (bad : Bool) (h : Rg r D i bad w) (hi : i ≤ D.size) :
    Calls Tryd.prog 51 #[.pointer (some ⟨r, 0, none⟩)] w fun e w' => ∃ b, e = .returned (.tuple #[]) ∧ Rg r D i b w' ∧ Fm r w w' ∧ (b = false → bad = false ∧ i = D.size) := by
  have mixed : Tryd.prog.follows Departure.mixedOrders = true := by kernel_rfl
  have c0 := h.c0
  have c1 := h.c1
  have HR : Hid (Rg r D i bad w) := h
  have HRf : Hid (∀ w1, Rg r D i bad w1 → Calls Tryd.prog 50 #[.pointer (some ⟨r, 0, none⟩)] w1 fun e w' => e = .returned (.tuple #[]) ∧ Rg r D i true w' ∧ Fm r w1 w') := fun w1 h1 => refuse_g w1 r i D bad h1
  clear h
  by_cases ho : i < D.size
  · have ho' : (i : Int) < (D.size : Int) := by omega
    go_enter Tryd.func51, Tryd.ntmps51
    go_wp2_with fail
    go_quiet (fail)
    have HC := HRf.out (w.drewN nq) HR.out
    go_wp2_with fail
    refine HC.mono ?_
    rintro e w3 ⟨rfl, hR3, hF3⟩
    have HS : Hid (Rg r D i true w3 ∧ Fm r w w3) := ⟨hR3, ((Fm.refl r w).drewN nq).trans hF3⟩
    clear hR3 hF3 HC
    go_wp2_with fail
    go_end0
    exact ⟨true, rfl, HS.out.1, HS.out.2, fun e => by cases e⟩
  · have ho' : ¬ (i : Int) < (D.size : Int) := by omega
    go_enter Tryd.func51, Tryd.ntmps51
    go_wp2_with fail
    go_quiet (fail)
    go_wp2_with fail
    go_end0
    exact ⟨bad, rfl, HR.out, (Fm.refl r w).drewN _, fun e => ⟨e, by omega⟩⟩

end Go.Proofs.YtnffjoipinhojabDoor
