import Derived.Test.YtnffjoipinhojabGreatDoorK30
set_option linter.unusedSimpArgs false
set_option linter.unusedVariables false
namespace Go.Proofs.YtnffjoipinhojabGreatDoor
open Go.RowKit

/-- what either Set ends in -/
def SeV (w : World) (T : TypeId) (l : List Tri) (e : Ending) (w' : World) : Prop := match badAt 0 l with
  | some i => e = .returned (.tuple #[.slice none 0 0, .int .i64 4, .int .i64 i]) ∧ Below w.heap.size w w'
  | none => RisV w w.heap.size T (rise [] l) 10 e w'

set_option maxHeartbeats 4000000 in
set_option maxRecDepth 20000 in
/-- lines.Set, of what setOf answers -/
theorem set_of (w : World) (v : Value) (l : List Tri) (hS : Calls Tryz.prog 32 #[v] w (SoP w l)) (hH : Handle w) :
    Calls Tryz.prog 14 #[v] w (SeV w 44 l) := by
  have HH : Hid (∀ w', Below w.heap.size w w' → Handle w') := fun w' hb => hH.below hb
  cases hb : badAt 0 l with
  | some i =>
    have HS : Hid (Calls Tryz.prog 32 #[v] w fun e w' => e = .returned (.tuple #[.slice none 0 0, .iface 98 (.agg #[.int .i64 i, .iface 94 (.agg #[.int .i64 4])])]) ∧ Below w.heap.size w w') := hS.mono fun e w' h => by unfold SoP at h; rw [hb] at h; exact h
    have HV : Hid (badAt 0 l = some i) := hb
    clear hS hH hb
    go_enter Tryz.func14, Tryz.ntmps14
    go_wp2_with fail
    refine HS.out.mono ?_
    rintro e w2 ⟨rfl, hb2⟩
    have HB2 : Hid (Below w.heap.size w w2) := hb2
    have HN := number_placed i 4 w2 (HH.out w2 hb2)
    clear hb2
    go_wp2_with fail
    refine HN.mono ?_
    rintro e w3 ⟨rfl, hb3⟩
    have HB3 : Hid (Below w.heap.size w w3) := HB2.out.trans (hb3.mono HB2.out.size)
    have HPl := place_placed i 4 w3 (HH.out w3 HB3.out)
    clear hb3 HN
    go_wp2_with fail
    refine HPl.mono ?_
    rintro e w4 ⟨rfl, hb4⟩
    have HB4 : Hid (Below w.heap.size w w4) := HB3.out.trans (hb4.mono HB3.out.size)
    clear hb4 HPl
    go_wp2_with fail
    refine bodyPost_ret (v := .tuple #[.slice none 0 0, .int .i64 4, .int .i64 i]) (by simp [results, Tryz.results14, go_sem]) rfl ?_
    show SeV w _ l _ _
    unfold SeV
    rw [HV.out]
    exact ⟨rfl, HB4.out⟩
  | none =>
    cases hr : rise [] l with
    | none =>
      have HS : Hid (Calls Tryz.prog 32 #[v] w fun e w' => e = .returned (.tuple #[.slice none 0 0, .iface 94 (.agg #[.int .i64 10])]) ∧ Below w.heap.size w w') := hS.mono fun e w' h => by unfold SoP at h; rw [hb, hr] at h; exact h
      have HV : Hid (badAt 0 l = none) := hb
      have HW : Hid (rise [] l = none) := hr
      clear hS hH hb hr
      go_enter Tryz.func14, Tryz.ntmps14
      go_wp2_with fail
      refine HS.out.mono ?_
      rintro e w2 ⟨rfl, hb2⟩
      have HB2 : Hid (Below w.heap.size w w2) := hb2
      have HN := number_any 10 w2 (HH.out w2 hb2)
      clear hb2
      go_wp2_with fail
      refine HN.mono ?_
      rintro e w3 ⟨rfl, hb3⟩
      have HB3 : Hid (Below w.heap.size w w3) := HB2.out.trans (hb3.mono HB2.out.size)
      have HPl := place_refusal 10 w3 (HH.out w3 HB3.out)
      clear hb3 HN
      go_wp2_with fail
      refine HPl.mono ?_
      rintro e w4 ⟨rfl, hb4⟩
      have HB4 : Hid (Below w.heap.size w w4) := HB3.out.trans (hb4.mono HB3.out.size)
      clear hb4 HPl
      go_wp2_with fail
      refine bodyPost_ret (v := .tuple #[.slice none 0 0, .int .i64 10, .int .i64 0]) (by simp [results, Tryz.results14, go_sem]) rfl ?_
      show SeV w _ l _ _
      unfold SeV
      rw [HV.out, HW.out]
      exact ⟨rfl, HB4.out⟩
    | some set =>
      have HS : Hid (Calls Tryz.prog 32 #[v] w fun e w' => ∃ v', e = .returned (.tuple #[v', .nilIface]) ∧ w'.ownsRow w.heap.size 44 3 v' set.length (cellsOf set) ∧ Below w.heap.size w w') := hS.mono fun e w' h => by unfold SoP at h; rw [hb, hr] at h; exact h
      have HV : Hid (badAt 0 l = none) := hb
      have HW : Hid (rise [] l = some set) := hr
      clear hS hH hb hr
      go_enter Tryz.func14, Tryz.ntmps14
      go_wp2_with fail
      refine HS.out.mono ?_
      rintro e w2 ⟨v', rfl, ho2, hb2⟩
      have HO2 : Hid (w2.ownsRow w.heap.size 44 3 v' set.length (cellsOf set)) := ho2
      have HB2 : Hid (Below w.heap.size w w2) := hb2
      have HN := number_nil2 w2
      clear hb2 ho2
      go_wp2_with fail
      refine HN.mono ?_
      rintro e w3 ⟨rfl, hb3⟩
      have HB3 : Hid (Below w.heap.size w w3) := HB2.out.trans (hb3.mono HB2.out.size)
      have HO3 : Hid (w3.ownsRow w.heap.size 44 3 v' set.length (cellsOf set)) := own_same HO2.out fun k _ hlt => hb3.block k hlt
      have HPl := place_nil w3
      clear hb3 HN
      go_wp2_with fail
      refine HPl.mono ?_
      rintro e w4 ⟨rfl, hb4⟩
      have HB4 : Hid (Below w.heap.size w w4) := HB3.out.trans (hb4.mono HB3.out.size)
      have HO4 : Hid (w4.ownsRow w.heap.size 44 3 v' set.length (cellsOf set)) := own_same HO3.out fun k _ hlt => hb4.block k hlt
      clear hb4 HPl
      go_wp2_with fail
      refine bodyPost_ret (v := .tuple #[v', .int .i64 0, .int .i64 0]) (by simp [results, Tryz.results14, go_sem]) rfl ?_
      show SeV w _ l _ _
      unfold SeV
      rw [HV.out, HW.out]
      exact ⟨v', rfl, HO4.out, HB4.out⟩

end Go.Proofs.YtnffjoipinhojabGreatDoor

set_option linter.unusedSimpArgs false
set_option linter.unusedVariables false
namespace Go.Proofs.YtnffjoipinhojabGreatDoor.Ref
open Go.RowKit

end Go.Proofs.YtnffjoipinhojabGreatDoor.Ref

