import Derived.Test.YtnffjoipinhojabGreatDoorK32
set_option linter.unusedSimpArgs false
set_option linter.unusedVariables false
namespace Go.Proofs.YtnffjoipinhojabGreatDoor
open Go.RowKit

set_option maxHeartbeats 4000000 in
set_option maxRecDepth 20000 in
/-- lines.Print, of what setOf answers -/
theorem print_of (w : World) (v : Value) (l : List Tri) (hS : Calls Tryz.prog 32 #[v] w (SoP w l)) (hH : Handle w) :
    Calls Tryz.prog 15 #[v] w (PrV w l) := by
  have HH : Hid (∀ w', Below w.heap.size w w' → Handle w') := fun w' hb => hH.below hb
  cases hb : badAt 0 l with
  | some i =>
    have HS : Hid (Calls Tryz.prog 32 #[v] w fun e w' => e = .returned (.tuple #[.slice none 0 0, .iface 98 (.agg #[.int .i64 i, .iface 94 (.agg #[.int .i64 4])])]) ∧ Below w.heap.size w w') := hS.mono fun e w' h => by unfold SoP at h; rw [hb] at h; exact h
    have HV : Hid (badAt 0 l = some i) := hb
    clear hS hH hb
    go_enter Tryz.func15, Tryz.ntmps15
    go_wp2_with fail
    refine HS.out.mono ?_
    rintro e w2 ⟨rfl, hb2⟩
    have HB2 : Hid (Below w.heap.size w w2) := hb2
    have HN := number_placed i 4 w2 (HH.out w2 hb2)
    clear hb2
    go_wp2_with fail
    refine HN.mono ?_
    rintro e w3 ⟨rfl, hb3⟩
    have HB3 : Hid (Below w.heap.size w w3) := HB2.out.trans (hb3.mono HB2.out.size)
    have HPl := place_placed i 4 w3 (HH.out w3 HB3.out)
    clear hb3 HN
    go_wp2_with fail
    refine HPl.mono ?_
    rintro e w4 ⟨rfl, hb4⟩
    have HB4 : Hid (Below w.heap.size w w4) := HB3.out.trans (hb4.mono HB3.out.size)
    clear hb4 HPl
    go_wp2_with fail
    refine bodyPost_ret (v := .tuple #[.string ⟨#[]⟩, .int .i64 4, .int .i64 i]) (by simp [results, Tryz.results15, go_sem]) rfl ?_
    show PrV w l _ _
    unfold PrV
    rw [HV.out]
    exact ⟨rfl, HB4.out⟩
  | none =>
    cases hr : rise [] l with
    | none =>
      have HS : Hid (Calls Tryz.prog 32 #[v] w fun e w' => e = .returned (.tuple #[.slice none 0 0, .iface 94 (.agg #[.int .i64 10])]) ∧ Below w.heap.size w w') := hS.mono fun e w' h => by unfold SoP at h; rw [hb, hr] at h; exact h
      have HV : Hid (badAt 0 l = none) := hb
      have HW : Hid (rise [] l = none) := hr
      clear hS hH hb hr
      go_enter Tryz.func15, Tryz.ntmps15
      go_wp2_with fail
      refine HS.out.mono ?_
      rintro e w2 ⟨rfl, hb2⟩
      have HB2 : Hid (Below w.heap.size w w2) := hb2
      have HN := number_any 10 w2 (HH.out w2 hb2)
      clear hb2
      go_wp2_with fail
      refine HN.mono ?_
      rintro e w3 ⟨rfl, hb3⟩
      have HB3 : Hid (Below w.heap.size w w3) := HB2.out.trans (hb3.mono HB2.out.size)
      have HPl := place_refusal 10 w3 (HH.out w3 HB3.out)
      clear hb3 HN
      go_wp2_with fail
      refine HPl.mono ?_
      rintro e w4 ⟨rfl, hb4⟩
      have HB4 : Hid (Below w.heap.size w w4) := HB3.out.trans (hb4.mono HB3.out.size)
      clear hb4 HPl
      go_wp2_with fail
      refine bodyPost_ret (v := .tuple #[.string ⟨#[]⟩, .int .i64 10, .int .i64 0]) (by simp [results, Tryz.results15, go_sem]) rfl ?_
      show PrV w l _ _
      unfold PrV
      rw [HV.out, HW.out]
      exact ⟨rfl, HB4.out⟩
    | some set => exact print_some w v l set hb hr hS

end Go.Proofs.YtnffjoipinhojabGreatDoor

set_option linter.unusedSimpArgs false
set_option linter.unusedVariables false
namespace Go.Proofs.YtnffjoipinhojabGreatDoor
open Go.RowKit

set_option maxHeartbeats 4000000 in
set_option maxRecDepth 20000 in
theorem triples_nil (w : World) : Calls Tryz.prog 6 #[.slice none 0 0] w fun e w' => ∃ v, e = .returned v ∧ w'.ownsRow w.heap.size 44 3 v ([] : List Tri).length (cellsOf []) ∧ Below w.heap.size w w' := by
  have HN0 : Hid (w.ownsRow w.heap.size 44 3 (.slice none 0 0) 0 []) := own_nil w _ _
  go_enter Tryz.func6, Tryz.ntmps6
  go_wp2_with fail
  go_loopw [3, 4] (fun t3 t4 wr => t3 = .slice none 0 0 ∧ t4 = .int .i64 0 ∧ wr = w) (fun t3 t4 wr => 0)
  case atStart => exact ⟨rfl, rfl, rfl⟩
  case round =>
    obtain ⟨rfl, rfl, rfl⟩ := hrel
    go_wp2_with fail
    go_ret
    exact ⟨_, rfl, HN0.out, Below.refl _ _⟩

set_option maxHeartbeats 4000000 in
set_option maxRecDepth 20000 in
theorem setOf_nil (w : World) : Calls Tryz.prog 32 #[.slice none 0 0] w (SoP w []) := by
  have HR : Hid (Calls Tryz.prog 36 #[.slice none 0 0] w fun e w' => ∃ v1, e = .returned (.tuple #[v1, .nilIface]) ∧ SoP w [] (.returned (.tuple #[v1, .nilIface])) w') := (rising_nil w).mono fun e w' h => by
    obtain ⟨v', rfl, h2, h3⟩ := h
    exact ⟨v', rfl, ⟨v', rfl, h2, h3⟩⟩
  go_enter Tryz.func32, Tryz.ntmps32
  go_wp2_with fail
  go_loopw [8] (fun t8 wr => t8 = .int .i64 0 ∧ wr = w) (fun t8 wr => 0)
  case atStart => exact ⟨rfl, rfl⟩
  case round =>
    obtain ⟨rfl, rfl⟩ := hrel
    go_wp2_with fail
    refine HR.out.mono ?_
    rintro e w3 ⟨v1, rfl, hs⟩
    have HSS : Hid (SoP wr [] (.returned (.tuple #[v1, .nilIface])) w3) := hs
    clear hs
    go_wp2_with fail
    exact bodyPost_ret (v := .tuple #[v1, .nilIface]) (by simp [results, Tryz.results32, go_sem]) rfl HSS.out

set_option maxHeartbeats 4000000 in
set_option maxRecDepth 20000 in
theorem Ref.set_nil (w : World) : Calls Tryz.prog 25 #[.slice none 0 0] w (SeV w 50 []) := by
  have HN0 : Hid (SeV w 50 [] (.returned (.tuple #[.slice none 0 0, .int .i64 0, .int .i64 0])) w) := ⟨_, rfl, own_nil w _ _, Below.refl _ w⟩
  go_enter Tryz.func25, Tryz.ntmps25
  go_wp2_with fail
  go_loopw [5] (fun t5 wr => t5 = .int .i64 0 ∧ wr = w) (fun t5 wr => 0)
  case atStart => exact ⟨rfl, rfl⟩
  case round =>
    obtain ⟨rfl, rfl⟩ := hrel
    go_wp2_with fail
    go_loopw [7, 8] (fun t7 t8 wr' => t7 = .slice none 0 0 ∧ t8 = .int .i64 0 ∧ wr' = wr) (fun t7 t8 wr' => 0)
    case atStart => exact ⟨rfl, rfl, rfl⟩
    case round =>
      obtain ⟨rfl, rfl, rfl⟩ := hrel
      go_wp2_with fail
      exact bodyPost_ret (v := .tuple #[.slice none 0 0, .int .i64 0, .int .i64 0]) (by simp [results, Tryz.results25, go_sem]) rfl HN0.out

end Go.Proofs.YtnffjoipinhojabGreatDoor

