import Derived.Test.YtnffjoipinhojabDoorIf
set_option linter.unusedSimpArgs false
set_option linter.unusedVariables false
namespace Go.Proofs.YtnffjoipinhojabDoor
open Go.RowKit

set_option maxHeartbeats 4000000 in
set_option maxRecDepth 20000 in
/-- dict.Open of what is no Build -/
theorem open_no (w : World) (D : ByteArray) (hD : D.size ≤ 1048576) (hno : ∀ L, ¬ DictOf D L) (hH : Handle w) :
    Calls Tryd.prog 9 #[.string D] w fun e w' => e = .returned (.tuple #[.pointer none, .int .i64 8]) ∧ Below w.heap.size w w' := by
  have HC : Hid (Calls Tryd.prog 26 #[.string D] w fun e w' => e = .returned (.string D) ∧ Below w.heap.size w w') := clone_any D w (by omega)
  have hp := hH.pos
  have HH : Hid (∀ w', Below w.heap.size w w' → Handle w') := fun w' hb => hH.below hb
  have HRd : Hid (∀ w1 rb, Rg rb D 0 false w1 → HandR rb w1 → Calls Tryd.prog 27 #[.pointer (some ⟨rb, 0, none⟩)] w1 (RdP rb D w1)) := fun w1 rb h1 h2 => readDict_g w1 rb D h1 hD h2
  have HNo : Hid (∀ L, ¬ DictOf D L) := hno
  clear hH hno
  go_enter Tryd.func9, Tryd.ntmps9
  go_wp2_with fail
  refine HC.out.mono ?_
  rintro e w1 ⟨rfl, hb1⟩
  have HB1 : Hid (Below w.heap.size w w1) := hb1
  clear hb1
  go_wp2_with fail
  refine (over_any w1 D).mono ?_
  rintro e w2 ⟨rfl, hb2⟩
  have HB2 : Hid (Below w.heap.size w w2) := HB1.out.trans (hb2.mono HB1.out.size)
  clear hb2
  go_wp2_with fail
  have hRs : Rg w2.heap.size D 0 false (w2.alloc (.cells #[.string D, .int .i64 0, .nilIface] 61)) := World.alloc_heap_new w2 _
  have HBa : Hid (Below w.heap.size w (w2.alloc (.cells #[.string D, .int .i64 0, .nilIface] 61))) := HB2.out.alloc HB2.out.size _
  have hbz := HB2.out.size
  have hHr : HandR w2.heap.size (w2.alloc (.cells #[.string D, .int .i64 0, .nilIface] 61)) := ⟨HH.out _ HBa.out, by omega⟩
  refine (HRd.out _ _ hRs hHr).mono ?_
  rintro e w3 ⟨b, j, bad, rfl, hR3, hF3, hb3⟩
  cases bad with
  | false => exact absurd (hb3 rfl) (fun ⟨L, hL⟩ => HNo.out L hL)
  | true =>
    have HB3 : Hid (Below w.heap.size w w3) := HBa.out.trans (hF3.below (by omega) (by simp; omega))
    have HE := err_g w3 w2.heap.size j D true hR3
    have HE2 : Calls Tryd.prog 28 #[.pointer (some ⟨w2.heap.size, 0, none⟩)] w3 fun e w' => e = .returned (.iface 84 (.agg #[.int .i64 j, .iface 80 (.agg #[.int .i64 8])])) ∧ w' = w3 := HE
    have HNu := number_placed j 8 w3 (HH.out w3 HB3.out)
    clear hF3 hRs hR3 hHr hb3 HE
    go_wp2_with fail
    refine HE2.mono ?_
    rintro e w4 ⟨rfl, rfl⟩
    go_wp2_with fail
    refine HNu.mono ?_
    rintro e w5 ⟨rfl, hb5⟩
    have HB5 : Hid (Below w.heap.size w w5) := HB3.out.trans (hb5.mono HB3.out.size)
    clear hb5 HNu
    go_wp2_with fail
    go_ret2
    exact ⟨rfl, HB5.out⟩

end Go.Proofs.YtnffjoipinhojabDoor
