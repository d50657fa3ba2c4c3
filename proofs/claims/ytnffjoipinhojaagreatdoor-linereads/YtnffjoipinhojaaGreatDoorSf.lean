import Derived.Test.YtnffjoipinhojaaGreatDoorSe
import Derived.Recover
import Derived.Laws.Pointers
set_option linter.unusedSimpArgs false
set_option linter.unusedVariables false
namespace Go.Proofs.YtnffjoipinhojaaGreatDoor
open Go.RowKit

abbrev placedV (n i : Int) : Value := .iface 126 (.agg #[.int .i64 i, .iface 122 (.agg #[.int .i64 n])])

theorem assert_stop (v : Value) (w : World) : (Instr.typeAssert (.iface 139 v) 20 139 true).run Tryz.prog w = .ok (.tuple #[v, .bool true]) w := by kernel_rfl

set_option maxRecDepth 20000 in
set_option maxHeartbeats 1000000 in
theorem catch1_stop (p : Addr) (old : Value) (n i : Int) (w : World) (hc : w.cell? p = some old) (hz : w.frozen? p = false) :
    CallsD Tryz.prog 91 #[.pointer (some p)] (.panicking [{ v := stopV n i, recovered := false }]) w fun e u' w' =>
      e = .returned (.tuple #[]) ∧ u' = .panicking [{ v := stopV n i, recovered := true }] ∧ w' = (w.alloc (.cells #[placedV n i] 139)).setCell p (placedV n i) := by
  unfold stopV
  refine callsD_of_wpS Tryz.func91 rfl fun c₀ cs hu => ?_
  apply wpS_seq
  apply wpS_region
  simp [wpOpsS, go_sem, recoverD, hu, Tryz.ntmps91, Exit.thenS]
  refine wpS_of_wp ?_
  have ht : (#[Value.pointer (some p)] ++ (Array.replicate 11 undef).setIfInBounds 3 (Value.iface 139 (Value.agg #[placedV n i]))) = #[Value.pointer (some p), undef, undef, undef, Value.iface 139 (Value.agg #[placedV n i]), undef, undef, undef, undef, undef, undef, undef] := rfl
  rw [ht]
  have hpl : p.block < w.heap.size := World.block_lt_of_cell? w p hc
  have HU : Hid (c₀.mode = FrameMode.panicking [{ v := Value.iface 139 (Value.agg #[placedV n i]), recovered := false }]) := hu
  clear hu ht
  have hta := assert_stop
  have hc' : ∀ o, (w.alloc o).cell? p = some old := fun o => (World.cell?_alloc_lt _ _ p hpl).trans hc
  have hz' : ∀ o, (w.alloc o).frozen? p = false := fun o => (World.frozen?_alloc_old _ _ p (Nat.ne_of_lt hpl)).trans hz
  go_wp2
  simp [bodyPostS, results, Tryz.results91, go_sem]

set_option maxRecDepth 20000 in
set_option maxHeartbeats 1000000 in
theorem catch1_idle (p : Addr) (w : World) :
    CallsD Tryz.prog 91 #[.pointer (some p)] .returning w fun e u' w' => e = .returned (.tuple #[]) ∧ u' = .returning ∧ w' = w := by
  refine callsD_of_wpS Tryz.func91 rfl fun c₀ cs hu => ?_
  apply wpS_seq
  apply wpS_region
  simp [wpOpsS, go_sem, recoverD, hu, Tryz.ntmps91, Exit.thenS]
  refine wpS_of_wp ?_
  have ht : (#[Value.pointer (some p)] ++ (Array.replicate 11 undef).setIfInBounds 3 Value.nilIface) = #[Value.pointer (some p), undef, undef, undef, Value.nilIface, undef, undef, undef, undef, undef, undef, undef] := rfl
  rw [ht]
  have HU : Hid (c₀.mode = FrameMode.returning) := hu
  clear hu ht
  go_wp2
  have := HU.out
  cases c₀
  simp_all [bodyPostS, results, Tryz.results91, go_sem]

/-- scan.Catch, where what it runs comes back. -/
theorem catch_ok (w : World) (g : Nat) (lb : Array Value) (Q : World → Prop) (eg : ∀ args w, (callFunc g args).run Tryz.prog w = .ok (.enter g args) w)
    (h : Calls Tryz.prog g lb (w.alloc (.cells #[.nilIface] 64)) fun e w' => e = .returned (.tuple #[]) ∧ Q w') (hQ : ∀ w', Q w' → w'.heap[w.heap.size]? = some (.cells #[.nilIface] 64 (0, 0))) :
    Calls Tryz.prog 50 #[fnV g lb] w fun e w' => e = .returned .nilIface ∧ ∃ w2, Q w2 ∧ w' = w2.setCell ⟨w.heap.size, 0, none⟩ .nilIface := by
  have hmf := mkFunc
  go_enter_defers Tryz.func50, Tryz.ntmps50
  go_wp2_with (go_at_fn g; refine h.mono ?_; rintro e w2 ⟨rfl, hq⟩; have hb := hQ w2 hq; have hc : w2.cell? ⟨w.heap.size, 0, none⟩ = some .nilIface := (by rw [Lib.cell_of_heap hb]; rfl); have hf : w2.frozen? ⟨w.heap.size, 0, none⟩ = false := Lib.frozen_of_heap hb 0; clear hb)
  refine leaves_cons (f := 91) (args := #[.pointer (some ⟨w.heap.size, 0, none⟩)]) (by simp) (by simp [go_sem]) ?_
  refine (catch1_idle ⟨w.heap.size, 0, none⟩ _).mono ?_
  rintro e u' w'' ⟨rfl, rfl, rfl⟩
  simp [Leaves, settle, results, Tryz.results50, go_sem, hc]
  exact ⟨w2, hq, rfl⟩

/-- scan.Catch, where what it runs gives up. -/
theorem catch_stop (w : World) (g : Nat) (lb : Array Value) (Q : World → Prop) (n i : Int) (eg : ∀ args w, (callFunc g args).run Tryz.prog w = .ok (.enter g args) w)
    (h : Calls Tryz.prog g lb (w.alloc (.cells #[.nilIface] 64)) fun e w' => e = stopE n i ∧ Q w') (hQ : ∀ w', Q w' → w'.heap[w.heap.size]? = some (.cells #[.nilIface] 64 (0, 0))) :
    Calls Tryz.prog 50 #[fnV g lb] w fun e w' => e = .returned (placedV n i) ∧ ∃ w2, Q w2 ∧ w' = (w2.alloc (.cells #[placedV n i] 139)).setCell ⟨w.heap.size, 0, none⟩ (placedV n i) := by
  have hmf := mkFunc
  go_enter_defers Tryz.func50, Tryz.ntmps50
  go_wp2_with (go_at_fn g; refine h.mono ?_; rintro e w2 ⟨rfl, hq⟩)
  have hb := hQ w2 hq
  have hc : w2.cell? ⟨w.heap.size, 0, none⟩ = some .nilIface := by rw [Lib.cell_of_heap hb]; rfl
  have hf : w2.frozen? ⟨w.heap.size, 0, none⟩ = false := Lib.frozen_of_heap hb 0
  have hl : w.heap.size < w2.heap.size := (Array.getElem?_eq_some_iff.1 hb).1
  refine leaves_cons (f := 91) (args := #[.pointer (some ⟨w.heap.size, 0, none⟩)]) (by simp) (by simp [go_sem]) ?_
  refine (catch1_stop ⟨w.heap.size, 0, none⟩ .nilIface n i _ hc hf).mono ?_
  rintro e u' w'' ⟨rfl, rfl, rfl⟩
  have hc2 : ((w2.alloc (.cells #[placedV n i] 139)).setCell ⟨w.heap.size, 0, none⟩ (placedV n i)).cell? ⟨w.heap.size, 0, none⟩ = some (placedV n i) :=
    World.cell?_setCell_same _ _ _ ((World.cell?_alloc_lt _ _ ⟨w.heap.size, 0, none⟩ hl).trans hc)
  simp [Leaves, settle, results, Tryz.results50, go_sem, hc2]
  exact ⟨w2, hq, rfl⟩
end Go.Proofs.YtnffjoipinhojaaGreatDoor
