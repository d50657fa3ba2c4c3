import Derived.Test.YtnffjoipinhojabDoorEb
import Derived.Lib.MinMax
set_option linter.unusedSimpArgs false
set_option linter.unusedVariables false
namespace Go.Proofs.YtnffjoipinhojabDoor
open Go.RowKit

theorem cell_new {w : World} {cs : Array Value} {e : TypeId} {fz : Nat × Nat} {j : Nat} : (w.alloc (.cells cs e fz)).cell? ⟨w.heap.size, j, none⟩ = cs[j]? := by
  rw [Lib.cell_of_heap (World.alloc_heap_new w (.cells cs e fz))]

theorem bts_of_string (w : World) (t : List UInt8) : ∃ v w1, (convert 9 46 (strT t)).run Tryd.prog w = .ok v w1 ∧ BtA w.heap.size w1 v t ∧ Below w.heap.size w w1 := by
  refine ⟨_, _, run_bytes_of_string (P := Tryd.prog) w 9 46 5 ⟨t.toArray⟩ Tryd.underlying9 Tryd.underlying46 Tryd.underlying5, ?_, ?_⟩
  · refine ⟨w.heap.size, grownCap w t.length 0 5, by rw [arrSize], Nat.le_refl _, ⟨_, _, World.alloc_heap_new w.drew _⟩, grownCap_ge _ _ _ _, ?_⟩
    intro j x hx
    have hj := (List.getElem?_eq_some_iff.1 hx).1
    have := cell_new (w := w.drew) (cs := bytesRow ⟨t.toArray⟩ (grownCap w (ByteArray.mk t.toArray).size 0 5)) (e := 5) (fz := ((bytesRow ⟨t.toArray⟩ (grownCap w (ByteArray.mk t.toArray).size 0 5)).size, (bytesRow ⟨t.toArray⟩ (grownCap w (ByteArray.mk t.toArray).size 0 5)).size + 1)) (j := j)
    refine Eq.trans this ?_
    unfold bytesRow
    rw [Array.getElem?_append_left (by simpa using hj)]
    simp [hx]
  · exact (Below.refl _ w).drew.alloc (Nat.le_refl _) _

theorem bts_append (w : World) (base b c c0 : Nat) (a s : List UInt8) (hc : c ≤ a.length) (hs : s ≠ []) (hsz : s.length ≤ 1000) (haz : a.length ≤ 1000) (hb : b < w.heap.size)
    (hcell : ∀ j x, a[j]? = some x → w.cell? ⟨b, j, none⟩ = some (.int .u8 (x.toNat : Int))) :
    ∃ v w1, (Builtin.append_ #[46, 9] 46 #[.slice (some ⟨b, 0, none⟩) c c, strT s]).run Tryd.prog w = .ok v w1 ∧ BtA w.heap.size w1 v (a.take c ++ s) ∧ Below w.heap.size w w1 := by
  obtain ⟨i0, hi, hz0, hz1, hz2⟩ := info_parts infoByte
  have hsl : 0 < s.length := List.length_pos_iff.2 hs
  have hrun := Lib.run_append_grow_string (P := Tryd.prog) w 46 9 46 5 i0 (.int .u8 0) Tryd.underlying46 Tryd.underlying9 hi hz0 ⟨b, 0, none⟩ c c ((a.take c).map fun x => Value.int .u8 (x.toNat : Int)) (by rw [hz1]; simp; omega) (fun j v hj => by
      rw [List.getElem?_map] at hj
      obtain ⟨x, hx, rfl⟩ := Option.map_eq_some_iff.1 hj
      have e : (⟨b, 0, none⟩ : Addr).add j = ⟨b, j, none⟩ := by unfold Addr.add; split <;> simp_all
      rw [e]
      refine hcell j x ?_
      have hlt := (List.getElem?_eq_some_iff.1 hx).1
      simp at hlt
      rw [List.getElem?_take_of_lt (by omega)] at hx
      exact hx) ⟨s.toArray⟩ (by rw [arrSize]; omega) (by rw [arrSize]; omega) (by
      rw [arrSize, hz2]
      have := nextslicecap_le (need := c + s.length) (old := c) (by omega)
      omega)
  refine ⟨_, _, hrun, ?_, ?_⟩
  · refine ⟨w.heap.size, grownCap w (c + (ByteArray.mk s.toArray).size) c 5, ?_, Nat.le_refl _, ⟨_, _, World.alloc_heap_new w.drew _⟩, ?_, ?_⟩
    · rw [arrSize]; simp; omega
    · refine Nat.le_trans ?_ (grownCap_ge _ _ _ _)
      rw [arrSize]; simp; omega
    · intro j x hx
      refine Eq.trans (cell_new (w := w.drew)) ?_
      have hj := (List.getElem?_eq_some_iff.1 hx).1
      simp at hj
      have h1 : (((a.take c).map fun x => Value.int .u8 (x.toNat : Int)) ++ Lib.strCells ⟨s.toArray⟩)[j]? = some (.int .u8 (x.toNat : Int)) := by
        have e2 : Lib.strCells ⟨s.toArray⟩ = s.map fun x => Value.int .u8 (x.toNat : Int) := by simp [Lib.strCells, Lib.byteCells]
        rw [e2, ← List.map_append, List.getElem?_map, hx]
        rfl
      have hj2 := (List.getElem?_eq_some_iff.1 h1).1
      rw [Array.getElem?_append_left (by simpa using hj2)]
      have e3 : (((a.take c).map fun x => Value.int .u8 (x.toNat : Int)).toArray ++ (Lib.strCells ⟨s.toArray⟩).toArray) = (((a.take c).map fun x => Value.int .u8 (x.toNat : Int)) ++ Lib.strCells ⟨s.toArray⟩).toArray := by simp
      rw [e3, List.getElem?_toArray]
      exact h1
  · exact (Below.refl _ w).drew.alloc (Nat.le_refl _) _

end Go.Proofs.YtnffjoipinhojabDoor
