import Derived.Below
import Derived.WalkKit
import Derived.WalkSmall
namespace Go.Proofs.YtnffjoipinhojaaGreatDoor
open Go.RowKit

theorem setCell_heap (w : World) (a : Addr) (v : Value) (k : Nat) : (w.setCell a v).heap[k]? = if k = a.block then (w.heap[k]?).map (fun x => match x with
        | Go.Obj.cells c elem frozen => Go.Obj.cells (if a.spot.isSome = true then c else c.setIfInBounds a.off v) elem frozen
        | o => o) else w.heap[k]? := by
  simp only [World.setCell, Array.getElem?_modify]
  by_cases h : k = a.block
  · subst h; rw [if_pos rfl, if_pos rfl]; congr 1
  · rw [if_neg (fun e => h e.symm), if_neg h]

theorem setCell_same {w : World} {a : Addr} {v : Value} (h : w.cell? a = some v) (k : Nat) : (w.setCell a v).heap[k]? = w.heap[k]? := by
  rw [setCell_heap]
  split
  · rename_i e
    subst e
    unfold World.cell? at h
    cases hb : w.heap[a.block]? with
    | none => rfl
    | some o =>
      rw [hb] at h
      cases o with
      | cells c t f =>
        simp only at h
        split at h
        · cases h
        · rename_i hs
          simp only [Option.map_some, if_neg hs]
          have hz : c.setIfInBounds a.off v = c := by
            apply Array.ext
            · simp
            · intro i h1 h2
              rw [Array.getElem_setIfInBounds]
              · split
                · rename_i e
                  subst e
                  rw [Array.getElem?_eq_some_iff] at h
                  exact h.2.symm
                · rfl
          rw [hz]
      | _ => rfl
  · rfl

theorem setCell_over (w : World) (b o : Nat) (u v : Value) (k : Nat) : ((w.setCell ⟨b, o, none⟩ u).setCell ⟨b, o, none⟩ v).heap[k]? = (w.setCell ⟨b, o, none⟩ v).heap[k]? := by
  rw [setCell_heap, setCell_heap, setCell_heap]
  simp only [Option.isSome_none]
  by_cases h : k = b
  · simp only [if_pos h]
    cases w.heap[k]? with
    | none => rfl
    | some x => cases x <;> simp
  · simp only [if_neg h]

theorem setCell_cong {w w' : World} {a : Addr} {v : Value} {k : Nat} (h : w'.heap[k]? = w.heap[k]?) : (w'.setCell a v).heap[k]? = (w.setCell a v).heap[k]? := by
  rw [setCell_heap, setCell_heap, h]

/-- The reader in block b stands at j now; nothing else that lay has turned. -/
def Adv (b j : Nat) (w w' : World) : Prop := Below w.heap.size (w.setCell ⟨b, 1, none⟩ (.int .i64 j)) w'

theorem Adv.size {b j : Nat} {w w' : World} (h : Adv b j w w') : w.heap.size ≤ w'.heap.size := by have := Below.size h; simpa using this

theorem Adv.block {b j : Nat} {w w' : World} (h : Adv b j w w') {k : Nat} (hk : k < w.heap.size) : w'.heap[k]? = (w.setCell ⟨b, 1, none⟩ (.int .i64 j)).heap[k]? := Below.block h k hk

theorem Adv.other {b j : Nat} {w w' : World} (h : Adv b j w w') {k : Nat} (hk : k < w.heap.size) (hb : k ≠ b) : w'.heap[k]? = w.heap[k]? := by
  rw [h.block hk, setCell_heap, if_neg hb]

theorem Adv.trans {b i j : Nat} {w w' w'' : World} (h : Adv b i w w') (k : Adv b j w' w'') : Adv b j w w'' := by
  refine ⟨k.os.trans h.os, k.tape.trans h.tape, k.output.trans h.output, ?_, fun x hx => ?_⟩
  · have := h.size; have := k.size; simp; omega
  · rw [k.block (Nat.lt_of_lt_of_le hx h.size), setCell_cong (h.block hx), setCell_over]

theorem Adv.below {b j : Nat} {w w' : World} (h : Adv b j w w') {B : Nat} (hB : B ≤ b) (hw : B ≤ w.heap.size) : Below B w w' :=
  ⟨h.os, h.tape, h.output, h.size, fun k hk => h.other (by omega) (by omega)⟩

/-- From a world as w on: no step. -/
theorem Adv.of_below {b j : Nat} {w w' : World} (hc : w.cell? ⟨b, 1, none⟩ = some (.int .i64 j)) (h : Below w.heap.size w w') : Adv b j w w' :=
  ⟨h.os, h.tape, h.output, by simpa using h.size, fun k hk => by rw [h.block k hk, setCell_same hc]⟩

theorem Adv.then_below {b j : Nat} {w w' w'' : World} (h : Adv b j w w') (k : Below w'.heap.size w' w'') : Adv b j w w'' :=
  Below.trans h (k.mono h.size)

theorem Adv.set (b j : Nat) (w : World) (n : Nat) : Adv b j w ((w.setCell ⟨b, 1, none⟩ (.int .i64 j)).drewN n) := below_drewN (Below.refl _ _) n

theorem Adv.cell {b j : Nat} {w w' : World} (h : Adv b j w w') {c o : Nat} (hc : c < w.heap.size) (hn : ¬ (c = b ∧ o = 1)) : w'.cell? ⟨c, o, none⟩ = w.cell? ⟨c, o, none⟩ := by
  rw [Below.cell h (p := ⟨c, o, none⟩) hc]
  exact World.cell?_setCell_other _ _ _ _ (fun e => hn (by cases e; exact ⟨rfl, rfl⟩))

theorem Adv.frozen {b j : Nat} {w w' : World} (h : Adv b j w w') {c o : Nat} (hc : c < w.heap.size) : w'.frozen? ⟨c, o, none⟩ = w.frozen? ⟨c, o, none⟩ := by
  rw [Below.frozen h (p := ⟨c, o, none⟩) hc]
  exact World.frozen?_setCell _ _ _ _

/-- A scan.Reader lies at the head of block b: over the text s, at place i. -/
structure Rd (w : World) (b : Nat) (s : ByteArray) (i : Nat) : Prop where
  c0 : w.cell? ⟨b, 0, none⟩ = some (.string s)
  c1 : w.cell? ⟨b, 1, none⟩ = some (.int .i64 i)
  fz : w.frozen? ⟨b, 1, none⟩ = false
  le : i ≤ s.size
  ms : s.size ≤ 9223372036854775807

theorem Rd.drewN {w : World} {b i : Nat} {s : ByteArray} (h : Rd w b s i) (n : Nat) : Rd (w.drewN n) b s i := ⟨h.c0, h.c1, h.fz, h.le, h.ms⟩

theorem Rd.lt {w : World} {b i : Nat} {s : ByteArray} (h : Rd w b s i) : b < w.heap.size := World.block_lt_of_cell? w ⟨b, 0, none⟩ h.c0

theorem Rd.adv {w w' : World} {b i j : Nat} {s : ByteArray} (h : Rd w b s i) (a : Adv b j w w') (hj : j ≤ s.size) : Rd w' b s j :=
  ⟨(a.cell h.lt (by simp)).trans h.c0, by rw [Below.cell a (p := ⟨b, 1, none⟩) h.lt]; exact World.cell?_setCell_same _ _ _ h.c1, (a.frozen h.lt).trans h.fz, hj, h.ms⟩

theorem Rd.below {w w' : World} {b i : Nat} {s : ByteArray} (h : Rd w b s i) (a : Below w.heap.size w w') : Rd w' b s i :=
  h.adv (Adv.of_below h.c1 a) h.le

theorem Rd.stay {w w' : World} {b i : Nat} {s : ByteArray} (h : Rd w b s i) (a : Below w.heap.size w w') : Adv b i w w' := Adv.of_below h.c1 a

theorem Rd.stayN {w : World} {b i : Nat} {s : ByteArray} (h : Rd w b s i) (n : Nat) : Adv b i w (w.drewN n) := h.stay (below_drewN (Below.refl _ _) n)

end Go.Proofs.YtnffjoipinhojaaGreatDoor
