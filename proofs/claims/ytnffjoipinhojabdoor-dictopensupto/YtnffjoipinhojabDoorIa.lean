import Derived.Test.YtnffjoipinhojabDoorHd
set_option linter.unusedSimpArgs false
set_option linter.unusedVariables false
namespace Go.Proofs.YtnffjoipinhojabDoor
open Go.RowKit

namespace Plain
/-- a number that is read is written as it stands -/
theorem own_form : ∀ (k : Nat) (l : List UInt8), k < l.length → (∀ j, j < k → 128 ≤ (l.getD j 0).toNat) → (l.getD k 0).toNat < 128 → (k = 0 ∨ (l.getD k 0).toNat ≠ 0) → l = Lib.uvarint (grp (k + 1) l) ++ l.drop (k + 1)
  | 0, [], h, _, _, _ => by simp at h
  | 0, x :: r, _, _, h, _ => by
    simp only [List.getD_cons_zero] at h
    have e : grp 1 (x :: r) = x.toNat := by simp [grp]; omega
    rw [e, Lib.uvarint_small h]
    simp
  | k + 1, [], h, _, _, _ => by simp at h
  | k + 1, x :: r, hl, ha, h1, h2 => by
    have hx := ha 0 (by omega)
    simp only [List.getD_cons_zero] at hx
    simp only [List.getD_cons_succ] at h1 h2
    have hn : (r.getD k 0).toNat ≠ 0 := by
      rcases h2 with h2 | h2
      · omega
      · exact h2
    have ih := own_form k r (by simpa using hl) (fun j hj => by have := ha (j + 1) (by omega); simpa using this) h1 (.inr hn)
    have hg : 1 ≤ grp (k + 1) r := by
      rw [grp_succ]
      have : 1 ≤ (r.getD k 0).toNat % 128 * 128 ^ k := Nat.mul_pos (by omega) (Nat.pow_pos (by decide))
      omega
    have e : grp (k + 1 + 1) (x :: r) = x.toNat % 128 + 128 * grp (k + 1) r := by
      simp only [grp]
      try omega
    have hx2 := x.toNat_lt
    rw [e, Lib.uvarint_big (by omega)]
    rw [show (x.toNat % 128 + 128 * grp (k + 1) r) / 128 = grp (k + 1) r by omega, show (x.toNat % 128 + 128 * grp (k + 1) r) % 128 + 128 = x.toNat by omega]
    rw [List.cons_append, List.drop_succ_cons, ← ih]
    simp
theorem Good.own {l : List UInt8} {k : Nat} (h : Good l k) : l = Lib.uvarint (grp (k + 1) l) ++ l.drop (k + 1) := own_form k l h.kl h.ahead h.last h.least
end Plain

/-! A parcel.Reader, whether it has refused or not. -/

/-- its error -/
def erV (bad : Bool) (i : Nat) : Value := if bad then .iface 84 (.agg #[.int .i64 i, .iface 80 (.agg #[.int .i64 8])]) else .nilIface
abbrev Rg (r : Nat) (D : ByteArray) (i : Nat) (bad : Bool) (w : World) : Prop := w.heap[r]? = some (.cells #[.string D, .int .i64 i, erV bad i] 61 (0, 0))

section
variable {r : Nat} {D : ByteArray} {i : Nat} {bad : Bool} {w w' : World}
theorem Rg.lt (h : Rg r D i bad w) : r < w.heap.size := (Array.getElem?_eq_some_iff.1 h).1
theorem Rg.below (h : Rg r D i bad w) (hb : Below w.heap.size w w') : Rg r D i bad w' := (hb.block r h.lt).trans h
theorem Rg.c0 (h : Rg r D i bad w) : w.cell? ⟨r, 0, none⟩ = some (.string D) := by rw [Lib.cell_of_heap h]; rfl
theorem Rg.c1 (h : Rg r D i bad w) : w.cell? ⟨r, 1, none⟩ = some (.int .i64 i) := by rw [Lib.cell_of_heap h]; rfl
theorem Rg.c2 (h : Rg r D i bad w) : w.cell? ⟨r, 2, none⟩ = some (erV bad i) := by rw [Lib.cell_of_heap h]; rfl
theorem Rg.f (h : Rg r D i bad w) (k : Nat) : w.frozen? ⟨r, k, none⟩ = false := Lib.frozen_of_heap h k
theorem Rg.set1 (h : Rg r D i false w) (j : Nat) : Rg r D j false (w.setCell ⟨r, 1, none⟩ (.int .i64 j)) := by
  have s1 := setCell_eq_setRow w r 1 _ 61 (0, 0) (.int .i64 j) h
  have h1 := setRow_heap w r _ (#[Value.string D, .int .i64 i, erV false i].setIfInBounds 1 (.int .i64 j)) _ _ h
  rw [← s1] at h1
  exact h1
theorem Rg.set2 (h : Rg r D i bad w) : Rg r D i true (w.setCell ⟨r, 2, none⟩ (erV true i)) := by
  have s1 := setCell_eq_setRow w r 2 _ 61 (0, 0) (erV true i) h
  have h1 := setRow_heap w r _ (#[Value.string D, .int .i64 i, erV bad i].setIfInBounds 2 (erV true i)) _ _ h
  rw [← s1] at h1
  exact h1
end

set_option maxHeartbeats 4000000 in
set_option maxRecDepth 20000 in
theorem refuse_g (w : World) (r i : Nat) (D : ByteArray) (bad : Bool) (h : Rg r D i bad w) :
    Calls Tryd.prog 50 #[.pointer (some ⟨r, 0, none⟩)] w fun e w' => e = .returned (.tuple #[]) ∧ Rg r D i true w' ∧ Fm r w w' := by
  have mixed : Tryd.prog.follows Departure.mixedOrders = true := by kernel_rfl
  have c0 := h.c0
  have c1 := h.c1
  have c2 := h.c2
  have f2 := h.f 2
  have HR : Hid (Rg r D i bad w) := h
  have HNw : Hid (∀ w1, Rg r D i bad w1 ∧ Fm r w w1 → Calls Tryd.prog 37 #[.int .i64 8] w1 fun e w' => e = .returned (.iface 80 (.agg #[.int .i64 8])) ∧ (Rg r D i bad w' ∧ Fm r w w')) := fun w1 h1 => by
    refine (new_b w1 8).mono ?_
    rintro e w2 ⟨rfl, hb⟩
    exact ⟨rfl, h1.1.below hb, h1.2.trans (Fm.of_below hb)⟩
  have HAt : Hid (∀ w1, Rg r D i bad w1 ∧ Fm r w w1 → Calls Tryd.prog 36 #[.int .i64 i, .iface 80 (.agg #[.int .i64 8])] w1 fun e w' => e = .returned (.iface 84 (.agg #[.int .i64 i, .iface 80 (.agg #[.int .i64 8])])) ∧ (Rg r D i bad w' ∧ Fm r w w')) := fun w1 h1 => by
    refine (at_b w1 i 8).mono ?_
    rintro e w2 ⟨rfl, hb⟩
    exact ⟨rfl, h1.1.below hb, h1.2.trans (Fm.of_below hb)⟩
  clear h
  go_enter Tryd.func50, Tryd.ntmps50
  go_wp2_with fail
  go_region_law (first
    | (go_simp; go_at_call 37; refine (HNw.out _ (by first | assumption | exact ⟨HR.out, (Fm.refl r w).drew⟩ | exact ⟨HR.out, Fm.refl r w⟩)).mono ?_; rintro e2 w2 ⟨rfl, hS2⟩; have d1 := Rg.c1 hS2.1)
    | (go_simp; go_at_call 36; refine (HAt.out _ (by first | assumption | exact ⟨HR.out, (Fm.refl r w).drew⟩)).mono ?_; rintro e3 w3 ⟨rfl, hS3⟩; have g1 := Rg.c1 hS3.1; have g2 := Rg.c2 hS3.1; have g3 := Rg.f hS3.1 2))
  all_goals
    have HE : Hid (Rg r D i true (w3.setCell ⟨r, 2, none⟩ (erV true i)) ∧ Fm r w (w3.setCell ⟨r, 2, none⟩ (erV true i))) := ⟨Rg.set2 hS3.1, hS3.2.trans (fm_set _ _ _ _)⟩
    go_wp2_with fail
    go_end0
    exact ⟨rfl, HE.out.1, HE.out.2⟩

end Go.Proofs.YtnffjoipinhojabDoor
