import Derived.Test.YtnffjoipinhojabGreatDoorK41
import Derived.Deep.RegionHeld3
set_option linter.unusedSimpArgs false
set_option linter.unusedVariables false
namespace Go.Proofs.YtnffjoipinhojabGreatDoor
open Go.RowKit
namespace Tu

/-! sentences. -/
def headN (ns : List Nam2) : Option Tri → Tri → List UInt8
  | .none, x => termN ns x.s ++ [32] ++ verbN ns x.p ++ [32]
  | .some a, x => if x.s ≠ a.s then [32, 46, 10] ++ termN ns x.s ++ [32] ++ verbN ns x.p ++ [32] else if x.p ≠ a.p then [32, 59, 10, 9] ++ verbN ns x.p ++ [32] else [32, 44, 32]
def restN (ns : List Nam2) : Option Tri → List Tri → List UInt8
  | _, [] => []
  | a, x :: l => headN ns a x ++ termN ns x.o ++ restN ns (some x) l
def setN (ns : List Nam2) (l : List Tri) : List UInt8 := restN ns .none l ++ (if l = [] then [] else [32, 46, 10])

theorem restN_snoc (ns : List Nam2) (x : Tri) : ∀ (l : List Tri) (a : Option Tri), restN ns a (l ++ [x]) = restN ns a l ++ (headN ns (l.getLast?.or a) x ++ termN ns x.o)
  | [], a => by simp [restN]
  | y :: l, a => by
    have ih := restN_snoc ns x l (some y)
    simp only [List.cons_append, restN]
    rw [ih]
    have : (y :: l).getLast?.or a = l.getLast?.or (some y) := by
      cases l with
      | nil => rfl
      | cons z l => rw [List.getLast?_cons_cons]; rw [List.getLast?_eq_some_getLast (List.cons_ne_nil z l)]; rfl
    rw [this]
    simp only [List.append_assoc]

theorem restN_take (ns : List Nam2) {l : List Tri} {q : Nat} {x : Tri} (h : l[q]? = some x) : restN ns .none (l.take (q + 1)) = restN ns .none (l.take q) ++ (headN ns (l.take q).getLast? x ++ termN ns x.o) := by
  rw [List.take_add_one, h]
  have := restN_snoc ns x (l.take q) .none
  simpa using this

/-- what sentences holds of its own: the sentence at hand -/
def Own3 (w : World) (k : Nat) (x : Tri) : Prop := w.heap[k]? = some (.cells #[str x.s, str x.p, str x.o] 44 (0, 0))
theorem Own3.others {w w' : World} {k b : Nat} {x : Tri} (h : Own3 w k x) (hk : k ≠ b) (ho : Lib.OthersKept 5 (some b) w w') : Own3 w' k x := ho k _ h (by simpa using hk) (fun c fz e => by cases e)
theorem Own3.below {w w' : World} {k : Nat} {x : Tri} (h : Own3 w k x) (hb : Below w.heap.size w w') : Own3 w' k x := (hb.block k (Array.getElem?_eq_some_iff.1 h).1).trans h
theorem Own3.cells {w : World} {k : Nat} {x : Tri} (h : Own3 w k x) : w.cell? ⟨k, 0, none⟩ = some (str x.s) ∧ w.cell? ⟨k, 1, none⟩ = some (str x.p) ∧ w.cell? ⟨k, 2, none⟩ = some (str x.o) := by
  refine ⟨?_, ?_, ?_⟩ <;> (rw [Lib.cell_of_heap h]; rfl)

theorem restN_le (ns : List Nam2) : ∀ (l : List Tri) (a : Option Tri) (q : Nat), (restN ns a (l.take q)).length ≤ (restN ns a l).length
  | [], a, q => by simp
  | x :: l, a, 0 => by simp [restN]
  | x :: l, a, q + 1 => by
    have := restN_le ns l (some x) q
    simp only [List.take_succ_cons, restN, List.length_append]
    omega

theorem Pr0.of {B b : Nat} {nv : Value} {ns : List Nam2} {l : List UInt8} {w wr : World} (hp : Pb B b nv l wr) (hb : Below B w wr) (hn : NmL B nv ns w) (hs : NmB ns) (hT : Tabs w) (hG : 8 ≤ B) (hB : B ≤ w.heap.size) : Pr0 B b nv ns wr :=
  ⟨Nat.le_trans hB hb.size, hp.cell2, hn.below hb, hs, hT.below hb (by omega) (by omega), by have := hb.size; omega, hp.lt⟩

/-- a round's own: the printer, the sentence ahead (block A), the one at hand (block K) -/
structure Rn (B b : Nat) (nv : Value) (w : World) (A K : Nat) (a x : Tri) (l : List UInt8) (w' : World) : Prop where
  pb : Pb B b nv l w'
  be : Below B w w'
  oa : Own3 w' A a
  ox : Own3 w' K x
theorem Rn.below {B b : Nat} {nv : Value} {w w1 w2 : World} {A K : Nat} {a x : Tri} {l : List UInt8} (h : Rn B b nv w A K a x l w1) (hB : B ≤ w.heap.size) (hb : Below w1.heap.size w1 w2) : Rn B b nv w A K a x l w2 :=
  ⟨h.pb.below hb, h.be.trans (hb.mono (Nat.le_trans hB h.be.size)), h.oa.below hb, h.ox.below hb⟩
theorem Rn.put {B b : Nat} {nv : Value} {w w1 w2 : World} {A K : Nat} {a x : Tri} {l l' : List UInt8} (h : Rn B b nv w A K a x l w1) (hA : A ≠ b) (hK : K ≠ b) (hp : Pb B b nv l' w2) (hb : Below B w1 w2) (ho : Lib.OthersKept 5 (some b) w1 w2) : Rn B b nv w A K a x l' w2 :=
  ⟨hp, h.be.trans hb, h.oa.others hA ho, h.ox.others hK ho⟩
/-- a row of texts is laid, and put -/
theorem Rn.lay {B b : Nat} {nv : Value} {w w1 : World} {A K : Nat} {a x : Tri} {l : List UInt8} (h : Rn B b nv w A K a x l w1) (hB : B ≤ w.heap.size) (hA : A ≠ b) (hK : K ≠ b) (xs : List (List UInt8)) (cap : Nat) (hn : xs.length ≤ 1000) (hl : l.length + xs.flatten.length ≤ 140737488355328) :
    Calls Tryz.prog 43 #[.pointer (some ⟨b, 0, none⟩), .slice (some ⟨w1.heap.size, 0, none⟩) xs.length cap] (w1.alloc (.cells (xs.map str).toArray 9)) fun e w' => e = .returned (.tuple #[]) ∧ Rn B b nv w A K a x (l ++ xs.flatten) w' := by
  have h2 := h.below hB ((Below.refl _ w1).alloc (Nat.le_refl _) (.cells (xs.map str).toArray 9))
  refine (put_any _ B b w1.heap.size cap nv l xs h2.pb ⟨(xs.map str).toArray, heap_new _ _, fun k y hk => by simp [hk]⟩ (by have := h.pb.lt; omega) hn hl (Nat.le_trans hB h2.be.size)).mono ?_
  rintro e w' ⟨rfl, hp, hb, ho⟩
  exact ⟨rfl, h2.put hA hK hp hb ho⟩

end Tu
end Go.Proofs.YtnffjoipinhojabGreatDoor

set_option linter.unusedSimpArgs false
set_option linter.unusedVariables false
namespace Go.Proofs.YtnffjoipinhojabGreatDoor
open Go.RowKit
namespace Tu

def aheadT (l : List Tri) : Tri := l.getLast?.getD ⟨[], [], []⟩

theorem termN_len (ns : List Nam2) (hs : NmB ns) (t : List UInt8) (hk : kindOf ⟨t.toArray⟩ ≠ 0) : (termN ns t).length ≤ 1000 := by
  have ht : t.length ≤ 200 := by
    have := kindOf_len hk
    rwa [arr_size] at this
  unfold termN
  split
  · have := iriN_len ns hs t (by omega); omega
  · split
    · rename_i h3
      obtain ⟨p, hp, hpp, hf, _⟩ := partsOf3 h3
      obtain ⟨hkl, htl⟩ := parts_kind hpp hf ht
      rw [hp]
      unfold litN
      simp only
      split
      · omega
      · split
        · unfold shortL; split <;> omega
        · split
          · unfold shortL; split <;> omega
          · have h1 := iriN_len ns hs p.kind (by omega)
            have h2 : (Lib.trimSuffix t p.kind).length ≤ 200 := by
              unfold Lib.trimSuffix
              split
              · rw [List.length_take]; omega
              · exact ht
            rw [List.length_append]
            omega
    · omega
theorem verbN_len (ns : List Nam2) (hs : NmB ns) (t : List UInt8) (ht : t.length ≤ 200) : (verbN ns t).length ≤ 1000 := by
  unfold verbN
  split
  · simp
  · have := iriN_len ns hs t (by omega); omega

theorem Pb.setOther {B b A i : Nat} {nv v : Value} {l : List UInt8} {w : World} {cs : Array Value} {T : TypeId} {fz : Nat × Nat} (h : Pb B b nv l w) (hA : w.heap[A]? = some (.cells cs T fz)) (hT : T ≠ 5) (hAb : A ≠ b) : Pb B b nv l (w.setCell ⟨A, i, none⟩ v) := by
  have one : ∀ p, PbAt B b nv p l w → PbAt B b nv p l (w.setCell ⟨A, i, none⟩ v) := by
    intro p x
    obtain ⟨hB, u, hb, hown, hne⟩ := x
    refine ⟨hB, u, by rw [Below.heap_setCell _ _ _ _ (Ne.symm hAb)]; exact hb, ⟨hown.1, ?_⟩, hne⟩
    rcases hown.2 with h1 | ⟨g, cap, cur, fz2, h1, h2, h3, h4⟩
    · exact .inl h1
    · refine .inr ⟨g, cap, cur, fz2, h1, h2, ?_, h4⟩
      rw [Below.heap_setCell _ _ _ _ (fun e => by
        have e : g = A := e
        rw [e, hA] at h3
        exact hT (by cases h3; rfl))]
      exact h3
  exact h.elim (fun x => .inl (one _ x)) (fun x => .inr (one _ x))

theorem Pb.lay {B b : Nat} {nv : Value} {l : List UInt8} {w1 : World} (h : Pb B b nv l w1) (hB : B ≤ w1.heap.size) (xs : List (List UInt8)) (cap : Nat) (hn : xs.length ≤ 1000) (hl : l.length + xs.flatten.length ≤ 140737488355328) :
    Calls Tryz.prog 43 #[.pointer (some ⟨b, 0, none⟩), .slice (some ⟨w1.heap.size, 0, none⟩) xs.length cap] (w1.alloc (.cells (xs.map str).toArray 9)) fun e w' => e = .returned (.tuple #[]) ∧ Pb B b nv (l ++ xs.flatten) w' ∧ Below B w1 w' := by
  have hb0 := (Below.refl _ w1).alloc (Nat.le_refl _) (.cells (xs.map str).toArray 9)
  refine (put_any _ B b w1.heap.size cap nv l xs (h.below hb0) ⟨(xs.map str).toArray, heap_new _ _, fun k y hk => by simp [hk]⟩ (by have := h.lt; omega) hn hl (Nat.le_trans hB hb0.size)).mono ?_
  rintro e w' ⟨rfl, hp, hb, ho⟩
  exact ⟨rfl, hp, (hb0.mono hB).trans hb⟩

/-- the sentence at hand becomes the one ahead -/
def moved (w : World) (A : Nat) (x : Tri) : World := ((w.setCell ⟨A, 0, none⟩ (str x.s)).setCell ⟨A, 1, none⟩ (str x.p)).setCell ⟨A, 2, none⟩ (str x.o)
theorem moved_own {w : World} {A : Nat} {a : Tri} (x : Tri) (h : Own3 w A a) : Own3 (moved w A x) A x := by
  unfold Own3 moved at *
  rw [setCell_blk (setCell_blk (setCell_blk h _) _)]
  rfl
theorem moved_pb {w : World} {B b A : Nat} {nv : Value} {l : List UInt8} {a : Tri} (x : Tri) (h : Own3 w A a) (hp : Pb B b nv l w) (hA : A ≠ b) : Pb B b nv l (moved w A x) := by
  unfold Own3 moved at *
  exact ((hp.setOther h (by decide) hA).setOther (setCell_blk h _) (by decide) hA).setOther (setCell_blk (setCell_blk h _) _) (by decide) hA
theorem moved_below {w w1 : World} {B A : Nat} (x : Tri) (h : Below B w w1) (hA : B ≤ A) : Below B w (moved w1 A x) := ((h.setCell (p := ⟨A, 0, none⟩) hA _).setCell (p := ⟨A, 1, none⟩) hA _).setCell (p := ⟨A, 2, none⟩) hA _
theorem moved_facts {w : World} {A : Nat} {a : Tri} (x : Tri) (h : Own3 w A a) : (w.cell? ⟨A, 0, none⟩ = some (str a.s) ∧ w.frozen? ⟨A, 0, none⟩ = false) ∧ (∀ v, (w.setCell ⟨A, 0, none⟩ v).cell? ⟨A, 1, none⟩ = some (str a.p) ∧ (w.setCell ⟨A, 0, none⟩ v).frozen? ⟨A, 1, none⟩ = false) ∧ (∀ v u, ((w.setCell ⟨A, 0, none⟩ v).setCell ⟨A, 1, none⟩ u).cell? ⟨A, 2, none⟩ = some (str a.o) ∧ ((w.setCell ⟨A, 0, none⟩ v).setCell ⟨A, 1, none⟩ u).frozen? ⟨A, 2, none⟩ = false) := by
  unfold Own3 at h
  refine ⟨⟨by rw [Lib.cell_of_heap h]; rfl, Lib.frozen_of_heap h 0⟩, fun v => ⟨by rw [Lib.cell_of_heap (setCell_blk h v)]; rfl, Lib.frozen_of_heap (setCell_blk h v) 1⟩, fun v u => ⟨by rw [Lib.cell_of_heap (setCell_blk (setCell_blk h v) u)]; rfl, Lib.frozen_of_heap (setCell_blk (setCell_blk h v) u) 2⟩⟩

abbrev RS (K : Nat) (x : Tri) (w' : World) : Prop := w'.cell? ⟨K, 0, none⟩ = some (str x.s) ∧ w'.cell? ⟨K, 1, none⟩ = some (str x.p)

set_option maxHeartbeats 8000000 in
set_option maxRecDepth 20000 in
theorem sentences_some (w : World) (B b g cap : Nat) (nv : Value) (ns : List Nam2) (l : List UInt8) (set : List Tri) (h : Pb B b nv l w) (hn : NmL B nv ns w) (hs : NmB ns) (hT : Tabs w) (hG : 8 ≤ B) (hB : B ≤ w.heap.size) (hg : g < B) (hL : Lies w g set)
    (hx : ∀ x ∈ set, soundT x = true) (hlen : set.length ≤ 300) (hl : l.length + (setN ns set).length ≤ 1099511627776) (h0 : 0 < set.length) :
    Calls Tryz.prog 23 #[.pointer (some ⟨b, 0, none⟩), .slice (some ⟨g, 0, none⟩) set.length cap] w fun e w' => e = .returned (.tuple #[]) ∧ Pb B b nv (l ++ setN ns set) w' ∧ Below B w w' := by
  have hbw := h.lt
  have H0 : Hid (Pb B b nv l w) := h
  have HL : Hid (Lies w g set) := hL
  have HPr : Hid (∀ l' w1, Pb B b nv l' w1 → Below B w w1 → Pr0 B b nv ns w1) := fun l' w1 hp hb => Pr0.of hp hb hn hs hT hG hB
  have HSz : Hid (∀ x ∈ set, (termN ns x.s).length ≤ 1000 ∧ (verbN ns x.p).length ≤ 1000 ∧ (termN ns x.o).length ≤ 1000 ∧ kindOf ⟨x.s.toArray⟩ ≠ 0 ∧ x.p.length ≤ 200 ∧ kindOf ⟨x.o.toArray⟩ ≠ 0) := fun x hm => by
    have k := sound_kinds (hx x hm)
    have k1 : kindOf ⟨x.s.toArray⟩ ≠ 0 := by have := k.1; unfold Back.arr at this; omega
    have k2 : kindOf ⟨x.p.toArray⟩ ≠ 0 := by have := k.2.1; unfold Back.arr at this; omega
    have k3 : kindOf ⟨x.o.toArray⟩ ≠ 0 := k.2.2
    have hp : x.p.length ≤ 200 := by have := kindOf_len k2; rwa [arr_size] at this
    exact ⟨termN_len ns hs _ k1, verbN_len ns hs _ hp, termN_len ns hs _ k3, k1, hp, k3⟩
  have hset : (setN ns set).length = (restN ns .none set).length + 3 := by
    unfold setN
    rw [if_neg (by intro e; rw [e] at h0; simp at h0)]
    simp
  have hfull : restN ns .none set ++ [32, 46, 10] = setN ns set := by
    unfold setN
    rw [if_neg (by intro e; rw [e] at h0; simp at h0)]
  clear h hL hn hs hT hx
  go_enter Tryz.func23, Tryz.ntmps23
  go_wp2_with fail
  go_loopw [9] (fun i wr => ∃ q : Nat, i = .int .i64 q ∧ q ≤ set.length ∧ Pb B b nv (l ++ restN ns .none (set.take q)) wr ∧ Below B w wr ∧ Own3 wr w.heap.size (aheadT (set.take q)) ∧ w.heap.size < wr.heap.size) (fun i wr => set.length - (intOf i).toNat)
  case atStart =>
    refine ⟨0, rfl, Nat.zero_le _, ?_, (Below.refl B w).alloc hB _, ?_, by simp⟩
    · have := H0.out.below ((Below.refl _ w).alloc (Nat.le_refl _) (.cells #[.string ⟨#[]⟩, .string ⟨#[]⟩, .string ⟨#[]⟩] 44))
      simpa [restN] using this
    · exact heap_new _ _
  case round =>
    obtain ⟨q, rfl, hq, hp, hb, ho, hw⟩ := hrel
    have HB : Hid (Below B w wr) := hb
    have HP : Hid (Pb B b nv (l ++ restN ns .none (set.take q)) wr) := hp
    have HO : Hid (Own3 wr w.heap.size (aheadT (set.take q))) := ho
    clear hp hb ho
    by_cases hlt : q < set.length
    · obtain ⟨x, hxq⟩ : ∃ x, set[q]? = some x := ⟨_, List.getElem?_eq_getElem hlt⟩
      obtain ⟨z1, z2, z3, k1, k2, k3⟩ := HSz.out x (List.mem_of_getElem? hxq)
      obtain ⟨c0, c1, c2⟩ := HL.out q x hxq
      have d0 : wr.cell? ⟨g, q * 3, none⟩ = some (str x.s) := (HB.out.cell (p := ⟨g, _, none⟩) hg).trans c0
      have d1 : wr.cell? ⟨g, q * 3 + 1, none⟩ = some (str x.p) := (HB.out.cell (p := ⟨g, _, none⟩) hg).trans c1
      have d2 : wr.cell? ⟨g, q * 3 + 2, none⟩ = some (str x.o) := (HB.out.cell (p := ⟨g, _, none⟩) hg).trans c2
      have HTk : Hid (restN ns .none (set.take (q + 1)) = restN ns .none (set.take q) ++ (headN ns (set.take q).getLast? x ++ termN ns x.o)) := restN_take ns hxq
      have HAh : Hid (aheadT (set.take (q + 1)) = x) := by unfold Hid aheadT; rw [List.take_add_one, hxq]; simp
      have hle := restN_le ns set .none q
      have HR : Hid (Rn B b nv w w.heap.size wr.heap.size (aheadT (set.take q)) x (l ++ restN ns .none (set.take q)) (wr.alloc (.cells #[str x.s, str x.p, str x.o] 44))) := by
        have hbl : Below wr.heap.size wr (wr.alloc (.cells #[str x.s, str x.p, str x.o] 44)) := (Below.refl _ wr).alloc (Nat.le_refl _) _
        exact ⟨HP.out.below hbl, HB.out.trans (hbl.mono (Nat.le_trans hB HB.out.size)), HO.out.below hbl, heap_new _ _⟩
      have HTs : Hid (∀ l' w1, Rn B b nv w w.heap.size wr.heap.size (aheadT (set.take q)) x l' w1 → Calls Tryz.prog 44 #[.pointer (some ⟨b, 0, none⟩), str x.s] w1 fun e w' => e = .returned (str (termN ns x.s)) ∧ Rn B b nv w w.heap.size wr.heap.size (aheadT (set.take q)) x l' w') := fun l' w1 hr => (term_pr w1 B b nv ns x.s (HPr.out l' w1 hr.pb hr.be) k1).mono fun e w' z => ⟨z.1, hr.below hB z.2⟩
      have HTo : Hid (∀ l' w1, Rn B b nv w w.heap.size wr.heap.size (aheadT (set.take q)) x l' w1 → Calls Tryz.prog 44 #[.pointer (some ⟨b, 0, none⟩), str x.o] w1 fun e w' => e = .returned (str (termN ns x.o)) ∧ Rn B b nv w w.heap.size wr.heap.size (aheadT (set.take q)) x l' w') := fun l' w1 hr => (term_pr w1 B b nv ns x.o (HPr.out l' w1 hr.pb hr.be) k3).mono fun e w' z => ⟨z.1, hr.below hB z.2⟩
      have HVb : Hid (∀ l' w1, Rn B b nv w w.heap.size wr.heap.size (aheadT (set.take q)) x l' w1 → Calls Tryz.prog 45 #[.pointer (some ⟨b, 0, none⟩), str x.p] w1 fun e w' => e = .returned (str (verbN ns x.p)) ∧ Rn B b nv w w.heap.size wr.heap.size (aheadT (set.take q)) x l' w') := fun l' w1 hr => (verb_pr w1 B b nv ns x.p (HPr.out l' w1 hr.pb hr.be) k2).mono fun e w' z => ⟨z.1, hr.below hB z.2⟩
      have hAb : w.heap.size ≠ b := by omega
      have hoa := HO.out.cells
      have hwo : ∀ o, (wr.alloc o).cell? ⟨w.heap.size, 0, none⟩ = some (str (aheadT (set.take q)).s) ∧ (wr.alloc o).cell? ⟨w.heap.size, 1, none⟩ = some (str (aheadT (set.take q)).p) := fun o => ⟨(World.cell?_alloc_lt _ _ ⟨w.heap.size, 0, none⟩ hw).trans hoa.1, (World.cell?_alloc_lt _ _ ⟨w.heap.size, 1, none⟩ hw).trans hoa.2.1⟩
      have hwo0 := fun o => (hwo o).1
      have hwo1 := fun o => (hwo o).2
      clear c0 c1 c2 hxq hwo hoa
      have hKb : wr.heap.size ≠ b := by have := HP.out.lt; omega
      have HMv : Hid (∀ w1 : World, ((w1.setCell ⟨w.heap.size, 0, none⟩ (str x.s)).setCell ⟨w.heap.size, 1, none⟩ (str x.p)).setCell ⟨w.heap.size, 2, none⟩ (str x.o) = moved w1 w.heap.size x) := fun w1 => rfl
      by_cases hq0 : q = 0
      · have hq1 : ((q : Int) == 0) = true := by simp [hq0]
        have HHd : Hid ([termN ns x.s, [32], verbN ns x.p, [32]].flatten = headN ns (set.take q).getLast? x) := by unfold Hid; rw [hq0]; simp [headN]
        clear hq0
        go_wp2_with fail
        have HRd := HR.out.below hB (Below.refl _ (wr.alloc (.cells #[str x.s, str x.p, str x.o] 44))).drew
        have HRh : Hid (Rn B b nv w w.heap.size wr.heap.size (aheadT (set.take q)) x (l ++ restN ns .none (set.take q)) (wr.alloc (.cells #[str x.s, str x.p, str x.o] 44)).drew) := HRd
        refine wp_region_held_drew (S := RS wr.heap.size x) (by kernel_rfl) ⟨HRd.ox.cells.1, HRd.ox.cells.2.1⟩ (fun hHeld => ?_)
        clear HRd
        refine wpAnyH_take (i := 0) (v := .pointer (some ⟨b, 0, none⟩)) rfl (by kernel_rfl) (by kernel_rfl) (by kernel_rfl) (fun _ _ _ h => h) (Or.inl ⟨by rfl, fun w' hSw => ?_⟩) (by assumption) ?_
        · obtain ⟨g0, g1⟩ := hSw
          go_simp
        refine wpAnyH_take (i := 1) (v := .pointer (some ⟨b, 0, none⟩)) rfl (by kernel_rfl) (by kernel_rfl) (by kernel_rfl) (fun _ _ _ h => h) (Or.inl ⟨by rfl, fun w' hSw => ?_⟩) (by assumption) ?_
        · obtain ⟨g0, g1⟩ := hSw
          go_simp
        refine wpAnyH_take (i := 2) (v := .pointer (some ⟨wr.heap.size, 0, none⟩)) rfl (by kernel_rfl) (by kernel_rfl) (by kernel_rfl) (fun _ _ _ h => h) (Or.inl ⟨by rfl, fun w' hSw => ?_⟩) (by assumption) ?_
        · obtain ⟨g0, g1⟩ := hSw
          go_simp
        refine wpAnyH_take (i := 3) (v := str x.s) rfl (by kernel_rfl) (by kernel_rfl) (by kernel_rfl) (fun _ _ _ h => h) (Or.inl ⟨by rfl, fun w' hSw => ?_⟩) (by assumption) ?_
        · obtain ⟨g0, g1⟩ := hSw
          go_simp
        refine wpAnyH_take (i := 5) (v := .pointer (some ⟨b, 0, none⟩)) rfl (by kernel_rfl) (by kernel_rfl) (by kernel_rfl) (fun _ _ _ h => h) (Or.inl ⟨by rfl, fun w' hSw => ?_⟩) (by assumption) ?_
        · obtain ⟨g0, g1⟩ := hSw
          go_simp
        refine wpAnyH_take (i := 6) (v := .pointer (some ⟨wr.heap.size, 1, none⟩)) rfl (by kernel_rfl) (by kernel_rfl) (by kernel_rfl) (fun _ _ _ h => h) (Or.inl ⟨by rfl, fun w' hSw => ?_⟩) (by assumption) ?_
        · obtain ⟨g0, g1⟩ := hSw
          go_simp
        refine wpAnyH_take (i := 7) (v := str x.p) rfl (by kernel_rfl) (by kernel_rfl) (by kernel_rfl) (fun _ _ _ h => h) (Or.inl ⟨by rfl, fun w' hSw => ?_⟩) (by assumption) ?_
        · obtain ⟨g0, g1⟩ := hSw
          go_simp
        refine wpAnyH_ready (rs := [4]) (by kernel_rfl) (by simp) (AllReadyH.cons rfl (fun K hK => ?_) AllReadyH.nil)
        go_simp
        go_at_call 44
        refine (HTs.out _ _ HRh.out).mono ?_
        rintro e w2 ⟨rfl, r2⟩
        have HR2 : Hid (Rn B b nv w w.heap.size wr.heap.size (aheadT (set.take q)) x (l ++ restN ns .none (set.take q)) w2) := r2
        refine hK.out _ _ ⟨r2.ox.cells.1, r2.ox.cells.2.1⟩ (fun hHeld2 => ?_)
        clear r2
        refine wpAnyH_ready (rs := [8]) (by kernel_rfl) (by simp) (AllReadyH.cons rfl (fun K hK => ?_) AllReadyH.nil)
        go_simp
        go_at_call 45
        refine (HVb.out _ _ HR2.out).mono ?_
        rintro e w3 ⟨rfl, r3⟩
        have HR3 : Hid (Rn B b nv w w.heap.size wr.heap.size (aheadT (set.take q)) x (l ++ restN ns .none (set.take q)) w3) := r3
        refine hK.out _ _ ⟨r3.ox.cells.1, r3.ox.cells.2.1⟩ (fun hHeld3 => ?_)
        clear r3
        refine wpAnyH_ready (rs := [9]) (by kernel_rfl) (by simp) (AllReadyH.cons rfl (fun K hK => ?_) AllReadyH.nil)
        go_simp
        have HR4 : Hid (Rn B b nv w w.heap.size wr.heap.size (aheadT (set.take q)) x (l ++ restN ns .none (set.take q)) (w3.alloc (.cells #[str (termN ns x.s), .string ⟨#[32]⟩, str (verbN ns x.p), .string ⟨#[32]⟩] 9))) := HR3.out.below hB ((Below.refl _ w3).alloc (Nat.le_refl _) _)
        refine hK.out _ _ ⟨HR4.out.ox.cells.1, HR4.out.ox.cells.2.1⟩ (fun hHeld4 => ?_)
        refine wpAnyH_ready (rs := [10]) (by kernel_rfl) (by simp) (AllReadyH.cons rfl (fun K hK => ?_) AllReadyH.nil)
        go_simp
        go_at_call 43
        refine (HR3.out.lay hB hAb hKb [termN ns x.s, [32], verbN ns x.p, [32]] 4 (by simp) (by simp only [List.length_append, List.flatten_cons, List.flatten_nil, List.length_cons, List.length_nil]; omega)).mono ?_
        rintro e w5 ⟨rfl, r5⟩
        have HR5 : Hid (Rn B b nv w w.heap.size wr.heap.size (aheadT (set.take q)) x (l ++ restN ns .none (set.take q) ++ headN ns (set.take q).getLast? x) w5) := by rw [← HHd.out]; exact r5
        refine hK.out _ _ ⟨r5.ox.cells.1, r5.ox.cells.2.1⟩ (fun hHeld5 => ?_)
        clear r5
        refine wpAnyH_done (by kernel_rfl) ?_ _
        obtain ⟨y0, y1, y2⟩ := HR5.out.ox.cells
        go_wp2_with fail
        refine (HTo.out _ _ HR5.out).mono ?_
        rintro e w6 ⟨rfl, r6⟩
        have HR6 : Hid (Rn B b nv w w.heap.size wr.heap.size (aheadT (set.take q)) x (l ++ restN ns .none (set.take q) ++ headN ns (set.take q).getLast? x) w6) := r6
        clear r6 y0 y1 y2
        go_wp2_with fail
        have hhl : (headN ns (set.take q).getLast? x).length ≤ 3000 := by rw [← HHd.out]; simp only [List.length_append, List.flatten_cons, List.flatten_nil, List.length_cons, List.length_nil]; omega
        refine (HR6.out.lay hB hAb hKb [termN ns x.o] 1 (by simp) (by simp only [List.length_append, List.flatten_cons, List.flatten_nil, List.length_cons, List.length_nil]; omega)).mono ?_
        rintro e w7 ⟨rfl, r7⟩
        have HR7 : Hid (Rn B b nv w w.heap.size wr.heap.size (aheadT (set.take q)) x (l ++ restN ns .none (set.take q) ++ headN ns (set.take q).getLast? x ++ [termN ns x.o].flatten) w7) := r7
        obtain ⟨y0, y1, y2⟩ := r7.ox.cells
        obtain ⟨⟨m0, n0⟩, mn1, mn2⟩ := moved_facts x r7.oa
        have m1 := fun v => (mn1 v).1
        have n1 := fun v => (mn1 v).2
        have m2 := fun v u => (mn2 v u).1
        have n2 := fun v u => (mn2 v u).2
        clear r7 mn1 mn2
        go_wp2_with fail
        rw [HMv.out]
        go_roundw
        case rel =>
          refine ⟨q + 1, by go_num, by omega, ?_, moved_below x HR7.out.be hB, ?_, ?_⟩
          · have := moved_pb x HR7.out.oa HR7.out.pb hAb
            rw [HTk.out]
            simpa [List.append_assoc] using this
          · rw [HAh.out]; exact moved_own x HR7.out.oa
          · have := (moved_own x HR7.out.oa)
            exact (Array.getElem?_eq_some_iff.1 this).1
        case measure => simp [intOf]; omega
      · have hq1 : ((q : Int) == 0) = false := by simp [hq0]
        have hgl : (set.take q).getLast? = some (aheadT (set.take q)) := by
          unfold aheadT
          cases hgl : (set.take q).getLast? with
          | none =>
            rw [List.getLast?_eq_none_iff] at hgl
            have := congrArg List.length hgl
            rw [List.length_take, List.length_nil] at this
            omega
          | some z => rfl
        have HGl : Hid (headN ns (set.take q).getLast? x = if x.s ≠ (aheadT (set.take q)).s then [32, 46, 10] ++ termN ns x.s ++ [32] ++ verbN ns x.p ++ [32] else if x.p ≠ (aheadT (set.take q)).p then [32, 59, 10, 9] ++ verbN ns x.p ++ [32] else [32, 44, 32]) := by unfold Hid; rw [hgl]; rfl
        clear hgl hq0
        by_cases hS : x.s = (aheadT (set.take q)).s
        · have hS1 : (x.s == (aheadT (set.take q)).s) = true := by rw [beq_iff_eq]; exact hS
          by_cases hP : x.p = (aheadT (set.take q)).p
          · have hP1 : (x.p == (aheadT (set.take q)).p) = true := by rw [beq_iff_eq]; exact hP
            have HHd : Hid ([[32, 44, 32]].flatten = headN ns (set.take q).getLast? x) := by unfold Hid; rw [HGl.out, if_neg (by simpa using hS), if_neg (by simpa using hP)]; rfl
            clear hS hP
            go_wp2_with fail
            have HLy := HR.out.lay hB hAb hKb [[32, 44, 32]] 1 (by simp) (by simp only [List.length_append, List.flatten_cons, List.flatten_nil, List.length_cons, List.length_nil]; omega)
            rw [show (wr.alloc (.cells #[str x.s, str x.p, str x.o] 44)).heap.size = wr.heap.size + 1 by simp] at HLy
            refine HLy.mono ?_
            rintro e w5 ⟨rfl, r5⟩
            have HR5 : Hid (Rn B b nv w w.heap.size wr.heap.size (aheadT (set.take q)) x (l ++ restN ns .none (set.take q) ++ headN ns (set.take q).getLast? x) w5) := by rw [← HHd.out]; exact r5
            clear r5
            obtain ⟨y0, y1, y2⟩ := HR5.out.ox.cells
            go_wp2_with fail
            refine (HTo.out _ _ HR5.out).mono ?_
            rintro e w6 ⟨rfl, r6⟩
            have HR6 : Hid (Rn B b nv w w.heap.size wr.heap.size (aheadT (set.take q)) x (l ++ restN ns .none (set.take q) ++ headN ns (set.take q).getLast? x) w6) := r6
            clear r6 y0 y1 y2
            go_wp2_with fail
            have hhl : (headN ns (set.take q).getLast? x).length ≤ 3000 := by rw [← HHd.out]; simp only [List.length_append, List.flatten_cons, List.flatten_nil, List.length_cons, List.length_nil]; omega
            refine (HR6.out.lay hB hAb hKb [termN ns x.o] 1 (by simp) (by simp only [List.length_append, List.flatten_cons, List.flatten_nil, List.length_cons, List.length_nil]; omega)).mono ?_
            rintro e w7 ⟨rfl, r7⟩
            have HR7 : Hid (Rn B b nv w w.heap.size wr.heap.size (aheadT (set.take q)) x (l ++ restN ns .none (set.take q) ++ headN ns (set.take q).getLast? x ++ [termN ns x.o].flatten) w7) := r7
            obtain ⟨y0, y1, y2⟩ := r7.ox.cells
            obtain ⟨⟨m0, n0⟩, mn1, mn2⟩ := moved_facts x r7.oa
            have m1 := fun v => (mn1 v).1
            have n1 := fun v => (mn1 v).2
            have m2 := fun v u => (mn2 v u).1
            have n2 := fun v u => (mn2 v u).2
            clear r7 mn1 mn2
            go_wp2_with fail
            rw [HMv.out]
            go_roundw
            case rel =>
              refine ⟨q + 1, by go_num, by omega, ?_, moved_below x HR7.out.be hB, ?_, ?_⟩
              · have := moved_pb x HR7.out.oa HR7.out.pb hAb
                rw [HTk.out]
                simpa [List.append_assoc] using this
              · rw [HAh.out]; exact moved_own x HR7.out.oa
              · have := (moved_own x HR7.out.oa)
                exact (Array.getElem?_eq_some_iff.1 this).1
            case measure => simp [intOf]; omega
          · have hP1 : (x.p == (aheadT (set.take q)).p) = false := by rw [beq_eq_false_iff_ne]; exact hP
            have HHd : Hid ([[32, 59, 10, 9], verbN ns x.p, [32]].flatten = headN ns (set.take q).getLast? x) := by unfold Hid; rw [HGl.out, if_neg (by simpa using hS), if_pos hP]; simp
            clear hS hP
            go_wp2_with fail
            refine (HVb.out _ _ HR.out).mono ?_
            rintro e w3 ⟨rfl, r3⟩
            have HR3 : Hid (Rn B b nv w w.heap.size wr.heap.size (aheadT (set.take q)) x (l ++ restN ns .none (set.take q)) w3) := r3
            clear r3
            go_wp2_with fail
            refine (HR3.out.lay hB hAb hKb [[32, 59, 10, 9], verbN ns x.p, [32]] 3 (by simp) (by simp only [List.length_append, List.flatten_cons, List.flatten_nil, List.length_cons, List.length_nil]; omega)).mono ?_
            rintro e w5 ⟨rfl, r5⟩
            have HR5 : Hid (Rn B b nv w w.heap.size wr.heap.size (aheadT (set.take q)) x (l ++ restN ns .none (set.take q) ++ headN ns (set.take q).getLast? x) w5) := by rw [← HHd.out]; exact r5
            clear r5
            obtain ⟨y0, y1, y2⟩ := HR5.out.ox.cells
            go_wp2_with fail
            refine (HTo.out _ _ HR5.out).mono ?_
            rintro e w6 ⟨rfl, r6⟩
            have HR6 : Hid (Rn B b nv w w.heap.size wr.heap.size (aheadT (set.take q)) x (l ++ restN ns .none (set.take q) ++ headN ns (set.take q).getLast? x) w6) := r6
            clear r6 y0 y1 y2
            go_wp2_with fail
            have hhl : (headN ns (set.take q).getLast? x).length ≤ 3000 := by rw [← HHd.out]; simp only [List.length_append, List.flatten_cons, List.flatten_nil, List.length_cons, List.length_nil]; omega
            refine (HR6.out.lay hB hAb hKb [termN ns x.o] 1 (by simp) (by simp only [List.length_append, List.flatten_cons, List.flatten_nil, List.length_cons, List.length_nil]; omega)).mono ?_
            rintro e w7 ⟨rfl, r7⟩
            have HR7 : Hid (Rn B b nv w w.heap.size wr.heap.size (aheadT (set.take q)) x (l ++ restN ns .none (set.take q) ++ headN ns (set.take q).getLast? x ++ [termN ns x.o].flatten) w7) := r7
            obtain ⟨y0, y1, y2⟩ := r7.ox.cells
            obtain ⟨⟨m0, n0⟩, mn1, mn2⟩ := moved_facts x r7.oa
            have m1 := fun v => (mn1 v).1
            have n1 := fun v => (mn1 v).2
            have m2 := fun v u => (mn2 v u).1
            have n2 := fun v u => (mn2 v u).2
            clear r7 mn1 mn2
            go_wp2_with fail
            rw [HMv.out]
            go_roundw
            case rel =>
              refine ⟨q + 1, by go_num, by omega, ?_, moved_below x HR7.out.be hB, ?_, ?_⟩
              · have := moved_pb x HR7.out.oa HR7.out.pb hAb
                rw [HTk.out]
                simpa [List.append_assoc] using this
              · rw [HAh.out]; exact moved_own x HR7.out.oa
              · have := (moved_own x HR7.out.oa)
                exact (Array.getElem?_eq_some_iff.1 this).1
            case measure => simp [intOf]; omega
        · have hS1 : (x.s == (aheadT (set.take q)).s) = false := by rw [beq_eq_false_iff_ne]; exact hS
          have HHd : Hid ([[32, 46, 10], termN ns x.s, [32], verbN ns x.p, [32]].flatten = headN ns (set.take q).getLast? x) := by unfold Hid; rw [HGl.out, if_pos hS]; simp
          clear hS
          go_wp2_with fail
          have HRd := HR.out.below hB (Below.refl _ (wr.alloc (.cells #[str x.s, str x.p, str x.o] 44))).drew
          have HRh : Hid (Rn B b nv w w.heap.size wr.heap.size (aheadT (set.take q)) x (l ++ restN ns .none (set.take q)) (wr.alloc (.cells #[str x.s, str x.p, str x.o] 44)).drew) := HRd
          refine wp_region_held_drew (S := RS wr.heap.size x) (by kernel_rfl) ⟨HRd.ox.cells.1, HRd.ox.cells.2.1⟩ (fun hHeld => ?_)
          clear HRd
          refine wpAnyH_take (i := 0) (v := .pointer (some ⟨b, 0, none⟩)) rfl (by kernel_rfl) (by kernel_rfl) (by kernel_rfl) (fun _ _ _ h => h) (Or.inl ⟨by rfl, fun w' hSw => ?_⟩) (by assumption) ?_
          · obtain ⟨g0, g1⟩ := hSw
            go_simp
          refine wpAnyH_take (i := 1) (v := .pointer (some ⟨b, 0, none⟩)) rfl (by kernel_rfl) (by kernel_rfl) (by kernel_rfl) (fun _ _ _ h => h) (Or.inl ⟨by rfl, fun w' hSw => ?_⟩) (by assumption) ?_
          · obtain ⟨g0, g1⟩ := hSw
            go_simp
          refine wpAnyH_take (i := 2) (v := .pointer (some ⟨wr.heap.size, 0, none⟩)) rfl (by kernel_rfl) (by kernel_rfl) (by kernel_rfl) (fun _ _ _ h => h) (Or.inl ⟨by rfl, fun w' hSw => ?_⟩) (by assumption) ?_
          · obtain ⟨g0, g1⟩ := hSw
            go_simp
          refine wpAnyH_take (i := 3) (v := str x.s) rfl (by kernel_rfl) (by kernel_rfl) (by kernel_rfl) (fun _ _ _ h => h) (Or.inl ⟨by rfl, fun w' hSw => ?_⟩) (by assumption) ?_
          · obtain ⟨g0, g1⟩ := hSw
            go_simp
          refine wpAnyH_take (i := 5) (v := .pointer (some ⟨b, 0, none⟩)) rfl (by kernel_rfl) (by kernel_rfl) (by kernel_rfl) (fun _ _ _ h => h) (Or.inl ⟨by rfl, fun w' hSw => ?_⟩) (by assumption) ?_
          · obtain ⟨g0, g1⟩ := hSw
            go_simp
          refine wpAnyH_take (i := 6) (v := .pointer (some ⟨wr.heap.size, 1, none⟩)) rfl (by kernel_rfl) (by kernel_rfl) (by kernel_rfl) (fun _ _ _ h => h) (Or.inl ⟨by rfl, fun w' hSw => ?_⟩) (by assumption) ?_
          · obtain ⟨g0, g1⟩ := hSw
            go_simp
          refine wpAnyH_take (i := 7) (v := str x.p) rfl (by kernel_rfl) (by kernel_rfl) (by kernel_rfl) (fun _ _ _ h => h) (Or.inl ⟨by rfl, fun w' hSw => ?_⟩) (by assumption) ?_
          · obtain ⟨g0, g1⟩ := hSw
            go_simp
          refine wpAnyH_ready (rs := [4]) (by kernel_rfl) (by simp) (AllReadyH.cons rfl (fun K hK => ?_) AllReadyH.nil)
          go_simp
          go_at_call 44
          refine (HTs.out _ _ HRh.out).mono ?_
          rintro e w2 ⟨rfl, r2⟩
          have HR2 : Hid (Rn B b nv w w.heap.size wr.heap.size (aheadT (set.take q)) x (l ++ restN ns .none (set.take q)) w2) := r2
          refine hK.out _ _ ⟨r2.ox.cells.1, r2.ox.cells.2.1⟩ (fun hHeld2 => ?_)
          clear r2
          refine wpAnyH_ready (rs := [8]) (by kernel_rfl) (by simp) (AllReadyH.cons rfl (fun K hK => ?_) AllReadyH.nil)
          go_simp
          go_at_call 45
          refine (HVb.out _ _ HR2.out).mono ?_
          rintro e w3 ⟨rfl, r3⟩
          have HR3 : Hid (Rn B b nv w w.heap.size wr.heap.size (aheadT (set.take q)) x (l ++ restN ns .none (set.take q)) w3) := r3
          refine hK.out _ _ ⟨r3.ox.cells.1, r3.ox.cells.2.1⟩ (fun hHeld3 => ?_)
          clear r3
          refine wpAnyH_ready (rs := [9]) (by kernel_rfl) (by simp) (AllReadyH.cons rfl (fun K hK => ?_) AllReadyH.nil)
          go_simp
          have HR4 : Hid (Rn B b nv w w.heap.size wr.heap.size (aheadT (set.take q)) x (l ++ restN ns .none (set.take q)) (w3.alloc (.cells #[.string ⟨#[32, 46, 10]⟩, str (termN ns x.s), .string ⟨#[32]⟩, str (verbN ns x.p), .string ⟨#[32]⟩] 9))) := HR3.out.below hB ((Below.refl _ w3).alloc (Nat.le_refl _) _)
          refine hK.out _ _ ⟨HR4.out.ox.cells.1, HR4.out.ox.cells.2.1⟩ (fun hHeld4 => ?_)
          refine wpAnyH_ready (rs := [10]) (by kernel_rfl) (by simp) (AllReadyH.cons rfl (fun K hK => ?_) AllReadyH.nil)
          go_simp
          go_at_call 43
          refine (HR3.out.lay hB hAb hKb [[32, 46, 10], termN ns x.s, [32], verbN ns x.p, [32]] 5 (by simp) (by simp only [List.length_append, List.flatten_cons, List.flatten_nil, List.length_cons, List.length_nil]; omega)).mono ?_
          rintro e w5 ⟨rfl, r5⟩
          have HR5 : Hid (Rn B b nv w w.heap.size wr.heap.size (aheadT (set.take q)) x (l ++ restN ns .none (set.take q) ++ headN ns (set.take q).getLast? x) w5) := by rw [← HHd.out]; exact r5
          refine hK.out _ _ ⟨r5.ox.cells.1, r5.ox.cells.2.1⟩ (fun hHeld5 => ?_)
          clear r5
          refine wpAnyH_done (by kernel_rfl) ?_ _
          obtain ⟨y0, y1, y2⟩ := HR5.out.ox.cells
          go_wp2_with fail
          refine (HTo.out _ _ HR5.out).mono ?_
          rintro e w6 ⟨rfl, r6⟩
          have HR6 : Hid (Rn B b nv w w.heap.size wr.heap.size (aheadT (set.take q)) x (l ++ restN ns .none (set.take q) ++ headN ns (set.take q).getLast? x) w6) := r6
          clear r6 y0 y1 y2
          go_wp2_with fail
          have hhl : (headN ns (set.take q).getLast? x).length ≤ 3000 := by rw [← HHd.out]; simp only [List.length_append, List.flatten_cons, List.flatten_nil, List.length_cons, List.length_nil]; omega
          refine (HR6.out.lay hB hAb hKb [termN ns x.o] 1 (by simp) (by simp only [List.length_append, List.flatten_cons, List.flatten_nil, List.length_cons, List.length_nil]; omega)).mono ?_
          rintro e w7 ⟨rfl, r7⟩
          have HR7 : Hid (Rn B b nv w w.heap.size wr.heap.size (aheadT (set.take q)) x (l ++ restN ns .none (set.take q) ++ headN ns (set.take q).getLast? x ++ [termN ns x.o].flatten) w7) := r7
          obtain ⟨y0, y1, y2⟩ := r7.ox.cells
          obtain ⟨⟨m0, n0⟩, mn1, mn2⟩ := moved_facts x r7.oa
          have m1 := fun v => (mn1 v).1
          have n1 := fun v => (mn1 v).2
          have m2 := fun v u => (mn2 v u).1
          have n2 := fun v u => (mn2 v u).2
          clear r7 mn1 mn2
          go_wp2_with fail
          rw [HMv.out]
          go_roundw
          case rel =>
            refine ⟨q + 1, by go_num, by omega, ?_, moved_below x HR7.out.be hB, ?_, ?_⟩
            · have := moved_pb x HR7.out.oa HR7.out.pb hAb
              rw [HTk.out]
              simpa [List.append_assoc] using this
            · rw [HAh.out]; exact moved_own x HR7.out.oa
            · have := (moved_own x HR7.out.oa)
              exact (Array.getElem?_eq_some_iff.1 this).1
          case measure => simp [intOf]; omega
    · have hqe : q = set.length := by omega
      subst hqe
      have HP2 : Hid (Pb B b nv (l ++ restN ns .none set) wr) := by have := HP.out; rw [List.take_length] at this; exact this
      have hpos : ¬ ((set.length : Int) ≤ 0) := by omega
      clear HO HSz HPr HL
      go_wp2_with fail
      refine (HP2.out.lay (Nat.le_trans hB HB.out.size) [[32, 46, 10]] 1 (by simp) (by simp only [List.length_append, List.flatten_cons, List.flatten_nil, List.length_cons, List.length_nil]; omega)).mono ?_
      rintro e w7 ⟨rfl, p7, b7⟩
      have H7 : Hid (Pb B b nv (l ++ setN ns set) w7 ∧ Below B w w7) := ⟨by rw [← hfull, ← List.append_assoc]; simpa using p7, HB.out.trans b7⟩
      clear p7 b7
      go_wp2
      go_end0
      exact ⟨rfl, H7.out⟩

end Tu
end Go.Proofs.YtnffjoipinhojabGreatDoor

