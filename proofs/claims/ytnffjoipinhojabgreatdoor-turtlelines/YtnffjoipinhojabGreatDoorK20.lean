import Derived.Test.YtnffjoipinhojabGreatDoorK19
set_option linter.unusedSimpArgs false
set_option linter.unusedVariables false
namespace Go.Proofs.YtnffjoipinhojabGreatDoor
open Go.RowKit
namespace Tu

/-! What a call lays for itself. -/
theorem Pz.said_lt {w0 w : World} {b m : Nat} {s : ByteArray} {st : St} (h : Pz w0 b m s st w) {g : Nat} (hg : saidB w b = some g) : g < w.heap.size ∧ w0.heap.size ≤ g := by
  obtain ⟨k, v, hh, hi, ho⟩ := h.blk
  rw [saidB_blk hh] at hg
  rcases ho.2 with ⟨rfl, _⟩ | ⟨g', cap, cur, rfl, hg', hc, _⟩
  · cases hg
  · simp [Value.ownBlock] at hg
    subst hg
    exact ⟨(Array.getElem?_eq_some_iff.1 hc).1, hg'⟩

theorem said_same {w w' : World} {b : Nat} (h : w'.heap[b]? = w.heap[b]?) : saidB w' b = saidB w b := by
  unfold saidB
  rw [World.cell?_of_block (w := w) (a := ⟨b, 6, none⟩) h]

/-- the block k is this call's own: it is none of the parser's -/
structure Loc (w0 : World) (b k : Nat) (w : World) : Prop where
  ge : w0.heap.size ≤ k
  lt : k < w.heap.size
  ne : some k ≠ saidB w b

theorem Loc.of_alloc {w0 w : World} {b m : Nat} {s : ByteArray} {st : St} (h : Pz w0 b m s st w) (o : Obj) : Loc w0 b w.heap.size (w.alloc o) := by
  refine ⟨h.fq.size, by simp, ?_⟩
  rw [said_same (w := w) (Below.heap_alloc _ _ _ h.lt)]
  intro e
  have := (h.said_lt e.symm).1
  omega
theorem Loc.on {w0 w w' : World} {b k : Nat} (h : Loc w0 b k w) (a : Kp w0 b w w') : Loc w0 b k w' := by
  refine ⟨h.ge, Nat.lt_of_lt_of_le h.lt a.sz, ?_⟩
  rcases a.sb with e | e
  · rw [e]; exact h.ne
  · intro e2
    have := e k e2.symm
    have := h.lt
    omega
theorem Loc.same {w0 w w' : World} {b k : Nat} (h : Loc w0 b k w) (a : Kp w0 b w w') : w'.heap[k]? = w.heap[k]? := a.kp k h.ge h.lt h.ne
theorem Loc.cell {w0 w w' : World} {b k o : Nat} (h : Loc w0 b k w) (a : Kp w0 b w w') : w'.cell? ⟨k, o, none⟩ = w.cell? ⟨k, o, none⟩ := World.cell?_of_block (h.same a)
theorem Loc.frozen {w0 w w' : World} {b k o : Nat} (h : Loc w0 b k w) (a : Kp w0 b w w') : w'.frozen? ⟨k, o, none⟩ = w.frozen? ⟨k, o, none⟩ := World.frozen?_of_block (h.same a)

/-- a cell of the call's own is set -/
theorem Pz.local {w0 w : World} {b m k o : Nat} {s : ByteArray} {st : St} (h : Pz w0 b m s st w) (l : Loc w0 b k w) (u : Value) : Pz w0 b m s st (w.setCell ⟨k, o, none⟩ u) := by
  obtain ⟨q, v, hh, hi, ho⟩ := h.blk
  have hbl := h.bl
  have hml := h.ml
  have hge := l.ge
  refine ⟨⟨q, v, by rw [Below.heap_setCell _ _ _ _ (show b ≠ k by omega)]; exact hh, hi, ?_⟩, h.nm.same (Below.heap_setCell _ _ _ _ (show m ≠ k by omega)), ⟨by simpa using h.fq.size, h.fq.os, fun g hg hgb hgm => by rw [Below.heap_setCell _ _ _ _ (show g ≠ k by omega)]; exact h.fq.but g hg hgb hgm⟩, h.bl, h.ml, h.ne, h.gb, h.gm, h.sz, h.wf⟩
  have hne := l.ne
  rw [saidB_blk hh] at hne
  rcases ho.2 with ⟨rfl, h0⟩ | ⟨g', cap, cur, rfl, hg', hc, r⟩
  · exact ⟨ho.1, Or.inl ⟨rfl, h0⟩⟩
  · refine ⟨ho.1, Or.inr ⟨g', cap, cur, rfl, hg', ?_, r⟩⟩
    rw [Below.heap_setCell _ _ _ _ (fun e => hne (by simp [Value.ownBlock]; exact e.symm))]
    exact hc

/-- what is laid behind w may be written -/
theorem Kp.local {w0 w w1 : World} {b k o : Nat} (a : Kp w0 b w w1) (hk : w.heap.size ≤ k) (hb : b < w.heap.size) (u : Value) : Kp w0 b w (w1.setCell ⟨k, o, none⟩ u) := by
  refine ⟨fun x h0 hx hn => by rw [Below.heap_setCell _ _ _ _ (show x ≠ k by omega)]; exact a.kp x h0 hx hn, ?_, by simpa using a.sz⟩
  rw [said_same (w := w1) (Below.heap_setCell _ _ _ _ (show b ≠ k by omega))]
  exact a.sb

/-! A literal. -/
/-- what literal has at hand when all is read -/
abbrev LS (w0 w : World) (b m : Nat) (s : ByteArray) (st : St) (p : Nat) (t l k : List UInt8) (w' : World) : Prop :=
  w'.cell? ⟨w.heap.size, 0, none⟩ = some (.int .i64 p) ∧ w'.cell? ⟨w.heap.size, 1, none⟩ = some (str t) ∧ w'.cell? ⟨w.heap.size + 1, 0, none⟩ = some (str t) ∧ w'.cell? ⟨w.heap.size + 1, 1, none⟩ = some (str l) ∧ w'.cell? ⟨w.heap.size + 1, 2, none⟩ = some (str k) ∧ PK w0 b m s st w w'
theorem LS.keep {w0 w : World} {b m : Nat} {s : ByteArray} {st : St} {p : Nat} {t l k : List UInt8} {w1 w2 : World} (h : LS w0 w b m s st p t l k w1) (a : Below w1.heap.size w1 w2) : LS w0 w b m s st p t l k w2 := by
  obtain ⟨h1, h2, h3, h4, h5, h6⟩ := h
  have l1 := World.block_lt_of_cell? w1 ⟨w.heap.size, 0, none⟩ h1
  have l2 := World.block_lt_of_cell? w1 ⟨w.heap.size + 1, 0, none⟩ h3
  exact ⟨(a.cell (p := ⟨w.heap.size, 0, none⟩) l1).trans h1, (a.cell (p := ⟨w.heap.size, 1, none⟩) l1).trans h2, (a.cell (p := ⟨w.heap.size + 1, 0, none⟩) l2).trans h3, (a.cell (p := ⟨w.heap.size + 1, 1, none⟩) l2).trans h4, (a.cell (p := ⟨w.heap.size + 1, 2, none⟩) l2).trans h5, h6.same a⟩
theorem LS.drew {w0 w : World} {b m : Nat} {s : ByteArray} {st : St} {p : Nat} {t l k : List UInt8} {w1 : World} (h : LS w0 w b m s st p t l k w1) : LS w0 w b m s st p t l k w1.drew := h.keep (Below.refl _ w1).drew

/-- what literal lays first -/
def lW (w : World) (p : Nat) (t : List UInt8) : World := (w.alloc (.cells #[.int .i64 p, str t] 152)).alloc (.cells #[str t, str [], str []] 244)
theorem lW_size (w : World) (p : Nat) (t : List UInt8) : (lW w p t).heap.size = w.heap.size + 2 := by simp [lW]
theorem lW_b1 (w : World) (p : Nat) (t : List UInt8) : (lW w p t).heap[w.heap.size]? = some (.cells #[.int .i64 p, str t] 152 (0, 0)) := by
  unfold lW
  rw [Below.heap_alloc _ _ _ (by simp)]
  exact heap_new _ _
theorem lW_b2 (w : World) (p : Nat) (t : List UInt8) : (lW w p t).heap[w.heap.size + 1]? = some (.cells #[str t, str [], str []] 244 (0, 0)) := by
  unfold lW
  have := heap_new (w.alloc (.cells #[.int .i64 p, str t] 152)) (.cells #[str t, str [], str []] 244)
  simpa using this
theorem lW_pk {w0 w : World} {b m : Nat} {s : ByteArray} {st : St} (h : Pz w0 b m s st w) (p : Nat) (t : List UInt8) : PK w0 b m s st w (lW w p t) := ((PK.refl h).alloc _).alloc _
theorem lW_loc {w0 w : World} {b m : Nat} {s : ByteArray} {st : St} (h : Pz w0 b m s st w) (p : Nat) (t : List UInt8) : Loc w0 b w.heap.size (lW w p t) ∧ Loc w0 b (w.heap.size + 1) (lW w p t) := by
  have l1 := Loc.of_alloc h (.cells #[.int .i64 p, str t] 152)
  have h1 := (PK.refl h).alloc (.cells #[.int .i64 p, str t] 152)
  have l2 := Loc.of_alloc h1.1 (.cells #[str t, str [], str []] 244)
  have k2 := (h1.1.keep ((Below.refl _ _).alloc (Nat.le_refl _) (.cells #[str t, str [], str []] 244))).2
  refine ⟨l1.on k2, ?_⟩
  have e : (w.alloc (.cells #[.int .i64 p, str t] 152)).heap.size = w.heap.size + 1 := by simp
  rw [e] at l2
  exact l2
/-- what it has laid stays -/
theorem lW_at {w0 w w2 : World} {b m : Nat} {s : ByteArray} {st : St} (h : Pz w0 b m s st w) {p : Nat} {t : List UInt8} (a : Kp w0 b (lW w p t) w2) : w2.heap[w.heap.size]? = some (.cells #[.int .i64 p, str t] 152 (0, 0)) ∧ w2.heap[w.heap.size + 1]? = some (.cells #[str t, str [], str []] 244 (0, 0)) :=
  ⟨((lW_loc h p t).1.same a).trans (lW_b1 w p t), ((lW_loc h p t).2.same a).trans (lW_b2 w p t)⟩

theorem LS.of {w0 w w2 : World} {b m : Nat} {s : ByteArray} {st st2 : St} (h : Pz w0 b m s st w) {p : Nat} {t : List UInt8} (hp : PK w0 b m s st2 (lW w p t) w2) : LS w0 w b m s st2 p t [] [] w2 := by
  obtain ⟨b1, b2⟩ := lW_at h hp.2
  exact ⟨by rw [Lib.cell_of_heap b1]; rfl, by rw [Lib.cell_of_heap b1]; rfl, by rw [Lib.cell_of_heap b2]; rfl, by rw [Lib.cell_of_heap b2]; rfl, by rw [Lib.cell_of_heap b2]; rfl, (lW_pk h p t).on hp⟩
theorem LS.lang {w0 w w2 : World} {b m : Nat} {s : ByteArray} {st st2 : St} (h : Pz w0 b m s st w) {p : Nat} {t : List UInt8} (hp : PK w0 b m s st2 (lW w p t) w2) (l : List UInt8) : LS w0 w b m s st2 p t l [] (w2.setCell ⟨w.heap.size + 1, 1, none⟩ (str l)) := by
  obtain ⟨b1, b2⟩ := lW_at h hp.2
  have c1 : (w2.setCell ⟨w.heap.size + 1, 1, none⟩ (str l)).heap[w.heap.size]? = some (.cells #[.int .i64 p, str t] 152 (0, 0)) := by rw [Below.heap_setCell _ _ _ _ (by simp)]; exact b1
  have c2 := setCell_blk (o := 1) b2 (str l)
  refine ⟨by rw [Lib.cell_of_heap c1]; rfl, by rw [Lib.cell_of_heap c1]; rfl, by rw [Lib.cell_of_heap c2]; rfl, by rw [Lib.cell_of_heap c2]; rfl, by rw [Lib.cell_of_heap c2]; rfl, hp.1.local ((lW_loc h p t).2.on hp.2) _, ?_⟩
  exact ((lW_pk h p t).2.trans hp.2).local (by omega) h.lt _
theorem LS.kind {w0 w w2 : World} {b m : Nat} {s : ByteArray} {st st2 : St} (h : Pz w0 b m s st w) {p : Nat} {t : List UInt8} (hp : PK w0 b m s st2 (lW w p t) w2) (l : List UInt8) : LS w0 w b m s st2 p t [] l (w2.setCell ⟨w.heap.size + 1, 2, none⟩ (str l)) := by
  obtain ⟨b1, b2⟩ := lW_at h hp.2
  have c1 : (w2.setCell ⟨w.heap.size + 1, 2, none⟩ (str l)).heap[w.heap.size]? = some (.cells #[.int .i64 p, str t] 152 (0, 0)) := by rw [Below.heap_setCell _ _ _ _ (by simp)]; exact b1
  have c2 := setCell_blk (o := 2) b2 (str l)
  refine ⟨by rw [Lib.cell_of_heap c1]; rfl, by rw [Lib.cell_of_heap c1]; rfl, by rw [Lib.cell_of_heap c2]; rfl, by rw [Lib.cell_of_heap c2]; rfl, by rw [Lib.cell_of_heap c2]; rfl, hp.1.local ((lW_loc h p t).2.on hp.2) _, ?_⟩
  exact ((lW_pk h p t).2.trans hp.2).local (by omega) h.lt _

theorem lit_cases (sg : Sg) : (∃ l, sg = .lan l) ∨ sg = .knd ∨ (Sg.is_lan sg = false ∧ Sg.is_knd sg = false) := by
  cases sg
  case lan l => exact Or.inl ⟨l, rfl⟩
  case knd => exact Or.inr (Or.inl rfl)
  all_goals exact Or.inr (Or.inr ⟨rfl, rfl⟩)

set_option maxHeartbeats 2000000 in
set_option maxRecDepth 20000 in
theorem lit_lan_ok (w0 w : World) (b m : Nat) (s : ByteArray) (st : St) (t : List UInt8) (h : Pz w0 b m s st w) (hT : Tabs w0) (hx : st.now = .str t) (l : List UInt8) (hn : (step s st).now = .lan l) (h200 : (form t l []).length ≤ 200) :
    Calls Tryz.prog 202 #[.pointer (some ⟨b, 0, none⟩), .agg #[.int .i64 st.p, str t]] w (POk w0 b m s w (str (form t l [])) (step s (step s st))) := by
  have hbw := h.lt
  have hsz := h.sz
  have htk := h.wf.tk
  rw [hx] at htk
  have wf1 := h.wf.step
  have htk2 := wf1.tk
  rw [hn] at htk2
  have hl0 : asc l := htk2.1
  have hl1 : l.length ≤ 4398046511104 := by have := htk2.2; omega
  have hk1 : ([] : List UInt8).length ≤ 43980465111040 := by simp
  have HFm : Hid (∀ w1, Calls Tryz.prog 203 #[.agg #[str t, str l, str []]] w1 fun e w' => e = .returned (str (form t l [])) ∧ Below w1.heap.size w1 w') := fun w1 => form_any w1 t l [] htk.1 hl0 (by have := htk.2; omega) hl1 hk1
  have HBd : Hid (∀ w1, Calls Tryz.prog 94 #[.iface 152 (.agg #[.int .i64 st.p, str t]), str (form t l [])] w1 fun e w' => e = .returned (str (form t l [])) ∧ w' = w1) := fun w1 => bounded_ok w1 (.str t) st.p _ h200
  have HW : Hid ((w.alloc (.cells #[.int .i64 st.p, str t] 152)).alloc (.cells #[str t, .string ⟨#[]⟩, .string ⟨#[]⟩] 244) = lW w st.p t) := rfl
  have HS1 : Hid (Calls Tryz.prog 55 #[.pointer (some ⟨b, 0, none⟩)] (lW w st.p t) fun e w' => e = .returned (.tuple #[]) ∧ PK w0 b m s (step s st) (lW w st.p t) w') := step_any w0 _ b m s st (lW_pk h st.p t).1 hT (by rw [hx]; rfl)
  have HC2 : Hid (∀ w2, PK w0 b m s (step s st) (lW w st.p t) w2 → w2.cell? ⟨b, 2, none⟩ = some (tokV (step s st).now (step s st).p) ∧ b < w2.heap.size) := fun w2 hp => ⟨hp.1.cell.1, hp.1.lt⟩
  have HP : Hid (Pz w0 b m s st w) := h
  have hta := as_lan_yes l (step s st).p
  have HS2 : Hid (∀ w2 o, PK w0 b m s (step s st) (lW w st.p t) w2 → Calls Tryz.prog 55 #[.pointer (some ⟨b, 0, none⟩)] (w2.alloc o) fun e w' => e = .returned (.tuple #[]) ∧ PK w0 b m s (step s (step s st)) (lW w st.p t) w' ∧ w'.heap[w2.heap.size]? = some o) := fun w2 o hp => by
    refine (step_any w0 (w2.alloc o) b m s (step s st) (hp.alloc o).1 hT (by rw [hn]; rfl)).mono ?_
    rintro e w' ⟨rfl, hp2⟩
    refine ⟨rfl, (hp.alloc o).on hp2, ?_⟩
    rw [(Loc.of_alloc hp.1 o).same hp2.2]
    exact heap_new _ _
  have HCl : Hid (∀ w2, PK w0 b m s (step s (step s st)) (lW w st.p t) w2 → w2.cell? ⟨w.heap.size + 1, 1, none⟩ = some (str []) ∧ w2.frozen? ⟨w.heap.size + 1, 1, none⟩ = false) := fun w2 hp => by
    have b2 := (lW_at HP.out hp.2).2
    exact ⟨by rw [Lib.cell_of_heap b2]; rfl, Lib.frozen_of_heap b2 1⟩
  obtain ⟨l', hl'⟩ : ∃ l' , l' = form t l [] := ⟨_, rfl⟩
  rw [← hl'] at HFm HBd
  rw [← hl']
  rw [hn] at HC2
  clear hl' h hT hx htk wf1 h200 hn htk2 hl0 hl1 hk1 hsz
  go_enter Tryz.func202, Tryz.ntmps202
  go_wp2_with fail
  rw [HW.out]
  refine HS1.out.mono ?_
  rintro e w2 ⟨rfl, hp2⟩
  obtain ⟨c2, hb2⟩ := HC2.out w2 hp2
  go_wp2_with fail
  refine (HS2.out w2 _ hp2).mono ?_
  rintro e w3 ⟨rfl, hp3, hb3⟩
  obtain ⟨d1, d2⟩ := HCl.out w3 hp3
  have d3 : w3.cell? ⟨w2.heap.size, 1, none⟩ = some (str l) := by rw [Lib.cell_of_heap hb3]; rfl
  go_wp2_with fail
  refine wp_region_held_drew (S := LS w0 w b m s (step s (step s st)) st.p t l []) (by kernel_rfl) (LS.lang HP.out hp3 l).drew (fun hHeld => ?_)
  refine wpAnyH_take (i := 0) (v := .agg #[.int .i64 st.p, str t]) rfl (by kernel_rfl) (by kernel_rfl) (by kernel_rfl) (fun _ _ _ h => h) (Or.inl ⟨by rfl, fun w' hSw => ?_⟩) (by assumption) ?_
  · obtain ⟨g0, g1, g2, g3, g4, g5⟩ := hSw
    go_simp
  refine wpAnyH_take (i := 1) (v := .iface 152 (.agg #[.int .i64 st.p, str t])) rfl (by kernel_rfl) (by kernel_rfl) (by kernel_rfl) (fun _ _ _ h => h) (Or.inl ⟨by rfl, fun w' hSw => ?_⟩) (by assumption) ?_
  · obtain ⟨g0, g1, g2, g3, g4, g5⟩ := hSw
    go_simp
  refine wpAnyH_take (i := 2) (v := .agg #[str t, str l, str []]) rfl (by kernel_rfl) (by kernel_rfl) (by kernel_rfl) (fun _ _ _ h => h) (Or.inl ⟨by rfl, fun w' hSw => ?_⟩) (by assumption) ?_
  · obtain ⟨g0, g1, g2, g3, g4, g5⟩ := hSw
    go_simp
  refine wpAnyH_ready (rs := [3]) (by kernel_rfl) (by simp) (AllReadyH.cons rfl (fun K hK => ?_) AllReadyH.nil)
  go_simp
  go_at_call 203
  refine (HFm.out _).mono ?_
  rintro e wf ⟨rfl, hBf⟩
  refine hK.out _ _ (LS.keep hHeld hBf) (fun hHeld2 => ?_)
  refine wpAnyH_ready (rs := [4]) (by kernel_rfl) (by simp) (AllReadyH.cons rfl (fun K hK => ?_) AllReadyH.nil)
  go_simp
  go_at_call 94
  refine (HBd.out _).mono ?_
  rintro e wg ⟨rfl, rfl⟩
  refine hK.out _ _ hHeld2 (fun hHeld3 => ?_)
  refine wpAnyH_take (i := 5) (v := str l') rfl (by kernel_rfl) (by kernel_rfl) (by kernel_rfl) (fun _ _ _ h => h) (Or.inl ⟨by rfl, fun w' hSw => ?_⟩) (by assumption) ?_
  · go_simp
  refine wpAnyH_done (by kernel_rfl) ?_ _
  go_wp2
  go_ret
  exact ⟨rfl, hHeld3.2.2.2.2.2⟩

set_option maxHeartbeats 2000000 in
set_option maxRecDepth 20000 in
theorem lit_lan_bad (w0 w : World) (b m : Nat) (s : ByteArray) (st : St) (t : List UInt8) (h : Pz w0 b m s st w) (hT : Tabs w0) (hx : st.now = .str t) (l : List UInt8) (hn : (step s st).now = .lan l) (h200 : 200 < (form t l []).length) :
    Calls Tryz.prog 202 #[.pointer (some ⟨b, 0, none⟩), .agg #[.int .i64 st.p, str t]] w (PBad w0 b m 4 st.p) := by
  have hbw := h.lt
  have hsz := h.sz
  have htk := h.wf.tk
  rw [hx] at htk
  have wf1 := h.wf.step
  have htk2 := wf1.tk
  rw [hn] at htk2
  have hl0 : asc l := htk2.1
  have hl1 : l.length ≤ 4398046511104 := by have := htk2.2; omega
  have hk1 : ([] : List UInt8).length ≤ 43980465111040 := by simp
  have HFm : Hid (∀ w1, Calls Tryz.prog 203 #[.agg #[str t, str l, str []]] w1 fun e w' => e = .returned (str (form t l [])) ∧ Below w1.heap.size w1 w') := fun w1 => form_any w1 t l [] htk.1 hl0 (by have := htk.2; omega) hl1 hk1
  have HBd : Hid (∀ w1, Calls Tryz.prog 94 #[.iface 152 (.agg #[.int .i64 st.p, str t]), str (form t l [])] w1 fun e w' => e = stopE 4 st.p ∧ w' = w1) := fun w1 => bounded_bad w1 (.str t) rfl st.p _ h200
  have HW : Hid ((w.alloc (.cells #[.int .i64 st.p, str t] 152)).alloc (.cells #[str t, .string ⟨#[]⟩, .string ⟨#[]⟩] 244) = lW w st.p t) := rfl
  have HS1 : Hid (Calls Tryz.prog 55 #[.pointer (some ⟨b, 0, none⟩)] (lW w st.p t) fun e w' => e = .returned (.tuple #[]) ∧ PK w0 b m s (step s st) (lW w st.p t) w') := step_any w0 _ b m s st (lW_pk h st.p t).1 hT (by rw [hx]; rfl)
  have HC2 : Hid (∀ w2, PK w0 b m s (step s st) (lW w st.p t) w2 → w2.cell? ⟨b, 2, none⟩ = some (tokV (step s st).now (step s st).p) ∧ b < w2.heap.size) := fun w2 hp => ⟨hp.1.cell.1, hp.1.lt⟩
  have HP : Hid (Pz w0 b m s st w) := h
  have hta := as_lan_yes l (step s st).p
  have HS2 : Hid (∀ w2 o, PK w0 b m s (step s st) (lW w st.p t) w2 → Calls Tryz.prog 55 #[.pointer (some ⟨b, 0, none⟩)] (w2.alloc o) fun e w' => e = .returned (.tuple #[]) ∧ PK w0 b m s (step s (step s st)) (lW w st.p t) w' ∧ w'.heap[w2.heap.size]? = some o) := fun w2 o hp => by
    refine (step_any w0 (w2.alloc o) b m s (step s st) (hp.alloc o).1 hT (by rw [hn]; rfl)).mono ?_
    rintro e w' ⟨rfl, hp2⟩
    refine ⟨rfl, (hp.alloc o).on hp2, ?_⟩
    rw [(Loc.of_alloc hp.1 o).same hp2.2]
    exact heap_new _ _
  have HCl : Hid (∀ w2, PK w0 b m s (step s (step s st)) (lW w st.p t) w2 → w2.cell? ⟨w.heap.size + 1, 1, none⟩ = some (str []) ∧ w2.frozen? ⟨w.heap.size + 1, 1, none⟩ = false) := fun w2 hp => by
    have b2 := (lW_at HP.out hp.2).2
    exact ⟨by rw [Lib.cell_of_heap b2]; rfl, Lib.frozen_of_heap b2 1⟩
  obtain ⟨l', hl'⟩ : ∃ l' , l' = form t l [] := ⟨_, rfl⟩
  rw [← hl'] at HFm HBd
  rw [hn] at HC2
  clear hl' h hT hx htk wf1 h200 hn htk2 hl0 hl1 hk1 hsz
  go_enter Tryz.func202, Tryz.ntmps202
  go_wp2_with fail
  rw [HW.out]
  refine HS1.out.mono ?_
  rintro e w2 ⟨rfl, hp2⟩
  obtain ⟨c2, hb2⟩ := HC2.out w2 hp2
  go_wp2_with fail
  refine (HS2.out w2 _ hp2).mono ?_
  rintro e w3 ⟨rfl, hp3, hb3⟩
  obtain ⟨d1, d2⟩ := HCl.out w3 hp3
  have d3 : w3.cell? ⟨w2.heap.size, 1, none⟩ = some (str l) := by rw [Lib.cell_of_heap hb3]; rfl
  go_wp2_with fail
  refine wp_region_held_drew (S := LS w0 w b m s (step s (step s st)) st.p t l []) (by kernel_rfl) (LS.lang HP.out hp3 l).drew (fun hHeld => ?_)
  refine wpAnyH_take (i := 0) (v := .agg #[.int .i64 st.p, str t]) rfl (by kernel_rfl) (by kernel_rfl) (by kernel_rfl) (fun _ _ _ h => h) (Or.inl ⟨by rfl, fun w' hSw => ?_⟩) (by assumption) ?_
  · obtain ⟨g0, g1, g2, g3, g4, g5⟩ := hSw
    go_simp
  refine wpAnyH_take (i := 1) (v := .iface 152 (.agg #[.int .i64 st.p, str t])) rfl (by kernel_rfl) (by kernel_rfl) (by kernel_rfl) (fun _ _ _ h => h) (Or.inl ⟨by rfl, fun w' hSw => ?_⟩) (by assumption) ?_
  · obtain ⟨g0, g1, g2, g3, g4, g5⟩ := hSw
    go_simp
  refine wpAnyH_take (i := 2) (v := .agg #[str t, str l, str []]) rfl (by kernel_rfl) (by kernel_rfl) (by kernel_rfl) (fun _ _ _ h => h) (Or.inl ⟨by rfl, fun w' hSw => ?_⟩) (by assumption) ?_
  · obtain ⟨g0, g1, g2, g3, g4, g5⟩ := hSw
    go_simp
  refine wpAnyH_ready (rs := [3]) (by kernel_rfl) (by simp) (AllReadyH.cons rfl (fun K hK => ?_) AllReadyH.nil)
  go_simp
  go_at_call 203
  refine (HFm.out _).mono ?_
  rintro e wf ⟨rfl, hBf⟩
  refine hK.out _ _ (LS.keep hHeld hBf) (fun hHeld2 => ?_)
  refine wpAnyH_ready (rs := [4]) (by kernel_rfl) (by simp) (AllReadyH.cons rfl (fun K hK => ?_) AllReadyH.nil)
  go_simp
  go_at_call 94
  refine (HBd.out _).mono ?_
  rintro e wg ⟨rfl, rfl⟩
  exact ⟨rfl, rfl, hHeld2.2.2.2.2.2.1.fq⟩

set_option maxHeartbeats 2000000 in
set_option maxRecDepth 20000 in
theorem lit_knd_ok (w0 w : World) (b m : Nat) (s : ByteArray) (st : St) (t : List UInt8) (h : Pz w0 b m s st w) (hT : Tabs w0) (hx : st.now = .str t) (k : List UInt8) (st3 : St) (hn : (step s st).now = .knd) (hi : iriP s (step s (step s st)) = .ok k st3) (h200 : (form t [] k).length ≤ 200) :
    Calls Tryz.prog 202 #[.pointer (some ⟨b, 0, none⟩), .agg #[.int .i64 st.p, str t]] w (POk w0 b m s w (str (form t [] k)) st3) := by
  have hbw := h.lt
  have hsz := h.sz
  have htk := h.wf.tk
  rw [hx] at htk
  have wf1 := h.wf.step
  have wf2 := wf1.step
  have hl0 : asc ([] : List UInt8) := fun x hx => by cases hx
  have hl1 : ([] : List UInt8).length ≤ 4398046511104 := by simp
  have hk1 : k.length ≤ 43980465111040 := by have := (iriP_on wf2 hi).2; omega
  have HFm : Hid (∀ w1, Calls Tryz.prog 203 #[.agg #[str t, str [], str k]] w1 fun e w' => e = .returned (str (form t [] k)) ∧ Below w1.heap.size w1 w') := fun w1 => form_any w1 t [] k htk.1 hl0 (by have := htk.2; omega) hl1 hk1
  have HBd : Hid (∀ w1, Calls Tryz.prog 94 #[.iface 152 (.agg #[.int .i64 st.p, str t]), str (form t [] k)] w1 fun e w' => e = .returned (str (form t [] k)) ∧ w' = w1) := fun w1 => bounded_ok w1 (.str t) st.p _ h200
  have HW : Hid ((w.alloc (.cells #[.int .i64 st.p, str t] 152)).alloc (.cells #[str t, .string ⟨#[]⟩, .string ⟨#[]⟩] 244) = lW w st.p t) := rfl
  have HS1 : Hid (Calls Tryz.prog 55 #[.pointer (some ⟨b, 0, none⟩)] (lW w st.p t) fun e w' => e = .returned (.tuple #[]) ∧ PK w0 b m s (step s st) (lW w st.p t) w') := step_any w0 _ b m s st (lW_pk h st.p t).1 hT (by rw [hx]; rfl)
  have HC2 : Hid (∀ w2, PK w0 b m s (step s st) (lW w st.p t) w2 → w2.cell? ⟨b, 2, none⟩ = some (tokV (step s st).now (step s st).p) ∧ b < w2.heap.size) := fun w2 hp => ⟨hp.1.cell.1, hp.1.lt⟩
  have HP : Hid (Pz w0 b m s st w) := h
  have hta1 := as_lan_no (sg := .knd) rfl (step s st).p
  have hta2 := as_knd_yes (step s st).p
  have HS2 : Hid (∀ w2 o, PK w0 b m s (step s st) (lW w st.p t) w2 → Calls Tryz.prog 55 #[.pointer (some ⟨b, 0, none⟩)] (w2.alloc o) fun e w' => e = .returned (.tuple #[]) ∧ PK w0 b m s (step s (step s st)) (lW w st.p t) w') := fun w2 o hp =>
    stepK (hp.alloc o) hT (by rw [hn]; rfl)
  have HI : Hid (∀ w2, PK w0 b m s (step s (step s st)) (lW w st.p t) w2 → Calls Tryz.prog 169 #[.pointer (some ⟨b, 0, none⟩)] w2 fun e w' => e = .returned (str k) ∧ PK w0 b m s st3 (lW w st.p t) w') := fun w2 hp =>
    (iri_ok w0 w2 b m s (step s (step s st)) st3 k hp.1 hT hi).mono fun e w' x => ⟨x.1, hp.on x.2⟩
  have HCl : Hid (∀ w2, PK w0 b m s st3 (lW w st.p t) w2 → w2.cell? ⟨w.heap.size + 1, 2, none⟩ = some (str []) ∧ w2.frozen? ⟨w.heap.size + 1, 2, none⟩ = false) := fun w2 hp => by
    have b2 := (lW_at HP.out hp.2).2
    exact ⟨by rw [Lib.cell_of_heap b2]; rfl, Lib.frozen_of_heap b2 2⟩
  obtain ⟨l', hl'⟩ : ∃ l' , l' = form t [] k := ⟨_, rfl⟩
  rw [← hl'] at HFm HBd
  rw [← hl']
  rw [hn] at HC2
  clear hl' h hT hx htk wf1 h200 hn wf2 hi hl0 hl1 hk1 hsz
  go_enter Tryz.func202, Tryz.ntmps202
  go_wp2_with fail
  rw [HW.out]
  refine HS1.out.mono ?_
  rintro e w2 ⟨rfl, hp2⟩
  obtain ⟨c2, hb2⟩ := HC2.out w2 hp2
  go_wp2_with fail
  refine (HS2.out w2 _ hp2).mono ?_
  rintro e w3 ⟨rfl, hp3⟩
  go_wp2_with fail
  refine (HI.out w3 hp3).mono ?_
  rintro e w4 ⟨rfl, hp4⟩
  obtain ⟨d1, d2⟩ := HCl.out w4 hp4
  go_wp2_with fail
  refine wp_region_held_drew (S := LS w0 w b m s st3 st.p t [] k) (by kernel_rfl) (LS.kind HP.out hp4 k).drew (fun hHeld => ?_)
  refine wpAnyH_take (i := 0) (v := .agg #[.int .i64 st.p, str t]) rfl (by kernel_rfl) (by kernel_rfl) (by kernel_rfl) (fun _ _ _ h => h) (Or.inl ⟨by rfl, fun w' hSw => ?_⟩) (by assumption) ?_
  · obtain ⟨g0, g1, g2, g3, g4, g5⟩ := hSw
    go_simp
  refine wpAnyH_take (i := 1) (v := .iface 152 (.agg #[.int .i64 st.p, str t])) rfl (by kernel_rfl) (by kernel_rfl) (by kernel_rfl) (fun _ _ _ h => h) (Or.inl ⟨by rfl, fun w' hSw => ?_⟩) (by assumption) ?_
  · obtain ⟨g0, g1, g2, g3, g4, g5⟩ := hSw
    go_simp
  refine wpAnyH_take (i := 2) (v := .agg #[str t, str [], str k]) rfl (by kernel_rfl) (by kernel_rfl) (by kernel_rfl) (fun _ _ _ h => h) (Or.inl ⟨by rfl, fun w' hSw => ?_⟩) (by assumption) ?_
  · obtain ⟨g0, g1, g2, g3, g4, g5⟩ := hSw
    go_simp
  refine wpAnyH_ready (rs := [3]) (by kernel_rfl) (by simp) (AllReadyH.cons rfl (fun K hK => ?_) AllReadyH.nil)
  go_simp
  go_at_call 203
  refine (HFm.out _).mono ?_
  rintro e wf ⟨rfl, hBf⟩
  refine hK.out _ _ (LS.keep hHeld hBf) (fun hHeld2 => ?_)
  refine wpAnyH_ready (rs := [4]) (by kernel_rfl) (by simp) (AllReadyH.cons rfl (fun K hK => ?_) AllReadyH.nil)
  go_simp
  go_at_call 94
  refine (HBd.out _).mono ?_
  rintro e wg ⟨rfl, rfl⟩
  refine hK.out _ _ hHeld2 (fun hHeld3 => ?_)
  refine wpAnyH_take (i := 5) (v := str l') rfl (by kernel_rfl) (by kernel_rfl) (by kernel_rfl) (fun _ _ _ h => h) (Or.inl ⟨by rfl, fun w' hSw => ?_⟩) (by assumption) ?_
  · go_simp
  refine wpAnyH_done (by kernel_rfl) ?_ _
  go_wp2
  go_ret
  exact ⟨rfl, hHeld3.2.2.2.2.2⟩

set_option maxHeartbeats 2000000 in
set_option maxRecDepth 20000 in
theorem lit_knd_bad (w0 w : World) (b m : Nat) (s : ByteArray) (st : St) (t : List UInt8) (h : Pz w0 b m s st w) (hT : Tabs w0) (hx : st.now = .str t) (k : List UInt8) (st3 : St) (hn : (step s st).now = .knd) (hi : iriP s (step s (step s st)) = .ok k st3) (h200 : 200 < (form t [] k).length) :
    Calls Tryz.prog 202 #[.pointer (some ⟨b, 0, none⟩), .agg #[.int .i64 st.p, str t]] w (PBad w0 b m 4 st.p) := by
  have hbw := h.lt
  have hsz := h.sz
  have htk := h.wf.tk
  rw [hx] at htk
  have wf1 := h.wf.step
  have wf2 := wf1.step
  have hl0 : asc ([] : List UInt8) := fun x hx => by cases hx
  have hl1 : ([] : List UInt8).length ≤ 4398046511104 := by simp
  have hk1 : k.length ≤ 43980465111040 := by have := (iriP_on wf2 hi).2; omega
  have HFm : Hid (∀ w1, Calls Tryz.prog 203 #[.agg #[str t, str [], str k]] w1 fun e w' => e = .returned (str (form t [] k)) ∧ Below w1.heap.size w1 w') := fun w1 => form_any w1 t [] k htk.1 hl0 (by have := htk.2; omega) hl1 hk1
  have HBd : Hid (∀ w1, Calls Tryz.prog 94 #[.iface 152 (.agg #[.int .i64 st.p, str t]), str (form t [] k)] w1 fun e w' => e = stopE 4 st.p ∧ w' = w1) := fun w1 => bounded_bad w1 (.str t) rfl st.p _ h200
  have HW : Hid ((w.alloc (.cells #[.int .i64 st.p, str t] 152)).alloc (.cells #[str t, .string ⟨#[]⟩, .string ⟨#[]⟩] 244) = lW w st.p t) := rfl
  have HS1 : Hid (Calls Tryz.prog 55 #[.pointer (some ⟨b, 0, none⟩)] (lW w st.p t) fun e w' => e = .returned (.tuple #[]) ∧ PK w0 b m s (step s st) (lW w st.p t) w') := step_any w0 _ b m s st (lW_pk h st.p t).1 hT (by rw [hx]; rfl)
  have HC2 : Hid (∀ w2, PK w0 b m s (step s st) (lW w st.p t) w2 → w2.cell? ⟨b, 2, none⟩ = some (tokV (step s st).now (step s st).p) ∧ b < w2.heap.size) := fun w2 hp => ⟨hp.1.cell.1, hp.1.lt⟩
  have HP : Hid (Pz w0 b m s st w) := h
  have hta1 := as_lan_no (sg := .knd) rfl (step s st).p
  have hta2 := as_knd_yes (step s st).p
  have HS2 : Hid (∀ w2 o, PK w0 b m s (step s st) (lW w st.p t) w2 → Calls Tryz.prog 55 #[.pointer (some ⟨b, 0, none⟩)] (w2.alloc o) fun e w' => e = .returned (.tuple #[]) ∧ PK w0 b m s (step s (step s st)) (lW w st.p t) w') := fun w2 o hp =>
    stepK (hp.alloc o) hT (by rw [hn]; rfl)
  have HI : Hid (∀ w2, PK w0 b m s (step s (step s st)) (lW w st.p t) w2 → Calls Tryz.prog 169 #[.pointer (some ⟨b, 0, none⟩)] w2 fun e w' => e = .returned (str k) ∧ PK w0 b m s st3 (lW w st.p t) w') := fun w2 hp =>
    (iri_ok w0 w2 b m s (step s (step s st)) st3 k hp.1 hT hi).mono fun e w' x => ⟨x.1, hp.on x.2⟩
  have HCl : Hid (∀ w2, PK w0 b m s st3 (lW w st.p t) w2 → w2.cell? ⟨w.heap.size + 1, 2, none⟩ = some (str []) ∧ w2.frozen? ⟨w.heap.size + 1, 2, none⟩ = false) := fun w2 hp => by
    have b2 := (lW_at HP.out hp.2).2
    exact ⟨by rw [Lib.cell_of_heap b2]; rfl, Lib.frozen_of_heap b2 2⟩
  obtain ⟨l', hl'⟩ : ∃ l' , l' = form t [] k := ⟨_, rfl⟩
  rw [← hl'] at HFm HBd
  rw [hn] at HC2
  clear hl' h hT hx htk wf1 h200 hn wf2 hi hl0 hl1 hk1 hsz
  go_enter Tryz.func202, Tryz.ntmps202
  go_wp2_with fail
  rw [HW.out]
  refine HS1.out.mono ?_
  rintro e w2 ⟨rfl, hp2⟩
  obtain ⟨c2, hb2⟩ := HC2.out w2 hp2
  go_wp2_with fail
  refine (HS2.out w2 _ hp2).mono ?_
  rintro e w3 ⟨rfl, hp3⟩
  go_wp2_with fail
  refine (HI.out w3 hp3).mono ?_
  rintro e w4 ⟨rfl, hp4⟩
  obtain ⟨d1, d2⟩ := HCl.out w4 hp4
  go_wp2_with fail
  refine wp_region_held_drew (S := LS w0 w b m s st3 st.p t [] k) (by kernel_rfl) (LS.kind HP.out hp4 k).drew (fun hHeld => ?_)
  refine wpAnyH_take (i := 0) (v := .agg #[.int .i64 st.p, str t]) rfl (by kernel_rfl) (by kernel_rfl) (by kernel_rfl) (fun _ _ _ h => h) (Or.inl ⟨by rfl, fun w' hSw => ?_⟩) (by assumption) ?_
  · obtain ⟨g0, g1, g2, g3, g4, g5⟩ := hSw
    go_simp
  refine wpAnyH_take (i := 1) (v := .iface 152 (.agg #[.int .i64 st.p, str t])) rfl (by kernel_rfl) (by kernel_rfl) (by kernel_rfl) (fun _ _ _ h => h) (Or.inl ⟨by rfl, fun w' hSw => ?_⟩) (by assumption) ?_
  · obtain ⟨g0, g1, g2, g3, g4, g5⟩ := hSw
    go_simp
  refine wpAnyH_take (i := 2) (v := .agg #[str t, str [], str k]) rfl (by kernel_rfl) (by kernel_rfl) (by kernel_rfl) (fun _ _ _ h => h) (Or.inl ⟨by rfl, fun w' hSw => ?_⟩) (by assumption) ?_
  · obtain ⟨g0, g1, g2, g3, g4, g5⟩ := hSw
    go_simp
  refine wpAnyH_ready (rs := [3]) (by kernel_rfl) (by simp) (AllReadyH.cons rfl (fun K hK => ?_) AllReadyH.nil)
  go_simp
  go_at_call 203
  refine (HFm.out _).mono ?_
  rintro e wf ⟨rfl, hBf⟩
  refine hK.out _ _ (LS.keep hHeld hBf) (fun hHeld2 => ?_)
  refine wpAnyH_ready (rs := [4]) (by kernel_rfl) (by simp) (AllReadyH.cons rfl (fun K hK => ?_) AllReadyH.nil)
  go_simp
  go_at_call 94
  refine (HBd.out _).mono ?_
  rintro e wg ⟨rfl, rfl⟩
  exact ⟨rfl, rfl, hHeld2.2.2.2.2.2.1.fq⟩

set_option maxHeartbeats 2000000 in
set_option maxRecDepth 20000 in
theorem lit_oth_ok (w0 w : World) (b m : Nat) (s : ByteArray) (st : St) (t : List UInt8) (h : Pz w0 b m s st w) (hT : Tabs w0) (hx : st.now = .str t) (hn1 : Sg.is_lan (step s st).now = false) (hn2 : Sg.is_knd (step s st).now = false) (h200 : (form t [] []).length ≤ 200) :
    Calls Tryz.prog 202 #[.pointer (some ⟨b, 0, none⟩), .agg #[.int .i64 st.p, str t]] w (POk w0 b m s w (str (form t [] [])) (step s st)) := by
  have hbw := h.lt
  have hsz := h.sz
  have htk := h.wf.tk
  rw [hx] at htk
  have wf1 := h.wf.step
  have hl0 : asc ([] : List UInt8) := fun x hx => by cases hx
  have hl1 : ([] : List UInt8).length ≤ 4398046511104 := by simp
  have hk1 : ([] : List UInt8).length ≤ 43980465111040 := by simp
  have HFm : Hid (∀ w1, Calls Tryz.prog 203 #[.agg #[str t, str [], str []]] w1 fun e w' => e = .returned (str (form t [] [])) ∧ Below w1.heap.size w1 w') := fun w1 => form_any w1 t [] [] htk.1 hl0 (by have := htk.2; omega) hl1 hk1
  have HBd : Hid (∀ w1, Calls Tryz.prog 94 #[.iface 152 (.agg #[.int .i64 st.p, str t]), str (form t [] [])] w1 fun e w' => e = .returned (str (form t [] [])) ∧ w' = w1) := fun w1 => bounded_ok w1 (.str t) st.p _ h200
  have HW : Hid ((w.alloc (.cells #[.int .i64 st.p, str t] 152)).alloc (.cells #[str t, .string ⟨#[]⟩, .string ⟨#[]⟩] 244) = lW w st.p t) := rfl
  have HS1 : Hid (Calls Tryz.prog 55 #[.pointer (some ⟨b, 0, none⟩)] (lW w st.p t) fun e w' => e = .returned (.tuple #[]) ∧ PK w0 b m s (step s st) (lW w st.p t) w') := step_any w0 _ b m s st (lW_pk h st.p t).1 hT (by rw [hx]; rfl)
  have HC2 : Hid (∀ w2, PK w0 b m s (step s st) (lW w st.p t) w2 → w2.cell? ⟨b, 2, none⟩ = some (tokV (step s st).now (step s st).p) ∧ b < w2.heap.size) := fun w2 hp => ⟨hp.1.cell.1, hp.1.lt⟩
  have HP : Hid (Pz w0 b m s st w) := h
  have hta1 := as_lan_no hn1 (step s st).p
  have hta2 := as_knd_no hn2 (step s st).p
  obtain ⟨l', hl'⟩ : ∃ l' , l' = form t [] [] := ⟨_, rfl⟩
  rw [← hl'] at HFm HBd
  rw [← hl']
  clear hl' h hT hx htk wf1 h200 hn1 hn2 hl0 hl1 hk1 hsz
  go_enter Tryz.func202, Tryz.ntmps202
  go_wp2_with fail
  rw [HW.out]
  refine HS1.out.mono ?_
  rintro e w2 ⟨rfl, hp2⟩
  obtain ⟨c2, hb2⟩ := HC2.out w2 hp2
  go_wp2_with fail
  refine wp_region_held_drew (S := LS w0 w b m s (step s st) st.p t [] []) (by kernel_rfl) (LS.of HP.out hp2).drew (fun hHeld => ?_)
  refine wpAnyH_take (i := 0) (v := .agg #[.int .i64 st.p, str t]) rfl (by kernel_rfl) (by kernel_rfl) (by kernel_rfl) (fun _ _ _ h => h) (Or.inl ⟨by rfl, fun w' hSw => ?_⟩) (by assumption) ?_
  · obtain ⟨g0, g1, g2, g3, g4, g5⟩ := hSw
    go_simp
  refine wpAnyH_take (i := 1) (v := .iface 152 (.agg #[.int .i64 st.p, str t])) rfl (by kernel_rfl) (by kernel_rfl) (by kernel_rfl) (fun _ _ _ h => h) (Or.inl ⟨by rfl, fun w' hSw => ?_⟩) (by assumption) ?_
  · obtain ⟨g0, g1, g2, g3, g4, g5⟩ := hSw
    go_simp
  refine wpAnyH_take (i := 2) (v := .agg #[str t, str [], str []]) rfl (by kernel_rfl) (by kernel_rfl) (by kernel_rfl) (fun _ _ _ h => h) (Or.inl ⟨by rfl, fun w' hSw => ?_⟩) (by assumption) ?_
  · obtain ⟨g0, g1, g2, g3, g4, g5⟩ := hSw
    go_simp
  refine wpAnyH_ready (rs := [3]) (by kernel_rfl) (by simp) (AllReadyH.cons rfl (fun K hK => ?_) AllReadyH.nil)
  go_simp
  go_at_call 203
  refine (HFm.out _).mono ?_
  rintro e wf ⟨rfl, hBf⟩
  refine hK.out _ _ (LS.keep hHeld hBf) (fun hHeld2 => ?_)
  refine wpAnyH_ready (rs := [4]) (by kernel_rfl) (by simp) (AllReadyH.cons rfl (fun K hK => ?_) AllReadyH.nil)
  go_simp
  go_at_call 94
  refine (HBd.out _).mono ?_
  rintro e wg ⟨rfl, rfl⟩
  refine hK.out _ _ hHeld2 (fun hHeld3 => ?_)
  refine wpAnyH_take (i := 5) (v := str l') rfl (by kernel_rfl) (by kernel_rfl) (by kernel_rfl) (fun _ _ _ h => h) (Or.inl ⟨by rfl, fun w' hSw => ?_⟩) (by assumption) ?_
  · go_simp
  refine wpAnyH_done (by kernel_rfl) ?_ _
  go_wp2
  go_ret
  exact ⟨rfl, hHeld3.2.2.2.2.2⟩

set_option maxHeartbeats 2000000 in
set_option maxRecDepth 20000 in
theorem lit_oth_bad (w0 w : World) (b m : Nat) (s : ByteArray) (st : St) (t : List UInt8) (h : Pz w0 b m s st w) (hT : Tabs w0) (hx : st.now = .str t) (hn1 : Sg.is_lan (step s st).now = false) (hn2 : Sg.is_knd (step s st).now = false) (h200 : 200 < (form t [] []).length) :
    Calls Tryz.prog 202 #[.pointer (some ⟨b, 0, none⟩), .agg #[.int .i64 st.p, str t]] w (PBad w0 b m 4 st.p) := by
  have hbw := h.lt
  have hsz := h.sz
  have htk := h.wf.tk
  rw [hx] at htk
  have wf1 := h.wf.step
  have hl0 : asc ([] : List UInt8) := fun x hx => by cases hx
  have hl1 : ([] : List UInt8).length ≤ 4398046511104 := by simp
  have hk1 : ([] : List UInt8).length ≤ 43980465111040 := by simp
  have HFm : Hid (∀ w1, Calls Tryz.prog 203 #[.agg #[str t, str [], str []]] w1 fun e w' => e = .returned (str (form t [] [])) ∧ Below w1.heap.size w1 w') := fun w1 => form_any w1 t [] [] htk.1 hl0 (by have := htk.2; omega) hl1 hk1
  have HBd : Hid (∀ w1, Calls Tryz.prog 94 #[.iface 152 (.agg #[.int .i64 st.p, str t]), str (form t [] [])] w1 fun e w' => e = stopE 4 st.p ∧ w' = w1) := fun w1 => bounded_bad w1 (.str t) rfl st.p _ h200
  have HW : Hid ((w.alloc (.cells #[.int .i64 st.p, str t] 152)).alloc (.cells #[str t, .string ⟨#[]⟩, .string ⟨#[]⟩] 244) = lW w st.p t) := rfl
  have HS1 : Hid (Calls Tryz.prog 55 #[.pointer (some ⟨b, 0, none⟩)] (lW w st.p t) fun e w' => e = .returned (.tuple #[]) ∧ PK w0 b m s (step s st) (lW w st.p t) w') := step_any w0 _ b m s st (lW_pk h st.p t).1 hT (by rw [hx]; rfl)
  have HC2 : Hid (∀ w2, PK w0 b m s (step s st) (lW w st.p t) w2 → w2.cell? ⟨b, 2, none⟩ = some (tokV (step s st).now (step s st).p) ∧ b < w2.heap.size) := fun w2 hp => ⟨hp.1.cell.1, hp.1.lt⟩
  have HP : Hid (Pz w0 b m s st w) := h
  have hta1 := as_lan_no hn1 (step s st).p
  have hta2 := as_knd_no hn2 (step s st).p
  obtain ⟨l', hl'⟩ : ∃ l' , l' = form t [] [] := ⟨_, rfl⟩
  rw [← hl'] at HFm HBd
  clear hl' h hT hx htk wf1 h200 hn1 hn2 hl0 hl1 hk1 hsz
  go_enter Tryz.func202, Tryz.ntmps202
  go_wp2_with fail
  rw [HW.out]
  refine HS1.out.mono ?_
  rintro e w2 ⟨rfl, hp2⟩
  obtain ⟨c2, hb2⟩ := HC2.out w2 hp2
  go_wp2_with fail
  refine wp_region_held_drew (S := LS w0 w b m s (step s st) st.p t [] []) (by kernel_rfl) (LS.of HP.out hp2).drew (fun hHeld => ?_)
  refine wpAnyH_take (i := 0) (v := .agg #[.int .i64 st.p, str t]) rfl (by kernel_rfl) (by kernel_rfl) (by kernel_rfl) (fun _ _ _ h => h) (Or.inl ⟨by rfl, fun w' hSw => ?_⟩) (by assumption) ?_
  · obtain ⟨g0, g1, g2, g3, g4, g5⟩ := hSw
    go_simp
  refine wpAnyH_take (i := 1) (v := .iface 152 (.agg #[.int .i64 st.p, str t])) rfl (by kernel_rfl) (by kernel_rfl) (by kernel_rfl) (fun _ _ _ h => h) (Or.inl ⟨by rfl, fun w' hSw => ?_⟩) (by assumption) ?_
  · obtain ⟨g0, g1, g2, g3, g4, g5⟩ := hSw
    go_simp
  refine wpAnyH_take (i := 2) (v := .agg #[str t, str [], str []]) rfl (by kernel_rfl) (by kernel_rfl) (by kernel_rfl) (fun _ _ _ h => h) (Or.inl ⟨by rfl, fun w' hSw => ?_⟩) (by assumption) ?_
  · obtain ⟨g0, g1, g2, g3, g4, g5⟩ := hSw
    go_simp
  refine wpAnyH_ready (rs := [3]) (by kernel_rfl) (by simp) (AllReadyH.cons rfl (fun K hK => ?_) AllReadyH.nil)
  go_simp
  go_at_call 203
  refine (HFm.out _).mono ?_
  rintro e wf ⟨rfl, hBf⟩
  refine hK.out _ _ (LS.keep hHeld hBf) (fun hHeld2 => ?_)
  refine wpAnyH_ready (rs := [4]) (by kernel_rfl) (by simp) (AllReadyH.cons rfl (fun K hK => ?_) AllReadyH.nil)
  go_simp
  go_at_call 94
  refine (HBd.out _).mono ?_
  rintro e wg ⟨rfl, rfl⟩
  exact ⟨rfl, rfl, hHeld2.2.2.2.2.2.1.fq⟩

set_option maxHeartbeats 2000000 in
set_option maxRecDepth 20000 in
theorem lit_knd_no (w0 w : World) (b m : Nat) (s : ByteArray) (st : St) (t : List UInt8) (h : Pz w0 b m s st w) (hT : Tabs w0) (hx : st.now = .str t) (hn : (step s st).now = .knd) (n : Int) (j : Nat) (hi : iriP s (step s (step s st)) = .bad n j) :
    Calls Tryz.prog 202 #[.pointer (some ⟨b, 0, none⟩), .agg #[.int .i64 st.p, str t]] w (PBad w0 b m n j) := by
  have hbw := h.lt
  have wf2 := h.wf.step.step
  have HW : Hid ((w.alloc (.cells #[.int .i64 st.p, str t] 152)).alloc (.cells #[str t, .string ⟨#[]⟩, .string ⟨#[]⟩] 244) = lW w st.p t) := rfl
  have HS1 : Hid (Calls Tryz.prog 55 #[.pointer (some ⟨b, 0, none⟩)] (lW w st.p t) fun e w' => e = .returned (.tuple #[]) ∧ PK w0 b m s (step s st) (lW w st.p t) w') := step_any w0 _ b m s st (lW_pk h st.p t).1 hT (by rw [hx]; rfl)
  have HC2 : Hid (∀ w2, PK w0 b m s (step s st) (lW w st.p t) w2 → w2.cell? ⟨b, 2, none⟩ = some (tokV (step s st).now (step s st).p) ∧ b < w2.heap.size) := fun w2 hp => ⟨hp.1.cell.1, hp.1.lt⟩
  have hta1 := as_lan_no (sg := .knd) rfl (step s st).p
  have hta2 := as_knd_yes (step s st).p
  have HS2 : Hid (∀ w2 o, PK w0 b m s (step s st) (lW w st.p t) w2 → Calls Tryz.prog 55 #[.pointer (some ⟨b, 0, none⟩)] (w2.alloc o) fun e w' => e = .returned (.tuple #[]) ∧ PK w0 b m s (step s (step s st)) (lW w st.p t) w') := fun w2 o hp =>
    stepK (hp.alloc o) hT (by rw [hn]; rfl)
  have HI : Hid (∀ w2, PK w0 b m s (step s (step s st)) (lW w st.p t) w2 → Calls Tryz.prog 169 #[.pointer (some ⟨b, 0, none⟩)] w2 (PBad w0 b m n j)) := fun w2 hp =>
    iri_bad w0 w2 b m s (step s (step s st)) n j hp.1 wf2.nn hi
  rw [hn] at HC2
  clear h hT hx hn wf2 hi
  go_enter Tryz.func202, Tryz.ntmps202
  go_wp2_with fail
  rw [HW.out]
  refine HS1.out.mono ?_
  rintro e w2 ⟨rfl, hp2⟩
  obtain ⟨c2, hb2⟩ := HC2.out w2 hp2
  go_wp2_with fail
  refine (HS2.out w2 _ hp2).mono ?_
  rintro e w3 ⟨rfl, hp3⟩
  go_wp2_with fail
  refine (HI.out w3 hp3).mono ?_
  rintro e w4 ⟨rfl, hf⟩
  exact ⟨rfl, rfl, hf⟩

theorem lit_ok (w0 w : World) (b m : Nat) (s : ByteArray) (st st' : St) (t x : List UInt8) (h : Pz w0 b m s st w) (hT : Tabs w0) (hx : st.now = .str t) (hr : lit s t st = .ok x st') :
    Calls Tryz.prog 202 #[.pointer (some ⟨b, 0, none⟩), .agg #[.int .i64 st.p, str t]] w (POk w0 b m s w (str x) st') := by
  unfold lit at hr
  split at hr
  · rename_i l hn
    obtain ⟨rfl, rfl, h200⟩ := bnd_ok hr
    exact lit_lan_ok w0 w b m s st t h hT hx l hn h200
  · rename_i hn
    split at hr
    · cases hr
    · rename_i k st3 hi
      obtain ⟨rfl, rfl, h200⟩ := bnd_ok hr
      exact lit_knd_ok w0 w b m s st t h hT hx k st' hn hi h200
  · rename_i hn1 hn2
    obtain ⟨rfl, rfl, h200⟩ := bnd_ok hr
    rcases lit_cases (step s st).now with ⟨l, hl⟩ | hl | ⟨h1, h2⟩
    · exact absurd hl (hn1 l)
    · exact absurd hl hn2
    · exact lit_oth_ok w0 w b m s st t h hT hx h1 h2 h200

theorem bnd_bad {p : Nat} {l : List UInt8} {st : St} {n : Int} {j : Nat} (h : bnd p l st = .bad n j) : n = 4 ∧ j = p ∧ 200 < l.length := by
  unfold bnd at h
  split at h
  · cases h
    exact ⟨rfl, rfl, by assumption⟩
  · cases h

theorem lit_bad (w0 w : World) (b m : Nat) (s : ByteArray) (st : St) (t : List UInt8) (n : Int) (j : Nat) (h : Pz w0 b m s st w) (hT : Tabs w0) (hx : st.now = .str t) (hr : lit s t st = .bad n j) :
    Calls Tryz.prog 202 #[.pointer (some ⟨b, 0, none⟩), .agg #[.int .i64 st.p, str t]] w (PBad w0 b m n j) := by
  unfold lit at hr
  split at hr
  · rename_i l hn
    obtain ⟨rfl, rfl, h200⟩ := bnd_bad hr
    exact lit_lan_bad w0 w b m s st t h hT hx l hn h200
  · rename_i hn
    split at hr
    · rename_i n' j' hi
      cases hr
      exact lit_knd_no w0 w b m s st t h hT hx hn n j hi
    · rename_i k st3 hi
      obtain ⟨rfl, rfl, h200⟩ := bnd_bad hr
      exact lit_knd_bad w0 w b m s st t h hT hx k st3 hn hi h200
  · rename_i hn1 hn2
    obtain ⟨rfl, rfl, h200⟩ := bnd_bad hr
    rcases lit_cases (step s st).now with ⟨l, hl⟩ | hl | ⟨h1, h2⟩
    · exact absurd hl (hn1 l)
    · exact absurd hl hn2
    · exact lit_oth_bad w0 w b m s st t h hT hx h1 h2 h200

end Tu
end Go.Proofs.YtnffjoipinhojabGreatDoor

set_option linter.unusedSimpArgs false
set_option linter.unusedVariables false
namespace Go.Proofs.YtnffjoipinhojabGreatDoor
open Go.RowKit
namespace Tu

/-- what a call of the parser's ends in -/
abbrev PRes {α : Type} (w0 : World) (b m : Nat) (s : ByteArray) (w : World) (f : α → Value) (r : PR α) (e : Ending) (w' : World) : Prop :=
  match r with
  | .ok a st => e = .returned (f a) ∧ PK w0 b m s st w w'
  | .bad n j => e = stopE n j ∧ Fq w0 b m w'

/-- what a call of the parser's begins with -/
structure Go0 (w0 : World) (b m : Nat) (s : ByteArray) (d : Nat) (st : St) (w : World) : Prop where
  pz : Pz w0 b m s st w
  tb : Tabs w0
  tn : Tens w0
  nn : Sg.isNone st.now = false
  dp : st.depth + d = 8
  bu : bud s st ≤ 200000

theorem Go0.wf {w0 w : World} {b m d : Nat} {s : ByteArray} {st : St} (h : Go0 w0 b m s d st w) : Wf s st := ⟨h.pz.wf, h.nn⟩
theorem Go0.on {w0 w w' wb : World} {b m d : Nat} {s : ByteArray} {st st' : St} (h : Go0 w0 b m s d st w) (hp : PK w0 b m s st' wb w') (nn : Sg.isNone st'.now = false) (dp : st'.depth = st.depth) (bu : bud s st' ≤ bud s st) : Go0 w0 b m s d st' w' :=
  ⟨hp.1, h.tb, h.tn, nn, by rw [dp]; exact h.dp, Nat.le_trans bu h.bu⟩
theorem Go0.un {w0 w w' wb : World} {b m d : Nat} {s : ByteArray} {st st' : St} (h : Go0 w0 b m s d st w) (hp : PK w0 b m s st' wb w') (u : Un s st st') : Go0 w0 b m s d st' w' := h.on hp u.wf.nn u.dp u.bu
theorem Go0.said {w0 w : World} {b m d : Nat} {s : ByteArray} {st : St} (h : Go0 w0 b m s d st w) : st.said.length ≤ 200000 ∧ st.made ≤ 200000 := by
  have := h.bu
  unfold bud at this
  omega

/-- the contract of object, at a depth -/
def ObC (s : ByteArray) (N d : Nat) : Prop := ∀ w0 w b m st, Go0 w0 b m s d st w → Calls Tryz.prog 165 #[.pointer (some ⟨b, 0, none⟩)] w (PRes w0 b m s w str (obj s N d st))

/-! How far a loop is from its end. -/
def realV : Value → Bool
  | .iface T _ => !(T == 114) && !(T == 157)
  | _ => false
theorem realV_tok (sg : Sg) (p : Nat) : realV (tokV sg p) = sg.real := by cases sg <;> rfl
def ms (s : ByteArray) (st : St) : Nat := if st.now.real = true then 2 * (s.size - st.i) + 1 else 0
def msW (s : ByteArray) (b : Nat) (w : World) : Nat := match w.cell? ⟨b, 2, none⟩ with
  | some v => if realV v = true then 2 * (s.size - posOf w b) + 1 else 0
  | none => 0
theorem Pz.ms {w0 w : World} {b m : Nat} {s : ByteArray} {st : St} (h : Pz w0 b m s st w) : msW s b w = Tu.ms s st := by
  unfold msW Tu.ms
  rw [h.cell.1]
  simp only
  rw [realV_tok]
  split
  · rename_i hr
    have hb : st.now.isBrk = false := by cases hq : st.now <;> rw [hq] at hr <;> first | rfl | cases hr
    rw [(h.rd hb).pos]
  · rfl
theorem ms_on {s : ByteArray} {st st' : St} (hr : st.now.real = true) (h : meas s st' < meas s st) : ms s st' < ms s st := by
  unfold meas at h
  unfold ms
  rw [if_pos hr] at h ⊢
  split
  · rename_i h2
    rw [if_pos h2] at h
    exact h
  · omega

theorem objsL_no {ob : St → PR (List UInt8)} {s : ByteArray} {su ve : List UInt8} {n : Nat} {st : St} (h : Tu.takes 44 st = false) : objsL ob s su ve (n + 1) st = .ok () st := by
  unfold objsL
  rw [if_neg (by rw [h]; simp)]
theorem objsL_bad {ob : St → PR (List UInt8)} {s : ByteArray} {su ve : List UInt8} {n : Nat} {st : St} {e : Int} {j : Nat} (h : Tu.takes 44 st = true) (ho : ob (step s st) = .bad e j) : objsL ob s su ve (n + 1) st = .bad e j := by
  rw [objsL, if_pos h, ho]
theorem objsL_ok {ob : St → PR (List UInt8)} {s : ByteArray} {su ve : List UInt8} {n : Nat} {st st2 : St} {o : List UInt8} (h : Tu.takes 44 st = true) (ho : ob (step s st) = .ok o st2) : objsL ob s su ve (n + 1) st = objsL ob s su ve n (say st2 su ve o) := by
  rw [objsL, if_pos h, ho]

set_option maxHeartbeats 2000000 in
set_option maxRecDepth 20000 in
/-- objects of a subject and a verb -/
theorem objects_any (s : ByteArray) (N d : Nat) (HO : ObC s N d) (hN : 2 * s.size + 2 ≤ N) (w0 w : World) (b m : Nat) (st : St) (su ve : List UInt8) (h : Go0 w0 b m s d st w) :
    Calls Tryz.prog 95 #[.pointer (some ⟨b, 0, none⟩), str su, str ve] w (PRes w0 b m s w (fun _ => .tuple #[]) (objs (obj s N d) s N su ve st)) := by
  have hgood := obj_good s N d
  have H0 : Hid (Go0 w0 b m s d st w) := h
  have hO1 := HO w0 w b m st h
  cases ho1 : obj s N d st with
  | bad n j =>
    have HE : Hid (objs (obj s N d) s N su ve st = .bad n j) := by unfold Hid objs; rw [ho1]
    rw [ho1] at hO1
    have HO1 : Hid (Calls Tryz.prog 165 #[.pointer (some ⟨b, 0, none⟩)] w fun e w' => e = stopE n j ∧ Fq w0 b m w') := hO1
    rw [HE.out]
    clear hO1 ho1 h HE HO
    go_enter Tryz.func95, Tryz.ntmps95
    go_wp2_with fail
    refine HO1.out.mono ?_
    rintro e w1 ⟨rfl, hf⟩
    exact ⟨rfl, rfl, hf⟩
  | ok o st1 =>
    have HE : Hid (objs (obj s N d) s N su ve st = objsL (obj s N d) s su ve N (say st1 su ve o)) := by unfold Hid objs; rw [ho1]
    rw [ho1] at hO1
    have HO1 : Hid (Calls Tryz.prog 165 #[.pointer (some ⟨b, 0, none⟩)] w fun e w' => e = .returned (str o) ∧ PK w0 b m s st1 w w') := hO1
    have on1 := hgood _ _ _ h.wf ho1
    have u1 := on1.sayU su ve o
    have HSay : Hid (∀ (q : St) w1 (x : List UInt8), PK w0 b m s q w w1 → q.said.length ≤ 1000000 → Calls Tryz.prog 164 #[.pointer (some ⟨b, 0, none⟩), str su, str ve, str x] w1 fun e w' => e = .returned (.tuple #[]) ∧ PK w0 b m s (say q su ve x) w w') := fun q w1 x hp hl =>
      (say_any w0 w1 b m s q su ve x hp.1 hl).mono fun e w' k => ⟨k.1, hp.on k.2⟩
    have hl1 : st1.said.length ≤ 1000000 := by
      have h1 := on1.bu
      have h2 := h.bu
      unfold bud at h1 h2
      omega
    have HOb : Hid (∀ q w1, PK w0 b m s q w w1 → Un s st q → Tu.takes 44 q = true → Calls Tryz.prog 97 #[.pointer (some ⟨b, 0, none⟩), .int .u8 44] w1 fun e w' => e = .returned (.bool true) ∧ PK w0 b m s (step s q) w w') := fun q w1 hp u ht =>
      (take_yes w0 w1 b m s q 44 hp.1 H0.out.tb (takes_real ht).2).mono fun e w' k => ⟨k.1, hp.on k.2⟩
    have HTn : Hid (∀ q w1, PK w0 b m s q w w1 → Tu.takes 44 q = false → Calls Tryz.prog 97 #[.pointer (some ⟨b, 0, none⟩), .int .u8 44] w1 fun e w' => e = .returned (.bool false) ∧ PK w0 b m s q w w') := fun q w1 hp ht =>
      (take_no w0 w1 b m s q 44 hp.1 ht).mono fun e w' k => ⟨k.1, hp.on k.2⟩
    have HOj : Hid (∀ q w1, PK w0 b m s q w w1 → Un s st q → Calls Tryz.prog 165 #[.pointer (some ⟨b, 0, none⟩)] w1 (PRes w0 b m s w1 str (obj s N d q))) := fun q w1 hp u => HO w0 w1 b m q (H0.out.un hp u)
    obtain ⟨R0, hR0⟩ : ∃ R0, R0 = objsL (obj s N d) s su ve N (say st1 su ve o) := ⟨_, rfl⟩
    have HR0 : Hid (objsL (obj s N d) s su ve N (say st1 su ve o) = R0) := hR0.symm
    have HG : Hid (Good s (obj s N d)) := hgood
    have HU1 : Hid (Un s st (say st1 su ve o)) := u1
    have HBu : Hid (bud s st ≤ 200000) := h.bu
    rw [HE.out, ← hR0]
    clear hO1 ho1 h HE HO hR0 on1 u1 hgood
    go_enter Tryz.func95, Tryz.ntmps95
    go_wp2_with fail
    refine HO1.out.mono ?_
    rintro e w1 ⟨rfl, hp1⟩
    go_wp2_with fail
    refine (HSay.out _ _ _ hp1 hl1).mono ?_
    rintro e w2 ⟨rfl, hp2⟩
    go_wp2_with fail
    go_loopw [] (fun wr => ∃ n q, PK w0 b m s q w wr ∧ objsL (obj s N d) s su ve n q = R0 ∧ meas s q < n ∧ Un s st q) (fun wr => msW s b wr)
    case atStart => exact ⟨N, _, hp2, HR0.out, Nat.lt_of_lt_of_le (meas_lt s _) hN, HU1.out⟩
    case round =>
      obtain ⟨n, q, hp, hq, hm, hu⟩ := hrel
      have HPq : Hid (PK w0 b m s q w wr) := hp
      have HUq : Hid (Un s st q) := hu
      have HMq : Hid (msW s b wr = Tu.ms s q) := hp.1.ms
      obtain ⟨n', rfl⟩ : ∃ n', n = n' + 1 := ⟨n - 1, by omega⟩
      cases ht : Tu.takes 44 q with
      | false =>
        rw [objsL_no ht] at hq
        have HT : Hid (Calls Tryz.prog 97 #[.pointer (some ⟨b, 0, none⟩), .int .u8 44] wr fun e w' => e = .returned (.bool false) ∧ PK w0 b m s q w w') := HTn.out q wr hp ht
        have HQ : Hid (R0 = .ok () q) := hq.symm
        clear hp hu ht hq hm HTn HOb HOj HSay
        go_wp2_with fail
        refine HT.out.mono ?_
        rintro e w3 ⟨rfl, hp3⟩
        go_wp2
        go_end0
        rw [HQ.out]
        exact ⟨rfl, hp3⟩
      | true =>
        have hrl := (takes_real ht).1
        have hon := On.of_step hu.wf hrl
        have hu2 := hu.trans hon.un
        have HT : Hid (Calls Tryz.prog 97 #[.pointer (some ⟨b, 0, none⟩), .int .u8 44] wr fun e w' => e = .returned (.bool true) ∧ PK w0 b m s (step s q) w w') := HOb.out q wr hp hu ht
        have hJ := fun w1 (hp1 : PK w0 b m s (step s q) w w1) => HOj.out (step s q) w1 hp1 hu2
        cases hob : obj s N d (step s q) with
        | bad n2 j2 =>
          rw [objsL_bad ht hob] at hq
          rw [hob] at hJ
          have HJ : Hid (∀ w1, PK w0 b m s (step s q) w w1 → Calls Tryz.prog 165 #[.pointer (some ⟨b, 0, none⟩)] w1 fun e w' => e = stopE n2 j2 ∧ Fq w0 b m w') := hJ
          have HQ : Hid (R0 = .bad n2 j2) := hq.symm
          clear hp hu ht hq hm HTn HOb HOj HSay hJ hob hrl hon hu2
          go_wp2_with fail
          refine HT.out.mono ?_
          rintro e w3 ⟨rfl, hp3⟩
          go_wp2_with fail
          refine (HJ.out _ hp3).mono ?_
          rintro e w4 ⟨rfl, hf⟩
          refine ⟨rfl, ?_⟩
          rw [HQ.out]
          exact ⟨rfl, hf⟩
        | ok o2 q2 =>
          rw [objsL_ok ht hob] at hq
          rw [hob] at hJ
          have HJ : Hid (∀ w1, PK w0 b m s (step s q) w w1 → Calls Tryz.prog 165 #[.pointer (some ⟨b, 0, none⟩)] w1 fun e w' => e = .returned (str o2) ∧ PK w0 b m s q2 w w') := fun w1 hp1 => (hJ w1 hp1).mono fun e w' k => ⟨k.1, hp1.on k.2⟩
          have hon2 := hon.trans (HG.out _ _ _ hon.wf hob)
          obtain ⟨s1, s2, s3, s4⟩ := hon2.say su ve o2
          have HU3 : Hid (Un s st (say q2 su ve o2)) := hu.trans (hon2.sayU su ve o2)
          have HM3 : Hid (Tu.ms s (say q2 su ve o2) < Tu.ms s q ∧ meas s (say q2 su ve o2) < n') := ⟨ms_on hrl s3, by omega⟩
          have hl2 : q2.said.length ≤ 1000000 := by
            have h1 := hon2.bu
            have h2 := HBu.out
            have h3 := hu.bu
            unfold bud at h1 h2 h3
            omega
          have HQ : Hid (objsL (obj s N d) s su ve n' (say q2 su ve o2) = R0) := hq
          clear hp hu ht hq hm HTn HOb HOj hJ hob hrl hon hu2 hon2 s1 s2 s3 s4
          go_wp2_with fail
          refine HT.out.mono ?_
          rintro e w3 ⟨rfl, hp3⟩
          go_wp2_with fail
          refine (HJ.out _ hp3).mono ?_
          rintro e w4 ⟨rfl, hp4⟩
          go_wp2_with fail
          refine (HSay.out _ _ _ hp4 hl2).mono ?_
          rintro e w5 ⟨rfl, hp5⟩
          go_wp2_with fail
          go_roundw
          case rel => exact ⟨n', _, hp5, HQ.out, HM3.out.2, HU3.out⟩
          case measure => rw [hp5.1.ms, HMq.out]; exact HM3.out.1

end Tu
end Go.Proofs.YtnffjoipinhojabGreatDoor

