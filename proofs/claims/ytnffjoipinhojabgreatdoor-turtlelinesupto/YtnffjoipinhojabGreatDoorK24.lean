import Derived.Test.YtnffjoipinhojabGreatDoorK23
set_option linter.unusedSimpArgs false
set_option linter.unusedVariables false
namespace Go.Proofs.YtnffjoipinhojabGreatDoor
open Go.RowKit
namespace Tu

theorem key_lit (r : List UInt8) : WideAt.IsKeyLit (keyL r) := by trivial

theorem Nm.put {w : World} {m : Nat} {l : List (List UInt8 × List UInt8)} (h : Nm w m l) (hl : l.length ≤ 1000000) (r g : List UInt8) (hr : r.length ≤ maxLen) :
    ∃ w', (Instr.mapUpdate 79 (.map (some m)) (str r) (.agg #[str r, str g])).run Tryz.prog w = .ok () w' ∧ Nm w' m ((r, g) :: l) ∧ w.grownBy w' (some m) := by
  obtain ⟨D, ho, hD⟩ := h
  obtain ⟨w', hrun, ho', hg⟩ := ho.update keyS und_map (by unfold maxLen; omega) (keyOf_str r hr) (nameElem_mk r g)
  refine ⟨w', hrun, ⟨_, ho', fun x => ?_⟩, hg⟩
  unfold look
  by_cases hx : r = x
  · subst hx
    rw [if_pos rfl]
    exact ⟨Maps.has_put_same ho.isMap (key_lit r) _, fun g' hg' => by cases hg'; exact Maps.atKey_put_same ho.isMap (key_lit r) _ _⟩
  · rw [if_neg hx]
    have hne : keyL x ≠ keyL r := fun e => hx (by cases e; rfl)
    rw [Maps.has_put_other hne, Maps.atKey_put_other hne]
    exact hD x

theorem Pz.named {w0 w w' : World} {b m : Nat} {s : ByteArray} {st : St} {r g : List UInt8} (h : Pz w0 b m s st w) (hn : Nm w' m ((r, g) :: st.names)) (hg : w.grownBy w' (some m)) (hr : r.length ≤ 20) (hl : g.length ≤ 200) : PK w0 b m s { st with names := (r, g) :: st.names } w w' := by
  obtain ⟨k, v, hh, hk, ho⟩ := h.blk
  have hbl := h.bl
  have hml := h.ml
  have hold : ∀ x, x < w.heap.size → x ≠ m → w'.heap[x]? = w.heap[x]? := fun x hx hne => hg.block x hx (fun e => hne (by cases e; rfl))
  have hb := hold b h.lt h.ne
  refine ⟨⟨⟨k, v, hb.trans hh, hk, own_same ho fun x hx hlt => hold x hlt (by omega)⟩, hn, ⟨Nat.le_trans h.fq.size hg.size, ⟨hg.os.trans h.fq.os.1, hg.tape.trans h.fq.os.2.1, hg.output.trans h.fq.os.2.2⟩, fun x hx hxb hxm => (hold x (Nat.lt_of_lt_of_le hx h.fq.size) hxm).trans (h.fq.but x hx hxb hxm)⟩, h.bl, h.ml, h.ne, h.gb, h.gm, h.sz, ⟨h.wf.le, h.wf.tk, ?_⟩⟩, ?_⟩
  · intro x hx
    rcases List.mem_cons.1 hx with rfl | hx
    · exact ⟨hr, hl⟩
    · exact h.wf.nm x hx
  · exact ⟨fun x h0 hx hn2 => hold x hx (by omega), Or.inl (said_same hb), hg.size⟩

theorem nam_cases (sg : Sg) : (∃ r l, sg = .nam r l) ∨ Sg.is_nam sg = false := by
  cases sg
  case nam r l => exact Or.inl ⟨r, l, rfl⟩
  all_goals exact Or.inr rfl
theorem iri_cases (sg : Sg) : (∃ l, sg = .iri l) ∨ Sg.is_iri sg = false := by
  cases sg
  case iri l => exact Or.inl ⟨l, rfl⟩
  all_goals exact Or.inr rfl

/-- no short one stands behind @prefix -/
theorem prefix_no1 (w0 w : World) (b m : Nat) (s : ByteArray) (st : St) (h : Pz w0 b m s st w) (hn : Sg.isNone st.now = false) (hx : Sg.is_nam st.now = false ∨ ∃ r c l, st.now = .nam r (c :: l)) :
    Calls Tryz.prog 57 #[.pointer (some ⟨b, 0, none⟩)] w (PBad w0 b m (refErr st).1 (refErr st).2) := by
  have c2 := h.cell.1
  have hbw := h.lt
  have hc2 : ∀ o, (w.alloc o).cell? ⟨b, 2, none⟩ = some (tokV st.now st.p) := fun o => (World.cell?_alloc_lt _ _ ⟨b, 2, none⟩ hbw).trans c2
  have HR : Hid (∀ w1, Calls Tryz.prog 93 #[tokV st.now st.p] w1 fun e w' => e = stopE (refErr st).1 (refErr st).2 ∧ Below w1.heap.size w1 w') := fun w1 => refuse_any w1 st.now hn st.p st rfl rfl
  have HZ : Hid (∀ o, PK w0 b m s st w (w.alloc o)) := fun o => (PK.refl h).alloc o
  obtain ⟨T, v, htv⟩ := tok_iface hn st.p
  rcases hx with hx | ⟨r, c, l, hx⟩
  · have h1 := as_nam_no hx st.p
    rw [htv] at HR h1 c2 hc2
    generalize (refErr st).1 = n at *
    generalize (refErr st).2 = j at *
    clear h hn htv hx
    go_enter Tryz.func57, Tryz.ntmps57
    go_wp2_with fail
    refine (HR.out _).mono ?_
    rintro e w1 ⟨rfl, hB⟩
    exact ⟨rfl, rfl, (HZ.out _).1.fq.below hB⟩
  · have h1 := as_nam_yes r (c :: l) st.p
    obtain ⟨V, hV⟩ : ∃ V : ByteArray, V = ⟨(c :: l).toArray⟩ := ⟨_, rfl⟩
    have hne : V.toList.isEmpty = false := by rw [hV, str_toList]; rfl
    have e2 : str (c :: l) = .string V := by rw [hV]
    rw [hx] at HR c2 hc2 htv
    rw [e2] at h1
    generalize (refErr st).1 = n at *
    generalize (refErr st).2 = j at *
    have e3 : tokV (.nam r (c :: l)) st.p = .iface 159 (.agg #[.int .i64 st.p, str r, .string V]) := by rw [hV]; rfl
    rw [e3] at HR c2 hc2 h1
    clear h hn htv hx hV e2 e3
    go_enter Tryz.func57, Tryz.ntmps57
    go_wp2_with fail
    refine (HR.out _).mono ?_
    rintro e w1 ⟨rfl, hB⟩
    exact ⟨rfl, rfl, (HZ.out _).1.fq.below hB⟩

/-- no iri stands behind the short one -/
theorem prefix_no2 (w0 w : World) (b m : Nat) (s : ByteArray) (st : St) (r : List UInt8) (h : Pz w0 b m s st w) (hT : Tabs w0) (hx : st.now = .nam r []) (hx2 : Sg.is_iri (step s st).now = false) :
    Calls Tryz.prog 57 #[.pointer (some ⟨b, 0, none⟩)] w (PBad w0 b m (refErr (step s st)).1 (refErr (step s st)).2) := by
  have c2 := h.cell.1
  have hbw := h.lt
  have hnn := h.wf.step.nn
  have HR : Hid (∀ w1, Calls Tryz.prog 93 #[tokV (step s st).now (step s st).p] w1 fun e w' => e = stopE (refErr (step s st)).1 (refErr (step s st)).2 ∧ Below w1.heap.size w1 w') := fun w1 => refuse_any w1 _ hnn _ (step s st) rfl rfl
  have HS : Hid (∀ o, Calls Tryz.prog 55 #[.pointer (some ⟨b, 0, none⟩)] (w.alloc o) fun e w' => e = .returned (.tuple #[]) ∧ PK w0 b m s (step s st) w w') := fun o => stepK ((PK.refl h).alloc o) hT (by rw [hx]; rfl)
  obtain ⟨T, v, htv⟩ := tok_iface hnn (step s st).p
  have h1 := as_nam_yes r [] st.p
  have h2 := as_iri_no hx2 (step s st).p
  have HC : Hid (∀ w1, PK w0 b m s (step s st) w w1 → w1.cell? ⟨b, 2, none⟩ = some (.iface T v) ∧ (∀ o, (w1.alloc o).cell? ⟨b, 2, none⟩ = some (.iface T v)) ∧ ∀ o, PK w0 b m s (step s st) w (w1.alloc o)) := fun w1 hp => by
    have d2 := hp.1.cell.1
    rw [htv] at d2
    exact ⟨d2, fun o => (World.cell?_alloc_lt _ _ ⟨b, 2, none⟩ hp.1.lt).trans d2, fun o => hp.alloc o⟩
  rw [htv] at HR h2
  rw [hx] at c2
  generalize (refErr (step s st)).1 = n at *
  generalize (refErr (step s st)).2 = j at *
  clear h hT hnn htv hx hx2
  go_enter Tryz.func57, Tryz.ntmps57
  go_wp2_with fail
  refine (HS.out _).mono ?_
  rintro e w1 ⟨rfl, hp1⟩
  obtain ⟨d2, d3, d4⟩ := HC.out w1 hp1
  go_wp2_with fail
  refine (HR.out _).mono ?_
  rintro e w2 ⟨rfl, hB⟩
  exact ⟨rfl, rfl, (d4 _).1.fq.below hB⟩

/-- what prefix has at hand at last -/
abbrev XS (b m B1 B2 p : Nat) (r g : List UInt8) (w' : World) : Prop :=
  w'.cell? ⟨b, 3, none⟩ = some (.map (some m)) ∧ w'.cell? ⟨B1, 1, none⟩ = some (str r) ∧ w'.cell? ⟨B2, 0, none⟩ = some (.int .i64 p) ∧ w'.cell? ⟨B2, 1, none⟩ = some (str g)

set_option maxHeartbeats 2000000 in
set_option maxRecDepth 20000 in
theorem prefix_ok (w0 w : World) (b m : Nat) (s : ByteArray) (st : St) (r g : List UInt8) (h : Pz w0 b m s st w) (hT : Tabs w0) (hx : st.now = .nam r []) (hx2 : (step s st).now = .iri g) (hnl : st.names.length ≤ 1000000) (h200 : g.length ≤ 200) :
    Calls Tryz.prog 57 #[.pointer (some ⟨b, 0, none⟩)] w (POk w0 b m s w (.tuple #[]) { (step s (step s st)) with names := (r, g) :: st.names }) := by
  have c2 := h.cell.1
  have hbw := h.lt
  have htk := h.wf.tk
  rw [hx] at htk c2
  have hr20 : r.length ≤ 20 := htk.1
  have HBd : Hid (∀ w1, Calls Tryz.prog 94 #[.iface 163 (.agg #[.int .i64 (step s st).p, str g]), str g] w1 fun e w' => e = .returned (str g) ∧ w' = w1) := fun w1 => bounded_ok w1 (.iri g) (step s st).p _ h200
  have HS : Hid (∀ o, Calls Tryz.prog 55 #[.pointer (some ⟨b, 0, none⟩)] (w.alloc o) fun e w' => e = .returned (.tuple #[]) ∧ PK w0 b m s (step s st) w w' ∧ PK w0 b m s (step s st) (w.alloc o) w') := fun o => (step_any w0 (w.alloc o) b m s st (h.alloc o) hT (by rw [hx]; rfl)).mono fun e w' k => ⟨k.1, ((PK.refl h).alloc o).on k.2, k.2⟩
  have HL : Hid (∀ o, Loc w0 b w.heap.size (w.alloc o)) := fun o => Loc.of_alloc h o
  have HS2 : Hid (∀ w1 o, PK w0 b m s (step s st) w w1 → Calls Tryz.prog 55 #[.pointer (some ⟨b, 0, none⟩)] (w1.alloc o) fun e w' => e = .returned (.tuple #[]) ∧ PK w0 b m s (step s (step s st)) w w' ∧ Kp w0 b (w1.alloc o) w' ∧ w'.heap[w1.heap.size]? = some o) := fun w1 o hp => by
    refine (step_any w0 (w1.alloc o) b m s (step s st) (hp.alloc o).1 hT (by rw [hx2]; rfl)).mono ?_
    rintro e w' ⟨rfl, hp2⟩
    refine ⟨rfl, (hp.alloc o).on hp2, hp2.2, ?_⟩
    rw [(Loc.of_alloc hp.1 o).same hp2.2]
    exact heap_new _ _
  have h1 := as_nam_yes r [] st.p
  have h2 := as_iri_yes g (step s st).p
  have HC : Hid (∀ w1, PK w0 b m s (step s st) w w1 → w1.cell? ⟨b, 2, none⟩ = some (tokV (.iri g) (step s st).p) ∧ b < w1.heap.size) := fun w1 hp => by
    have d2 := hp.1.cell.1
    rw [hx2] at d2
    exact ⟨d2, hp.1.lt⟩
  have HK : Hid (∀ w1 o, Kp w0 b w1 (w1.alloc o) ∨ True) := fun _ _ => Or.inr trivial
  have HKa : Hid (∀ w1 o, PK w0 b m s (step s st) w w1 → Kp w0 b w1 (w1.alloc o)) := fun w1 o hp => (hp.1.keep ((Below.refl _ w1).alloc (Nat.le_refl _) o)).2
  have HUp : Hid (∀ w1, PK w0 b m s (step s (step s st)) w w1 → ∃ W, (Instr.mapUpdate 79 (.map (some m)) (str r) (.agg #[str r, str g])).run Tryz.prog w1 = .ok () W ∧ w1.grownBy W (some m) ∧ PK w0 b m s { (step s (step s st)) with names := (r, g) :: st.names } w W) := fun w1 hp => by
    obtain ⟨W, hrun, hN, hG⟩ := hp.1.nm.put hnl r g (by unfold maxLen; omega)
    exact ⟨W, hrun, hG, hp.on (hp.1.named hN hG hr20 h200)⟩
  have hbm : b ≠ m := h.ne
  have hml : m < w.heap.size := Nat.lt_of_lt_of_le h.ml h.fq.size
  clear h hT hx hx2 htk h200
  go_enter Tryz.func57, Tryz.ntmps57
  go_wp2_with fail
  refine (HS.out _).mono ?_
  rintro e w1 ⟨rfl, hp1, hq1⟩
  obtain ⟨d2, hb1⟩ := HC.out w1 hp1
  have l1 := (HL.out _).on hq1.2
  have b1 : w1.heap[w.heap.size]? = some (.cells #[.int .i64 st.p, str r, .string ⟨#[]⟩] 159 (0, 0)) := ((HL.out _).same hq1.2).trans (heap_new _ _)
  go_wp2_with fail
  refine (HS2.out w1 _ hp1).mono ?_
  rintro e w2 ⟨rfl, hp2, hk2, b2⟩
  have b1' := (l1.same ((HKa.out w1 _ hp1).trans hk2)).trans b1
  have hw12 : w.heap.size < w1.heap.size := l1.lt
  have c3 := hp2.1.cell.2.1
  have HX : XS b m w.heap.size w1.heap.size (step s st).p r g w2.drew := ⟨c3, by
    show w2.cell? _ = _
    rw [Lib.cell_of_heap b1']; rfl, by
    show w2.cell? _ = _
    rw [Lib.cell_of_heap b2]; rfl, by
    show w2.cell? _ = _
    rw [Lib.cell_of_heap b2]; rfl⟩
  have HP2 : Hid (PK w0 b m s (step s (step s st)) w w2.drew) := hp2.same (Below.refl _ w2).drew
  go_wp2_with fail
  refine wp_region_held_drew (S := XS b m w.heap.size w1.heap.size (step s st).p r g) (by kernel_rfl) HX (fun hHeld => ?_)
  refine wpAnyH_take (i := 0) (v := .pointer (some ⟨b, 0, none⟩)) rfl (by kernel_rfl) (by kernel_rfl) (by kernel_rfl) (fun _ _ _ h => h) (Or.inl ⟨by rfl, fun w' hSw => ?_⟩) (by assumption) ?_
  · obtain ⟨g0, g1, g2, g3⟩ := hSw
    go_simp
  refine wpAnyH_take (i := 1) (v := .pointer (some ⟨b, 0, none⟩)) rfl (by kernel_rfl) (by kernel_rfl) (by kernel_rfl) (fun _ _ _ h => h) (Or.inl ⟨by rfl, fun w' hSw => ?_⟩) (by assumption) ?_
  · obtain ⟨g0, g1, g2, g3⟩ := hSw
    go_simp
  refine wpAnyH_take (i := 2) (v := .pointer (some ⟨b, 3, none⟩)) rfl (by kernel_rfl) (by kernel_rfl) (by kernel_rfl) (fun _ _ _ h => h) (Or.inl ⟨by rfl, fun w' hSw => ?_⟩) (by assumption) ?_
  · obtain ⟨g0, g1, g2, g3⟩ := hSw
    go_simp
  refine wpAnyH_take (i := 3) (v := .map (some m)) rfl (by kernel_rfl) (by kernel_rfl) (by kernel_rfl) (fun _ _ _ h => h) (Or.inl ⟨by rfl, fun w' hSw => ?_⟩) (by assumption) ?_
  · obtain ⟨g0, g1, g2, g3⟩ := hSw
    go_simp
  refine wpAnyH_take (i := 4) (v := .pointer (some ⟨w.heap.size, 1, none⟩)) rfl (by kernel_rfl) (by kernel_rfl) (by kernel_rfl) (fun _ _ _ h => h) (Or.inl ⟨by rfl, fun w' hSw => ?_⟩) (by assumption) ?_
  · obtain ⟨g0, g1, g2, g3⟩ := hSw
    go_simp
  refine wpAnyH_take (i := 5) (v := str r) rfl (by kernel_rfl) (by kernel_rfl) (by kernel_rfl) (fun _ _ _ h => h) (Or.inl ⟨by rfl, fun w' hSw => ?_⟩) (by assumption) ?_
  · obtain ⟨g0, g1, g2, g3⟩ := hSw
    go_simp
  refine wpAnyH_take (i := 6) (v := .pointer (some ⟨w.heap.size, 1, none⟩)) rfl (by kernel_rfl) (by kernel_rfl) (by kernel_rfl) (fun _ _ _ h => h) (Or.inl ⟨by rfl, fun w' hSw => ?_⟩) (by assumption) ?_
  · obtain ⟨g0, g1, g2, g3⟩ := hSw
    go_simp
  refine wpAnyH_take (i := 7) (v := str r) rfl (by kernel_rfl) (by kernel_rfl) (by kernel_rfl) (fun _ _ _ h => h) (Or.inl ⟨by rfl, fun w' hSw => ?_⟩) (by assumption) ?_
  · obtain ⟨g0, g1, g2, g3⟩ := hSw
    go_simp
  refine wpAnyH_take (i := 8) (v := .agg #[.int .i64 (step s st).p, str g]) rfl (by kernel_rfl) (by kernel_rfl) (by kernel_rfl) (fun _ _ _ h => h) (Or.inl ⟨by rfl, fun w' hSw => ?_⟩) (by assumption) ?_
  · obtain ⟨g0, g1, g2, g3⟩ := hSw
    go_simp
  refine wpAnyH_take (i := 9) (v := .iface 163 (.agg #[.int .i64 (step s st).p, str g])) rfl (by kernel_rfl) (by kernel_rfl) (by kernel_rfl) (fun _ _ _ h => h) (Or.inl ⟨by rfl, fun w' hSw => ?_⟩) (by assumption) ?_
  · obtain ⟨g0, g1, g2, g3⟩ := hSw
    go_simp
  refine wpAnyH_take (i := 10) (v := .pointer (some ⟨w1.heap.size, 1, none⟩)) rfl (by kernel_rfl) (by kernel_rfl) (by kernel_rfl) (fun _ _ _ h => h) (Or.inl ⟨by rfl, fun w' hSw => ?_⟩) (by assumption) ?_
  · obtain ⟨g0, g1, g2, g3⟩ := hSw
    go_simp
  refine wpAnyH_take (i := 11) (v := str g) rfl (by kernel_rfl) (by kernel_rfl) (by kernel_rfl) (fun _ _ _ h => h) (Or.inl ⟨by rfl, fun w' hSw => ?_⟩) (by assumption) ?_
  · obtain ⟨g0, g1, g2, g3⟩ := hSw
    go_simp
  refine wpAnyH_ready (rs := [12]) (by kernel_rfl) (by simp) (AllReadyH.cons rfl (fun K hK => ?_) AllReadyH.nil)
  go_simp
  go_at_call 94
  refine (HBd.out _).mono ?_
  rintro e wg ⟨rfl, rfl⟩
  refine hK.out _ _ hHeld (fun hHeld3 => ?_)
  refine wpAnyH_take (i := 13) (v := .agg #[str r, str g]) rfl (by kernel_rfl) (by kernel_rfl) (by kernel_rfl) (fun _ _ _ h => h) (Or.inl ⟨by rfl, fun w' hSw => ?_⟩) (by assumption) ?_
  · obtain ⟨g0, g1, g2, g3⟩ := hSw
    go_simp
  obtain ⟨W, hrun, hgr, hpW⟩ := HUp.out _ HP2.out
  refine wpAnyH_ready (rs := [14]) (by kernel_rfl) (by simp) (AllReadyH.cons rfl (fun K hK => ?_) AllReadyH.nil)
  go_simp
  have hw2 := hp2.2.sz
  have hkeep : ∀ k o, k < w2.heap.size → k ≠ m → W.cell? ⟨k, o, none⟩ = w2.cell? ⟨k, o, none⟩ := fun k o hk hne => World.cell?_of_block (a := ⟨k, o, none⟩) (hgr.block k hk (fun e => hne (by cases e; rfl)))
  have hs1 := (Array.getElem?_eq_some_iff.1 b2).1
  obtain ⟨x0, x1, x2, x3⟩ := HX
  refine hK.out _ _ ⟨(hkeep b 3 (by omega) hbm).trans x0, (hkeep w.heap.size 1 (by omega) (by omega)).trans x1, (hkeep w1.heap.size 0 hs1 (by omega)).trans x2, (hkeep w1.heap.size 1 hs1 (by omega)).trans x3⟩ (fun hHeld4 => ?_)
  refine wpAnyH_done (by kernel_rfl) ?_ _
  go_wp2
  go_end0
  exact ⟨rfl, hpW⟩

set_option maxHeartbeats 2000000 in
set_option maxRecDepth 20000 in
theorem prefix_long (w0 w : World) (b m : Nat) (s : ByteArray) (st : St) (r g : List UInt8) (h : Pz w0 b m s st w) (hT : Tabs w0) (hx : st.now = .nam r []) (hx2 : (step s st).now = .iri g) (h200 : 200 < g.length) :
    Calls Tryz.prog 57 #[.pointer (some ⟨b, 0, none⟩)] w (PBad w0 b m 4 (step s st).p) := by
  have c2 := h.cell.1
  have hbw := h.lt
  have htk := h.wf.tk
  rw [hx] at htk c2
  have hr20 : r.length ≤ 20 := htk.1
  have HBd : Hid (∀ w1, Calls Tryz.prog 94 #[.iface 163 (.agg #[.int .i64 (step s st).p, str g]), str g] w1 fun e w' => e = stopE 4 (step s st).p ∧ w' = w1) := fun w1 => bounded_bad w1 (.iri g) rfl (step s st).p _ h200
  have HS : Hid (∀ o, Calls Tryz.prog 55 #[.pointer (some ⟨b, 0, none⟩)] (w.alloc o) fun e w' => e = .returned (.tuple #[]) ∧ PK w0 b m s (step s st) w w' ∧ PK w0 b m s (step s st) (w.alloc o) w') := fun o => (step_any w0 (w.alloc o) b m s st (h.alloc o) hT (by rw [hx]; rfl)).mono fun e w' k => ⟨k.1, ((PK.refl h).alloc o).on k.2, k.2⟩
  have HL : Hid (∀ o, Loc w0 b w.heap.size (w.alloc o)) := fun o => Loc.of_alloc h o
  have HS2 : Hid (∀ w1 o, PK w0 b m s (step s st) w w1 → Calls Tryz.prog 55 #[.pointer (some ⟨b, 0, none⟩)] (w1.alloc o) fun e w' => e = .returned (.tuple #[]) ∧ PK w0 b m s (step s (step s st)) w w' ∧ Kp w0 b (w1.alloc o) w' ∧ w'.heap[w1.heap.size]? = some o) := fun w1 o hp => by
    refine (step_any w0 (w1.alloc o) b m s (step s st) (hp.alloc o).1 hT (by rw [hx2]; rfl)).mono ?_
    rintro e w' ⟨rfl, hp2⟩
    refine ⟨rfl, (hp.alloc o).on hp2, hp2.2, ?_⟩
    rw [(Loc.of_alloc hp.1 o).same hp2.2]
    exact heap_new _ _
  have h1 := as_nam_yes r [] st.p
  have h2 := as_iri_yes g (step s st).p
  have HC : Hid (∀ w1, PK w0 b m s (step s st) w w1 → w1.cell? ⟨b, 2, none⟩ = some (tokV (.iri g) (step s st).p) ∧ b < w1.heap.size) := fun w1 hp => by
    have d2 := hp.1.cell.1
    rw [hx2] at d2
    exact ⟨d2, hp.1.lt⟩
  have HK : Hid (∀ w1 o, Kp w0 b w1 (w1.alloc o) ∨ True) := fun _ _ => Or.inr trivial
  have HKa : Hid (∀ w1 o, PK w0 b m s (step s st) w w1 → Kp w0 b w1 (w1.alloc o)) := fun w1 o hp => (hp.1.keep ((Below.refl _ w1).alloc (Nat.le_refl _) o)).2
  clear h hT hx hx2 htk h200
  go_enter Tryz.func57, Tryz.ntmps57
  go_wp2_with fail
  refine (HS.out _).mono ?_
  rintro e w1 ⟨rfl, hp1, hq1⟩
  obtain ⟨d2, hb1⟩ := HC.out w1 hp1
  have l1 := (HL.out _).on hq1.2
  have b1 : w1.heap[w.heap.size]? = some (.cells #[.int .i64 st.p, str r, .string ⟨#[]⟩] 159 (0, 0)) := ((HL.out _).same hq1.2).trans (heap_new _ _)
  go_wp2_with fail
  refine (HS2.out w1 _ hp1).mono ?_
  rintro e w2 ⟨rfl, hp2, hk2, b2⟩
  have b1' := (l1.same ((HKa.out w1 _ hp1).trans hk2)).trans b1
  have hw12 : w.heap.size < w1.heap.size := l1.lt
  have c3 := hp2.1.cell.2.1
  have HX : XS b m w.heap.size w1.heap.size (step s st).p r g w2.drew := ⟨c3, by
    show w2.cell? _ = _
    rw [Lib.cell_of_heap b1']; rfl, by
    show w2.cell? _ = _
    rw [Lib.cell_of_heap b2]; rfl, by
    show w2.cell? _ = _
    rw [Lib.cell_of_heap b2]; rfl⟩
  have HP2 : Hid (PK w0 b m s (step s (step s st)) w w2.drew) := hp2.same (Below.refl _ w2).drew
  go_wp2_with fail
  refine wp_region_held_drew (S := XS b m w.heap.size w1.heap.size (step s st).p r g) (by kernel_rfl) HX (fun hHeld => ?_)
  refine wpAnyH_take (i := 0) (v := .pointer (some ⟨b, 0, none⟩)) rfl (by kernel_rfl) (by kernel_rfl) (by kernel_rfl) (fun _ _ _ h => h) (Or.inl ⟨by rfl, fun w' hSw => ?_⟩) (by assumption) ?_
  · obtain ⟨g0, g1, g2, g3⟩ := hSw
    go_simp
  refine wpAnyH_take (i := 1) (v := .pointer (some ⟨b, 0, none⟩)) rfl (by kernel_rfl) (by kernel_rfl) (by kernel_rfl) (fun _ _ _ h => h) (Or.inl ⟨by rfl, fun w' hSw => ?_⟩) (by assumption) ?_
  · obtain ⟨g0, g1, g2, g3⟩ := hSw
    go_simp
  refine wpAnyH_take (i := 2) (v := .pointer (some ⟨b, 3, none⟩)) rfl (by kernel_rfl) (by kernel_rfl) (by kernel_rfl) (fun _ _ _ h => h) (Or.inl ⟨by rfl, fun w' hSw => ?_⟩) (by assumption) ?_
  · obtain ⟨g0, g1, g2, g3⟩ := hSw
    go_simp
  refine wpAnyH_take (i := 3) (v := .map (some m)) rfl (by kernel_rfl) (by kernel_rfl) (by kernel_rfl) (fun _ _ _ h => h) (Or.inl ⟨by rfl, fun w' hSw => ?_⟩) (by assumption) ?_
  · obtain ⟨g0, g1, g2, g3⟩ := hSw
    go_simp
  refine wpAnyH_take (i := 4) (v := .pointer (some ⟨w.heap.size, 1, none⟩)) rfl (by kernel_rfl) (by kernel_rfl) (by kernel_rfl) (fun _ _ _ h => h) (Or.inl ⟨by rfl, fun w' hSw => ?_⟩) (by assumption) ?_
  · obtain ⟨g0, g1, g2, g3⟩ := hSw
    go_simp
  refine wpAnyH_take (i := 5) (v := str r) rfl (by kernel_rfl) (by kernel_rfl) (by kernel_rfl) (fun _ _ _ h => h) (Or.inl ⟨by rfl, fun w' hSw => ?_⟩) (by assumption) ?_
  · obtain ⟨g0, g1, g2, g3⟩ := hSw
    go_simp
  refine wpAnyH_take (i := 6) (v := .pointer (some ⟨w.heap.size, 1, none⟩)) rfl (by kernel_rfl) (by kernel_rfl) (by kernel_rfl) (fun _ _ _ h => h) (Or.inl ⟨by rfl, fun w' hSw => ?_⟩) (by assumption) ?_
  · obtain ⟨g0, g1, g2, g3⟩ := hSw
    go_simp
  refine wpAnyH_take (i := 7) (v := str r) rfl (by kernel_rfl) (by kernel_rfl) (by kernel_rfl) (fun _ _ _ h => h) (Or.inl ⟨by rfl, fun w' hSw => ?_⟩) (by assumption) ?_
  · obtain ⟨g0, g1, g2, g3⟩ := hSw
    go_simp
  refine wpAnyH_take (i := 8) (v := .agg #[.int .i64 (step s st).p, str g]) rfl (by kernel_rfl) (by kernel_rfl) (by kernel_rfl) (fun _ _ _ h => h) (Or.inl ⟨by rfl, fun w' hSw => ?_⟩) (by assumption) ?_
  · obtain ⟨g0, g1, g2, g3⟩ := hSw
    go_simp
  refine wpAnyH_take (i := 9) (v := .iface 163 (.agg #[.int .i64 (step s st).p, str g])) rfl (by kernel_rfl) (by kernel_rfl) (by kernel_rfl) (fun _ _ _ h => h) (Or.inl ⟨by rfl, fun w' hSw => ?_⟩) (by assumption) ?_
  · obtain ⟨g0, g1, g2, g3⟩ := hSw
    go_simp
  refine wpAnyH_take (i := 10) (v := .pointer (some ⟨w1.heap.size, 1, none⟩)) rfl (by kernel_rfl) (by kernel_rfl) (by kernel_rfl) (fun _ _ _ h => h) (Or.inl ⟨by rfl, fun w' hSw => ?_⟩) (by assumption) ?_
  · obtain ⟨g0, g1, g2, g3⟩ := hSw
    go_simp
  refine wpAnyH_take (i := 11) (v := str g) rfl (by kernel_rfl) (by kernel_rfl) (by kernel_rfl) (fun _ _ _ h => h) (Or.inl ⟨by rfl, fun w' hSw => ?_⟩) (by assumption) ?_
  · obtain ⟨g0, g1, g2, g3⟩ := hSw
    go_simp
  refine wpAnyH_ready (rs := [12]) (by kernel_rfl) (by simp) (AllReadyH.cons rfl (fun K hK => ?_) AllReadyH.nil)
  go_simp
  go_at_call 94
  refine (HBd.out _).mono ?_
  rintro e wg ⟨rfl, rfl⟩
  exact ⟨rfl, rfl, HP2.out.1.fq⟩

theorem prefix_any (w0 w : World) (b m d : Nat) (s : ByteArray) (st : St) (h : Go0 w0 b m s d st w) (hnl : st.names.length ≤ 1000000) :
    Calls Tryz.prog 57 #[.pointer (some ⟨b, 0, none⟩)] w (PRes w0 b m s w (fun _ => .tuple #[]) (prefixP s st)) := by
  rcases nam_cases st.now with ⟨r, l, hx⟩ | hx
  · cases l with
    | cons c l =>
      have e : prefixP s st = refused st := by unfold prefixP; rw [hx]; simp
      rw [e]
      exact prefix_no1 w0 w b m s st h.pz h.nn (Or.inr ⟨r, c, l, hx⟩)
    | nil =>
      rcases iri_cases (step s st).now with ⟨g, hg⟩ | hg
      · by_cases h200 : 200 < g.length
        · have e : prefixP s st = .bad 4 (step s st).p := by unfold prefixP; rw [hx]; simp only [if_true]; rw [hg]; simp only; rw [if_pos h200]
          rw [e]
          exact prefix_long w0 w b m s st r g h.pz h.tb hx hg h200
        · have e : prefixP s st = .ok () { (step s (step s st)) with names := (r, g) :: st.names } := by unfold prefixP; rw [hx]; simp only [if_true]; rw [hg]; simp only; rw [if_neg h200]
          rw [e]
          exact prefix_ok w0 w b m s st r g h.pz h.tb hx hg hnl (by omega)
      · have e : prefixP s st = refused (step s st) := by
          unfold prefixP
          rw [hx]
          simp only [if_true]
          split
          · rename_i g hq; rw [hq] at hg; cases hg
          · rfl
        rw [e]
        exact prefix_no2 w0 w b m s st r h.pz h.tb hx hg
  · have e : prefixP s st = refused st := by
      unfold prefixP
      split
      · rename_i r l hq; rw [hq] at hx; cases hx
      · rfl
    rw [e]
    exact prefix_no1 w0 w b m s st h.pz h.nn (Or.inl hx)

end Tu
end Go.Proofs.YtnffjoipinhojabGreatDoor

set_option linter.unusedSimpArgs false
set_option linter.unusedVariables false
namespace Go.Proofs.YtnffjoipinhojabGreatDoor
open Go.RowKit
namespace Tu

/-! The names stay. -/
def Nam (ob : St → PR (List UInt8)) : Prop := ∀ st o st', ob st = .ok o st' → st'.names = st.names

theorem iriP_nm {s : ByteArray} {st st' : St} {l : List UInt8} (hr : iriP s st = .ok l st') : st'.names = st.names := by
  unfold iriP at hr
  split at hr
  · cases hr; rfl
  · split at hr
    · cases hr
    · cases hr; rfl
  · unfold refused at hr; cases hr
theorem res_nm {s : ByteArray} {st st' : St} {l : List UInt8} (hr : res s st = .ok l st') : st'.names = st.names := by
  unfold res at hr
  split at hr
  · cases hr
  · rename_i l1 st1 h1
    obtain ⟨_, rfl, _⟩ := bnd_ok hr
    exact iriP_nm h1
theorem verb_nm {s : ByteArray} {st st' : St} {l : List UInt8} (hr : verb s st = .ok l st') : st'.names = st.names := by
  unfold verb at hr
  split at hr
  · split at hr
    · cases hr; rfl
    · exact res_nm hr
  · exact res_nm hr
theorem lit_nm {s : ByteArray} {st st' : St} {t l : List UInt8} (hr : lit s t st = .ok l st') : st'.names = st.names := by
  unfold lit at hr
  split at hr
  · obtain ⟨_, rfl, _⟩ := bnd_ok hr; rfl
  · split at hr
    · cases hr
    · rename_i k st2 hk
      obtain ⟨_, rfl, _⟩ := bnd_ok hr
      have q := iriP_nm hk
      exact q
  · obtain ⟨_, rfl, _⟩ := bnd_ok hr; rfl
theorem want_nm {s : ByteArray} {c : Nat} {st st' : St} {u : Unit} (hr : want s c st = .ok u st') : st'.names = st.names := by
  unfold want at hr
  split at hr
  · split at hr
    · cases hr; rfl
    · unfold refused at hr; cases hr
  · unfold refused at hr; cases hr
theorem objsL_nm {s : ByteArray} {ob : St → PR (List UInt8)} (hob : Nam ob) {su ve : List UInt8} : ∀ (n : Nat) (st : St) {u : Unit} {st' : St}, objsL ob s su ve n st = .ok u st' → st'.names = st.names
  | 0, st, u, st', hr => by cases hr
  | n + 1, st, u, st', hr => by
    unfold objsL at hr
    split at hr
    · split at hr
      · cases hr
      · rename_i o st1 h1
        have q1 := objsL_nm hob n _ hr
        have q2 := hob _ _ _ h1
        exact Eq.trans q1 q2
    · cases hr; rfl
theorem objs_nm {s : ByteArray} {ob : St → PR (List UInt8)} (hob : Nam ob) {N : Nat} {su ve : List UInt8} {st st' : St} {u : Unit} (hr : objs ob s N su ve st = .ok u st') : st'.names = st.names := by
  unfold objs at hr
  split at hr
  · cases hr
  · rename_i o st1 h1
    have q1 := objsL_nm hob N _ hr
    have q2 := hob _ _ _ h1
    exact Eq.trans q1 q2
theorem listL_nm {s : ByteArray} {ob : St → PR (List UInt8)} (hob : Nam ob) {N : Nat} {su : List UInt8} : ∀ (n : Nat) (st : St) {u : Unit} {st' : St}, listL ob s N su n st = .ok u st' → st'.names = st.names
  | 0, st, u, st', hr => by cases hr
  | n + 1, st, u, st', hr => by
    unfold listL at hr
    split at hr
    · split at hr
      · have q := listL_nm hob n _ hr
        exact q
      · split at hr
        · cases hr
        · rename_i v st1 h1
          split at hr
          · cases hr
          · rename_i st2 h2
            have q1 := listL_nm hob n _ hr
            have q2 := objs_nm hob h2
            have q3 := verb_nm h1
            exact Eq.trans q1 (Eq.trans q2 q3)
    · cases hr; rfl
theorem list_nm {s : ByteArray} {ob : St → PR (List UInt8)} (hob : Nam ob) {N : Nat} {su : List UInt8} {st st' : St} {u : Unit} (hr : list ob s N su st = .ok u st') : st'.names = st.names := by
  unfold list at hr
  split at hr
  · cases hr
  · rename_i v st1 h1
    split at hr
    · cases hr
    · rename_i st2 h2
      exact (listL_nm hob N _ hr).trans ((objs_nm hob h2).trans (verb_nm h1))
theorem brack_nm {s : ByteArray} {ob : St → PR (List UInt8)} (hob : Nam ob) {N : Nat} : Nam (brack ob s N) := by
  intro st l st' hr
  unfold brack at hr
  split at hr
  · split at hr
    · cases hr
    · rename_i st1 h1
      cases hr
      have q := want_nm h1
      exact q
  · split at hr
    · cases hr
    · rename_i st1 h1
      split at hr
      · cases hr
      · rename_i st2 h2
        cases hr
        have q1 := want_nm h2
        have q2 := list_nm hob h1
        exact Eq.trans q1 q2
theorem roundL_nm {s : ByteArray} {ob : St → PR (List UInt8)} (hob : Nam ob) : ∀ (n : Nat) (ns : List (List UInt8)) (st : St) {r : List (List UInt8)} {st' : St}, roundL ob s n ns st = .ok r st' → st'.names = st.names
  | 0, ns, st, r, st', hr => by cases hr
  | n + 1, ns, st, r, st', hr => by
    unfold roundL at hr
    split at hr
    · cases hr; rfl
    · split at hr
      · cases hr
      · rename_i o st1 h1
        have q1 := roundL_nm hob n _ _ hr
        have q2 := hob _ _ _ h1
        exact Eq.trans q1 q2
theorem round_nm {s : ByteArray} {ob : St → PR (List UInt8)} (hob : Nam ob) {N : Nat} : Nam (round ob s N) := by
  intro st l st' hr
  unfold round at hr
  split at hr
  · cases hr
  · rename_i ns st1 h1
    cases hr
    have q := roundL_nm hob N [] st h1
    exact q
theorem nest_nm {s : ByteArray} {inner : St → PR (List UInt8)} (hin : Nam inner) : Nam (nest inner s) := by
  intro st l st' hr
  unfold nest at hr
  split at hr
  · cases hr
  · split at hr
    · cases hr
    · rename_i l1 st1 h1
      cases hr
      have q := hin _ _ _ h1
      exact q
theorem subj_nm {s : ByteArray} {ob : St → PR (List UInt8)} (hob : Nam ob) {N : Nat} : Nam (subj ob s N) := by
  intro st l st' hr
  unfold subj at hr
  split at hr
  · split at hr
    · cases hr
    · cases hr; rfl
  · split at hr
    · exact nest_nm (brack_nm hob) _ _ _ hr
    · split at hr
      · exact nest_nm (round_nm hob) _ _ _ hr
      · exact res_nm hr
  · exact res_nm hr
theorem objG_nm {s : ByteArray} {ob : St → PR (List UInt8)} (hob : Nam ob) {N : Nat} : Nam (objG ob s N) := by
  intro st l st' hr
  unfold objG at hr
  split at hr
  · exact lit_nm hr
  · obtain ⟨_, rfl, _⟩ := bnd_ok hr; rfl
  · split at hr
    · cases hr; rfl
    · exact subj_nm hob _ _ _ hr
  · exact subj_nm hob _ _ _ hr
theorem dead_nm : Nam (fun _ => .bad 0 0) := fun st o st' hr => by cases hr
theorem obj_nm (s : ByteArray) (N : Nat) : ∀ d, Nam (obj s N d)
  | 0 => objG_nm dead_nm
  | d + 1 => objG_nm (obj_nm s N d)
theorem inn_nm (s : ByteArray) (N : Nat) : ∀ d, Nam (inn s N d)
  | 0 => dead_nm
  | d + 1 => obj_nm s N d

/-- what a sentence, or a prefix, comes to -/
structure Snt (s : ByteArray) (st st' : St) : Prop where
  wf : Wf s st'
  dp : st'.depth = st.depth
  me : meas s st' < meas s st
  bu : bud s st' ≤ bud s st
  nm : st'.names.length + meas s st' ≤ st.names.length + meas s st
  rl : st.now.real = true
theorem Snt.of_on {s : ByteArray} {st st' : St} (h : On s st st') (hn : st'.names = st.names) : Snt s st st' := ⟨h.wf, h.dp, h.me, by have := h.bu; omega, by rw [hn]; have := h.me; omega, h.rl⟩
theorem Snt.on {s : ByteArray} {a b c : St} (h : Snt s a b) (k : On s b c) (hn : c.names = b.names) : Snt s a c := ⟨k.wf, k.dp.trans h.dp, Nat.lt_trans k.me h.me, by have := h.bu; have := k.bu; omega, by rw [hn]; have := h.nm; have := k.me; omega, h.rl⟩

theorem prefixP_snt {s : ByteArray} {st st' : St} {u : Unit} (h : Wf s st) (hr : prefixP s st = .ok u st') : Snt s st st' := by
  unfold prefixP at hr
  split at hr
  · rename_i r l hx
    split at hr
    · split at hr
      · rename_i g hg
        split at hr
        · cases hr
        · rename_i h200
          cases hr
          have hrl : st.now.real = true := by rw [hx]; rfl
          have o1 := On.of_step h hrl
          have o2 := o1.trans (On.of_step o1.wf (by rw [hg]; rfl))
          have htk := h.tk
          rw [hx] at htk
          refine ⟨⟨⟨o2.wf.le, o2.wf.tk, fun x hx => ?_⟩, o2.wf.nn⟩, o2.dp, o2.me, ?_, ?_, hrl⟩
          · rcases List.mem_cons.1 hx with rfl | hx
            · exact ⟨htk.1, by show g.length ≤ 200; omega⟩
            · exact h.nm x hx
          · have := o2.bu
            have e : bud s { (step s (step s st)) with names := (r, g) :: st.names } = bud s (step s (step s st)) := rfl
            rw [e]
            omega
          · have e : meas s { (step s (step s st)) with names := (r, g) :: st.names } = meas s (step s (step s st)) := rfl
            rw [e]
            have := o2.me
            simp
            omega
      · unfold refused at hr; cases hr
    · unfold refused at hr; cases hr
  · unfold refused at hr; cases hr

theorem pre_cases (sg : Sg) : sg = .fin ∨ sg = .pre ∨ (Sg.is_fin sg = false ∧ Sg.is_pre sg = false) := by
  cases sg
  case fin => exact Or.inl rfl
  case pre => exact Or.inr (Or.inl rfl)
  all_goals exact Or.inr (Or.inr ⟨rfl, rfl⟩)
theorem sentL_pre {s : ByteArray} {N : Nat} {st : St} (h : st.now = .pre) : sentL s N st = prefixP s (step s st) := by unfold sentL; rw [h]
theorem sentL_sub {s : ByteArray} {N : Nat} {st : St} (h : Sg.is_pre st.now = false) : sentL s N st = match subj (inn s N 8) s N st with
    | .bad n j => .bad n j
    | .ok su st1 => list (obj s N 8) s N su st1 := by
  unfold sentL
  split
  · rename_i hq; rw [hq] at h; cases h
  · rfl
theorem textL_fin {s : ByteArray} {N n : Nat} {st : St} (h : st.now = .fin) : textL s N (n + 1) st = .ok () st := by rw [textL, h]
theorem textL_on {s : ByteArray} {N n : Nat} {st : St} (h : Sg.is_fin st.now = false) : textL s N (n + 1) st = match sentL s N st with
    | .bad n j => .bad n j
    | .ok _ st1 => match want s 46 st1 with
      | .bad n j => .bad n j
      | .ok _ st2 => textL s N n st2 := by
  rw [textL]
  split
  · rename_i hq; rw [hq] at h; cases h
  · rfl

end Tu
end Go.Proofs.YtnffjoipinhojabGreatDoor

