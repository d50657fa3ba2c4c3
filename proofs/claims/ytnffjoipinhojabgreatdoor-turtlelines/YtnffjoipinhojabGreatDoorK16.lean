import Derived.Test.YtnffjoipinhojabGreatDoorK15
set_option linter.unusedSimpArgs false
set_option linter.unusedVariables false
namespace Go.Proofs.YtnffjoipinhojabGreatDoor
open Go.RowKit
namespace Tu

/-- what step has laid ahead of gap -/
def sW1 (w : World) (b : Nat) (pp : Int) (ss : ByteArray) (x : Bool) : World := ((w.alloc (.cells #[.pointer (some ⟨b, 0, none⟩)] 150)).alloc (.cells #[.int .i64 pp, .string ss] 152)).alloc (.cells #[.bool x] 4)
theorem sW1_size (w : World) (b : Nat) (pp : Int) (ss : ByteArray) (x : Bool) : (sW1 w b pp ss x).heap.size = w.heap.size + 3 := by simp [sW1]
theorem sW1_below (w : World) (b : Nat) (pp : Int) (ss : ByteArray) (x : Bool) : Below w.heap.size w (sW1 w b pp ss x) := (((Below.refl _ w).alloc (Nat.le_refl _) _).alloc (by simp) _).alloc (by simp; omega) _
theorem sW1_c0 (w : World) (b : Nat) (pp : Int) (ss : ByteArray) (x : Bool) : (sW1 w b pp ss x).cell? ⟨w.heap.size, 0, none⟩ = some (.pointer (some ⟨b, 0, none⟩)) := by
  unfold sW1
  rw [World.cell?_alloc_lt _ _ _ (by simp; omega), World.cell?_alloc_lt _ _ _ (by simp), World.cell?_alloc_at _ _ _ _ (by simp)]
  rfl
theorem sW1_c2 (w : World) (b : Nat) (pp : Int) (ss : ByteArray) (x : Bool) : (sW1 w b pp ss x).cell? ⟨w.heap.size + 2, 0, none⟩ = some (.bool x) := by
  unfold sW1
  rw [World.cell?_alloc_at _ _ _ _ (by simp)]
  rfl

/-- what step hands to Catch -/
def sW2 (w2 : World) (y : Bool) (j : Nat) : World := (w2.alloc (.cells #[.bool y] 4)).alloc (.cells #[.int .i64 j] 112)
theorem sW2_size (w2 : World) (y : Bool) (j : Nat) : (sW2 w2 y j).heap.size = w2.heap.size + 2 := by simp [sW2]
def sU (w2 : World) (y : Bool) (j : Nat) : World := (sW2 w2 y j).alloc (.cells #[.nilIface] 52)
theorem sU_size (w2 : World) (y : Bool) (j : Nat) : (sU w2 y j).heap.size = w2.heap.size + 3 := by simp [sU, sW2]
theorem sU_below (w2 : World) (y : Bool) (j : Nat) : Below w2.heap.size w2 (sU w2 y j) := (((Below.refl _ w2).alloc (Nat.le_refl _) _).alloc (by simp) _).alloc (by simp; omega) _
theorem sU_err (w2 : World) (y : Bool) (j : Nat) : (sU w2 y j).heap[(sW2 w2 y j).heap.size]? = some (.cells #[.nilIface] 52 (0, 0)) := heap_new _ _

theorem cp_of {w w2 : World} {b j : Nat} {pp : Int} {ss : ByteArray} {x y : Bool} (hb : b < w.heap.size) (a : Adv b j (sW1 w b pp ss x) w2) : Cp (sU w2 y j) b j w.heap.size (w2.heap.size + 1) (w.heap.size + 2) w2.heap.size x y := by
  have hs := a.size
  rw [sW1_size] at hs
  have hB := sU_below w2 y j
  refine ⟨?_, ?_, ?_, ?_⟩
  · rw [hB.cell (p := ⟨w.heap.size, 0, none⟩) (by simp; omega), a.cell (by rw [sW1_size]; omega) (by omega)]
    exact sW1_c0 w b pp ss x
  · unfold sU sW2
    rw [World.cell?_alloc_lt _ _ _ (by simp), World.cell?_alloc_at _ _ _ _ (by simp)]
    rfl
  · rw [hB.cell (p := ⟨w.heap.size + 2, 0, none⟩) (by simp; omega), a.cell (by rw [sW1_size]; omega) (by omega)]
    exact sW1_c2 w b pp ss x
  · unfold sU sW2
    rw [World.cell?_alloc_lt _ _ _ (by simp; omega), World.cell?_alloc_lt _ _ _ (by simp), World.cell?_alloc_at _ _ _ _ (by simp)]
    rfl

/-- the parser's block behind an Adv -/
theorem adv_blk {w w' : World} {b j : Nat} {s : ByteArray} {k m : Nat} {st : St} {v : Value} (a : Adv b j w w') (h : w.heap[b]? = some (.cells (pcells s k m st v) 81 (0, 0))) : w'.heap[b]? = some (.cells (pcells s j m st v) 81 (0, 0)) := by
  rw [a.block (Array.getElem?_eq_some_iff.1 h).1, setCell_blk h]
  rfl

set_option maxHeartbeats 2000000 in
set_option maxRecDepth 20000 in
theorem step_gen (w0 w : World) (b m : Nat) (s : ByteArray) (st : St) (h : Pz w0 b m s st w) (hT : Tabs w0) (hbk : st.now.isBrk = false) (pp : Int) (ss : ByteArray) (x : Bool) (hx : st.now.isStr = x)
    (hta : ∀ w1, (Instr.typeAssert (tokV st.now st.p) 76 152 true).run Tryz.prog w1 = .ok (.tuple #[.agg #[.int .i64 pp, .string ss], .bool x]) w1) :
    Calls Tryz.prog 55 #[.pointer (some ⟨b, 0, none⟩)] w fun e w' => e = .returned (.tuple #[]) ∧ PK w0 b m s (step s st) w w' := by
  have HZ : Hid (Pz w0 b m s st w) := h
  have hbw := h.lt
  have hle := h.wf.le
  have hsz := h.sz
  have hgb := h.gb
  have hjs := gap_sz hle
  have hge := gap_ge s st.i
  obtain ⟨j, hj⟩ : ∃ j, j = gap s st.i := ⟨_, rfl⟩
  obtain ⟨y, hy⟩ : ∃ y, y = decide (st.i < j) := ⟨_, rfl⟩
  obtain ⟨k, v, hh, hki, hown⟩ := h.blk
  have hki := hki hbk
  subst hki
  have hB1 := sW1_below w b pp ss x
  have hR1 : Rd (sW1 w b pp ss x) b s st.i := (h.rd hbk).below hB1
  have hT1 : Tabs (sW1 w b pp ss x) := (h.tabs hT).below hB1 (by omega) (by omega)
  have hh1 : (sW1 w b pp ss x).heap[b]? = some (.cells (pcells s st.i m st v) 81 (0, 0)) := (hB1.block b hbw).trans hh
  have HG : Hid (Calls Tryz.prog 89 #[.pointer (some ⟨b, 0, none⟩)] (sW1 w b pp ss x) fun e w' => e = .returned (.bool y) ∧ Adv b j (sW1 w b pp ss x) w') := by
    rw [hy, hj]
    exact gap_any _ b st.i s hR1 hT1 hgb
  have HPl : Hid (∀ w2, Adv b j (sW1 w b pp ss x) w2 → Calls Tryz.prog 90 #[.pointer (some ⟨b, 0, none⟩)] (w2.alloc (.cells #[.bool y] 4)) fun e w' => e = .returned (.int .i64 j) ∧ w' = w2.alloc (.cells #[.bool y] 4)) := fun w2 a =>
    place_any _ b j s ((hR1.adv a (by rw [hj]; exact hjs)).below ((Below.refl _ w2).alloc (Nat.le_refl _) _))
  have hxy : (x && !y) = (st.now.isStr && decide (gap s st.i = st.i)) := by
    rw [hx, hy, hj]
    congr 1
    rw [Bool.eq_iff_iff]
    simp
    omega
  have hc0 : w.cell? ⟨b, 2, none⟩ = some (tokV st.now st.p) := by rw [Lib.cell_of_heap hh]; rfl
  have hc1 : ∀ o, (w.alloc o).cell? ⟨b, 2, none⟩ = some (tokV st.now st.p) := fun o => (World.cell?_alloc_lt _ _ ⟨b, 2, none⟩ hbw).trans hc0
  have e1 := enters_of Tryz.func91 (by kernel_rfl) rfl
  have hUfz : ∀ w2, Adv b j (sW1 w b pp ss x) w2 → (sU w2 y j).heap[b]? = some (.cells (pcells s j m st v) 81 (0, 0)) := fun w2 a => by
    have := adv_blk a hh1
    rw [(sU_below w2 y j).block b (Array.getElem?_eq_some_iff.1 this).1]
    exact this
  have hUR : ∀ w2, Adv b j (sW1 w b pp ss x) w2 → Rd (sU w2 y j) b s j := fun w2 a => (hR1.adv a (by rw [hj]; exact hjs)).below (sU_below w2 y j)
  have hUT : ∀ w2, Adv b j (sW1 w b pp ss x) w2 → Tabs (sU w2 y j) := fun w2 a => by
    have hs := a.size
    rw [sW1_size] at hs
    exact (hT1.adv a hgb hR1.lt).below (sU_below w2 y j) (by omega) (by omega)
  have HW1 : Hid (((w.alloc (.cells #[.pointer (some ⟨b, 0, none⟩)] 150)).alloc (.cells #[.int .i64 pp, .string ss] 152)).alloc (.cells #[.bool x] 4) = sW1 w b pp ss x) := rfl
  have HW2 : Hid (∀ w2 : World, (w2.alloc (.cells #[.bool y] 4)).alloc (.cells #[.int .i64 j] 112) = sW2 w2 y j) := fun w2 => rfl
  have hmf := mkFunc
  have HC0 : Hid (∀ w2, Adv b j (sW1 w b pp ss x) w2 → w2.cell? ⟨w.heap.size, 0, none⟩ = some (.pointer (some ⟨b, 0, none⟩)) ∧ w.heap.size + 3 ≤ w2.heap.size) := fun w2 a => ⟨by
    rw [a.cell (by rw [sW1_size]; omega) (by omega)]
    exact sW1_c0 w b pp ss x, by have := a.size; rw [sW1_size] at this; exact this⟩
  cases hb2 : (sign s j (x && !y)).1.isBrk with
  | false =>
    obtain ⟨sg, q, hsg⟩ : ∃ sg q, sign s j (x && !y) = (sg, q) := ⟨_, _, rfl⟩
    rw [hsg] at hb2
    have hst : step s st = { st with now := sg, p := j, i := q } := by
      unfold step
      rw [← hj] at hxy ⊢
      rw [← hxy, hsg]
    have hqs : q ≤ s.size := by
      have := (sign_sn (s := s) (i := j) (by rw [hj]; exact hjs) (x && !y)).sz
      rw [hsg] at this
      exact this
    have hwf := h.wf.step.toWf0
    rw [hst] at hwf
    have HCt : Hid (∀ w2, Adv b j (sW1 w b pp ss x) w2 → Calls Tryz.prog 30 #[fnV 91 #[.pointer (some ⟨w.heap.size, 0, none⟩), .pointer (some ⟨w2.heap.size + 1, 0, none⟩), .pointer (some ⟨w.heap.size + 2, 0, none⟩), .pointer (some ⟨w2.heap.size, 0, none⟩)]] (sW2 w2 y j) fun e w' => e = .returned .nilIface ∧ PK w0 b m s (step s st) w w') := fun w2 a => by
      have hs2 := a.size
      rw [sW1_size] at hs2
      have hcp := cp_of (y := y) hbw a
      have hS1 := step1_ok (sU w2 y j) b j w.heap.size (w2.heap.size + 1) (w.heap.size + 2) w2.heap.size s (hUR w2 a) (fun o => Lib.frozen_of_heap (hUfz w2 a) o) (hUT w2 a) hgb (by omega) (tokV st.now st.p) (by rw [Lib.cell_of_heap (hUfz w2 a)]; rfl) x y hcp (by omega) (by omega) (by omega) (by omega) sg q hsg hb2
      refine (catch_ok (sW2 w2 y j) 91 _ (fun w' => ∃ w3, Adv b q (sU w2 y j) w3 ∧ w' = w3.setCell ⟨b, 2, none⟩ (tokV sg j)) e1 hS1 ?_).mono ?_
      · rintro w' ⟨w3, a3, rfl⟩
        rw [Below.heap_setCell _ _ _ _ (by rw [sW2_size]; simp; omega), a3.other (by rw [sW2_size, sU_size]; omega) (by rw [sW2_size]; omega)]
        exact sU_err w2 y j
      · rintro e w' ⟨rfl, w3, ⟨w4, a4, rfl⟩, rfl⟩
        refine ⟨rfl, ?_⟩
        have hb4 := adv_blk a4 (hUfz w2 a)
        have hw4 := a4.size
        rw [sU_size] at hw4
        rw [hst]
        refine HZ.out.turn (k := st.i) (k' := q) (v := v) hh (fun _ => rfl) rfl rfl hwf hown ?_ ?_ ?_ ?_
        · rw [Below.heap_setCell _ _ _ _ (by rw [sW2_size]; simp; omega), setCell_blk hb4]
          rfl
        · intro g hg hgb2
          rw [Below.heap_setCell _ _ _ _ (by rw [sW2_size]; simp; omega), Below.heap_setCell _ _ _ _ hgb2, a4.other (by rw [sU_size]; omega) hgb2, (sU_below w2 y j).block g (by omega), a.other (by rw [sW1_size]; omega) hgb2, hB1.block g hg]
        · exact ⟨a4.os.trans ((sU_below w2 y j).os.trans (a.os.trans hB1.os)), a4.tape.trans ((sU_below w2 y j).tape.trans (a.tape.trans hB1.tape)), a4.output.trans ((sU_below w2 y j).output.trans (a.output.trans hB1.output))⟩
        · simp
          omega
    clear hUfz hUR hUT hh hh1 hR1 hT1 hT hown hsg hb2 hst hwf HZ h hB1 hx hy hj hxy hge hjs
    go_enter Tryz.func55, Tryz.ntmps55
    go_wp2_with fail
    rw [HW1.out]
    refine HG.out.mono ?_
    rintro e w2 ⟨rfl, a2⟩
    obtain ⟨d0, hs2⟩ := HC0.out w2 a2
    have d1 : ∀ o, (w2.alloc o).cell? ⟨w.heap.size, 0, none⟩ = some (.pointer (some ⟨b, 0, none⟩)) := fun o => (World.cell?_alloc_lt _ _ ⟨w.heap.size, 0, none⟩ (by simp; omega)).trans d0
    go_wp2_with fail
    refine (HPl.out _ a2).mono ?_
    rintro e w3 ⟨rfl, rfl⟩
    go_wp2_with fail
    rw [HW2.out]
    refine (HCt.out w2 a2).mono ?_
    rintro e w4 ⟨rfl, hP⟩
    go_wp2
    go_end0
    exact ⟨rfl, hP⟩
  | true =>
    obtain ⟨n, j2, q, hsg⟩ : ∃ n j2 q, sign s j (x && !y) = (.brk n j2, q) := by
      cases hr2 : sign s j (x && !y) with
      | mk r1 r2 =>
        rw [hr2] at hb2
        cases r1
        case brk n j2 => exact ⟨n, j2, r2, rfl⟩
        all_goals cases hb2
    have hst : step s st = { st with now := .brk n j2, p := j, i := q } := by
      unfold step
      rw [← hj] at hxy ⊢
      rw [← hxy, hsg]
    have hwf := h.wf.step.toWf0
    rw [hst] at hwf
    have HCt : Hid (∀ w2, Adv b j (sW1 w b pp ss x) w2 → Calls Tryz.prog 30 #[fnV 91 #[.pointer (some ⟨w.heap.size, 0, none⟩), .pointer (some ⟨w2.heap.size + 1, 0, none⟩), .pointer (some ⟨w.heap.size + 2, 0, none⟩), .pointer (some ⟨w2.heap.size, 0, none⟩)]] (sW2 w2 y j) fun e w' => e = .returned (placedV n j2) ∧ w'.cell? ⟨w.heap.size, 0, none⟩ = some (.pointer (some ⟨b, 0, none⟩)) ∧ w'.cell? ⟨w2.heap.size + 1, 0, none⟩ = some (.int .i64 j) ∧ w'.cell? ⟨b, 2, none⟩ = some (tokV st.now st.p) ∧ w'.frozen? ⟨b, 2, none⟩ = false ∧ PK w0 b m s (step s st) w (w'.setCell ⟨b, 2, none⟩ (tokV (.brk n j2) j))) := fun w2 a => by
      have hs2 := a.size
      rw [sW1_size] at hs2
      have hcp := cp_of (y := y) hbw a
      have hS1 := step1_bad (sU w2 y j) b j w.heap.size (w2.heap.size + 1) (w.heap.size + 2) w2.heap.size s (hUR w2 a) (fun o => Lib.frozen_of_heap (hUfz w2 a) o) (hUT w2 a) hgb (by omega) x y hcp n j2 q hsg
      refine (catch_stop (sW2 w2 y j) 91 _ (fun w' => ∃ q, Adv b q (sU w2 y j) w') n j2 e1 hS1 ?_).mono ?_
      · rintro w' ⟨q, a3⟩
        rw [a3.other (by rw [sW2_size, sU_size]; omega) (by rw [sW2_size]; omega)]
        exact sU_err w2 y j
      · rintro e w' ⟨rfl, w4, ⟨q4, a4⟩, rfl⟩
        have hb4 := adv_blk a4 (hUfz w2 a)
        have hw4 := a4.size
        rw [sU_size] at hw4
        have hb5 : ((w4.alloc (.cells #[placedV n j2] 111)).setCell ⟨(sW2 w2 y j).heap.size, 0, none⟩ (placedV n j2)).heap[b]? = some (.cells (pcells s q4 m st v) 81 (0, 0)) := by
          rw [Below.heap_setCell _ _ _ _ (by rw [sW2_size]; simp; omega), Below.heap_alloc _ _ _ (Array.getElem?_eq_some_iff.1 hb4).1]
          exact hb4
        have hcp4 := hcp.adv a4 (by omega) (by omega) (by omega) (by omega)
        have hoth : ∀ g, g < w4.heap.size → g ≠ (sW2 w2 y j).heap.size → ((w4.alloc (.cells #[placedV n j2] 111)).setCell ⟨(sW2 w2 y j).heap.size, 0, none⟩ (placedV n j2)).heap[g]? = w4.heap[g]? := fun g hg hne => by
          rw [Below.heap_setCell _ _ _ _ hne, Below.heap_alloc _ _ _ hg]
        refine ⟨rfl, ?_, ?_, ?_, Lib.frozen_of_heap hb5 2, ?_⟩
        · rw [World.cell?_of_block (w := w4) (a := ⟨w.heap.size, 0, none⟩) (hoth _ (by simp; omega) (by rw [sW2_size]; simp; omega))]
          exact hcp4.c0
        · rw [World.cell?_of_block (w := w4) (a := ⟨w2.heap.size + 1, 0, none⟩) (hoth _ (by simp; omega) (by rw [sW2_size]; simp))]
          exact hcp4.c1
        · rw [Lib.cell_of_heap hb5]
          rfl
        · rw [hst]
          refine HZ.out.turn (k := st.i) (k' := q4) (v := v) hh (fun h => by cases h) rfl rfl hwf hown ?_ ?_ ?_ ?_
          · rw [setCell_blk hb5]
            rfl
          · intro g hg hgb2
            rw [Below.heap_setCell _ _ _ _ hgb2, hoth g (by omega) (by rw [sW2_size]; omega), a4.other (by rw [sU_size]; omega) hgb2, (sU_below w2 y j).block g (by omega), a.other (by rw [sW1_size]; omega) hgb2, hB1.block g hg]
          · exact ⟨a4.os.trans ((sU_below w2 y j).os.trans (a.os.trans hB1.os)), a4.tape.trans ((sU_below w2 y j).tape.trans (a.tape.trans hB1.tape)), a4.output.trans ((sU_below w2 y j).output.trans (a.output.trans hB1.output))⟩
          · simp
            omega
    clear hUfz hUR hUT hh hh1 hR1 hT1 hT hown hsg hb2 hst hwf HZ h hB1 hx hy hj hxy hge hjs
    go_enter Tryz.func55, Tryz.ntmps55
    go_wp2_with fail
    rw [HW1.out]
    refine HG.out.mono ?_
    rintro e w2 ⟨rfl, a2⟩
    obtain ⟨d0, hs2⟩ := HC0.out w2 a2
    have d1 : ∀ o, (w2.alloc o).cell? ⟨w.heap.size, 0, none⟩ = some (.pointer (some ⟨b, 0, none⟩)) := fun o => (World.cell?_alloc_lt _ _ ⟨w.heap.size, 0, none⟩ (by simp; omega)).trans d0
    go_wp2_with fail
    refine (HPl.out _ a2).mono ?_
    rintro e w3 ⟨rfl, rfl⟩
    go_wp2_with fail
    rw [HW2.out]
    refine (HCt.out w2 a2).mono ?_
    rintro e w4 ⟨rfl, f0, f1, f2, f3, hP⟩
    go_wp2
    go_end0
    exact ⟨rfl, hP⟩

/-- the parser goes on to the next sign -/
theorem step_any (w0 w : World) (b m : Nat) (s : ByteArray) (st : St) (h : Pz w0 b m s st w) (hT : Tabs w0) (hbk : st.now.isBrk = false) :
    Calls Tryz.prog 55 #[.pointer (some ⟨b, 0, none⟩)] w fun e w' => e = .returned (.tuple #[]) ∧ PK w0 b m s (step s st) w w' := by
  cases hx : st.now.isStr with
  | false => exact step_gen w0 w b m s st h hT hbk 0 ⟨#[]⟩ false hx (fun w1 => as_str_no hx st.p w1)
  | true =>
    obtain ⟨l, hl⟩ : ∃ l, st.now = .str l := by
      cases hn : st.now
      case str l => exact ⟨l, rfl⟩
      all_goals (rw [hn] at hx; cases hx)
    exact step_gen w0 w b m s st h hT hbk st.p ⟨l.toArray⟩ true hx (fun w1 => by rw [hl]; exact as_str_yes l st.p w1)

end Tu
end Go.Proofs.YtnffjoipinhojabGreatDoor

set_option linter.unusedSimpArgs false
set_option linter.unusedVariables false
namespace Go.Proofs.YtnffjoipinhojabGreatDoor
open Go.RowKit
namespace Tu

/-! Type tests of a sign. -/
def Sg.is_one : Sg → Bool
  | .one _ => true
  | _ => false
theorem as_one_yes (c : Nat) (p : Nat) (w : World) : (Instr.typeAssert (tokV (.one c) p) 76 170 true).run Tryz.prog w = .ok (.tuple #[.agg #[.int .i64 p, .int .u8 c], .bool true]) w := by kernel_rfl
theorem as_one_no {sg : Sg} (h : Sg.is_one sg = false) (p : Nat) (w : World) : (Instr.typeAssert (tokV sg p) 76 170 true).run Tryz.prog w = .ok (.tuple #[.agg #[.int .i64 0, .int .u8 0], .bool false]) w := by
  cases sg
  case one => cases h
  all_goals kernel_rfl
def Sg.is_nam : Sg → Bool
  | .nam _ _ => true
  | _ => false
theorem as_nam_yes (r l : List UInt8) (p : Nat) (w : World) : (Instr.typeAssert (tokV (.nam r l) p) 76 159 true).run Tryz.prog w = .ok (.tuple #[.agg #[.int .i64 p, str r, str l], .bool true]) w := by kernel_rfl
theorem as_nam_no {sg : Sg} (h : Sg.is_nam sg = false) (p : Nat) (w : World) : (Instr.typeAssert (tokV sg p) 76 159 true).run Tryz.prog w = .ok (.tuple #[.agg #[.int .i64 0, .string ⟨#[]⟩, .string ⟨#[]⟩], .bool false]) w := by
  cases sg
  case nam => cases h
  all_goals kernel_rfl
def Sg.is_iri : Sg → Bool
  | .iri _ => true
  | _ => false
theorem as_iri_yes (l : List UInt8) (p : Nat) (w : World) : (Instr.typeAssert (tokV (.iri l) p) 76 163 true).run Tryz.prog w = .ok (.tuple #[.agg #[.int .i64 p, str l], .bool true]) w := by kernel_rfl
theorem as_iri_no {sg : Sg} (h : Sg.is_iri sg = false) (p : Nat) (w : World) : (Instr.typeAssert (tokV sg p) 76 163 true).run Tryz.prog w = .ok (.tuple #[.agg #[.int .i64 0, .string ⟨#[]⟩], .bool false]) w := by
  cases sg
  case iri => cases h
  all_goals kernel_rfl
def Sg.is_blk : Sg → Bool
  | .blk _ => true
  | _ => false
theorem as_blk_yes (l : List UInt8) (p : Nat) (w : World) : (Instr.typeAssert (tokV (.blk l) p) 76 167 true).run Tryz.prog w = .ok (.tuple #[.agg #[.int .i64 p, str l], .bool true]) w := by kernel_rfl
theorem as_blk_no {sg : Sg} (h : Sg.is_blk sg = false) (p : Nat) (w : World) : (Instr.typeAssert (tokV sg p) 76 167 true).run Tryz.prog w = .ok (.tuple #[.agg #[.int .i64 0, .string ⟨#[]⟩], .bool false]) w := by
  cases sg
  case blk => cases h
  all_goals kernel_rfl
def Sg.is_lan : Sg → Bool
  | .lan _ => true
  | _ => false
theorem as_lan_yes (l : List UInt8) (p : Nat) (w : World) : (Instr.typeAssert (tokV (.lan l) p) 76 253 true).run Tryz.prog w = .ok (.tuple #[.agg #[.int .i64 p, str l], .bool true]) w := by kernel_rfl
theorem as_lan_no {sg : Sg} (h : Sg.is_lan sg = false) (p : Nat) (w : World) : (Instr.typeAssert (tokV sg p) 76 253 true).run Tryz.prog w = .ok (.tuple #[.agg #[.int .i64 0, .string ⟨#[]⟩], .bool false]) w := by
  cases sg
  case lan => cases h
  all_goals kernel_rfl
def Sg.is_num : Sg → Bool
  | .num _ => true
  | _ => false
theorem as_num_yes (l : List UInt8) (p : Nat) (w : World) : (Instr.typeAssert (tokV (.num l) p) 76 256 true).run Tryz.prog w = .ok (.tuple #[.agg #[.int .i64 p, str l], .bool true]) w := by kernel_rfl
theorem as_num_no {sg : Sg} (h : Sg.is_num sg = false) (p : Nat) (w : World) : (Instr.typeAssert (tokV sg p) 76 256 true).run Tryz.prog w = .ok (.tuple #[.agg #[.int .i64 0, .string ⟨#[]⟩], .bool false]) w := by
  cases sg
  case num => cases h
  all_goals kernel_rfl
def Sg.is_row : Sg → Bool
  | .row _ => true
  | _ => false
theorem as_row_yes (l : List UInt8) (p : Nat) (w : World) : (Instr.typeAssert (tokV (.row l) p) 76 228 true).run Tryz.prog w = .ok (.tuple #[.agg #[.int .i64 p, str l], .bool true]) w := by kernel_rfl
theorem as_row_no {sg : Sg} (h : Sg.is_row sg = false) (p : Nat) (w : World) : (Instr.typeAssert (tokV sg p) 76 228 true).run Tryz.prog w = .ok (.tuple #[.agg #[.int .i64 0, .string ⟨#[]⟩], .bool false]) w := by
  cases sg
  case row => cases h
  all_goals kernel_rfl
def Sg.is_knd : Sg → Bool
  | .knd => true
  | _ => false
theorem as_knd_yes  (p : Nat) (w : World) : (Instr.typeAssert (tokV (.knd) p) 76 221 true).run Tryz.prog w = .ok (.tuple #[.agg #[.int .i64 p], .bool true]) w := by kernel_rfl
theorem as_knd_no {sg : Sg} (h : Sg.is_knd sg = false) (p : Nat) (w : World) : (Instr.typeAssert (tokV sg p) 76 221 true).run Tryz.prog w = .ok (.tuple #[.agg #[.int .i64 0], .bool false]) w := by
  cases sg
  case knd => cases h
  all_goals kernel_rfl
def Sg.is_fin : Sg → Bool
  | .fin => true
  | _ => false
theorem as_fin_yes  (p : Nat) (w : World) : (Instr.typeAssert (tokV (.fin) p) 76 114 true).run Tryz.prog w = .ok (.tuple #[.agg #[.int .i64 p], .bool true]) w := by kernel_rfl
theorem as_fin_no {sg : Sg} (h : Sg.is_fin sg = false) (p : Nat) (w : World) : (Instr.typeAssert (tokV sg p) 76 114 true).run Tryz.prog w = .ok (.tuple #[.agg #[.int .i64 0], .bool false]) w := by
  cases sg
  case fin => cases h
  all_goals kernel_rfl
def Sg.is_pre : Sg → Bool
  | .pre => true
  | _ => false
theorem as_pre_yes  (p : Nat) (w : World) : (Instr.typeAssert (tokV (.pre) p) 76 115 true).run Tryz.prog w = .ok (.tuple #[.agg #[.int .i64 p], .bool true]) w := by kernel_rfl
theorem as_pre_no {sg : Sg} (h : Sg.is_pre sg = false) (p : Nat) (w : World) : (Instr.typeAssert (tokV sg p) 76 115 true).run Tryz.prog w = .ok (.tuple #[.agg #[.int .i64 0], .bool false]) w := by
  cases sg
  case pre => cases h
  all_goals kernel_rfl
def Sg.is_brk : Sg → Bool
  | .brk _ _ => true
  | _ => false
theorem as_brk_yes (n : Int) (j : Nat) (p : Nat) (w : World) : (Instr.typeAssert (tokV (.brk n j) p) 76 157 true).run Tryz.prog w = .ok (.tuple #[.agg #[.int .i64 p, placedV n j], .bool true]) w := by kernel_rfl
theorem as_brk_no {sg : Sg} (h : Sg.is_brk sg = false) (p : Nat) (w : World) : (Instr.typeAssert (tokV sg p) 76 157 true).run Tryz.prog w = .ok (.tuple #[.agg #[.int .i64 0, .nilIface], .bool false]) w := by
  cases sg
  case brk => cases h
  all_goals kernel_rfl

/-- the place of a sign, asked through the interface -/
theorem meth_start {sg : Sg} (h : Sg.isNone sg = false) (p : Nat) : ∃ T v, tokV sg p = .iface T v ∧ ∀ w : World, (method 427 T v "trine/turtle.start").run Tryz.prog w = .ok (167, .int .i64 p) w := by
  cases sg
  case none => cases h
  all_goals exact ⟨_, _, rfl, fun w => by kernel_rfl⟩

theorem bounded_ok (w : World) (sg : Sg) (p : Nat) (l : List UInt8) (hl : l.length ≤ 200) :
    Calls Tryz.prog 94 #[tokV sg p, str l] w fun e w' => e = .returned (str l) ∧ w' = w := by
  have hz : (⟨l.toArray⟩ : ByteArray).size ≤ 200 := by rw [arr_size]; exact hl
  generalize (⟨l.toArray⟩ : ByteArray) = V at *
  go_enter Tryz.func94, Tryz.ntmps94
  go_wp2
  go_ret
  exact ⟨rfl, rfl⟩

set_option maxRecDepth 20000 in
theorem bounded_bad (w : World) (sg : Sg) (hs : Sg.isNone sg = false) (p : Nat) (l : List UInt8) (hl : 200 < l.length) :
    Calls Tryz.prog 94 #[tokV sg p, str l] w fun e w' => e = stopE 4 p ∧ w' = w := by
  have hz : 200 < (⟨l.toArray⟩ : ByteArray).size := by rw [arr_size]; exact hl
  obtain ⟨T, v, htv, hme⟩ := meth_start hs p
  have e0 := enters_of Tryz.func167 (by kernel_rfl) rfl
  rw [htv]
  clear htv hl
  unfold Go.Proofs.YtnffjoipinhojabGreatDoor.str
  generalize (⟨l.toArray⟩ : ByteArray) = V at *
  go_enter Tryz.func94, Tryz.ntmps94
  go_wp2_with fail
  refine (start_any _ _).mono ?_
  rintro e w1 ⟨rfl, rfl⟩
  go_wp2_with fail
  refine (Refuse_any _ _ _).mono ?_
  rintro e w2 ⟨rfl, rfl⟩
  exact ⟨rfl, rfl, rfl⟩

set_option maxRecDepth 20000 in
theorem refuse_any (w : World) (sg : Sg) (hs : Sg.isNone sg = false) (p : Nat) (st : St) (h1 : st.now = sg) (h2 : st.p = p) :
    Calls Tryz.prog 93 #[tokV sg p] w fun e w' => e = stopE (refErr st).1 (refErr st).2 ∧ Below w.heap.size w w' := by
  cases hb : Sg.is_brk sg with
  | true =>
    obtain ⟨n, j, rfl⟩ : ∃ n j, sg = .brk n j := by
      cases sg
      case brk n j => exact ⟨n, j, rfl⟩
      all_goals cases hb
    have HE : Hid (refErr st = (n, j)) := by unfold Hid refErr; rw [h1]
    rw [HE.out]
    have hta := as_brk_yes n j p
    clear h1 h2 hs hb HE
    go_enter Tryz.func93, Tryz.ntmps93
    go_wp2_with fail
    refine (GiveUp_any _ _ _).mono ?_
    rintro e w1 ⟨rfl, rfl⟩
    exact ⟨rfl, rfl, (Below.refl _ w).alloc (Nat.le_refl _) _⟩
  | false =>
    have HE : Hid (refErr st = (2, p)) := by
      unfold Hid refErr
      rw [h1, h2]
      cases sg
      case brk => cases hb
      all_goals rfl
    rw [HE.out]
    have hta := as_brk_no hb p
    obtain ⟨T, v, htv, hme⟩ := meth_start hs p
    have e0 := enters_of Tryz.func167 (by kernel_rfl) rfl
    rw [htv] at hta ⊢
    clear h1 h2 hs hb HE htv
    go_enter Tryz.func93, Tryz.ntmps93
    go_wp2_with fail
    refine (start_any _ _).mono ?_
    rintro e w1 ⟨rfl, rfl⟩
    go_wp2_with fail
    refine (Refuse_any _ _ _).mono ?_
    rintro e w2 ⟨rfl, rfl⟩
    exact ⟨rfl, rfl, (Below.refl _ w).alloc (Nat.le_refl _) _⟩

end Tu
end Go.Proofs.YtnffjoipinhojabGreatDoor

