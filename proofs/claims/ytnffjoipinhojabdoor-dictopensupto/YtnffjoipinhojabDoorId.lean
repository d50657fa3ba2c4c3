import Derived.Test.YtnffjoipinhojabDoorIc
set_option linter.unusedSimpArgs false
set_option linter.unusedVariables false
namespace Go.Proofs.YtnffjoipinhojabDoor
open Go.RowKit

theorem bts_appendL (w : World) (base b c c0 : Nat) (a s : List UInt8) (hc : c ≤ a.length) (hs : s ≠ []) (hsz : s.length ≤ 1048576) (haz : a.length ≤ 1048576) (hb : b < w.heap.size)
    (hcell : ∀ j x, a[j]? = some x → w.cell? ⟨b, j, none⟩ = some (.int .u8 (x.toNat : Int))) :
    ∃ v w1, (Builtin.append_ #[46, 9] 46 #[.slice (some ⟨b, 0, none⟩) c c, strT s]).run Tryd.prog w = .ok v w1 ∧ BtA w.heap.size w1 v (a.take c ++ s) ∧ Below w.heap.size w w1 := by
  obtain ⟨i0, hi, hz0, hz1, hz2⟩ := info_parts infoByte
  have hsl : 0 < s.length := List.length_pos_iff.2 hs
  have hrun := Lib.run_append_grow_string (P := Tryd.prog) w 46 9 46 5 i0 (.int .u8 0) Tryd.underlying46 Tryd.underlying9 hi hz0 ⟨b, 0, none⟩ c c ((a.take c).map fun x => Value.int .u8 (x.toNat : Int)) (by rw [hz1]; simp; omega) (fun j v hj => by
      rw [List.getElem?_map] at hj
      obtain ⟨x, hx, rfl⟩ := Option.map_eq_some_iff.1 hj
      have e : (⟨b, 0, none⟩ : Addr).add j = ⟨b, j, none⟩ := by unfold Addr.add; split <;> simp_all
      rw [e]
      refine hcell j x ?_
      have hlt := (List.getElem?_eq_some_iff.1 hx).1
      simp at hlt
      rw [List.getElem?_take_of_lt (by omega)] at hx
      exact hx) ⟨s.toArray⟩ (by rw [arrSize]; omega) (by rw [arrSize]; omega) (by
      rw [arrSize, hz2]
      have := nextslicecap_le (need := c + s.length) (old := c) (by omega)
      omega)
  refine ⟨_, _, hrun, ?_, ?_⟩
  · refine ⟨w.heap.size, grownCap w (c + (ByteArray.mk s.toArray).size) c 5, ?_, Nat.le_refl _, ⟨_, _, World.alloc_heap_new w.drew _⟩, ?_, ?_⟩
    · rw [arrSize]; simp; omega
    · refine Nat.le_trans ?_ (grownCap_ge _ _ _ _)
      rw [arrSize]; simp; omega
    · intro j x hx
      refine Eq.trans (cell_new (w := w.drew)) ?_
      have hj := (List.getElem?_eq_some_iff.1 hx).1
      simp at hj
      have h1 : (((a.take c).map fun x => Value.int .u8 (x.toNat : Int)) ++ Lib.strCells ⟨s.toArray⟩)[j]? = some (.int .u8 (x.toNat : Int)) := by
        have e2 : Lib.strCells ⟨s.toArray⟩ = s.map fun x => Value.int .u8 (x.toNat : Int) := by simp [Lib.strCells, Lib.byteCells]
        rw [e2, ← List.map_append, List.getElem?_map, hx]
        rfl
      have hj2 := (List.getElem?_eq_some_iff.1 h1).1
      rw [Array.getElem?_append_left (by simpa using hj2)]
      have e3 : (((a.take c).map fun x => Value.int .u8 (x.toNat : Int)).toArray ++ (Lib.strCells ⟨s.toArray⟩).toArray) = (((a.take c).map fun x => Value.int .u8 (x.toNat : Int)) ++ Lib.strCells ⟨s.toArray⟩).toArray := by simp
      rw [e3, List.getElem?_toArray]
      exact h1
  · exact (Below.refl _ w).drew.alloc (Nat.le_refl _) _


/-- append of a text behind a cut of another, whatever it is -/
theorem bts_cut (w : World) (base b q c : Nat) (a s : List UInt8) (hq : q ≤ a.length) (hsz : s.length ≤ 1048576) (haz : a.length ≤ 1048576) (hb : b < w.heap.size) (h : BtA base w (.slice (some ⟨b, 0, none⟩) a.length c) a) (hbw : base ≤ w.heap.size) :
    ∃ b2 c2 w2, (Builtin.append_ #[46, 9] 46 #[.slice (some ⟨b, 0, none⟩) q q, strT s]).run Tryd.prog w = .ok (.slice (some ⟨b2, 0, none⟩) (a.take q ++ s).length c2) w2 ∧ BtA base w2 (.slice (some ⟨b2, 0, none⟩) (a.take q ++ s).length c2) (a.take q ++ s) ∧ Below w.heap.size w w2 := by
  obtain ⟨b', c', h2, hbb, h3, h4, h5⟩ := h
  cases h2
  by_cases hs : s = []
  · subst hs
    have el : (a.take q ++ ([] : List UInt8)).length = q := by simp; omega
    rw [el]
    obtain ⟨i0, hi, hz0, hz1, hz2⟩ := info_parts infoByte
    refine ⟨b, q, w, ?_, ⟨b, q, by rw [el], hbb, h3, by rw [el]; exact Nat.le_refl _, fun j x hx => h5 j x ?_⟩, Below.refl _ _⟩
    · have hs0 : (ByteArray.mk #[]).size = 0 := rfl
      simp [hs0, Builtin.append_, run_underlying Tryd.underlying46, run_underlying Tryd.underlying9, sizeOf, typeInfo, hi, Builtin.lenOf, Builtin.firstCells, storeCells]
    · rw [List.append_nil] at hx
      have := (List.getElem?_eq_some_iff.1 hx).1
      simp at this
      rw [List.getElem?_take_of_lt (by omega)] at hx
      exact hx
  · obtain ⟨v, w2, g1, g2, g3⟩ := bts_appendL w 0 b q 0 a s hq hs hsz haz hb h5
    obtain ⟨b2, c2, g4, g5, g6⟩ := g2
    subst g4
    exact ⟨b2, c2, w2, g1, ⟨b2, c2, rfl, Nat.le_trans hbw g5, g6⟩, g3⟩

/-- what readBlock ends in -/
def RbP (rb : Nat) (D : ByteArray) (i left : Nat) (bad : Bool) (w : World) (e : Ending) (w' : World) : Prop :=
  ∃ (u : Value) (T : List (List UInt8)) (j : Nat) (bad' : Bool), e = .returned u ∧ OwnT w' w.heap.size u T ∧ T.length = min left 4 ∧ Rg rb D j bad' w' ∧ Fm rb w w' ∧ i ≤ j ∧ j ≤ D.size ∧ (∀ t ∈ T, t.length ≤ D.size) ∧ (bad' = false → bad = false)

set_option maxHeartbeats 8000000 in
set_option maxRecDepth 20000 in
theorem readBlock_g (w : World) (rb i left : Nat) (D : ByteArray) (bad : Bool) (hR : Rg rb D i bad w) (hi : i ≤ D.size) (hD : D.size ≤ 1048576) (h0 : 0 < left) (hlm : left ≤ 9223372036854775807) (hH : HandR rb w) :
    Calls Tryd.prog 47 #[.pointer (some ⟨rb, 0, none⟩), .int .i64 left] w (RbP rb D i left bad w) := by
  have hrl := hR.lt
  obtain ⟨N, hN⟩ : ∃ N, min left 4 = N + 1 := ⟨min left 4 - 1, by omega⟩
  have hN3 : N ≤ 3 := by omega
  have HNN : Hid (min left 4 = N + 1) := hN
  have HHd : Hid (HandR rb w) := hH
  have HT0 : Hid (Calls Tryd.prog 53 #[.pointer (some ⟨rb, 0, none⟩)] w (TgP rb D i bad w)) := text_g w rb i D bad hR hi (by omega) hH
  have hmin : min (left : Int) 4 = (N : Int) + 1 := by omega
  have hw1 : IntKind.i64.wrap ((N : Int) + 1 - 1) = (N : Int) := by rw [IntKind.wrap_i64]; omega
  clear hR hH hN
  go_enter Tryd.func47, Tryd.ntmps47
  go_wp2_with fail
  refine HT0.out.mono ?_
  rintro e w1 ⟨t0, i1, b1, rfl, hR1, hF1, hii, hi1, htl, hbb⟩
  obtain ⟨v0, w2, hcv, hbt, hb2⟩ := bts_of_string w1 t0
  have HBB : Hid (b1 = false → bad = false) := hbb
  have HR2 : Hid (Rg rb D i1 b1 w2) := hR1.below hb2
  have HF2 : Hid (Fm rb w w2) := hF1.trans (Fm.of_below hb2)
  have HBt : Hid (BtA w.heap.size w2 v0 t0) := by
    obtain ⟨b, c, h1, h2, h3⟩ := hbt
    exact ⟨b, c, h1, Nat.le_trans hF1.size h2, h3⟩
  obtain ⟨b0, c0, rfl, _⟩ := hbt
  clear hR1 hF1 hb2 HT0 hbb
  have HO2 : Hid ((w2.alloc (.cells #[.slice (some ⟨b0, 0, none⟩) t0.length c0] 46)).ownsRow w.heap.size 46 1 (.slice (some ⟨w2.heap.size, 0, none⟩) 1 1) 1 [.slice (some ⟨b0, 0, none⟩) t0.length c0]) :=
    ⟨rfl, .inr ⟨w2.heap.size, 1, _, rfl, HF2.out.size, World.alloc_heap_new w2 _, by omega, by unfold maxLen; omega, rfl, rfl⟩⟩
  have HB3 : Hid (Below w2.heap.size w2 (w2.alloc (.cells #[.slice (some ⟨b0, 0, none⟩) t0.length c0] 46))) := (Below.refl _ w2).alloc (Nat.le_refl _) _
  go_wp2_with fail
  go_loopw [5, 6, 16] (fun t5 t6 t16 wr => ∃ (k : Nat) (a : List UInt8) (b c : Nat) (o : Option Addr) (tc : Nat) (vs : List Value) (j : Nat) (bd : Bool) (acc : List (List UInt8)), k ≤ N ∧ t16 = .int .i64 k ∧ t5 = .slice (some ⟨b, 0, none⟩) a.length c ∧ t6 = .slice o (k + 1) tc ∧ acc.length = k + 1 ∧ a.length ≤ j ∧ (∀ t ∈ acc, t.length ≤ j) ∧ BtA w.heap.size wr (.slice (some ⟨b, 0, none⟩) a.length c) a ∧
      wr.ownsRow w.heap.size 46 1 (.slice o (k + 1) tc) (k + 1) vs ∧ Bts w.heap.size wr vs acc ∧ Rg rb D j bd wr ∧ i ≤ j ∧ j ≤ D.size ∧ (bd = false → bad = false) ∧ Fm rb w wr) (fun t5 t6 t16 wr => N - (intOf t16).toNat)
  case atStart =>
    refine ⟨0, t0, b0, c0, _, _, [.slice (some ⟨b0, 0, none⟩) t0.length c0], i1, b1, [t0], Nat.zero_le _, rfl, rfl, rfl, rfl, by omega, (fun t ht => by rw [List.mem_singleton.1 ht]; omega), HBt.out.kept HB3.out.size (fun k _ hk => HB3.out.block k hk), HO2.out, ⟨rfl, fun j u t hu ht => ?_⟩, HR2.out.below HB3.out, hii, hi1, HBB.out, HF2.out.trans (Fm.of_below HB3.out)⟩
    match j, hu with
    | 0, hu =>
      simp at hu ht
      subst hu ht
      exact HBt.out.kept HB3.out.size (fun k _ hk => HB3.out.block k hk)
  case round =>
    obtain ⟨k, a, b, c, o, tc, vs, j, bd, acc, hk, rfl, rfl, rfl, hal, haj, hac, hbt, hown, hbts, hRs, hij, hj, hbd, hF⟩ := hrel
    have HBT : Hid (BtA w.heap.size wr (.slice (some ⟨b, 0, none⟩) a.length c) a) := hbt
    have HOW : Hid (wr.ownsRow w.heap.size 46 1 (.slice o (k + 1) tc) (k + 1) vs) := hown
    have HBS : Hid (Bts w.heap.size wr vs acc) := hbts
    have HRS : Hid (Rg rb D j bd wr) := hRs
    have HFM : Hid (Fm rb w wr) := hF
    have HAL : Hid (acc.length = k + 1) := hal
    have HAC : Hid (∀ t ∈ acc, t.length ≤ j) := hac
    have HBD : Hid (bd = false → bad = false) := hbd
    clear hbt hown hbts hRs hF HBt HO2 HB3 HR2 HF2 hcv hal hac hbd HBB
    by_cases hlt : k < N
    · have HNu : Hid (Calls Tryd.prog 45 #[.pointer (some ⟨rb, 0, none⟩)] wr (NgP rb D j bd wr)) := number_g wr rb j D bd HRS.out hj (by omega) (HHd.out.fm HFM.out)
      have HAp : Hid (∀ w1 (q : Nat) (s : List UInt8), q ≤ a.length → s.length ≤ 1048576 → b < w1.heap.size → BtA w.heap.size w1 (.slice (some ⟨b, 0, none⟩) a.length c) a → w.heap.size ≤ w1.heap.size → ∃ (b2 c2 : Nat) (w2 : World) (t : List UInt8), t.length ≤ q + s.length ∧ (Builtin.append_ #[46, 9] 46 #[.slice (some ⟨b, 0, none⟩) q q, strT s]).run Tryd.prog w1 = .ok (.slice (some ⟨b2, 0, none⟩) t.length c2) w2 ∧ BtA w.heap.size w2 (.slice (some ⟨b2, 0, none⟩) t.length c2) t ∧ Below w1.heap.size w1 w2) := fun w1 q s h1 h2 h3 h4 h5 => by
        obtain ⟨b2, c2, w2, g⟩ := bts_cut w1 w.heap.size b q c a s h1 h2 (by omega) h3 h4 h5
        exact ⟨b2, c2, w2, a.take q ++ s, by simp; omega, g⟩
      have mixed : Tryd.prog.follows Departure.mixedOrders = true := by kernel_rfl
      obtain ⟨_, _, he1, hbb, ⟨_, _, hbl0⟩, hcc, _⟩ := HBT.out
      cases he1
      have hbl := (Array.getElem?_eq_some_iff.1 hbl0).1
      clear hbl0
      go_wp2_with fail
      refine HNu.out.mono ?_
      rintro e w1 ⟨q, j1, b1, rfl, hR1, hF1, hjj1, hj1, hqm, hb1⟩
      have HB1 : Hid (b1 = false → bad = false) := fun e => HBD.out (hb1 e).1
      have HR1 : Hid (Rg rb D j1 b1 w1) := hR1
      have HF1 : Hid (Fm rb wr w1) := hF1
      clear hR1 hF1 hb1 HNu
      by_cases hqa : q ≤ a.length
      · have hqa' : ¬ ((a.length : Int) < (q : Int)) := by omega
        have hqc : (q : Int) ≤ (c : Int) := by omega
        have hq0 : (0 : Int) ≤ (q : Int) := by omega
        have hqi : (q : Int) ≤ (a.length : Int) := by omega
        have HKe : Hid (∀ w2, Fm rb w1 w2 → b < w2.heap.size ∧ BtA w.heap.size w2 (.slice (some ⟨b, 0, none⟩) a.length c) a) := fun w2 h2 => by
          have h3 := HF1.out.trans h2
          exact ⟨Nat.lt_of_lt_of_le hbl h3.size, HBT.out.kept h3.size (fun x hx1 hx2 => h3.block x hx2 (fun e => by cases e; omega))⟩
        have HTx : Hid (Calls Tryd.prog 53 #[.pointer (some ⟨rb, 0, none⟩)] w1.drew (TgP rb D j1 b1 w1.drew)) := text_g w1.drew rb j1 D b1 HR1.out hj1 (by omega) (HHd.out.fm (HFM.out.trans (HF1.out.trans (Fm.refl rb w1).drew)))
        go_wp2_with fail
        go_region_law (first | (refine step_append_run rfl (.tmp 31) (.tmp 33) 46 9 46 rfl rfl (.slice (some ⟨b, 0, none⟩) (q) (q)) (strT x) (.slice (some ⟨b3, 0, none⟩) t.length c3) w3 (by simp [Act.eval, Act.put]) (by simp [Act.eval, Act.put]) hap ?_) | (go_simp; go_at_call 53; refine HTx.out.mono ?_; rintro e2 w2 ⟨x, j2, b2, rfl, hR2, hF2, hjj2, hj2, hxl, hbb2⟩; obtain ⟨b3, c3, w3, t, htl3, hap, hbt3, hb3⟩ := HAp.out w2 (q) x (by omega) (by omega) (HKe.out w2 ((Fm.refl rb w1).drew.trans hF2)).1 (HKe.out w2 ((Fm.refl rb w1).drew.trans hF2)).2 (Nat.le_trans HFM.out.size (Nat.le_trans HF1.out.size hF2.size))))
        have hF13 : Fm rb w w3 := (HFM.out.trans (HF1.out.trans ((Fm.refl rb w1).drew.trans hF2))).trans (Fm.of_below hb3)
        have hFr3 : Fm rb wr w3 := (HF1.out.trans ((Fm.refl rb w1).drew.trans hF2)).trans (Fm.of_below hb3)
        have HFM3 : Hid (Fm rb w w3) := hF13
        have hkeep : ∀ x, w.heap.size ≤ x → x < wr.heap.size → w3.heap[x]? = wr.heap[x]? := fun x h1 h2 => hFr3.block x h2 (fun e => by cases e; omega)
        have HBT3 : Hid (BtA w.heap.size w3 (.slice (some ⟨b3, 0, none⟩) t.length c3) t) := hbt3
        have HOW3 : Hid (w3.ownsRow w.heap.size 46 1 (.slice o (k + 1) tc) (k + 1) vs) := row_kept HOW.out hkeep
        have HBS3 : Hid (Bts w.heap.size w3 vs acc) := ⟨HBS.out.1, fun x u y h1 h2 => (HBS.out.2 x u y h1 h2).kept hFr3.size hkeep⟩
        have HR3 : Hid (Rg rb D j2 b2 w3) := hR2.below hb3
        have HB2 : Hid (b2 = false → bad = false) := fun e => HB1.out (hbb2 e)
        have hws : w.heap.size ≤ w3.heap.size := hF13.size
        have hoA := HOW3.out.alloc (.cells #[.slice (some ⟨b3, 0, none⟩) t.length c3] 46)
        have htj : t.length ≤ j2 := by omega
        obtain ⟨i0, hi0, hz0, hz1, hz2⟩ := info_parts infoBts
        clear hR2 hF2 hap hbt3 hb3 hF13 hFr3 hkeep HOW HBS HRS HFM HBT HR1 HF1 HKe HAp HTx hbb2
        go_wp2_with (first
          | (at_builtin; refine wpList_append_own _ (by rfl) _ _ _ (by rfl) w.heap.size 46 i0 _ 1 24 Tryd.underlying117 hi0 hz0 hz1 hz2 rfl (by decide) (.slice o (k + 1) tc) (k + 1) vs (by rfl) hoA ⟨w3.heap.size, 0, none⟩ 1 1 [.slice (some ⟨b3, 0, none⟩) t.length c3] (by rfl) (by rfl) (one_new _ _ _) (by simp [Value.oneCell']) (by unfold maxLen; omega) (by omega) (by simp; omega) ?_; intro v5 w5 ho5 hg5 hi5))
        obtain ⟨o5, c5, hv5⟩ := row_form ho5
        subst hv5
        have hk5 : ∀ x, w.heap.size ≤ x → x < w3.heap.size → (∀ y, (Value.slice o (k + 1) tc).ownBlock = some y → x ≠ y) → w5.heap[x]? = w3.heap[x]? := fun x h1 h2 h3 => (hg5.block x (by simp; omega) (fun e => h3 x e.symm rfl)).trans (Below.heap_alloc _ _ _ h2)
        go_roundw
        case rel =>
          have hrow : ∀ y, (Value.slice o (k + 1) tc).ownBlock = some y → w.heap.size ≤ y ∧ ∃ cs, w3.heap[y]? = some (.cells cs 46 (0, 0)) := fun y hy => by
            rcases HOW3.out.2 with ⟨e1, _⟩ | ⟨g, cap, cur, e1, e2, e3, _⟩
            · cases e1
            · cases e1
              cases hy
              exact ⟨e2, cur, e3⟩
          have hk6 : ∀ x, w.heap.size ≤ x → x < w3.heap.size → (∀ cs fz, w3.heap[x]? ≠ some (.cells cs 46 fz)) → w5.heap[x]? = w3.heap[x]? := fun x h1 h2 h3 => hk5 x h1 h2 (fun y hy e => by
            obtain ⟨_, cs, hc⟩ := hrow y hy
            subst e
            exact h3 cs _ hc)
          have hlow : ∀ x, x < w.heap.size → w5.heap[x]? = w3.heap[x]? := fun x h1 => (hg5.block x (by simp; omega) (fun e => by have := (hrow x e.symm).1; omega)).trans (Below.heap_alloc _ _ _ (by omega))
          refine ⟨k + 1, t, b3, c3, o5, c5, vs ++ [.slice (some ⟨b3, 0, none⟩) t.length c3], j2, b2, acc ++ [t], by omega, by go_num, rfl, rfl, by rw [List.length_append, HAL.out]; rfl, htj, ?_, HBT3.out.keptN (by decide) hk6, ho5, ?_, (hlow rb hrl).trans HR3.out, by omega, hj2, HB2.out, ?_⟩
          · intro y hy
            rcases List.mem_append.1 hy with h1 | h1
            · have := HAC.out y h1; omega
            · rw [List.mem_singleton.1 h1]; exact htj
          · have hl1 := HBS3.out.1
            refine ⟨by simp only [List.length_append, hl1, List.length_cons, List.length_nil], fun x u y hu hy => ?_⟩
            by_cases hx : x < vs.length
            · rw [List.getElem?_append_left hx] at hu
              rw [List.getElem?_append_left (by omega)] at hy
              exact (HBS3.out.2 x u y hu hy).keptN (by decide) hk6
            · rw [List.getElem?_append_right (by omega)] at hu
              rw [List.getElem?_append_right (by omega)] at hy
              have e0 : x - vs.length = 0 := by
                have := (List.getElem?_eq_some_iff.1 hu).1
                simp at this
                omega
              rw [e0] at hu
              rw [show x - acc.length = 0 by omega] at hy
              simp at hu hy
              subst hu hy
              exact HBT3.out.keptN (by decide) hk6
          · exact ⟨hg5.os.trans HFM3.out.os, hg5.tape.trans HFM3.out.tape, hg5.output.trans HFM3.out.output, Nat.le_trans hws (Nat.le_trans (by simp) hg5.size), fun x h1 h2 => (hlow x h1).trans (HFM3.out.block x h1 h2)⟩
        case measure => simp [intOf]; omega
      · have hqa' : ((a.length : Int) < (q : Int)) := by omega
        have HC := refuse_g w1 rb j1 D b1 HR1.out
        go_wp2_with fail
        refine HC.mono ?_
        rintro e w4 ⟨rfl, hR4, hF4⟩
        have HR4 : Hid (Rg rb D j1 true w4) := hR4
        have HF4 : Hid (Fm rb wr w4) := HF1.out.trans hF4
        have HB4 : Hid (true = false → bad = false) := fun e => by cases e
        clear hR4 hF4 HC HR1 HF1 HB1
        have hqc : (a.length : Int) ≤ (c : Int) := by omega
        have hq0 : (0 : Int) ≤ (a.length : Int) := by omega
        have HKe : Hid (∀ w2, Fm rb w4 w2 → b < w2.heap.size ∧ BtA w.heap.size w2 (.slice (some ⟨b, 0, none⟩) a.length c) a) := fun w2 h2 => by
          have h3 := HF4.out.trans h2
          exact ⟨Nat.lt_of_lt_of_le hbl h3.size, HBT.out.kept h3.size (fun x hx1 hx2 => h3.block x hx2 (fun e => by cases e; omega))⟩
        have HTx : Hid (Calls Tryd.prog 53 #[.pointer (some ⟨rb, 0, none⟩)] w4.drew (TgP rb D j1 true w4.drew)) := text_g w4.drew rb j1 D true HR4.out hj1 (by omega) (HHd.out.fm (HFM.out.trans (HF4.out.trans (Fm.refl rb w4).drew)))
        go_wp2_with fail
        go_region_law (first | (refine step_append_run rfl (.tmp 31) (.tmp 33) 46 9 46 rfl rfl (.slice (some ⟨b, 0, none⟩) (a.length) (a.length)) (strT x) (.slice (some ⟨b3, 0, none⟩) t.length c3) w3 (by simp [Act.eval, Act.put]) (by simp [Act.eval, Act.put]) hap ?_) | (go_simp; go_at_call 53; refine HTx.out.mono ?_; rintro e2 w2 ⟨x, j2, b2, rfl, hR2, hF2, hjj2, hj2, hxl, hbb2⟩; obtain ⟨b3, c3, w3, t, htl3, hap, hbt3, hb3⟩ := HAp.out w2 (a.length) x (by omega) (by omega) (HKe.out w2 ((Fm.refl rb w4).drew.trans hF2)).1 (HKe.out w2 ((Fm.refl rb w4).drew.trans hF2)).2 (Nat.le_trans HFM.out.size (Nat.le_trans HF4.out.size hF2.size))))
        have hF13 : Fm rb w w3 := (HFM.out.trans (HF4.out.trans ((Fm.refl rb w4).drew.trans hF2))).trans (Fm.of_below hb3)
        have hFr3 : Fm rb wr w3 := (HF4.out.trans ((Fm.refl rb w4).drew.trans hF2)).trans (Fm.of_below hb3)
        have HFM3 : Hid (Fm rb w w3) := hF13
        have hkeep : ∀ x, w.heap.size ≤ x → x < wr.heap.size → w3.heap[x]? = wr.heap[x]? := fun x h1 h2 => hFr3.block x h2 (fun e => by cases e; omega)
        have HBT3 : Hid (BtA w.heap.size w3 (.slice (some ⟨b3, 0, none⟩) t.length c3) t) := hbt3
        have HOW3 : Hid (w3.ownsRow w.heap.size 46 1 (.slice o (k + 1) tc) (k + 1) vs) := row_kept HOW.out hkeep
        have HBS3 : Hid (Bts w.heap.size w3 vs acc) := ⟨HBS.out.1, fun x u y h1 h2 => (HBS.out.2 x u y h1 h2).kept hFr3.size hkeep⟩
        have HR3 : Hid (Rg rb D j2 b2 w3) := hR2.below hb3
        have HB2 : Hid (b2 = false → bad = false) := fun e => HB4.out (hbb2 e)
        have hws : w.heap.size ≤ w3.heap.size := hF13.size
        have hoA := HOW3.out.alloc (.cells #[.slice (some ⟨b3, 0, none⟩) t.length c3] 46)
        have htj : t.length ≤ j2 := by omega
        obtain ⟨i0, hi0, hz0, hz1, hz2⟩ := info_parts infoBts
        clear hR2 hF2 hap hbt3 hb3 hF13 hFr3 hkeep HOW HBS HRS HFM HBT HR4 HF4 HKe HAp HTx hbb2
        go_wp2_with (first
          | (at_builtin; refine wpList_append_own _ (by rfl) _ _ _ (by rfl) w.heap.size 46 i0 _ 1 24 Tryd.underlying117 hi0 hz0 hz1 hz2 rfl (by decide) (.slice o (k + 1) tc) (k + 1) vs (by rfl) hoA ⟨w3.heap.size, 0, none⟩ 1 1 [.slice (some ⟨b3, 0, none⟩) t.length c3] (by rfl) (by rfl) (one_new _ _ _) (by simp [Value.oneCell']) (by unfold maxLen; omega) (by omega) (by simp; omega) ?_; intro v5 w5 ho5 hg5 hi5))
        obtain ⟨o5, c5, hv5⟩ := row_form ho5
        subst hv5
        have hk5 : ∀ x, w.heap.size ≤ x → x < w3.heap.size → (∀ y, (Value.slice o (k + 1) tc).ownBlock = some y → x ≠ y) → w5.heap[x]? = w3.heap[x]? := fun x h1 h2 h3 => (hg5.block x (by simp; omega) (fun e => h3 x e.symm rfl)).trans (Below.heap_alloc _ _ _ h2)
        go_roundw
        case rel =>
          have hrow : ∀ y, (Value.slice o (k + 1) tc).ownBlock = some y → w.heap.size ≤ y ∧ ∃ cs, w3.heap[y]? = some (.cells cs 46 (0, 0)) := fun y hy => by
            rcases HOW3.out.2 with ⟨e1, _⟩ | ⟨g, cap, cur, e1, e2, e3, _⟩
            · cases e1
            · cases e1
              cases hy
              exact ⟨e2, cur, e3⟩
          have hk6 : ∀ x, w.heap.size ≤ x → x < w3.heap.size → (∀ cs fz, w3.heap[x]? ≠ some (.cells cs 46 fz)) → w5.heap[x]? = w3.heap[x]? := fun x h1 h2 h3 => hk5 x h1 h2 (fun y hy e => by
            obtain ⟨_, cs, hc⟩ := hrow y hy
            subst e
            exact h3 cs _ hc)
          have hlow : ∀ x, x < w.heap.size → w5.heap[x]? = w3.heap[x]? := fun x h1 => (hg5.block x (by simp; omega) (fun e => by have := (hrow x e.symm).1; omega)).trans (Below.heap_alloc _ _ _ (by omega))
          refine ⟨k + 1, t, b3, c3, o5, c5, vs ++ [.slice (some ⟨b3, 0, none⟩) t.length c3], j2, b2, acc ++ [t], by omega, by go_num, rfl, rfl, by rw [List.length_append, HAL.out]; rfl, htj, ?_, HBT3.out.keptN (by decide) hk6, ho5, ?_, (hlow rb hrl).trans HR3.out, by omega, hj2, HB2.out, ?_⟩
          · intro y hy
            rcases List.mem_append.1 hy with h1 | h1
            · have := HAC.out y h1; omega
            · rw [List.mem_singleton.1 h1]; exact htj
          · have hl1 := HBS3.out.1
            refine ⟨by simp only [List.length_append, hl1, List.length_cons, List.length_nil], fun x u y hu hy => ?_⟩
            by_cases hx : x < vs.length
            · rw [List.getElem?_append_left hx] at hu
              rw [List.getElem?_append_left (by omega)] at hy
              exact (HBS3.out.2 x u y hu hy).keptN (by decide) hk6
            · rw [List.getElem?_append_right (by omega)] at hu
              rw [List.getElem?_append_right (by omega)] at hy
              have e0 : x - vs.length = 0 := by
                have := (List.getElem?_eq_some_iff.1 hu).1
                simp at this
                omega
              rw [e0] at hu
              rw [show x - acc.length = 0 by omega] at hy
              simp at hu hy
              subst hu hy
              exact HBT3.out.keptN (by decide) hk6
          · exact ⟨hg5.os.trans HFM3.out.os, hg5.tape.trans HFM3.out.tape, hg5.output.trans HFM3.out.output, Nat.le_trans hws (Nat.le_trans (by simp) hg5.size), fun x h1 h2 => (hlow x h1).trans (HFM3.out.block x h1 h2)⟩
        case measure => simp [intOf]; omega
    · obtain rfl : k = N := by omega
      have hvl : vs.length = k + 1 := by
        have := HOW.out.1
        omega
      have HAs : Hid (Calls Tryd.prog 64 #[.slice o (k + 1) tc] wr fun e w' => ∃ u, e = .returned u ∧ OwnT w' wr.heap.size u acc ∧ Below wr.heap.size wr w') := by
        refine asStrings_any wr w.heap.size _ vs acc (by rw [hvl]; exact HOW.out) HBS.out (by rw [HAL.out]; omega) (by rw [HAL.out]; omega) HFM.out.size
      clear HOW HBS HBT
      go_wp2_with fail
      refine HAs.out.mono ?_
      rintro e w5 ⟨u, rfl, hou, hb5⟩
      have HF5 : Hid (RbP rb D i left bad w (.returned u) w5) := by
        refine ⟨u, acc, j, bd, rfl, ⟨hou.1, hou.2.elim .inl fun ⟨g, cap, cur, e1, e2, e3⟩ => .inr ⟨g, cap, cur, e1, Nat.le_trans HFM.out.size e2, e3⟩⟩, by rw [HAL.out, HNN.out], HRS.out.below hb5, HFM.out.trans (Fm.of_below hb5), hij, hj, fun t ht => by have := HAC.out t ht; omega, HBD.out⟩
      clear hou hb5
      go_wp2_with fail
      go_ret
      exact HF5.out

end Go.Proofs.YtnffjoipinhojabDoor
