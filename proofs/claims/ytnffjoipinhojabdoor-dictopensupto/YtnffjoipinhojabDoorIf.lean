import Derived.Test.YtnffjoipinhojabDoorIe
set_option linter.unusedSimpArgs false
set_option linter.unusedVariables false
namespace Go.Proofs.YtnffjoipinhojabDoor
open Go.RowKit

theorem ckV_cases (l : List (List UInt8)) : (refuse l = none ∧ ckV l = .nilIface) ∨ (∃ (i n : Int), ckV l = .iface 84 (.agg #[.int .i64 i, .iface 80 (.agg #[.int .i64 n])])) := by
  cases h : refuse l with
  | none => exact .inl ⟨rfl, by unfold ckV; rw [h]⟩
  | some x => exact .inr ⟨x.2, x.1, by unfold ckV; rw [h]⟩

/-- a Dict under way: so many blocks, whatever they hold -/
def DkW (base b n q : Nat) (w : World) : Prop :=
  base ≤ b ∧ ∃ o c vs, w.heap[b]? = some (.cells #[.int .i64 n, .slice o q c] 71 (0, 0)) ∧ w.ownsRow base 9 1 (.slice o q c) q vs
theorem DkW.kept {base b n q : Nat} {w w' : World} (h : DkW base b n q w) (hk : ∀ k, base ≤ k → k < w.heap.size → w'.heap[k]? = w.heap[k]?) : DkW base b n q w' := by
  obtain ⟨h1, o, c, vs, h2, h3⟩ := h
  exact ⟨h1, o, c, vs, (hk b h1 (Array.getElem?_eq_some_iff.1 h2).1).trans h2, row_kept h3 hk⟩

/-- what readDict ends in -/
def RdP (rb : Nat) (D : ByteArray) (w : World) (e : Ending) (w' : World) : Prop :=
  ∃ (b j : Nat) (bad : Bool), e = .returned (.pointer (some ⟨b, 0, none⟩)) ∧ Rg rb D j bad w' ∧ Fm rb w w' ∧ (bad = false → ∃ L, DictOf D L)

set_option maxHeartbeats 8000000 in
set_option maxRecDepth 20000 in
theorem readDict_g (w : World) (rb : Nat) (D : ByteArray) (hR : Rg rb D 0 false w) (hD : D.size ≤ 1048576) (hH : HandR rb w) :
    Calls Tryd.prog 27 #[.pointer (some ⟨rb, 0, none⟩)] w (RdP rb D w) := by
  have hrl := hR.lt
  have hlenD : D.data.toList.length = D.size := Array.length_toList
  have HHd : Hid (HandR rb w) := hH
  have HN : Hid (Calls Tryd.prog 45 #[.pointer (some ⟨rb, 0, none⟩)] w (NgP rb D 0 false w)) := number_g w rb 0 D false hR (Nat.zero_le _) (by omega) hH
  clear hR hH
  go_enter Tryd.func27, Tryd.ntmps27
  go_wp2_with fail
  refine HN.out.mono ?_
  rintro e w1 ⟨n, p0, b0, rfl, hR1, hF1, _, hp0, hnm, hb0⟩
  have HR1 : Hid (Rg rb D p0 b0 w1) := hR1
  have HF1 : Hid (Fm rb w w1) := hF1
  have HO0 : Hid (b0 = false → Ok D n 0 p0 [] []) := fun e => Ok.start (hb0 e).2
  clear hR1 hF1 HN hb0
  go_wp2_with fail
  go_loopw [4, 5] (fun t4 t5 wr => ∃ (q p : Nat) (bd : Bool) (acc ml : List (List UInt8)) (ol : Option Addr) (cl : Nat), t5 = .int .i64 ((n : Int) - 4 * q) ∧ 4 * q < n + 4 ∧ t4 = .slice ol ml.length cl ∧ ml.length ≤ 4 ∧ (∀ t ∈ ml, t.length ≤ D.size) ∧ Texts wr (.slice ol ml.length cl) ml ∧ (∀ g off, ol = some ⟨g, off, none⟩ → ml ≠ [] → w.heap.size ≤ g) ∧ Rg rb D p bd wr ∧ p ≤ D.size ∧ q ≤ p + 1 ∧ (bd = false → q ≤ p) ∧ DkW w.heap.size w1.heap.size n q wr ∧ Fm rb w wr ∧ (bd = false → Ok D n q p acc ml)) (fun t4 t5 wr => (intOf t5 + 4).toNat)
  case atStart =>
    have hb : Below w1.heap.size w1 (w1.alloc (.cells #[.int .i64 n, .slice none 0 0] 71)) := (Below.refl _ w1).alloc (Nat.le_refl _) _
    refine ⟨0, p0, b0, [], [], none, 0, by simp, by omega, rfl, by simp, (fun t ht => by cases ht), .inl ⟨none, 0, rfl, by unfold maxLen; omega, rfl⟩, (fun g off h => by cases h), HR1.out.below hb, hp0, by omega, fun _ => Nat.zero_le _, ?_, HF1.out.trans (Fm.of_below hb), HO0.out⟩
    exact ⟨HF1.out.size, none, 0, [], World.alloc_heap_new w1 _, World.ownsRow_nil _ _ _ _⟩
  case round =>
    obtain ⟨q, p, bd, acc, ml, ol, cl, rfl, h4q, rfl, hml4, hmls, hlast, hlastb, hRs, hpD, hqp, hqp2, hdict, hF, hok⟩ := hrel
    have HL : Hid (Texts wr (.slice ol ml.length cl) ml) := hlast
    have HMS : Hid (∀ t ∈ ml, t.length ≤ D.size) := hmls
    have HRS : Hid (Rg rb D p bd wr) := hRs
    have HDI : Hid (DkW w.heap.size w1.heap.size n q wr) := hdict
    have HF : Hid (Fm rb w wr) := hF
    have HOK : Hid (bd = false → Ok D n q p acc ml) := hok
    clear hlast hRs hdict hF HR1 HF1 HO0 hok hmls
    have HEn : Hid (Calls Tryd.prog 51 #[.pointer (some ⟨rb, 0, none⟩)] wr fun e w' => ∃ b, e = .returned (.tuple #[]) ∧ Rg rb D p b w' ∧ Fm rb wr w' ∧ (b = false → bd = false ∧ p = D.size)) := end_g wr rb p D bd HRS.out hpD
    have HEr : Hid (Calls Tryd.prog 28 #[.pointer (some ⟨rb, 0, none⟩)] wr fun e w' => e = .returned (erV bd p) ∧ w' = wr) := err_g wr rb p D bd HRS.out
    by_cases hlt : 4 * q < n
    · have hpos : (0 : Int) < (n : Int) - 4 * q := by omega
      cases bd with
      | true =>
        have HEr2 : Hid (Calls Tryd.prog 28 #[.pointer (some ⟨rb, 0, none⟩)] wr fun e w' => e = .returned (.iface 84 (.agg #[.int .i64 p, .iface 80 (.agg #[.int .i64 8])])) ∧ w' = wr) := HEr.out
        go_wp2_with (first | (go_at_call 28; refine HEr2.out.mono ?_; rintro e w2 ⟨rfl, rfl⟩) | (go_at_call 51; refine HEn.out.mono ?_; rintro e w3 ⟨b3, rfl, hR3, hF3, hb3⟩; have HE : Hid (RdP rb D w (.returned (.pointer (some ⟨w1.heap.size, 0, none⟩))) w3) := ⟨_, p, b3, rfl, hR3, HF.out.trans hF3, fun e => by cases (hb3 e).1⟩; clear hR3 hF3 hb3))
        exact bodyPost_ret (v := .pointer (some ⟨w1.heap.size, 0, none⟩)) (by simp [results, Tryd.results27, go_sem]) rfl HE.out
      | false =>
        have hqp3 := hqp2 rfl
        clear hqp hqp2
        have HEr2 : Hid (Calls Tryd.prog 28 #[.pointer (some ⟨rb, 0, none⟩)] wr fun e w' => e = .returned .nilIface ∧ w' = wr) := HEr.out
        have HPl : Hid (∀ w2, Rg rb D p false w2 → Calls Tryd.prog 46 #[.pointer (some ⟨rb, 0, none⟩)] w2 fun e w' => e = .returned (.int .i64 p) ∧ w' = w2) := fun w2 h2 => place_g w2 rb p D false h2
        have HRB : Hid (∀ w2, Rg rb D p false w2 → Fm rb w w2 → Calls Tryd.prog 47 #[.pointer (some ⟨rb, 0, none⟩), .int .i64 ((n : Int) - 4 * q)] w2 (RbP rb D p (n - 4 * q) false w2)) := fun w2 h2 h3 => by
          have := readBlock_g w2 rb p (n - 4 * q) D false h2 hpD hD (by omega) (by omega) (HHd.out.fm h3)
          rw [show ((n - 4 * q : Nat) : Int) = (n : Int) - 4 * q by omega] at this
          exact this
        clear HEr HEn
        go_wp2_with (first | (go_at_call 28; refine HEr2.out.mono ?_; rintro e w2 ⟨rfl, rfl⟩))
        refine (HPl.out _ HRS.out).mono ?_
        rintro e w2 ⟨rfl, rfl⟩
        go_wp2_with fail
        refine (HRB.out _ HRS.out HF.out).mono ?_
        rintro e w3 ⟨u, T, p2, b2, rfl, hou, hTl, hR3, hF3, hpp2, hp2D, hTs, _⟩
        obtain ⟨t0, r, rfl⟩ : ∃ t0 r, T = t0 :: r := by
          cases T with
          | nil => simp at hTl; omega
          | cons t0 r => exact ⟨t0, r, rfl⟩
        obtain ⟨g3, c3, cur3, hu3, hg3b, hg3h, hg3c, hg3m, hg3s, hg3t⟩ : ∃ g cap cur, u = .slice (some ⟨g, 0, none⟩) (t0 :: r).length cap ∧ w2.heap.size ≤ g ∧ w3.heap[g]? = some (.cells cur 9 (0, 0)) ∧ (t0 :: r).length ≤ cap ∧ cap ≤ maxLen ∧ cur.size = cap * 1 ∧ cur.toList.take ((t0 :: r).length * 1) = (t0 :: r).map strT := by
          rcases hou.2 with ⟨_, h1⟩ | h
          · simp at h1
          · exact h
        subst hu3
        have hst3 : Strs w3 g3 0 (t0 :: r) := fun k t hk => by
          have hc := hou.cells (g := g3) rfl k (strT t) (by rw [List.getElem?_map, hk]; rfl)
          have e : (⟨g3, 0, none⟩ : Addr).add k = ⟨g3, 0 + k, none⟩ := by unfold Addr.add; split <;> simp_all
          rw [e] at hc
          exact hc
        have hg3l : g3 < w3.heap.size := (Array.getElem?_eq_some_iff.1 hg3h).1
        have HTL : Hid ((t0 :: r).length = min (n - 4 * q) 4) := hTl
        have hr3 : r.length ≤ 3 := by simp at hTl; omega
        have HTS : Hid (∀ t ∈ t0 :: r, t.length ≤ D.size) := hTs
        have HT3 : Hid (Strs w3 g3 0 (t0 :: r)) := hst3
        have HR3 : Hid (Rg rb D p2 b2 w3) := hR3
        have HF3 : Hid (Fm rb w2 w3) := hF3
        have HL3 : Hid (Texts w3 (.slice ol ml.length cl) ml) := HL.out.fm hF3 (fun g off cap h1 h2 => by
          cases h1
          have := hlastb g off rfl h2
          omega)
        have hw23 : w2.heap.size ≤ w3.heap.size := hF3.size
        have hww2 : w.heap.size ≤ w2.heap.size := HF.out.size
        have HB3 : Hid (w2.heap.size ≤ g3 ∧ w3.heap[g3]? = some (.cells cur3 9 (0, 0))) := ⟨hg3b, hg3h⟩
        obtain ⟨X, hX⟩ : ∃ X : ByteArray, D.extract p p2 = X := ⟨_, rfl⟩
        have HXd : Hid (X.data.toList = (D.data.toList.drop p).take (p2 - p)) := by
          unfold Hid
          rw [← hX, ByteArray.data_extract, Array.toList_extract]
          try rfl
        have HSi : Hid (∀ w2, Rg rb D p2 b2 w2 → Calls Tryd.prog 48 #[.pointer (some ⟨rb, 0, none⟩), .int .i64 p] w2 fun e w' => e = .returned (.string X) ∧ ∃ n, w' = w2.drewN n) := fun w2 h2 => by
          have := since_g w2 rb p2 p D b2 h2 hpp2 hp2D (by omega)
          rw [hX] at this
          exact this
        have hwl : IntKind.i64.wrap ((r.length : Int) + 1 - 1) = (r.length : Int) := by rw [IntKind.wrap_i64]; omega
        have hww : IntKind.i64.wrap ((n : Int) - 4 * q - 4) = (n : Int) - 4 * q - 4 := by rw [IntKind.wrap_i64]; omega
        have hl0 : (0 : Int) ≤ (r.length : Int) := by omega
        have hl1 : (r.length : Int) ≤ (r.length : Int) + 1 := by omega
        have hl2 : ¬ c3 = r.length := by simp at hg3c; omega
        clear hou hst3 hR3 hF3 hg3h hg3s hg3t HPl HRB HEr2 hX hTl hTs
        simp only [List.length_cons] at hg3c ⊢
        go_wp2_with fail
        refine (HSi.out w3 HR3.out).mono ?_
        rintro e w4 ⟨rfl, n4, rfl⟩
        have HB4 : Hid (Below w3.heap.size w3 ((w3.drewN n4).alloc (.cells #[.slice ol ml.length cl, .slice (some ⟨g3, 0, none⟩) (r.length + 1) c3] 22))) := (below_drewN (Below.refl _ w3) n4).alloc (Nat.le_refl _) _
        have HCo : Hid (Calls Tryd.prog 49 #[.slice (some ⟨w3.heap.size, 0, none⟩) 2 2] ((w3.drewN n4).alloc (.cells #[.slice ol ml.length cl, .slice (some ⟨g3, 0, none⟩) (r.length + 1) c3] 22)) fun e w' => ∃ u, e = .returned u ∧ OwnT w' ((w3.drewN n4).alloc (.cells #[.slice ol ml.length cl, .slice (some ⟨g3, 0, none⟩) (r.length + 1) c3] 22)).heap.size u (ml ++ (t0 :: r)) ∧ Below ((w3.drewN n4).alloc (.cells #[.slice ol ml.length cl, .slice (some ⟨g3, 0, none⟩) (r.length + 1) c3] 22)).heap.size ((w3.drewN n4).alloc (.cells #[.slice ol ml.length cl, .slice (some ⟨g3, 0, none⟩) (r.length + 1) c3] 22)) w') := by
          refine concat_any _ w3.heap.size _ _ ml (t0 :: r) ?_ ?_ (HL3.out.below HB4.out) ((show Texts w3 (.slice (some ⟨g3, 0, none⟩) (r.length + 1) c3) (t0 :: r) from .inr ⟨g3, 0, c3, rfl, hg3l, by simpa using hg3c, hg3m, HT3.out⟩).below HB4.out) (by omega) (by simp; omega) (by simp)
          · exact cell_new (w := w3.drewN n4)
          · exact cell_new (w := w3.drewN n4)
        obtain ⟨W5, hW5⟩ : ∃ W5, (w3.drewN n4).alloc (.cells #[.slice ol ml.length cl, .slice (some ⟨g3, 0, none⟩) (r.length + 1) c3] 22) = W5 := ⟨_, rfl⟩
        rw [hW5] at HB4 HCo
        go_wp2_with fail
        refine HCo.out.mono ?_
        rintro e w6 ⟨u6, rfl, ho6, hb6⟩
        have HB6 : Hid (Below w3.heap.size w3 w6) := HB4.out.trans (hb6.mono HB4.out.size)
        have HCk : Hid (Calls Tryd.prog 15 #[u6] w6 fun e w' => e = .returned (ckV (ml ++ (t0 :: r))) ∧ Below w6.heap.size w6 w') := by
          refine check_all w6 u6 (ml ++ (t0 :: r)) (own_texts ho6) (by simp only [List.length_append, List.length_cons]; omega) (fun t ht => ?_)
          rcases List.mem_append.1 ht with h1 | h1
          · have := HMS.out t h1; omega
          · have := HTS.out t h1; omega
        obtain ⟨o6, c6, hu6⟩ := row_form ho6
        obtain ⟨N6, hN6⟩ : ∃ N, (ml ++ (t0 :: r)).length = N := ⟨_, rfl⟩
        rw [hN6] at hu6
        subst hu6
        clear ho6 hb6 HCo HB4 hN6
        rcases ckV_cases (ml ++ (t0 :: r)) with ⟨hrf, hck⟩ | ⟨ci, cn, hck⟩
        · have HRF : Hid (refuse (ml ++ (t0 :: r)) = none) := hrf
          rw [hck] at HCk
          clear hrf hck
          go_wp2_with fail
          refine HCk.out.mono ?_
          rintro e w7 ⟨rfl, hb7⟩
          have HB7 : Hid (Below w3.heap.size w3 w7) := HB6.out.trans (hb7.mono HB6.out.size)
          have HPk : Hid (Calls Tryd.prog 21 #[.slice (some ⟨g3, 0, none⟩) (r.length + 1) c3] w7 fun e w' => e = .returned (strT (blockE (t0 :: r))) ∧ Below w7.heap.size w7 w') :=
            pack_any w7 g3 0 c3 (t0 :: r) (by simp) (by simp; omega) (by simpa using hg3c) hg3m (fun t ht => (good_parts HRF.out).2 t (List.mem_append.2 (.inr ht))) (Nat.lt_of_lt_of_le hg3l HB7.out.size) (HT3.out.below hg3l HB7.out)
          obtain ⟨E, hE⟩ : ∃ E : ByteArray, E = ⟨(blockE (t0 :: r)).toArray⟩ := ⟨_, rfl⟩
          have HED : Hid (E.data.toList = blockE (t0 :: r)) := by unfold Hid; rw [hE]
          rw [show strT (blockE (t0 :: r)) = .string E by rw [hE]] at HPk
          clear hb7 hE
          by_cases hEX : E = X
          · subst hEX
            go_wp2_with fail
            refine HPk.out.mono ?_
            rintro e w8 ⟨rfl, hb8⟩
            have HFX : Hid (Fm rb w3 w8) := Fm.of_below (HB7.out.trans (hb8.mono HB7.out.size))
            have HRX : Hid (Rg rb D p2 b2 w8) := HR3.out.below (HB7.out.trans (hb8.mono HB7.out.size))
            have hlenb : p2 = p + (blockE (t0 :: r)).length := by
              rw [← HED.out, HXd.out, List.length_take, List.length_drop, hlenD]
              omega
            have hge := blockE_ge (t0 :: r)
            simp only [List.length_cons] at hge
            have HQX : Hid (b2 = false → q + 1 ≤ p2) := fun _ => by omega
            have HOX : Hid (b2 = false → Ok D n (q + 1) p2 (acc ++ (t0 :: r)) ((t0 :: r).drop r.length)) := fun _ => by
              have := (HOK.out (by trivial)).step (T := t0 :: r) (p2 := p2) hlt HTL.out HRF.out (by
                rw [← HED.out, HXd.out]
                have : D.data.toList.drop p2 = (D.data.toList.drop p).drop (p2 - p) := by rw [List.drop_drop, show p + (p2 - p) = p2 by omega]
                rw [this, List.take_append_drop]) hlenb
              simpa using this
            clear hb8 hlenb hge
            have hF8 : Fm rb w2 w8 := HF3.out.trans HFX.out
            have hs38 := HFX.out.size
            obtain ⟨hdB, oB, cB, vs, hdH, hdO⟩ := HDI.out.kept (w' := w8) (fun k h1 hk => hF8.block k hk (fun e => by cases e; omega))
            have hBl : w1.heap.size < w8.heap.size := (Array.getElem?_eq_some_iff.1 hdH).1
            have q1 : w8.cell? ⟨w1.heap.size, 1, none⟩ = some (.slice oB q cB) := by rw [Lib.cell_of_heap hdH]; rfl
            have HDO : Hid (w8.ownsRow w.heap.size 9 1 (.slice oB q cB) q vs) := hdO
            have HDH : Hid (w8.heap[w1.heap.size]? = some (.cells #[.int .i64 n, .slice oB q cB] 71 (0, 0))) := hdH
            have hoA := HDO.out.alloc (.cells #[.string E] 9)
            have hws8 : w.heap.size ≤ w8.heap.size := by omega
            obtain ⟨i0, hi0, hz0, hz1, hz2⟩ := info_parts infoStr
            have hBw2 : w1.heap.size < w2.heap.size := by
              obtain ⟨_, _, _, _, hH2, _⟩ := HDI.out
              exact (Array.getElem?_eq_some_iff.1 hH2).1
            have HRow2 : Hid (∀ y, (Value.slice oB q cB).ownBlock = some y → y < w2.heap.size) := fun y hy => by
              obtain ⟨_, o2, c2, vs2, hH2, hO2⟩ := HDI.out
              have hlt2 := (Array.getElem?_eq_some_iff.1 hH2).1
              have e1 : w8.heap[w1.heap.size]? = w2.heap[w1.heap.size]? := hF8.block _ hlt2 (fun e => by cases e; omega)
              rw [hdH, hH2] at e1
              cases e1
              exact (hO2.lt y hy).2
            have HT8 : Hid (Strs w8 g3 0 (t0 :: r)) := fun k t hk => (World.cell?_of_block (a := ⟨g3, 0 + k, none⟩) (HFX.out.block g3 hg3l (fun e => by cases e; omega))).trans (HT3.out k t hk)
            have HF8 : Hid (Fm rb w2 w8) := hF8
            clear hdH hdO hF8
            go_wp2_with (first
              | (at_builtin; refine wpList_append_own _ (by rfl) _ _ _ (by rfl) w.heap.size 9 i0 _ 1 16 Tryd.underlying22 hi0 hz0 hz1 hz2 rfl (by decide) (.slice oB q cB) q vs (by rfl) hoA ⟨w8.heap.size, 0, none⟩ 1 1 [.string E] (by rfl) (by rfl) (one_new _ _ _) (by simp [Value.oneCell']) (by unfold maxLen; omega) (by omega) (by simp; omega) ?_; intro v9 w9 ho9 hg9 hi9; obtain ⟨o9, c9, hv9⟩ := row_form ho9; subst hv9; have hrow9 : ∀ y, (Value.slice oB q cB).ownBlock = some y → w.heap.size ≤ y ∧ y < w8.heap.size ∧ y ≠ w1.heap.size := (fun y hy => by
                  rcases HDO.out.2 with ⟨e1, _⟩ | ⟨g, cap, cur, e1, e2, e3, _⟩
                  · cases e1
                    cases hy
                  · cases e1
                    cases hy
                    refine ⟨e2, (Array.getElem?_eq_some_iff.1 e3).1, fun e => ?_⟩
                    have e' : g = w1.heap.size := e
                    rw [e', HDH.out] at e3
                    cases e3); have hB9 : w9.heap[w1.heap.size]? = some (.cells #[.int .i64 n, .slice oB q cB] 71 (0, 0)) := ((hg9.block w1.heap.size (by simp; omega) (fun e => (hrow9 _ e.symm).2.2 rfl)).trans (Below.heap_alloc _ _ _ hBl)).trans HDH.out; have q9 : w9.cell? ⟨w1.heap.size, 1, none⟩ = some (.slice oB q cB) := (by rw [Lib.cell_of_heap hB9]; rfl); have f9 : w9.frozen? ⟨w1.heap.size, 1, none⟩ = false := Lib.frozen_of_heap hB9 1))
            have s10 : (w9.setCell ⟨w1.heap.size, 1, none⟩ (.slice o9 (q + 1) c9)).heap[w1.heap.size]? = some (.cells #[.int .i64 n, .slice o9 (q + 1) c9] 71 (0, 0)) := by
              have s1 := setCell_eq_setRow w9 w1.heap.size 1 _ 71 (0, 0) (.slice o9 (q + 1) c9) hB9
              have h1 := setRow_heap w9 w1.heap.size _ (#[Value.int .i64 n, .slice oB q cB].setIfInBounds 1 (.slice o9 (q + 1) c9)) _ _ hB9
              rw [← s1] at h1
              exact h1
            have hoth : ∀ k, k < w8.heap.size → k ≠ w1.heap.size → (∀ y, (Value.slice oB q cB).ownBlock = some y → k ≠ y) → (w9.setCell ⟨w1.heap.size, 1, none⟩ (.slice o9 (q + 1) c9)).heap[k]? = w8.heap[k]? := fun k h1 h2 h3 =>
              (Below.heap_setCell w9 ⟨w1.heap.size, 1, none⟩ _ k h2).trans ((hg9.block k (by simp; omega) (fun e => h3 k e.symm rfl)).trans (Below.heap_alloc _ _ _ h1))
            have hlow : ∀ k, k < w.heap.size → (w9.setCell ⟨w1.heap.size, 1, none⟩ (.slice o9 (q + 1) c9)).heap[k]? = w8.heap[k]? := fun k h1 => hoth k (by omega) (by omega) (fun y hy e => by have := (hrow9 y hy).1; omega)
            have hsz10 : w8.heap.size ≤ (w9.setCell ⟨w1.heap.size, 1, none⟩ (.slice o9 (q + 1) c9)).heap.size := by
              have := hg9.size
              simp only [World.size_setCell]
              simp at this
              omega
            go_roundw
            case rel =>
              have hF8 := HF8.out
              have hFw := HF.out
              refine ⟨q + 1, p2, b2, acc ++ (t0 :: r), (t0 :: r).drop r.length, some ⟨g3, r.length, none⟩, c3 - r.length, ?_, by omega, ?_, by simp, (fun t ht => HTS.out t (List.mem_of_mem_drop ht)), ?_, ?_, (hlow rb hrl).trans HRX.out, hp2D, by omega, HQX.out, ⟨hdB, o9, c9, vs ++ [.string E], s10, ?_⟩, ?_, HOX.out⟩
              · congr 1
                omega
              · simp
              · refine .inr ⟨g3, r.length, c3 - r.length, by simp, by omega, by simp; omega, by unfold maxLen at hg3m ⊢; omega, fun k t hk => ?_⟩
                rw [List.getElem?_drop] at hk
                have h1 := HT8.out (r.length + k) t hk
                rw [Nat.zero_add] at h1
                refine Eq.trans (World.cell?_of_block (a := ⟨g3, r.length + k, none⟩) ?_) h1
                exact hoth g3 (by omega) (by have := HB3.out.1; omega) (fun y hy e => by have := HRow2.out y hy; have := HB3.out.1; omega)
              · intro g off h _
                cases h
                have := HB3.out.1
                omega
              · refine ⟨ho9.1, ?_⟩
                rcases ho9.2 with h1 | ⟨g, cap, cur, h1, h2, h3, h4⟩
                · exact .inl h1
                · refine .inr ⟨g, cap, cur, h1, h2, ?_, h4⟩
                  rw [Below.heap_setCell w9 ⟨w1.heap.size, 1, none⟩ _ g (fun e => by
                    have e' : g = w1.heap.size := e
                    rw [e', hB9] at h3
                    cases h3)]
                  exact h3
              · refine ⟨?_, ?_, ?_, by omega, fun x h1 h2 => (hlow x h1).trans ((hF8.block x (by omega) h2).trans (hFw.block x h1 h2))⟩
                · exact (hg9.os.trans hF8.os).trans hFw.os
                · exact (hg9.tape.trans hF8.tape).trans hFw.tape
                · exact (hg9.output.trans hF8.output).trans hFw.output
            case measure => simp [intOf]; omega
          · have hne : (E.toList == X.toList) = false := by
              rw [beq_eq_false_iff_ne, toList_data, toList_data]
              exact fun e => hEX (str_eq.1 e)
            go_wp2_with fail
            refine HPk.out.mono ?_
            rintro e w8 ⟨rfl, hb8⟩
            have HB8 : Hid (Below w3.heap.size w3 w8) := HB7.out.trans (hb8.mono HB7.out.size)
            have HC := refuse_g w8 rb p2 D b2 (HR3.out.below HB8.out)
            clear hb8
            go_wp2_with fail
            refine HC.mono ?_
            rintro e wX ⟨rfl, hRX, hFX⟩
            have HFX : Hid (Fm rb w3 wX) := (Fm.of_below HB8.out).trans hFX
            have HRX : Hid (Rg rb D p2 true wX) := hRX
            have HQX : Hid (true = false → q + 1 ≤ p2) := fun e => by cases e
            have HOX : Hid (true = false → Ok D n (q + 1) p2 (acc ++ (t0 :: r)) ((t0 :: r).drop r.length)) := fun e => by cases e
            clear hRX hFX HC
            have hF8 : Fm rb w2 wX := HF3.out.trans HFX.out
            have hs38 := HFX.out.size
            obtain ⟨hdB, oB, cB, vs, hdH, hdO⟩ := HDI.out.kept (w' := wX) (fun k h1 hk => hF8.block k hk (fun e => by cases e; omega))
            have hBl : w1.heap.size < wX.heap.size := (Array.getElem?_eq_some_iff.1 hdH).1
            have q1 : wX.cell? ⟨w1.heap.size, 1, none⟩ = some (.slice oB q cB) := by rw [Lib.cell_of_heap hdH]; rfl
            have HDO : Hid (wX.ownsRow w.heap.size 9 1 (.slice oB q cB) q vs) := hdO
            have HDH : Hid (wX.heap[w1.heap.size]? = some (.cells #[.int .i64 n, .slice oB q cB] 71 (0, 0))) := hdH
            have hoA := HDO.out.alloc (.cells #[.string X] 9)
            have hws8 : w.heap.size ≤ wX.heap.size := by omega
            obtain ⟨i0, hi0, hz0, hz1, hz2⟩ := info_parts infoStr
            have hBw2 : w1.heap.size < w2.heap.size := by
              obtain ⟨_, _, _, _, hH2, _⟩ := HDI.out
              exact (Array.getElem?_eq_some_iff.1 hH2).1
            have HRow2 : Hid (∀ y, (Value.slice oB q cB).ownBlock = some y → y < w2.heap.size) := fun y hy => by
              obtain ⟨_, o2, c2, vs2, hH2, hO2⟩ := HDI.out
              have hlt2 := (Array.getElem?_eq_some_iff.1 hH2).1
              have e1 : wX.heap[w1.heap.size]? = w2.heap[w1.heap.size]? := hF8.block _ hlt2 (fun e => by cases e; omega)
              rw [hdH, hH2] at e1
              cases e1
              exact (hO2.lt y hy).2
            have HT8 : Hid (Strs wX g3 0 (t0 :: r)) := fun k t hk => (World.cell?_of_block (a := ⟨g3, 0 + k, none⟩) (HFX.out.block g3 hg3l (fun e => by cases e; omega))).trans (HT3.out k t hk)
            have HF8 : Hid (Fm rb w2 wX) := hF8
            clear hdH hdO hF8
            go_wp2_with (first
              | (at_builtin; refine wpList_append_own _ (by rfl) _ _ _ (by rfl) w.heap.size 9 i0 _ 1 16 Tryd.underlying22 hi0 hz0 hz1 hz2 rfl (by decide) (.slice oB q cB) q vs (by rfl) hoA ⟨wX.heap.size, 0, none⟩ 1 1 [.string X] (by rfl) (by rfl) (one_new _ _ _) (by simp [Value.oneCell']) (by unfold maxLen; omega) (by omega) (by simp; omega) ?_; intro v9 w9 ho9 hg9 hi9; obtain ⟨o9, c9, hv9⟩ := row_form ho9; subst hv9; have hrow9 : ∀ y, (Value.slice oB q cB).ownBlock = some y → w.heap.size ≤ y ∧ y < wX.heap.size ∧ y ≠ w1.heap.size := (fun y hy => by
                  rcases HDO.out.2 with ⟨e1, _⟩ | ⟨g, cap, cur, e1, e2, e3, _⟩
                  · cases e1
                    cases hy
                  · cases e1
                    cases hy
                    refine ⟨e2, (Array.getElem?_eq_some_iff.1 e3).1, fun e => ?_⟩
                    have e' : g = w1.heap.size := e
                    rw [e', HDH.out] at e3
                    cases e3); have hB9 : w9.heap[w1.heap.size]? = some (.cells #[.int .i64 n, .slice oB q cB] 71 (0, 0)) := ((hg9.block w1.heap.size (by simp; omega) (fun e => (hrow9 _ e.symm).2.2 rfl)).trans (Below.heap_alloc _ _ _ hBl)).trans HDH.out; have q9 : w9.cell? ⟨w1.heap.size, 1, none⟩ = some (.slice oB q cB) := (by rw [Lib.cell_of_heap hB9]; rfl); have f9 : w9.frozen? ⟨w1.heap.size, 1, none⟩ = false := Lib.frozen_of_heap hB9 1))
            have s10 : (w9.setCell ⟨w1.heap.size, 1, none⟩ (.slice o9 (q + 1) c9)).heap[w1.heap.size]? = some (.cells #[.int .i64 n, .slice o9 (q + 1) c9] 71 (0, 0)) := by
              have s1 := setCell_eq_setRow w9 w1.heap.size 1 _ 71 (0, 0) (.slice o9 (q + 1) c9) hB9
              have h1 := setRow_heap w9 w1.heap.size _ (#[Value.int .i64 n, .slice oB q cB].setIfInBounds 1 (.slice o9 (q + 1) c9)) _ _ hB9
              rw [← s1] at h1
              exact h1
            have hoth : ∀ k, k < wX.heap.size → k ≠ w1.heap.size → (∀ y, (Value.slice oB q cB).ownBlock = some y → k ≠ y) → (w9.setCell ⟨w1.heap.size, 1, none⟩ (.slice o9 (q + 1) c9)).heap[k]? = wX.heap[k]? := fun k h1 h2 h3 =>
              (Below.heap_setCell w9 ⟨w1.heap.size, 1, none⟩ _ k h2).trans ((hg9.block k (by simp; omega) (fun e => h3 k e.symm rfl)).trans (Below.heap_alloc _ _ _ h1))
            have hlow : ∀ k, k < w.heap.size → (w9.setCell ⟨w1.heap.size, 1, none⟩ (.slice o9 (q + 1) c9)).heap[k]? = wX.heap[k]? := fun k h1 => hoth k (by omega) (by omega) (fun y hy e => by have := (hrow9 y hy).1; omega)
            have hsz10 : wX.heap.size ≤ (w9.setCell ⟨w1.heap.size, 1, none⟩ (.slice o9 (q + 1) c9)).heap.size := by
              have := hg9.size
              simp only [World.size_setCell]
              simp at this
              omega
            go_roundw
            case rel =>
              have hF8 := HF8.out
              have hFw := HF.out
              refine ⟨q + 1, p2, true, acc ++ (t0 :: r), (t0 :: r).drop r.length, some ⟨g3, r.length, none⟩, c3 - r.length, ?_, by omega, ?_, by simp, (fun t ht => HTS.out t (List.mem_of_mem_drop ht)), ?_, ?_, (hlow rb hrl).trans HRX.out, hp2D, by omega, HQX.out, ⟨hdB, o9, c9, vs ++ [.string X], s10, ?_⟩, ?_, HOX.out⟩
              · congr 1
                omega
              · simp
              · refine .inr ⟨g3, r.length, c3 - r.length, by simp, by omega, by simp; omega, by unfold maxLen at hg3m ⊢; omega, fun k t hk => ?_⟩
                rw [List.getElem?_drop] at hk
                have h1 := HT8.out (r.length + k) t hk
                rw [Nat.zero_add] at h1
                refine Eq.trans (World.cell?_of_block (a := ⟨g3, r.length + k, none⟩) ?_) h1
                exact hoth g3 (by omega) (by have := HB3.out.1; omega) (fun y hy e => by have := HRow2.out y hy; have := HB3.out.1; omega)
              · intro g off h _
                cases h
                have := HB3.out.1
                omega
              · refine ⟨ho9.1, ?_⟩
                rcases ho9.2 with h1 | ⟨g, cap, cur, h1, h2, h3, h4⟩
                · exact .inl h1
                · refine .inr ⟨g, cap, cur, h1, h2, ?_, h4⟩
                  rw [Below.heap_setCell w9 ⟨w1.heap.size, 1, none⟩ _ g (fun e => by
                    have e' : g = w1.heap.size := e
                    rw [e', hB9] at h3
                    cases h3)]
                  exact h3
              · refine ⟨?_, ?_, ?_, by omega, fun x h1 h2 => (hlow x h1).trans ((hF8.block x (by omega) h2).trans (hFw.block x h1 h2))⟩
                · exact (hg9.os.trans hF8.os).trans hFw.os
                · exact (hg9.tape.trans hF8.tape).trans hFw.tape
                · exact (hg9.output.trans hF8.output).trans hFw.output
            case measure => simp [intOf]; omega
        · rw [hck] at HCk
          clear hck
          go_wp2_with fail
          refine HCk.out.mono ?_
          rintro e w7 ⟨rfl, hb7⟩
          have HB7 : Hid (Below w3.heap.size w3 w7) := HB6.out.trans (hb7.mono HB6.out.size)
          have HC := refuse_g w7 rb p2 D b2 (HR3.out.below HB7.out)
          clear hb7
          go_wp2_with fail
          refine HC.mono ?_
          rintro e wX ⟨rfl, hRX, hFX⟩
          have HFX : Hid (Fm rb w3 wX) := (Fm.of_below HB7.out).trans hFX
          have HRX : Hid (Rg rb D p2 true wX) := hRX
          have HQX : Hid (true = false → q + 1 ≤ p2) := fun e => by cases e
          have HOX : Hid (true = false → Ok D n (q + 1) p2 (acc ++ (t0 :: r)) ((t0 :: r).drop r.length)) := fun e => by cases e
          clear hRX hFX HC
          have hF8 : Fm rb w2 wX := HF3.out.trans HFX.out
          have hs38 := HFX.out.size
          obtain ⟨hdB, oB, cB, vs, hdH, hdO⟩ := HDI.out.kept (w' := wX) (fun k h1 hk => hF8.block k hk (fun e => by cases e; omega))
          have hBl : w1.heap.size < wX.heap.size := (Array.getElem?_eq_some_iff.1 hdH).1
          have q1 : wX.cell? ⟨w1.heap.size, 1, none⟩ = some (.slice oB q cB) := by rw [Lib.cell_of_heap hdH]; rfl
          have HDO : Hid (wX.ownsRow w.heap.size 9 1 (.slice oB q cB) q vs) := hdO
          have HDH : Hid (wX.heap[w1.heap.size]? = some (.cells #[.int .i64 n, .slice oB q cB] 71 (0, 0))) := hdH
          have hoA := HDO.out.alloc (.cells #[.string X] 9)
          have hws8 : w.heap.size ≤ wX.heap.size := by omega
          obtain ⟨i0, hi0, hz0, hz1, hz2⟩ := info_parts infoStr
          have hBw2 : w1.heap.size < w2.heap.size := by
            obtain ⟨_, _, _, _, hH2, _⟩ := HDI.out
            exact (Array.getElem?_eq_some_iff.1 hH2).1
          have HRow2 : Hid (∀ y, (Value.slice oB q cB).ownBlock = some y → y < w2.heap.size) := fun y hy => by
            obtain ⟨_, o2, c2, vs2, hH2, hO2⟩ := HDI.out
            have hlt2 := (Array.getElem?_eq_some_iff.1 hH2).1
            have e1 : wX.heap[w1.heap.size]? = w2.heap[w1.heap.size]? := hF8.block _ hlt2 (fun e => by cases e; omega)
            rw [hdH, hH2] at e1
            cases e1
            exact (hO2.lt y hy).2
          have HT8 : Hid (Strs wX g3 0 (t0 :: r)) := fun k t hk => (World.cell?_of_block (a := ⟨g3, 0 + k, none⟩) (HFX.out.block g3 hg3l (fun e => by cases e; omega))).trans (HT3.out k t hk)
          have HF8 : Hid (Fm rb w2 wX) := hF8
          clear hdH hdO hF8
          go_wp2_with (first
            | (at_builtin; refine wpList_append_own _ (by rfl) _ _ _ (by rfl) w.heap.size 9 i0 _ 1 16 Tryd.underlying22 hi0 hz0 hz1 hz2 rfl (by decide) (.slice oB q cB) q vs (by rfl) hoA ⟨wX.heap.size, 0, none⟩ 1 1 [.string X] (by rfl) (by rfl) (one_new _ _ _) (by simp [Value.oneCell']) (by unfold maxLen; omega) (by omega) (by simp; omega) ?_; intro v9 w9 ho9 hg9 hi9; obtain ⟨o9, c9, hv9⟩ := row_form ho9; subst hv9; have hrow9 : ∀ y, (Value.slice oB q cB).ownBlock = some y → w.heap.size ≤ y ∧ y < wX.heap.size ∧ y ≠ w1.heap.size := (fun y hy => by
                rcases HDO.out.2 with ⟨e1, _⟩ | ⟨g, cap, cur, e1, e2, e3, _⟩
                · cases e1
                  cases hy
                · cases e1
                  cases hy
                  refine ⟨e2, (Array.getElem?_eq_some_iff.1 e3).1, fun e => ?_⟩
                  have e' : g = w1.heap.size := e
                  rw [e', HDH.out] at e3
                  cases e3); have hB9 : w9.heap[w1.heap.size]? = some (.cells #[.int .i64 n, .slice oB q cB] 71 (0, 0)) := ((hg9.block w1.heap.size (by simp; omega) (fun e => (hrow9 _ e.symm).2.2 rfl)).trans (Below.heap_alloc _ _ _ hBl)).trans HDH.out; have q9 : w9.cell? ⟨w1.heap.size, 1, none⟩ = some (.slice oB q cB) := (by rw [Lib.cell_of_heap hB9]; rfl); have f9 : w9.frozen? ⟨w1.heap.size, 1, none⟩ = false := Lib.frozen_of_heap hB9 1))
          have s10 : (w9.setCell ⟨w1.heap.size, 1, none⟩ (.slice o9 (q + 1) c9)).heap[w1.heap.size]? = some (.cells #[.int .i64 n, .slice o9 (q + 1) c9] 71 (0, 0)) := by
            have s1 := setCell_eq_setRow w9 w1.heap.size 1 _ 71 (0, 0) (.slice o9 (q + 1) c9) hB9
            have h1 := setRow_heap w9 w1.heap.size _ (#[Value.int .i64 n, .slice oB q cB].setIfInBounds 1 (.slice o9 (q + 1) c9)) _ _ hB9
            rw [← s1] at h1
            exact h1
          have hoth : ∀ k, k < wX.heap.size → k ≠ w1.heap.size → (∀ y, (Value.slice oB q cB).ownBlock = some y → k ≠ y) → (w9.setCell ⟨w1.heap.size, 1, none⟩ (.slice o9 (q + 1) c9)).heap[k]? = wX.heap[k]? := fun k h1 h2 h3 =>
            (Below.heap_setCell w9 ⟨w1.heap.size, 1, none⟩ _ k h2).trans ((hg9.block k (by simp; omega) (fun e => h3 k e.symm rfl)).trans (Below.heap_alloc _ _ _ h1))
          have hlow : ∀ k, k < w.heap.size → (w9.setCell ⟨w1.heap.size, 1, none⟩ (.slice o9 (q + 1) c9)).heap[k]? = wX.heap[k]? := fun k h1 => hoth k (by omega) (by omega) (fun y hy e => by have := (hrow9 y hy).1; omega)
          have hsz10 : wX.heap.size ≤ (w9.setCell ⟨w1.heap.size, 1, none⟩ (.slice o9 (q + 1) c9)).heap.size := by
            have := hg9.size
            simp only [World.size_setCell]
            simp at this
            omega
          go_roundw
          case rel =>
            have hF8 := HF8.out
            have hFw := HF.out
            refine ⟨q + 1, p2, true, acc ++ (t0 :: r), (t0 :: r).drop r.length, some ⟨g3, r.length, none⟩, c3 - r.length, ?_, by omega, ?_, by simp, (fun t ht => HTS.out t (List.mem_of_mem_drop ht)), ?_, ?_, (hlow rb hrl).trans HRX.out, hp2D, by omega, HQX.out, ⟨hdB, o9, c9, vs ++ [.string X], s10, ?_⟩, ?_, HOX.out⟩
            · congr 1
              omega
            · simp
            · refine .inr ⟨g3, r.length, c3 - r.length, by simp, by omega, by simp; omega, by unfold maxLen at hg3m ⊢; omega, fun k t hk => ?_⟩
              rw [List.getElem?_drop] at hk
              have h1 := HT8.out (r.length + k) t hk
              rw [Nat.zero_add] at h1
              refine Eq.trans (World.cell?_of_block (a := ⟨g3, r.length + k, none⟩) ?_) h1
              exact hoth g3 (by omega) (by have := HB3.out.1; omega) (fun y hy e => by have := HRow2.out y hy; have := HB3.out.1; omega)
            · intro g off h _
              cases h
              have := HB3.out.1
              omega
            · refine ⟨ho9.1, ?_⟩
              rcases ho9.2 with h1 | ⟨g, cap, cur, h1, h2, h3, h4⟩
              · exact .inl h1
              · refine .inr ⟨g, cap, cur, h1, h2, ?_, h4⟩
                rw [Below.heap_setCell w9 ⟨w1.heap.size, 1, none⟩ _ g (fun e => by
                  have e' : g = w1.heap.size := e
                  rw [e', hB9] at h3
                  cases h3)]
                exact h3
            · refine ⟨?_, ?_, ?_, by omega, fun x h1 h2 => (hlow x h1).trans ((hF8.block x (by omega) h2).trans (hFw.block x h1 h2))⟩
              · exact (hg9.os.trans hF8.os).trans hFw.os
              · exact (hg9.tape.trans hF8.tape).trans hFw.tape
              · exact (hg9.output.trans hF8.output).trans hFw.output
          case measure => simp [intOf]; omega
    · have hneg : ¬ ((0 : Int) < (n : Int) - 4 * q) := by omega
      go_wp2_with fail
      refine HEn.out.mono ?_
      rintro e w3 ⟨b3, rfl, hR3, hF3, hb3⟩
      have HE : Hid (RdP rb D w (.returned (.pointer (some ⟨w1.heap.size, 0, none⟩))) w3) := ⟨_, p, b3, rfl, hR3, HF.out.trans hF3, fun e => by
        obtain ⟨e1, e2⟩ := hb3 e
        have h1 := HOK.out e1
        rw [e2] at h1
        exact ⟨acc, h1.done (by omega) hD⟩⟩
      clear hR3 hF3 hb3
      go_wp2_with fail
      go_ret
      exact HE.out

end Go.Proofs.YtnffjoipinhojabDoor
