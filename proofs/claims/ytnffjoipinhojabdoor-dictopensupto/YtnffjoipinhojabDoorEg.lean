import Derived.Test.YtnffjoipinhojabDoorEf
set_option linter.unusedSimpArgs false
set_option linter.unusedVariables false
namespace Go.Proofs.YtnffjoipinhojabDoor
open Go.RowKit

theorem Rise2.mk : ∀ {l : List (List UInt8)}, (∀ k a b, l[k]? = some a → l[k + 1]? = some b → Op.bytesLess a b = true) → Rise2 l
  | [], _ => trivial
  | [x], _ => trivial
  | x :: y :: r, h => ⟨h 0 x y rfl rfl, Rise2.mk (l := y :: r) fun k a b ha hb => h (k + 1) a b (by simpa using ha) (by simpa using hb)⟩
theorem Rise2.sub {l : List (List UInt8)} (h : Rise2 l) (p m : Nat) : Rise2 ((l.drop p).take m) := Rise2.mk fun k a b ha hb => by
  have h1 := (List.getElem?_eq_some_iff.1 hb).1
  simp at h1
  rw [List.getElem?_take_of_lt (by omega), List.getElem?_drop] at ha hb
  exact h.at ha (by rw [Nat.add_assoc]; exact hb)
theorem order_rise : ∀ {l : List (List UInt8)} {q : Nat}, Rise2 l → orderAt q l = none
  | [], _, _ => rfl
  | [x], _, _ => rfl
  | x :: y :: r, q, h => by
    unfold orderAt
    rw [if_pos h.1]
    exact order_rise h.2
theorem long_short : ∀ {l : List (List UInt8)} {q : Nat}, (∀ t ∈ l, t.length ≤ 200) → longAt q l = none
  | [], _, _ => rfl
  | x :: r, q, h => by
    unfold longAt
    rw [if_neg (by have := h x (List.mem_cons_self ..); omega)]
    exact long_short fun t ht => h t (List.mem_cons_of_mem _ ht)
theorem refuse_good {l : List (List UInt8)} (h : Rise2 l) (hs : ∀ t ∈ l, t.length ≤ 200) : refuse l = none := refuse_none (order_rise h) (long_short hs)

/-- the text ahead of block j -/
def lastL (l : List (List UInt8)) (j : Nat) : List (List UInt8) := if j = 0 then [] else (l.drop (4 * j - 1)).take 1
/-- block j -/
def blockL (l : List (List UInt8)) (j : Nat) : List (List UInt8) := (l.drop (4 * j)).take 4
theorem last_block (l : List (List UInt8)) (j : Nat) : lastL l j ++ blockL l j = if j = 0 then l.take 4 else (l.drop (4 * j - 1)).take 5 := by
  unfold lastL blockL
  split
  · rename_i h; subst h; simp
  · rename_i h
    have e : l.drop (4 * j) = (l.drop (4 * j - 1)).drop 1 := by rw [List.drop_drop]; congr 1; omega
    rw [e]
    generalize l.drop (4 * j - 1) = m
    cases m with
    | nil => simp
    | cons a r => simp
theorem refuse_block {l : List (List UInt8)} (h : Rise2 l) (hs : ∀ t ∈ l, t.length ≤ 200) (j : Nat) : refuse (lastL l j ++ blockL l j) = none := by
  rw [last_block]
  split
  · have := h.sub 0 4
    rw [List.drop_zero] at this
    exact refuse_good this fun t ht => hs t (List.mem_of_mem_take ht)
  · exact refuse_good (h.sub _ 5) fun t ht => hs t (List.mem_of_mem_drop (List.mem_of_mem_take ht))

/-- the first j blocks, packed -/
def packedL (l : List (List UInt8)) (j : Nat) : List (List UInt8) := (List.range j).map fun q => blockE (blockL l q)
theorem packedL_succ (l : List (List UInt8)) (j : Nat) : packedL l (j + 1) = packedL l j ++ [blockE (blockL l j)] := by simp [packedL, List.range_succ]
theorem packedL_len (l : List (List UInt8)) (j : Nat) : (packedL l j).length = j := by simp [packedL]

/-- a Dict in block b, of the call's own from base on -/
def DictR (base b : Nat) (l : List (List UInt8)) (j : Nat) (w : World) : Prop :=
  base ≤ b ∧ ∃ o c, w.heap[b]? = some (.cells #[.int .i64 l.length, .slice o j c] 71 (0, 0)) ∧ OwnT w base (.slice o (packedL l j).length c) (packedL l j)

theorem DictR.kept {base b : Nat} {l : List (List UInt8)} {j : Nat} {w w' : World} (h : DictR base b l j w) (hk : ∀ k, base ≤ k → k < w.heap.size → w'.heap[k]? = w.heap[k]?) : DictR base b l j w' := by
  obtain ⟨h1, o, c, h2, h3⟩ := h
  exact ⟨h1, o, c, (hk b h1 (Array.getElem?_eq_some_iff.1 h2).1).trans h2, row_kept h3 hk⟩

theorem ext_of_drop {D : ByteArray} {p : Nat} {x y : List UInt8} (h : D.data.toList.drop p = x ++ y) : D.extract p (p + x.length) = ⟨x.toArray⟩ := by
  have e : (D.extract p (p + x.length)).data.toList = x := by
    rw [ByteArray.data_extract, Array.toList_extract]
    simp only [List.extract]
    rw [h, show p + x.length - p = x.length by omega, List.take_left]
  generalize D.extract p (p + x.length) = Z at e
  obtain ⟨⟨z⟩⟩ := Z
  rw [← e]
theorem blockL_cons {l : List (List UInt8)} {j : Nat} (h : 4 * j < l.length) : ∃ t0 r, blockL l j = t0 :: r ∧ r.length + 1 = min 4 (l.length - 4 * j) := by
  cases e : blockL l j with
  | nil =>
    have := congrArg List.length e
    simp [blockL] at this
    omega
  | cons t0 r =>
    have := congrArg List.length e
    simp [blockL] at this
    exact ⟨t0, r, rfl, by omega⟩
theorem lastL_succ {l : List (List UInt8)} {j : Nat} {t0 : List UInt8} {r : List (List UInt8)} (h : blockL l j = t0 :: r) (h4 : 4 * (j + 1) ≤ l.length) : lastL l (j + 1) = (t0 :: r).drop r.length := by
  unfold lastL
  rw [if_neg (by omega), show 4 * (j + 1) - 1 = 4 * j + 3 by omega, ← h]
  have hl : r.length = 3 := by
    have := congrArg List.length h
    simp [blockL] at this
    omega
  rw [hl]
  unfold blockL
  rw [← List.drop_drop]
  generalize l.drop (4 * j) = m
  rw [List.drop_take]

set_option maxHeartbeats 8000000 in
set_option maxRecDepth 20000 in
theorem readDict_any (w : World) (rb : Nat) (D : ByteArray) (l : List (List UInt8)) (hR : Rs rb D 0 w) (hd : D.data.toList = Lib.uvarint l.length ++ dictE l) (hD : D.size ≤ 140737488355328) (hris : Rise2 l) (hs : ∀ t ∈ l, t.length ≤ 200) (hn : l.length ≤ 1048576) :
    Calls Tryd.prog 27 #[.pointer (some ⟨rb, 0, none⟩)] w fun e w' => ∃ b, e = .returned (.pointer (some ⟨b, 0, none⟩)) ∧ DictR w.heap.size b l ((l.length + 3) / 4) w' ∧ Rs rb D D.size w' ∧ Fm rb w w' := by
  have hrl := hR.lt
  have hlenD : D.data.toList.length = D.size := Array.length_toList
  have HN : Hid (Calls Tryd.prog 45 #[.pointer (some ⟨rb, 0, none⟩)] w fun e w' => e = .returned (.int .i64 l.length) ∧ Rs rb D (0 + (Lib.uvarint l.length).length) w' ∧ Fm rb w w') := number_rd w rb 0 l.length D (dictE l) hR (by rw [List.drop_zero]; exact hd) (by omega) (Nat.zero_le _) hD
  have HD : Hid (D.data.toList.drop (0 + (Lib.uvarint l.length).length) = dictE l) := by
    unfold Hid
    rw [hd, Nat.zero_add, List.drop_left]
  have HUD : Hid (0 + (Lib.uvarint l.length).length ≤ D.size) := by
    unfold Hid
    rw [← hlenD, hd, List.length_append]
    omega
  have HRi : Hid (Rise2 l) := hris
  have HS : Hid (∀ t ∈ l, t.length ≤ 200) := hs
  clear hR hd hris hs
  go_enter Tryd.func27, Tryd.ntmps27
  go_wp2_with fail
  refine HN.out.mono ?_
  rintro e w1 ⟨rfl, hR1, hF1⟩
  have HR1 : Hid (Rs rb D (0 + (Lib.uvarint l.length).length) w1) := hR1
  have HF1 : Hid (Fm rb w w1) := hF1
  clear hR1 hF1 HN
  go_wp2_with fail
  go_loopw [4, 5] (fun t4 t5 wr => ∃ (j p : Nat) (ol : Option Addr) (ml : List (List UInt8)) (cl : Nat), t5 = .int .i64 ((l.length : Int) - 4 * j) ∧ 4 * j < l.length + 4 ∧ t4 = .slice ol ml.length cl ∧ (4 * j < l.length → ml = lastL l j) ∧ ml.length ≤ 4 ∧ Texts wr (.slice ol ml.length cl) ml ∧ (∀ g off, ol = some ⟨g, off, none⟩ → ml ≠ [] → w.heap.size ≤ g) ∧ Rs rb D p wr ∧ p ≤ D.size ∧ D.data.toList.drop p = dictE (l.drop (4 * j)) ∧ DictR w.heap.size w1.heap.size l j wr ∧ Fm rb w wr) (fun t4 t5 wr => (intOf t5 + 4).toNat)
  case atStart =>
    have hb : Below w1.heap.size w1 (w1.alloc (.cells #[.int .i64 l.length, .slice none 0 0] 71)) := (Below.refl _ w1).alloc (Nat.le_refl _) _
    have hlen : 0 + (Lib.uvarint l.length).length ≤ D.size := HUD.out
    refine ⟨0, _, none, [], 0, by simp, by omega, rfl, fun _ => by simp [lastL], by simp, .inl ⟨none, 0, rfl, by unfold maxLen; omega, rfl⟩, (fun g off h => by cases h), HR1.out.below hb, hlen, by rw [HD.out]; simp, ?_, HF1.out.trans (Fm.of_below hb)⟩
    exact ⟨HF1.out.size, none, 0, World.alloc_heap_new w1 _, World.ownsRow_nil _ _ _ _⟩
  case round =>
    obtain ⟨j, p, ol, ml, cl, rfl, h4j, rfl, hml, hml4, hlast, hlastb, hRs, hpD, hdp, hdict, hF⟩ := hrel
    have HL : Hid (Texts wr (.slice ol ml.length cl) ml) := hlast
    have HRS : Hid (Rs rb D p wr) := hRs
    have HDP : Hid (D.data.toList.drop p = dictE (l.drop (4 * j))) := hdp
    have HDI : Hid (DictR w.heap.size w1.heap.size l j wr) := hdict
    have HF : Hid (Fm rb w wr) := hF
    clear hlast hRs hdp hdict hF HR1 HF1 HD
    by_cases hlt : 4 * j < l.length
    · obtain ⟨t0, r, hblk, hrl2⟩ := blockL_cons hlt
      have hml2 := hml hlt
      subst hml2
      have hsB : ∀ t ∈ t0 :: r, t.length ≤ 200 := fun t ht => HS.out t (by rw [← hblk] at ht; exact List.mem_of_mem_drop (List.mem_of_mem_take ht))
      have hd1 : D.data.toList.drop p = blockE (t0 :: r) ++ dictE (l.drop (4 * j + 4)) := by
        rw [HDP.out, dict_block hlt, ← hblk]
        rfl
      have HRef : Hid (refuse (lastL l j ++ (t0 :: r)) = none) := by
        unfold Hid
        rw [← hblk]
        exact refuse_block HRi.out HS.out j
      have hlenb : p + (blockE (t0 :: r)).length ≤ D.size := by
        have := congrArg List.length hd1
        simp only [List.length_drop, List.length_append, hlenD] at this
        omega
      obtain ⟨p2, hp2⟩ : ∃ p2, p2 = p + (blockE (t0 :: r)).length := ⟨_, rfl⟩
      have HP2D : Hid (p2 ≤ D.size) := by unfold Hid; omega
      have HD2 : Hid (D.data.toList.drop p2 = dictE (l.drop (4 * j + 4))) := by
        unfold Hid
        rw [hp2, ← List.drop_drop, hd1, List.drop_left]
      have HRB : Hid (∀ w2, Rs rb D p w2 → Calls Tryd.prog 47 #[.pointer (some ⟨rb, 0, none⟩), .int .i64 ((l.length : Int) - 4 * j)] w2 fun e w' => ∃ u, e = .returned u ∧ OwnT w' w2.heap.size u (t0 :: r) ∧ Rs rb D p2 w' ∧ Fm rb w2 w') := fun w2 h2 => by
        have := readBlock_any w2 rb p (l.length - 4 * j) D t0 r _ h2 hd1 hpD hD (by omega) (by rw [← hblk]; exact HRi.out.sub _ _) hsB (by omega)
        rw [← hp2, show ((l.length - 4 * j : Nat) : Int) = (l.length : Int) - 4 * j by omega] at this
        exact this
      have HSi : Hid (∀ w2, Rs rb D p2 w2 → Calls Tryd.prog 48 #[.pointer (some ⟨rb, 0, none⟩), .int .i64 p] w2 fun e w' => e = .returned (strT (blockE (t0 :: r))) ∧ ∃ n, w' = w2.drewN n) := fun w2 h2 => by
        have := since_rd w2 rb p2 p D h2 (by omega) (by omega) hD
        rw [hp2, ext_of_drop hd1] at this
        exact this
      have hpos : (0 : Int) < (l.length : Int) - 4 * j := by omega
      have HEr : Hid (∀ w2, Rs rb D p w2 → Calls Tryd.prog 28 #[.pointer (some ⟨rb, 0, none⟩)] w2 fun e w' => e = .returned .nilIface ∧ w' = w2) := fun w2 h2 => err_rd w2 rb p D h2
      have HPl : Hid (∀ w2, Rs rb D p w2 → Calls Tryd.prog 46 #[.pointer (some ⟨rb, 0, none⟩)] w2 fun e w' => e = .returned (.int .i64 p) ∧ w' = w2) := fun w2 h2 => place_rd w2 rb p D h2
      have HBK : Hid (blockL l j = t0 :: r) := hblk
      have hr3 : r.length ≤ 3 := by omega
      have HRL2 : Hid (r.length + 1 = min 4 (l.length - 4 * j)) := hrl2
      clear hd1 hlenb hp2 hml hblk hsB hrl2
      go_wp2_with (first | (go_at_call 28; refine (HEr.out _ HRS.out).mono ?_; rintro e w2 ⟨rfl, rfl⟩))
      refine (HPl.out _ HRS.out).mono ?_
      rintro e w2 ⟨rfl, rfl⟩
      go_wp2_with fail
      refine (HRB.out _ HRS.out).mono ?_
      rintro e w3 ⟨u, rfl, hou, hR3, hF3⟩
      obtain ⟨g3, c3, cur3, hu3, hg3b, hg3h, hg3c, hg3m, hg3s, hg3t⟩ : ∃ g cap cur, u = .slice (some ⟨g, 0, none⟩) (t0 :: r).length cap ∧ w2.heap.size ≤ g ∧ w3.heap[g]? = some (.cells cur 9 (0, 0)) ∧ (t0 :: r).length ≤ cap ∧ cap ≤ maxLen ∧ cur.size = cap * 1 ∧ cur.toList.take ((t0 :: r).length * 1) = (t0 :: r).map strT := by
        rcases hou.2 with ⟨_, h1⟩ | h
        · simp at h1
        · exact h
      subst hu3
      have hst3 : Strs w3 g3 0 (t0 :: r) := fun k t hk => by
        have hc := hou.cells (g := g3) rfl k (strT t) (by rw [List.getElem?_map, hk]; rfl)
        have e : (⟨g3, 0, none⟩ : Addr).add k = ⟨g3, 0 + k, none⟩ := by unfold Addr.add; split <;> simp_all
        rw [e] at hc
        exact hc
      have hg3l : g3 < w3.heap.size := (Array.getElem?_eq_some_iff.1 hg3h).1
      have HT3 : Hid (Strs w3 g3 0 (t0 :: r)) := hst3
      have HR3 : Hid (Rs rb D p2 w3) := hR3
      have HF3 : Hid (Fm rb w2 w3) := hF3
      have HL3 : Hid (Texts w3 (.slice ol (lastL l j).length cl) (lastL l j)) := HL.out.fm hF3 (fun g off cap h1 h2 => by
        cases h1
        have := hlastb g off rfl h2
        omega)
      have hkeep3 : ∀ k, w.heap.size ≤ k → k < w2.heap.size → w3.heap[k]? = w2.heap[k]? := fun k h1 h2 => hF3.block k h2 (fun e => by cases e; omega)
      have HDI3 : Hid (DictR w.heap.size w1.heap.size l j w3) := HDI.out.kept hkeep3
      have hw23 : w2.heap.size ≤ w3.heap.size := hF3.size
      have hww2 : w.heap.size ≤ w2.heap.size := HF.out.size
      have HB3 : Hid (w2.heap.size ≤ g3 ∧ w3.heap[g3]? = some (.cells cur3 9 (0, 0))) := ⟨hg3b, hg3h⟩
      clear hou hst3 hR3 hF3 hg3h hg3s hg3t hkeep3 HEr HPl HRB
      simp only [List.length_cons] at hg3c ⊢
      go_wp2_with fail
      refine (HSi.out w3 HR3.out).mono ?_
      rintro e w4 ⟨rfl, n4, rfl⟩
      have HB4 : Hid (Below w3.heap.size w3 ((w3.drewN n4).alloc (.cells #[.slice ol (lastL l j).length cl, .slice (some ⟨g3, 0, none⟩) (r.length + 1) c3] 22))) := (below_drewN (Below.refl _ w3) n4).alloc (Nat.le_refl _) _
      have HCo : Hid (Calls Tryd.prog 49 #[.slice (some ⟨w3.heap.size, 0, none⟩) 2 2] ((w3.drewN n4).alloc (.cells #[.slice ol (lastL l j).length cl, .slice (some ⟨g3, 0, none⟩) (r.length + 1) c3] 22)) fun e w' => ∃ u, e = .returned u ∧ OwnT w' ((w3.drewN n4).alloc (.cells #[.slice ol (lastL l j).length cl, .slice (some ⟨g3, 0, none⟩) (r.length + 1) c3] 22)).heap.size u (lastL l j ++ (t0 :: r)) ∧ Below ((w3.drewN n4).alloc (.cells #[.slice ol (lastL l j).length cl, .slice (some ⟨g3, 0, none⟩) (r.length + 1) c3] 22)).heap.size ((w3.drewN n4).alloc (.cells #[.slice ol (lastL l j).length cl, .slice (some ⟨g3, 0, none⟩) (r.length + 1) c3] 22)) w') := by
        refine concat_any _ w3.heap.size _ _ (lastL l j) (t0 :: r) ?_ ?_ (HL3.out.below HB4.out) ((show Texts w3 (.slice (some ⟨g3, 0, none⟩) (r.length + 1) c3) (t0 :: r) from .inr ⟨g3, 0, c3, rfl, hg3l, by simpa using hg3c, hg3m, HT3.out⟩).below HB4.out) (by omega) (by simp; omega) (by simp)
        · exact cell_new (w := w3.drewN n4)
        · exact cell_new (w := w3.drewN n4)
      obtain ⟨W5, hW5⟩ : ∃ W5, (w3.drewN n4).alloc (.cells #[.slice ol (lastL l j).length cl, .slice (some ⟨g3, 0, none⟩) (r.length + 1) c3] 22) = W5 := ⟨_, rfl⟩
      rw [hW5] at HB4 HCo
      go_wp2_with fail
      refine HCo.out.mono ?_
      rintro e w6 ⟨u6, rfl, ho6, hb6⟩
      have HB6 : Hid (Below w3.heap.size w3 w6) := HB4.out.trans (hb6.mono HB4.out.size)
      have HCk : Hid (Calls Tryd.prog 15 #[u6] w6 fun e w' => e = .returned .nilIface ∧ Below w6.heap.size w6 w') := by
        have := check_all w6 u6 (lastL l j ++ (t0 :: r)) (own_texts ho6) (by simp only [List.length_append, List.length_cons]; omega) (fun t ht => by
          have := long_none (q := 0) (l := lastL l j ++ (t0 :: r)) (by
            have h := HRef.out
            unfold refuse at h
            split at h
            · cases h
            · split at h
              · cases h
              · rename_i h2; exact h2) t ht
          omega)
        have e2 : ckV (lastL l j ++ (t0 :: r)) = .nilIface := by unfold ckV; rw [HRef.out]
        rw [e2] at this
        exact this
      obtain ⟨o6, c6, hu6⟩ := row_form ho6
      obtain ⟨N6, hN6⟩ : ∃ N, (lastL l j ++ (t0 :: r)).length = N := ⟨_, rfl⟩
      rw [hN6] at hu6
      subst hu6
      clear ho6 hb6 HCo HB4 hN6
      go_wp2_with fail
      refine HCk.out.mono ?_
      rintro e w7 ⟨rfl, hb7⟩
      have HB7 : Hid (Below w3.heap.size w3 w7) := HB6.out.trans (hb7.mono HB6.out.size)
      have HPk : Hid (Calls Tryd.prog 21 #[.slice (some ⟨g3, 0, none⟩) (r.length + 1) c3] w7 fun e w' => e = .returned (strT (blockE (t0 :: r))) ∧ Below w7.heap.size w7 w') :=
        pack_any w7 g3 0 c3 (t0 :: r) (by simp) (by simp; omega) (by simpa using hg3c) hg3m (fun t ht => HS.out t (by rw [← HBK.out] at ht; exact List.mem_of_mem_drop (List.mem_of_mem_take ht))) (Nat.lt_of_lt_of_le hg3l HB7.out.size) (HT3.out.below hg3l HB7.out)
      clear hb7
      go_wp2_with fail
      refine HPk.out.mono ?_
      rintro e w8 ⟨rfl, hb8⟩
      have hb38 : Below w3.heap.size w3 w8 := HB7.out.trans (hb8.mono HB7.out.size)
      have HB8 : Hid (Below w3.heap.size w3 w8) := hb38
      obtain ⟨hdB, oB, cB, hdH, hdO⟩ := HDI3.out.kept (w' := w8) (fun k _ hk => hb38.block k hk)
      have hBl : w1.heap.size < w8.heap.size := (Array.getElem?_eq_some_iff.1 hdH).1
      have q1 : w8.cell? ⟨w1.heap.size, 1, none⟩ = some (.slice oB j cB) := by rw [Lib.cell_of_heap hdH]; rfl
      have hpl : (packedL l j).length = j := packedL_len l j
      have hj : j ≤ 1048576 := by omega
      rw [hpl] at hdO
      have HDO : Hid (w8.ownsRow w.heap.size 9 1 (.slice oB j cB) j ((packedL l j).map strT)) := by
        have := hdO
        unfold OwnT at this
        rw [hpl] at this
        exact this
      have HDH : Hid (w8.heap[w1.heap.size]? = some (.cells #[.int .i64 l.length, .slice oB j cB] 71 (0, 0))) := hdH
      have hoA := HDO.out.alloc (.cells #[strT (blockE (t0 :: r))] 9)
      have hws8 : w.heap.size ≤ w8.heap.size := by have := hb38.size; omega
      obtain ⟨i0, hi0, hz0, hz1, hz2⟩ := info_parts infoStr
      have hwl : IntKind.i64.wrap ((r.length : Int) + 1 - 1) = (r.length : Int) := by rw [IntKind.wrap_i64]; omega
      have hww : IntKind.i64.wrap ((l.length : Int) - 4 * j - 4) = (l.length : Int) - 4 * j - 4 := by rw [IntKind.wrap_i64]; omega
      have hl0 : (0 : Int) ≤ (r.length : Int) := by omega
      have hl1 : (r.length : Int) ≤ (r.length : Int) + 1 := by omega
      have hl2 : ¬ c3 = r.length := by omega
      have hBw2 : w1.heap.size < w2.heap.size := by
        obtain ⟨_, _, _, hH2, _⟩ := HDI.out
        exact (Array.getElem?_eq_some_iff.1 hH2).1
      have HRow2 : Hid (∀ y, (Value.slice oB j cB).ownBlock = some y → y < w2.heap.size) := fun y hy => by
        obtain ⟨_, o2, c2, hH2, hO2⟩ := HDI.out
        have hlt2 := (Array.getElem?_eq_some_iff.1 hH2).1
        have e1 : w8.heap[w1.heap.size]? = w2.heap[w1.heap.size]? := (hb38.block _ (by omega)).trans (HF3.out.block _ hlt2 (fun e => by cases e; omega))
        rw [hdH, hH2] at e1
        cases e1
        rw [packedL_len] at hO2
        exact (hO2.lt y hy).2
      clear hb8 hb38 hdH hdO HPk HSi hpl HL HL3 HDI3 HCk
      go_wp2_with (first
        | (at_builtin; refine wpList_append_own _ (by rfl) _ _ _ (by rfl) w.heap.size 9 i0 _ 1 16 Tryd.underlying22 hi0 hz0 hz1 hz2 rfl (by decide) (.slice oB j cB) j ((packedL l j).map strT) (by rfl) hoA ⟨w8.heap.size, 0, none⟩ 1 1 [strT (blockE (t0 :: r))] (by rfl) (by rfl) (one_new _ _ _) (by simp [Value.oneCell']) (by unfold maxLen; omega) (by omega) (by simp; omega) ?_; intro v9 w9 ho9 hg9 hi9; obtain ⟨o9, c9, hv9⟩ := row_form ho9; subst hv9; have hrow9 : ∀ y, (Value.slice oB j cB).ownBlock = some y → w.heap.size ≤ y ∧ y < w8.heap.size ∧ y ≠ w1.heap.size := (fun y hy => by
            rcases HDO.out.2 with ⟨e1, _⟩ | ⟨g, cap, cur, e1, e2, e3, _⟩
            · cases e1
              cases hy
            · cases e1
              cases hy
              refine ⟨e2, (Array.getElem?_eq_some_iff.1 e3).1, fun e => ?_⟩
              have e' : g = w1.heap.size := e
              rw [e', HDH.out] at e3
              cases e3); have hB9 : w9.heap[w1.heap.size]? = some (.cells #[.int .i64 l.length, .slice oB j cB] 71 (0, 0)) := ((hg9.block w1.heap.size (by simp; omega) (fun e => (hrow9 _ e.symm).2.2 rfl)).trans (Below.heap_alloc _ _ _ hBl)).trans HDH.out; have q9 : w9.cell? ⟨w1.heap.size, 1, none⟩ = some (.slice oB j cB) := (by rw [Lib.cell_of_heap hB9]; rfl); have f9 : w9.frozen? ⟨w1.heap.size, 1, none⟩ = false := Lib.frozen_of_heap hB9 1))
      have s10 : (w9.setCell ⟨w1.heap.size, 1, none⟩ (.slice o9 (j + 1) c9)).heap[w1.heap.size]? = some (.cells #[.int .i64 l.length, .slice o9 (j + 1) c9] 71 (0, 0)) := by
        have s1 := setCell_eq_setRow w9 w1.heap.size 1 _ 71 (0, 0) (.slice o9 (j + 1) c9) hB9
        have h1 := setRow_heap w9 w1.heap.size _ (#[Value.int .i64 l.length, .slice oB j cB].setIfInBounds 1 (.slice o9 (j + 1) c9)) _ _ hB9
        rw [← s1] at h1
        exact h1
      have hoth : ∀ k, k < w8.heap.size → k ≠ w1.heap.size → (∀ y, (Value.slice oB j cB).ownBlock = some y → k ≠ y) → (w9.setCell ⟨w1.heap.size, 1, none⟩ (.slice o9 (j + 1) c9)).heap[k]? = w8.heap[k]? := fun k h1 h2 h3 =>
        (Below.heap_setCell w9 ⟨w1.heap.size, 1, none⟩ _ k h2).trans ((hg9.block k (by simp; omega) (fun e => h3 k e.symm rfl)).trans (Below.heap_alloc _ _ _ h1))
      have hlow : ∀ k, k < w.heap.size → (w9.setCell ⟨w1.heap.size, 1, none⟩ (.slice o9 (j + 1) c9)).heap[k]? = w8.heap[k]? := fun k h1 => hoth k (by omega) (by omega) (fun y hy e => by have := (hrow9 y hy).1; omega)
      have hsz8 := HB8.out.size
      have hsz10 : w8.heap.size ≤ (w9.setCell ⟨w1.heap.size, 1, none⟩ (.slice o9 (j + 1) c9)).heap.size := by
        have := hg9.size
        simp only [World.size_setCell]
        simp at this
        omega
      go_roundw
      case rel =>
        refine ⟨j + 1, p2, some ⟨g3, r.length, none⟩, (t0 :: r).drop r.length, c3 - r.length, ?_, by omega, ?_, ?_, by simp, ?_, ?_, (hlow rb hrl).trans ((HB8.out.block rb (by omega)).trans HR3.out), ?_, ?_, ?_, ?_⟩
        · congr 1
          omega
        · simp
        · intro h4
          exact (lastL_succ HBK.out (by omega)).symm
        · refine .inr ⟨g3, r.length, c3 - r.length, by simp, by omega, by simp; omega, by unfold maxLen at hg3m ⊢; omega, fun k t hk => ?_⟩
          rw [List.getElem?_drop] at hk
          have h1 := HT3.out (r.length + k) t hk
          rw [Nat.zero_add] at h1
          refine Eq.trans (World.cell?_of_block (a := ⟨g3, r.length + k, none⟩) ?_) h1
          exact (hoth g3 (by omega) (by have := HB3.out.1; omega) (fun y hy e => by have := HRow2.out y hy; have := HB3.out.1; omega)).trans (HB8.out.block g3 hg3l)
        · intro g off h _
          cases h
          have := HB3.out.1
          omega
        · exact HP2D.out
        · rw [HD2.out]
          congr 2
        · refine ⟨hdB, o9, c9, s10, ?_⟩
          have e1 : (packedL l (j + 1)).length = j + 1 := packedL_len l (j + 1)
          unfold OwnT
          rw [e1]
          have ho9' : w9.ownsRow w.heap.size 9 1 (.slice o9 (j + 1) c9) (j + 1) ((packedL l (j + 1)).map strT) := by
            rw [packedL_succ, HBK.out, List.map_append]
            exact ho9
          refine ⟨ho9'.1, ?_⟩
          rcases ho9'.2 with h1 | ⟨g, cap, cur, h1, h2, h3, h4⟩
          · exact .inl h1
          · refine .inr ⟨g, cap, cur, h1, h2, ?_, h4⟩
            rw [Below.heap_setCell w9 ⟨w1.heap.size, 1, none⟩ _ g (fun e => by
              have e' : g = w1.heap.size := e
              rw [e', hB9] at h3
              cases h3)]
            exact h3
        · have hF := HF.out
          have hF3 := HF3.out
          refine ⟨?_, ?_, ?_, by omega, fun x h1 h2 => (hlow x h1).trans ((HB8.out.block x (by omega)).trans ((hF3.block x (by omega) h2).trans (hF.block x h1 h2)))⟩
          · exact (hg9.os.trans HB8.out.os).trans (hF3.os.trans hF.os)
          · exact (hg9.tape.trans HB8.out.tape).trans (hF3.tape.trans hF.tape)
          · exact (hg9.output.trans HB8.out.output).trans (hF3.output.trans hF.output)
      case measure => simp [intOf]; omega
    · have hj : (l.length + 3) / 4 = j := by omega
      have hpe : p = D.size := by
        have := congrArg List.length HDP.out
        rw [show l.drop (4 * j) = [] from List.drop_eq_nil_of_le (by omega), dictE_nil] at this
        simp only [List.length_drop, List.length_nil, hlenD] at this
        omega
      subst hpe
      have HEn : Hid (Calls Tryd.prog 51 #[.pointer (some ⟨rb, 0, none⟩)] wr fun e w' => e = .returned (.tuple #[]) ∧ ∃ n, w' = wr.drewN n) := end_rd wr rb D HRS.out
      have hneg : ¬ ((0 : Int) < (l.length : Int) - 4 * j) := by omega
      clear HDP HL
      go_wp2_with fail
      refine HEn.out.mono ?_
      rintro e w2 ⟨rfl, n2, rfl⟩
      go_wp2_with fail
      go_ret
      exact ⟨_, rfl, by rw [hj]; exact HDI.out.kept (fun k _ _ => rfl), HRS.out, HF.out.drewN _⟩

end Go.Proofs.YtnffjoipinhojabDoor
