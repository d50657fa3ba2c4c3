import Derived.Test.YtnffjoipinhojabGreatDoorK17
set_option linter.unusedSimpArgs false
set_option linter.unusedVariables false
namespace Go.Proofs.YtnffjoipinhojabGreatDoor
open Go.RowKit
namespace Tu

/-! The powers of ten that strconv looks into. -/
abbrev Tens (w : World) : Prop := Lib.TabIs Tryz.prog w "internal/strconv.uint64pow10" .u64 Lib.pow10Tab
theorem pow_ix : Tryz.prog.globalNamed "internal/strconv.uint64pow10" = some 5 := by kernel_rfl
theorem Tens.same {w w' : World} (h : Tens w) (hb : w'.heap[5]? = w.heap[5]?) : Tens w' := by
  unfold Tens Lib.TabIs World.var? at *
  rw [pow_ix] at *
  simp only [Option.bind_some] at *
  rw [hb]
  exact h
theorem Pz.tens {w0 w : World} {b m : Nat} {s : ByteArray} {st : St} (h : Pz w0 b m s st w) (hT : Tens w0) : Tens w := by
  have hg := h.gb
  have hgm := h.gm
  exact hT.same (h.fq.but _ (by have := h.bl; omega) (by omega) (by omega))

theorem itoa_any (w : World) (n : Nat) (hn : n ≤ 9223372036854775807) (hT : Tens w) :
    Calls Tryz.prog 205 #[.int .i64 n] w fun e w' => e = .returned (str (dec n)) ∧ Below w.heap.size w w' := by
  refine (Any.strconv_Itoa (ρ := Tryz.laysM171_ren) Tryz.laysM171 (n : Int) (by omega) (by omega) w hT).mono ?_
  rintro e w' ⟨rfl, k, os, rfl⟩
  refine ⟨?_, ?_⟩
  · unfold Lib.itoa dec
    rw [if_neg (by omega)]
    rfl
  · refine ⟨rfl, rfl, rfl, by simp [Go.Sort.grow], fun i hi => ?_⟩
    show (w.heap ++ os)[i]? = w.heap[i]?
    rw [Array.getElem?_append_left hi]

theorem dec_len : ∀ (k u : Nat), u < 10 ^ (k + 1) → (dec u).length ≤ k + 1
  | 0, u, h => by
    unfold dec
    rw [Lib.decDigits, dif_pos (by simpa using h)]
    simp
  | k + 1, u, h => by
    unfold dec
    rw [Lib.decDigits]
    split
    · simp
    · have := dec_len k (u / 10) (by rw [Nat.pow_succ] at h; omega)
      unfold dec at this
      rw [List.length_append]
      simp
      omega

/-! Saying. -/
theorem Pz.saying {w0 w w' : World} {b m g cap n k : Nat} {s : ByteArray} {st : St} {x y z : List UInt8} {v : Value} {T : TypeId} (h : Pz w0 b m s st w) (hn : n = st.said.length + 1)
    (hh : w.heap[b]? = some (.cells (pcells s k m st v) 81 (0, 0))) (hk : st.now.isBrk = false → k = st.i)
    (ho : w.ownsRow w0.heap.size 44 3 v st.said.length (cellsOf st.said))
    (hown : w'.ownsRow w0.heap.size 44 3 (.slice (some ⟨g, 0, none⟩) n cap) n (cellsOf (st.said ++ [⟨x, y, z⟩])))
    (hgr : (w.alloc (.cells #[str x, str y, str z] T)).grownBy w' v.ownBlock) (hwhere : some g = v.ownBlock ∨ ∀ q, some g = some q → w.heap.size ≤ q) :
    w'.heap[b]? = w.heap[b]? ∧ PK w0 b m s (say st x y z) w (w'.setCell ⟨b, 6, none⟩ (.slice (some ⟨g, 0, none⟩) n cap)) := by
  have hbw := h.lt
  have hbl := h.bl
  have hml := h.ml
  have hsz := h.fq.size
  have hold : ∀ k, k < w0.heap.size → w'.heap[k]? = w.heap[k]? := fun k hk => by
    rw [hgr.block k (by simp; omega) (fun e => by have := own_block ho e.symm; omega), Below.heap_alloc _ _ _ (by omega)]
  have hb := hold b hbl
  refine ⟨hb, ?_⟩
  have hws := hgr.size
  simp at hws
  have hb6 : (w'.setCell ⟨b, 6, none⟩ (.slice (some ⟨g, 0, none⟩) n cap)).heap[b]? = some (.cells (pcells s k m (say st x y z) (.slice (some ⟨g, 0, none⟩) n cap)) 81 (0, 0)) := by
    rw [setCell_blk (hb.trans hh)]
    rfl
  refine ⟨⟨⟨k, _, hb6, hk, ?_⟩, ?_, ⟨?_, ?_, ?_⟩, hbl, hml, h.ne, h.gb, h.gm, h.sz, ⟨h.wf.le, h.wf.tk, h.wf.nm⟩⟩, ?_⟩
  · show World.ownsRow _ _ _ _ _ (st.said ++ [(⟨x, y, z⟩ : Tri)]).length (cellsOf (st.said ++ [(⟨x, y, z⟩ : Tri)]))
    rw [show (st.said ++ [(⟨x, y, z⟩ : Tri)]).length = n by simp; omega]
    exact own_same hown fun k hk hlt => Below.heap_setCell _ _ _ _ (show k ≠ b by omega)
  · refine h.nm.same ?_
    rw [Below.heap_setCell _ _ _ _ (Ne.symm h.ne)]
    exact hold m hml
  · simp
    omega
  · exact ⟨hgr.os.trans h.fq.os.1, hgr.tape.trans h.fq.os.2.1, hgr.output.trans h.fq.os.2.2⟩
  · intro k hk hkb hkm
    rw [Below.heap_setCell _ _ _ _ hkb, hold k hk]
    exact h.fq.but k hk hkb hkm
  · refine ⟨fun q h0 hq hne => ?_, ?_, by simp; omega⟩
    · rw [Below.heap_setCell _ _ _ _ (show q ≠ b by omega), hgr.block q (by simp; omega) (by rw [saidB_blk hh] at hne; exact hne), Below.heap_alloc _ _ _ hq]
    · rw [saidB_blk hb6, saidB_blk hh]
      exact hwhere

theorem where_of {v : Value} {g H n : Nat} (h : v.ownBlock = some g ∨ g = H) (hn : n ≤ H) : some g = v.ownBlock ∨ ∀ q, some g = some q → n ≤ q := by
  rcases h with e | e
  · exact Or.inl e.symm
  · exact Or.inr fun q hq => by cases hq; omega

set_option maxHeartbeats 1000000 in
set_option maxRecDepth 20000 in
theorem say_any (w0 w : World) (b m : Nat) (s : ByteArray) (st : St) (x y z : List UInt8) (h : Pz w0 b m s st w) (hl : st.said.length ≤ 1000000) :
    Calls Tryz.prog 164 #[.pointer (some ⟨b, 0, none⟩), str x, str y, str z] w (POk w0 b m s w (.tuple #[]) (say st x y z)) := by
  obtain ⟨i0, hi, hz0, hz1, hz2⟩ := info_parts infoTri
  obtain ⟨k, v, hh, hk, ho⟩ := h.blk
  have HZ : Hid (Pz w0 b m s st w) := h
  have HO : Hid (w.ownsRow w0.heap.size 44 3 v st.said.length (cellsOf st.said)) := ho
  have HH : Hid (w.heap[b]? = some (.cells (pcells s k m st v) 81 (0, 0))) := hh
  have HK : Hid (st.now.isBrk = false → k = st.i) := hk
  have hv : w.cell? ⟨b, 6, none⟩ = some v := by rw [Lib.cell_of_heap hh]; rfl
  have hfz : w.frozen? ⟨b, 6, none⟩ = false := Lib.frozen_of_heap hh 6
  have hbw := h.lt
  have hnews : ∀ (j : Nat) (u : Value), [str x, str y, str z][j]? = some u → (w.alloc (.cells #[str x, str y, str z] 44)).cell? ((⟨w.heap.size, 0, none⟩ : Addr).add j) = some u := by
    intro j u hj
    have hq : (w.alloc (.cells #[str x, str y, str z] 44)).heap[w.heap.size]? = some (.cells #[str x, str y, str z] 44) := heap_new _ _
    rw [show (⟨w.heap.size, 0, none⟩ : Addr).add j = ⟨w.heap.size, 0 + j, none⟩ by unfold Addr.add; split <;> simp_all, Lib.cell_of_heap hq, Nat.zero_add]
    simpa using hj
  have hownA : (w.alloc (.cells #[str x, str y, str z] 44)).ownsRow w0.heap.size 44 3 v st.said.length (cellsOf st.said) := own_same ho fun g hg hlt => Below.heap_alloc _ _ _ hlt
  have hbs : w0.heap.size ≤ (w.alloc (.cells #[str x, str y, str z] 44)).heap.size := by have := h.fq.size; simp; omega
  clear h hh hk ho
  go_enter Tryz.func164, Tryz.ntmps164
  go_wp2_with (first | (at_builtin; refine wpList_append_lies _ (by rfl) _ _ _ (by rfl) w0.heap.size 44 i0 _ 3 48 Tryz.underlying24 hi hz0 hz1 hz2 rfl (by omega) v st.said.length (cellsOf st.said) (by rfl) hownA ⟨w.heap.size, 0, none⟩ 1 1 [str x, str y, str z] (by rfl) (by rfl) hnews (by simp [Value.oneCell']) (by omega) (by unfold maxLen; omega) (by omega) hbs _ rfl ?_; intro g cap w8 hown8 hgr8 hat8 hlt8; have HF8 : Hid (w8.heap[b]? = w.heap[b]? ∧ PK w0 b m s (say st x y z) w (w8.setCell ⟨b, 6, none⟩ (.slice (some ⟨g, 0, none⟩) (st.said.length + 1) cap))) := (HZ.out.saying (x := x) (y := y) (z := z) rfl HH.out HK.out HO.out (by rw [cellsOf_app]; exact hown8) hgr8 (where_of hat8 (by simp))); have c28 : w8.cell? ⟨b, 6, none⟩ = some v := ((World.cell?_of_block (a := ⟨b, 6, none⟩) HF8.out.1).trans hv); have f28 : w8.frozen? ⟨b, 6, none⟩ = false := ((World.frozen?_of_block (a := ⟨b, 6, none⟩) HF8.out.1).trans hfz); clear hown8 hgr8 hat8))
  go_end0
  exact ⟨rfl, HF8.out.2⟩

/-! A blank of its own. -/
theorem Pz.freshen {w0 w : World} {b m : Nat} {s : ByteArray} {st : St} (h : Pz w0 b m s st w) : PK w0 b m s (fresh st) w (w.setCell ⟨b, 5, none⟩ (.int .i64 (st.made + 1 : Nat))) := by
  obtain ⟨k, v, hh, hk, ho⟩ := h.blk
  refine h.turn (k := k) (k' := k) (v := v) hh hk rfl rfl ⟨h.wf.le, h.wf.tk, h.wf.nm⟩ ho ?_ ?_ ⟨rfl, rfl, rfl⟩ (by simp)
  · rw [setCell_blk hh]
    rfl
  · intro g hg hgb
    exact Below.heap_setCell _ _ _ _ hgb

set_option maxHeartbeats 1000000 in
set_option maxRecDepth 20000 in
theorem newBlank_any (w0 w : World) (b m : Nat) (s : ByteArray) (st : St) (h : Pz w0 b m s st w) (hP : Tens w0) (hm : st.made ≤ 1000000) :
    Calls Tryz.prog 168 #[.pointer (some ⟨b, 0, none⟩)] w (POk w0 b m s w (str (freshL st)) (fresh st)) := by
  obtain ⟨c2, c3, c4, c5, fz⟩ := h.cell
  have f5 := fz 5
  have HF : Hid (PK w0 b m s (fresh st) w (w.setCell ⟨b, 5, none⟩ (.int .i64 ((st.made : Int) + 1)))) := h.freshen
  have HI : Hid (∀ w1, Pz w0 b m s (fresh st) w1 → Calls Tryz.prog 205 #[.int .i64 ((st.made : Int) + 1)] w1 fun e w' => e = .returned (str (dec (st.made + 1))) ∧ Below w1.heap.size w1 w') := fun w1 h1 => itoa_any w1 (st.made + 1) (by omega) (h1.tens hP)
  have hc5 : (w.setCell ⟨b, 5, none⟩ (.int .i64 ((st.made : Int) + 1))).cell? ⟨b, 5, none⟩ = some (.int .i64 ((st.made : Int) + 1)) := World.cell?_setCell_same _ _ _ c5
  obtain ⟨D, hD⟩ : ∃ D : ByteArray, D = ⟨(dec (st.made + 1)).toArray⟩ := ⟨_, rfl⟩
  have HI2 : Hid (∀ w1, Pz w0 b m s (fresh st) w1 → Calls Tryz.prog 205 #[.int .i64 ((st.made : Int) + 1)] w1 fun e w' => e = .returned (.string D) ∧ Below w1.heap.size w1 w') := by rw [hD]; exact HI
  have HC : Hid ((⟨#[95, 58, 110]⟩ : ByteArray) ++ D = ⟨(freshL st).toArray⟩) := by
    unfold Hid freshL
    rw [hD]
    exact cat_str [95, 58, 110] _
  have hDz : D.size ≤ 8 := by
    rw [hD, arr_size]
    exact dec_len 7 _ (by omega)
  clear h HI hP hD
  go_enter Tryz.func168, Tryz.ntmps168
  go_wp2_with fail
  refine (HI2.out _ HF.out.1).mono ?_
  rintro e w1 ⟨rfl, hB⟩
  go_wp2
  go_ret
  rw [HC.out]
  exact ⟨rfl, HF.out.same hB⟩

end Tu
end Go.Proofs.YtnffjoipinhojabGreatDoor

set_option linter.unusedSimpArgs false
set_option linter.unusedVariables false
namespace Go.Proofs.YtnffjoipinhojabGreatDoor
open Go.RowKit
namespace Tu

theorem arr_bt (l : List UInt8) (i : Nat) (c : UInt8) (h : l[i]? = some c) : bt (⟨l.toArray⟩ : ByteArray) i = (c.toNat : Int) := by
  have hi : i < l.length := (List.getElem?_eq_some_iff.1 h).1
  rw [bt_lt (by rw [arr_size]; exact hi)]
  have : (⟨l.toArray⟩ : ByteArray)[i]'(by rw [arr_size]; exact hi) = c := by
    show l.toArray[i] = c
    simpa [List.getElem?_eq_getElem hi] using h
  rw [this]

theorem runU_end_all (p : Int → Bool) (l : List UInt8) : (runU p ⟨l.toArray⟩ 0 = (⟨l.toArray⟩ : ByteArray).size) ↔ (l.all fun c => p (c.toNat : Int)) = true := by
  have hz : (⟨l.toArray⟩ : ByteArray).size = l.length := arr_size l
  constructor
  · intro h
    rw [List.all_eq_true]
    intro c hc
    obtain ⟨i, hi⟩ := List.getElem?_of_mem hc
    have hil := (List.getElem?_eq_some_iff.1 hi).1
    have := runU_all p ⟨l.toArray⟩ _ 0 (Nat.lt_succ_self _) i (Nat.zero_le _) (by rw [h, hz]; exact hil)
    rw [arr_bt l i c hi] at this
    exact this
  · intro h
    have hsz := runU_sz p (s := ⟨l.toArray⟩) (i := 0) (Nat.zero_le _)
    rcases Nat.lt_or_ge (runU p ⟨l.toArray⟩ 0) (⟨l.toArray⟩ : ByteArray).size with hlt | hge
    · exfalso
      have hstop : ∀ n i, (⟨l.toArray⟩ : ByteArray).size - i < n → ¬ (runU p ⟨l.toArray⟩ i < (⟨l.toArray⟩ : ByteArray).size ∧ p (bt ⟨l.toArray⟩ (runU p ⟨l.toArray⟩ i)) = true) := by
        intro n
        induction n with
        | zero => intro i hi; omega
        | succ n ih =>
          intro i hi
          by_cases hb : i < (⟨l.toArray⟩ : ByteArray).size ∧ p (bt ⟨l.toArray⟩ i) = true
          · rw [runU_on hb]
            exact ih (i + 1) (by omega)
          · rw [runU_end hb]
            exact hb
      apply hstop _ 0 (Nat.lt_succ_self _)
      refine ⟨hlt, ?_⟩
      rw [hz] at hlt
      rw [List.all_eq_true] at h
      rw [arr_bt l _ _ (List.getElem?_eq_getElem hlt)]
      exact h _ (List.getElem_mem hlt)
    · omega

set_option maxHeartbeats 1000000 in
theorem allOf_any (w : World) (l : List UInt8) (hl : l.length ≤ 1099511627776) (hT : Tabs w) (hG : 8 ≤ w.heap.size) (g : Nat) (p : Int → Bool) (hp : ∀ w2, IsSet g #[] p 0 0 w2) (ha : ∀ c, p c = true → 0 ≤ c ∧ c < 128) :
    Calls Tryz.prog 117 #[str l, fnV g #[]] w fun e w' => e = .returned (.bool (l.all fun c => p (c.toNat : Int))) ∧ Below w.heap.size w w' := by
  obtain ⟨s, hs⟩ : ∃ s : ByteArray, s = ⟨l.toArray⟩ := ⟨_, rfl⟩
  have hz : s.size = l.length := by rw [hs]; exact arr_size l
  obtain ⟨W, hW⟩ : ∃ W, W = (w.alloc (.cells #[.string s, .int .i64 0] 74)).alloc (.cells #[.string s, .int .i64 0] 74) := ⟨_, rfl⟩
  have hB : Below w.heap.size w W := by rw [hW]; exact ((Below.refl _ w).alloc (Nat.le_refl _) _).alloc (by simp) _
  have hh : W.heap[w.heap.size + 1]? = some (.cells #[.string s, .int .i64 0] 74 (0, 0)) := by
    rw [hW]
    have := heap_new (w.alloc (.cells #[.string s, .int .i64 0] 74)) (.cells #[.string s, .int .i64 0] 74)
    simpa using this
  have hR : Rd W (w.heap.size + 1) s 0 := ⟨by rw [Lib.cell_of_heap hh]; rfl, by rw [Lib.cell_of_heap hh]; rfl, Lib.frozen_of_heap hh 1, Nat.zero_le _, by omega⟩
  have hTW : Tabs W := hT.below hB (by omega) (by omega)
  have hsz := runU_sz p (s := s) (i := 0) (Nat.zero_le _)
  have HRun : Hid (Calls Tryz.prog 153 #[.pointer (some ⟨w.heap.size + 1, 0, none⟩), fnV g #[]] W fun e w' => e = .returned (str (sub s 0 (runU p s 0))) ∧ Adv (w.heap.size + 1) (runU p s 0) W w') := run_any W _ 0 s hR hTW _ _ p 0 0 (hp W) ha (by omega) (Or.inr (Nat.zero_le _))
  have HEn : Hid (∀ w2, Adv (w.heap.size + 1) (runU p s 0) W w2 → Calls Tryz.prog 110 #[.pointer (some ⟨w.heap.size + 1, 0, none⟩)] w2 fun e w' => e = .returned (.bool (l.all fun c => p (c.toNat : Int))) ∧ ∃ n, w' = w2.drewN n) := fun w2 a => by
    have := ended_any w2 _ _ s (hR.adv a hsz)
    have e : decide (runU p s 0 = s.size) = (l.all fun c => p (c.toNat : Int)) := by
      rw [Bool.eq_iff_iff, decide_eq_true_iff, hs]
      exact runU_end_all p l
    rw [e] at this
    exact this
  have HWd : Hid ((w.alloc (.cells #[.string s, .int .i64 0] 74)).alloc (.cells #[.string s, .int .i64 0] 74) = W) := hW.symm
  have HOv : Hid (Calls Tryz.prog 34 #[.string s] w fun e w' => e = .returned (.agg #[.string s, .int .i64 0]) ∧ w' = w.alloc (.cells #[.string s, .int .i64 0] 74)) := over_any w s
  have HB : Hid (∀ w2, Adv (w.heap.size + 1) (runU p s 0) W w2 → ∀ n, Below w.heap.size w (w2.drewN n)) := fun w2 a n => by
    have hWs : W.heap.size = w.heap.size + 2 := by rw [hW]; simp
    exact below_drewN (hB.trans (a.below (Nat.le_succ _) (by omega))) n
  have e2 : str l = .string s := by rw [hs]
  rw [e2]
  generalize (l.all fun c => p (c.toNat : Int)) = r at *
  clear hR hTW hh hW hs hT hB hp ha e2 hz
  go_enter Tryz.func117, Tryz.ntmps117
  go_wp2_with fail
  refine HOv.out.mono ?_
  rintro e w1 ⟨rfl, rfl⟩
  go_wp2_with fail
  rw [HWd.out]
  refine HRun.out.mono ?_
  rintro e w2 ⟨rfl, hA⟩
  go_wp2_with fail
  refine (HEn.out _ hA).mono ?_
  rintro e w3 ⟨rfl, n, rfl⟩
  go_wp2
  go_ret
  exact ⟨rfl, HB.out _ hA n⟩

theorem isDigits_any (w : World) (l : List UInt8) (hl : l.length ≤ 1099511627776) (hT : Tabs w) (hG : 8 ≤ w.heap.size) :
    Calls Tryz.prog 75 #[str l] w fun e w' => e = .returned (.bool (l != [] && l.all fun c => digit (c.toNat : Int))) ∧ Below w.heap.size w w' := by
  cases l with
  | nil =>
    clear hT
    go_enter Tryz.func75, Tryz.ntmps75
    go_wp2
    go_ret
    exact ⟨rfl, Below.refl _ _⟩
  | cons c l =>
    have HA : Hid (Calls Tryz.prog 117 #[str (c :: l), fnV 121 #[]] w fun e w' => e = .returned (.bool ((c :: l).all fun c => digit (c.toNat : Int))) ∧ Below w.heap.size w w') := allOf_any w (c :: l) hl hT hG _ digit (fun w2 => set_digit w2) (fun c => digit_lt)
    obtain ⟨V, hV⟩ : ∃ V : ByteArray, V = ⟨(c :: l).toArray⟩ := ⟨_, rfl⟩
    have hne : V.toList.isEmpty = false := by rw [hV, str_toList]; rfl
    have e2 : str (c :: l) = .string V := by rw [hV]
    rw [e2] at HA ⊢
    have e3 : ((c :: l) != [] && (c :: l).all fun c => digit (c.toNat : Int)) = ((c :: l).all fun c => digit (c.toNat : Int)) := by simp
    rw [e3]
    generalize ((c :: l).all fun c => digit (c.toNat : Int)) = r at *
    clear hT hV e2 e3
    go_enter Tryz.func75, Tryz.ntmps75
    go_wp2_with fail
    refine HA.out.mono ?_
    rintro e w1 ⟨rfl, hB⟩
    go_wp2
    go_ret
    exact ⟨rfl, hB⟩

theorem cut_any (w : World) (s p : ByteArray) : Calls Tryz.prog 74 #[.string s, .string p] w fun e w' => e = .returned (.tuple #[.string ⟨(Lib.trimPrefix s.data.toList p.data.toList).toArray⟩, .bool (Lib.hasPrefix s.data.toList p.data.toList)]) ∧ w' = w :=
  Any.strings_CutPrefix (ρ := Tryz.lays103_ren) Tryz.lays103 s p w

theorem isMade_any (w : World) (l : List UInt8) (hl : l.length ≤ 1099511627776) (hT : Tabs w) (hG : 8 ≤ w.heap.size) :
    Calls Tryz.prog 41 #[str l] w fun e w' => e = .returned (.bool (isMade l)) ∧ Below w.heap.size w w' := by
  have HC : Hid (Calls Tryz.prog 74 #[str l, .string ⟨#[95, 58, 110]⟩] w fun e w' => e = .returned (.tuple #[str (Lib.trimPrefix l [95, 58, 110]), .bool (Lib.hasPrefix l [95, 58, 110])]) ∧ w' = w) := cut_any w ⟨l.toArray⟩ ⟨#[95, 58, 110]⟩
  have hp : Lib.hasPrefix l [95, 58, 110] = (l.take 3 == [95, 58, 110]) := by
    unfold Lib.hasPrefix
    rw [Bool.eq_iff_iff, List.isPrefixOf_iff_prefix, beq_iff_eq]
    constructor
    · rintro ⟨t, rfl⟩; rfl
    · intro h; exact ⟨l.drop 3, by rw [← h]; exact List.take_append_drop 3 l⟩
  cases hq : Lib.hasPrefix l [95, 58, 110] with
  | false =>
    have HE : Hid (isMade l = false) := by unfold Hid isMade; rw [← hp, hq]; rfl
    rw [HE.out]
    rw [hq] at HC
    generalize Lib.trimPrefix l [95, 58, 110] = t at *
    clear hT hp HE hq
    go_enter Tryz.func41, Tryz.ntmps41
    go_wp2_with fail
    refine HC.out.mono ?_
    rintro e w1 ⟨rfl, rfl⟩
    go_wp2
    go_ret
    exact ⟨rfl, Below.refl _ _⟩
  | true =>
    have ht : Lib.trimPrefix l [95, 58, 110] = l.drop 3 := by unfold Lib.trimPrefix; rw [hq]; rfl
    have HE : Hid (isMade l = (l.drop 3 != [] && (l.drop 3).all fun c => digit (c.toNat : Int))) := by unfold Hid isMade; rw [← hp, hq]; rfl
    have HD : Hid (Calls Tryz.prog 75 #[str (l.drop 3)] w fun e w' => e = .returned (.bool (l.drop 3 != [] && (l.drop 3).all fun c => digit (c.toNat : Int))) ∧ Below w.heap.size w w') := isDigits_any w (l.drop 3) (by simp; omega) hT hG
    rw [HE.out]
    rw [hq, ht] at HC
    generalize (l.drop 3 != [] && (l.drop 3).all fun c => digit (c.toNat : Int)) = r at *
    generalize l.drop 3 = t at *
    clear hT hp HE hq ht
    go_enter Tryz.func41, Tryz.ntmps41
    go_wp2_with fail
    refine HC.out.mono ?_
    rintro e w1 ⟨rfl, rfl⟩
    go_wp2_with fail
    refine HD.out.mono ?_
    rintro e w1 ⟨rfl, hB⟩
    go_wp2
    go_ret
    exact ⟨rfl, hB⟩

theorem labelled_ok (w : World) (p : Nat) (l : List UInt8) (hl : l.length ≤ 1099511627776) (hT : Tabs w) (hG : 8 ≤ w.heap.size) (hm : isMade l = false) :
    Calls Tryz.prog 99 #[.agg #[.int .i64 p, str l]] w fun e w' => e = .returned (str l) ∧ Below w.heap.size w w' := by
  have HW : Hid (∀ w1, Below w.heap.size w w1 → Calls Tryz.prog 41 #[str l] w1 fun e w' => e = .returned (.bool false) ∧ Below w1.heap.size w1 w') := fun w1 hB => by
    have := isMade_any w1 l hl (hT.below hB (by omega) (by omega)) (Nat.le_trans hG hB.size)
    rw [hm] at this
    exact this
  have HB : Hid (∀ o, Below w.heap.size w (w.alloc o)) := fun o => (Below.refl _ w).alloc (Nat.le_refl _) _
  clear hT hm
  go_enter Tryz.func99, Tryz.ntmps99
  go_wp2_with fail
  refine (HW.out _ (HB.out _)).mono ?_
  rintro e w1 ⟨rfl, hB⟩
  have c1 : w1.cell? ⟨w.heap.size, 1, none⟩ = some (str l) := by
    rw [hB.cell (p := ⟨w.heap.size, 1, none⟩) (by simp), World.cell?_alloc_at _ _ _ _ (by simp)]
    rfl
  go_wp2
  go_ret
  exact ⟨rfl, (HB.out _).trans (hB.mono (by simp))⟩

theorem labelled_bad (w : World) (p : Nat) (l : List UInt8) (hl : l.length ≤ 1099511627776) (hT : Tabs w) (hG : 8 ≤ w.heap.size) (hm : isMade l = true) :
    Calls Tryz.prog 99 #[.agg #[.int .i64 p, str l]] w fun e w' => e = stopE 6 p ∧ Below w.heap.size w w' := by
  have HW : Hid (∀ w1, Below w.heap.size w w1 → Calls Tryz.prog 41 #[str l] w1 fun e w' => e = .returned (.bool true) ∧ Below w1.heap.size w1 w') := fun w1 hB => by
    have := isMade_any w1 l hl (hT.below hB (by omega) (by omega)) (Nat.le_trans hG hB.size)
    rw [hm] at this
    exact this
  have HB : Hid (∀ o, Below w.heap.size w (w.alloc o)) := fun o => (Below.refl _ w).alloc (Nat.le_refl _) _
  clear hT hm
  go_enter Tryz.func99, Tryz.ntmps99
  go_wp2_with fail
  refine (HW.out _ (HB.out _)).mono ?_
  rintro e w1 ⟨rfl, hB⟩
  have c0 : w1.cell? ⟨w.heap.size, 0, none⟩ = some (.int .i64 p) := by
    rw [hB.cell (p := ⟨w.heap.size, 0, none⟩) (by simp), World.cell?_alloc_at _ _ _ _ (by simp)]
    rfl
  go_wp2_with fail
  refine (start_any _ _).mono ?_
  rintro e w2 ⟨rfl, rfl⟩
  go_wp2_with fail
  refine (Refuse_any _ _ _).mono ?_
  rintro e w3 ⟨rfl, rfl⟩
  exact ⟨rfl, rfl, (HB.out _).trans (hB.mono (by simp))⟩

end Tu
end Go.Proofs.YtnffjoipinhojabGreatDoor

