import Derived.Test.YtnffjoipinhojabDoorDr
import Derived.Test.YtnffjoipinhojabDoorDq
import Derived.Test.YtnffjoipinhojabDoorFa
set_option linter.unusedSimpArgs false
set_option linter.unusedVariables false
namespace Go.Proofs.YtnffjoipinhojabDoor
open Go.RowKit Go.Shelf

attribute [local go_sem] Oper.semAt_some

set_option maxRecDepth 100000 in
set_option maxHeartbeats 4000000 in
/-- dict.Build of a list that it refuses -/
theorem build_bad (w : World) (v : Value) (l : List (List UInt8)) (n : Int) (i : Nat) (hr : refuse l = some (n, i)) (hC : Calls Tryd.prog 15 #[v] w fun e w' => e = .returned (ckV l) ∧ Below w.heap.size w w') (hH : Handle w) :
    Calls Tryd.prog 6 #[v] w fun e w' => e = .returned (rbV l) ∧ Below w.heap.size w w' := by
  have HC : Calls Tryd.prog 15 #[v] w fun e w' => e = .returned (.iface 84 (.agg #[.int .i64 i, .iface 80 (.agg #[.int .i64 n])])) ∧ Below w.heap.size w w' := by
    have : ckV l = .iface 84 (.agg #[.int .i64 i, .iface 80 (.agg #[.int .i64 n])]) := by unfold ckV; rw [hr]
    rw [this] at hC
    exact hC
  have HH : Hid (∀ w', Below w.heap.size w w' → Handle w') := fun w' hb => hH.below hb
  have HV : Hid (rbV l = .tuple #[.string ⟨#[]⟩, .int .i64 n, .int .i64 i]) := rbV_some hr
  clear hC hH hr
  refine (callsIn_wide (n := 5)).1 ?_
  refine callsIn_of_wp_marks Tryd.func6 rfl trivial ?_ rfl
  simp only [Tryd.ntmps6, List.size_toArray, List.length_cons, List.length_nil, Nat.reduceAdd, Nat.reduceSub, Array.replicate_succ, Array.replicate_zero, List.push_toArray, List.append_toArray, List.nil_append, List.cons_append]
  gi_wp2_with (refine ⟨trivial, ?_⟩; gi_at_call 15; refine (callsIn_wide.2 HC).mono ?_; rintro e w1 ⟨rfl, hb1⟩)
  refine ⟨trivial, ?_⟩
  refine (callsIn_wide.2 (number_placed i n w1 (HH.out w1 hb1))).mono ?_
  rintro e w2 ⟨rfl, hb2⟩
  have HB2 : Hid (Below w.heap.size w w2) := hb1.trans (hb2.mono hb1.size)
  clear hb1 hb2
  gi_wp2
  refine ⟨trivial, ?_⟩
  refine (callsIn_wide.2 (place_placed i n w2 (HH.out w2 HB2.out))).mono ?_
  rintro e w3 ⟨rfl, hb3⟩
  have HB3 : Hid (Below w.heap.size w w3) := HB2.out.trans (hb3.mono HB2.out.size)
  clear hb3
  gi_wp2
  exact ⟨_, results_tmp3 Tryd.results6 _ _ _, by rw [HV.out]; rfl, HB3.out⟩

theorem chunk_stops (n : Nat) (hn : 1 ≤ n) (Bs g off len cap N : Nat) (o : Option Addr) (ho : len = 0 ∨ o = some ⟨g, off, none⟩) (hlc : len ≤ cap) (hcm : cap ≤ maxLen) (hls : len ≤ 1000000000) (hln : len ≤ 4 * N) (w : World) (hlt : Bs + 1 < w.heap.size)
    (hBs : w.cell? ⟨Bs, 0, none⟩ = some (.slice o len cap)) (hBn : w.cell? ⟨Bs + 1, 0, none⟩ = some (.int .i64 4)) :
    SeqStopsK Fence.wide n Tryd.prog 40 #[.pointer (some ⟨Bs, 0, none⟩), .pointer (some ⟨Bs + 1, 0, none⟩)] (chunkV g off len) (KpC Bs) (fun ys => ∃ k, len ≤ 4 * k ∧ 4 * k < len + 4 ∧ ys = upTo len k) (fun _ => True) N w := fun l J Jx W hW hJ hJx hY h0 => by
  have c0 := (hW.cell (p := ⟨Bs, 0, none⟩) (show Bs < w.heap.size by omega)).trans hBs
  have c1 := (hW.cell (p := ⟨Bs + 1, 0, none⟩) hlt).trans hBn
  rcases ho with h | h
  · subst h
    exact (chunk1_zero n hn l Bs o cap J W c0 h0).mono fun e W' ⟨he, hj⟩ => ⟨he, .inl ⟨_, ⟨0, by omega, by omega, rfl⟩, hj⟩⟩
  · subst h
    exact chunk1_in n hn l Bs g off len cap N hlc hcm hls hln J Jx _ hJ hY W c0 c1 h0

/-- the blocks that have come, packed -/
def outP (l : List (List UInt8)) (pre : List (Pl l.length)) : List UInt8 := Lib.uvarint l.length ++ pre.flatMap fun x => blockE ((l.drop x.1).take 4)

theorem outP_nil (l : List (List UInt8)) : outP l [] = Lib.uvarint l.length := by simp [outP]
theorem outP_snoc (l : List (List UInt8)) (pre : List (Pl l.length)) (x : Pl l.length) : outP l (pre ++ [x]) = outP l pre ++ blockE ((l.drop x.1).take 4) := by simp [outP]
theorem outP_ne (l : List (List UInt8)) (pre : List (Pl l.length)) : outP l pre ≠ [] := by
  intro e
  have h1 := (List.append_eq_nil_iff.1 e).1
  have h2 := Lib.uvarint_pos l.length
  simp [h1] at h2
theorem outP_all (l : List (List UInt8)) : ∀ k, 4 * k < l.length + 4 → outP l (upTo l.length k) ++ dictE (l.drop (4 * k)) = Lib.uvarint l.length ++ dictE l
  | 0, _ => by simp [outP, upTo]
  | k + 1, h => by
    have ih := outP_all l k (by omega)
    rw [upTo_succ (by omega), outP_snoc, ← ih, dict_block (by omega : 4 * k < l.length), show 4 * (k + 1) = 4 * k + 4 by omega]
    simp
theorem tailE_len : ∀ (r : List (List UInt8)) (a : List UInt8), (∀ t ∈ r, t.length ≤ 200) → (tailE a r).length ≤ r.length * 218
  | [], a, _ => by simp [tailE]
  | t :: r, a, h => by
    have ih := tailE_len r t (fun x hx => h x (List.mem_cons_of_mem _ hx))
    have ht := h t (List.mem_cons_self ..)
    have hc := comn_le a t
    have u1 := uv_len (comn a t) (by omega)
    have u2 := uv_len (t.length - comn a t) (by omega)
    simp only [tailE, enc4, List.length_append, List.length_drop, List.length_cons]
    omega
theorem blockE_len (l : List (List UInt8)) (h4 : l.length ≤ 4) (h : ∀ t ∈ l, t.length ≤ 200) : (blockE l).length ≤ 1000 := by
  cases l with
  | nil => simp [blockE]
  | cons t r =>
    have ih := tailE_len r t (fun x hx => h x (List.mem_cons_of_mem _ hx))
    have ht := h t (List.mem_cons_self ..)
    have u1 := uv_len t.length (by omega)
    simp only [List.length_cons] at h4
    simp only [blockE, List.length_append]
    omega
theorem outP_len (l : List (List UInt8)) (hn : l.length ≤ 1048576) (h : ∀ t ∈ l, t.length ≤ 200) : ∀ pre : List (Pl l.length), (outP l pre).length ≤ 9 + pre.length * 1000 := by
  intro pre
  have u1 := uv_len l.length (by omega)
  have : ∀ pre : List (Pl l.length), (pre.flatMap fun x => blockE ((l.drop x.1).take 4)).length ≤ pre.length * 1000 := by
    intro pre
    induction pre with
    | nil => simp
    | cons x r ih =>
      have hb := blockE_len ((l.drop x.1).take 4) (by simp; omega) (fun t ht => h t (List.mem_of_mem_drop (List.mem_of_mem_take ht)))
      simp only [List.flatMap_cons, List.length_append, List.length_cons]
      omega
  have := this pre
  simp only [outP, List.length_append]
  omega

set_option maxRecDepth 100000 in
set_option maxHeartbeats 4000000 in
/-- dict.Build of a list that it takes -/
theorem build_good (w : World) (o : Option Addr) (g off cap : Nat) (l : List (List UInt8)) (ho : l.length = 0 ∨ o = some ⟨g, off, none⟩) (hg : l.length ≠ 0 → g < w.heap.size) (hlc : l.length ≤ cap) (hcm : cap ≤ maxLen) (hn : l.length ≤ 1048576) (hL : Strs w g off l) (hr : refuse l = none) (hs : ∀ t ∈ l, t.length ≤ 200)
    (hC : Calls Tryd.prog 15 #[.slice o l.length cap] w fun e w' => e = .returned (ckV l) ∧ Below w.heap.size w w') :
    Calls Tryd.prog 6 #[.slice o l.length cap] w fun e w' => e = .returned (rbV l) ∧ Below w.heap.size w w' := by
  have HC : Calls Tryd.prog 15 #[.slice o l.length cap] w fun e w' => e = .returned .nilIface ∧ Below w.heap.size w w' := by
    have : ckV l = .nilIface := by unfold ckV; rw [hr]
    rw [this] at hC
    exact hC
  have HV : Hid (rbV l = .tuple #[strT (Lib.uvarint l.length ++ dictE l), .int .i64 0, .int .i64 0]) := rbV_none hr
  have HL : Hid (Strs w g off l) := hL
  have HS : Hid (∀ t ∈ l, t.length ≤ 200) := hs
  have HG : Hid (l.length ≠ 0 → g < w.heap.size) := hg
  have HO : Hid (l.length = 0 ∨ o = some ⟨g, off, none⟩) := ho
  clear hC hr hL hs hg ho
  refine (callsIn_wide (n := 5)).1 ?_
  refine callsIn_of_wp_marks Tryd.func6 rfl trivial ?_ rfl
  simp only [Tryd.ntmps6, List.size_toArray, List.length_cons, List.length_nil, Nat.reduceAdd, Nat.reduceSub, Array.replicate_succ, Array.replicate_zero, List.push_toArray, List.append_toArray, List.nil_append, List.cons_append]
  gi_wp2_with (refine ⟨trivial, ?_⟩; gi_at_call 15; refine (callsIn_wide.2 HC).mono ?_; rintro e w1 ⟨rfl, hb1⟩)
  refine ⟨trivial, ?_⟩
  have HW1 : Hid (Wb w1.heap.size w1.heap.size [] (w1.alloc (.cells #[.pointer none, .slice none 0 0] 50))) := Wb.fresh w1
  have HB1 : Hid (Below w.heap.size w w1) := hb1
  refine (callsIn_wide.2 (number_wr _ w1.heap.size w1.heap.size l.length [] HW1.out (by omega) (by simp) (by simp))).mono ?_
  rintro e w2 ⟨rfl, hw2, hb2⟩
  have HW2 : Hid (Wb w1.heap.size w1.heap.size (Lib.uvarint l.length) w2) := hw2
  have HB2 : Hid (Below w.heap.size w w2) := (HB1.out.alloc HB1.out.size _).trans (hb2.mono HB1.out.size)
  have hlt2 : w1.heap.size < w2.heap.size := hw2.lt
  clear hb1 hw2 hb2
  gi_wp2
  refine ⟨trivial, ?_⟩
  refine (callsIn_wide.2 (chunk_any o l.length cap w2)).mono ?_
  rintro e w3 ⟨rfl, rfl⟩
  gi_wp2
  obtain ⟨W0, hW0⟩ : ∃ W0, (w2.alloc (.cells #[.slice o l.length cap] 22)).alloc (.cells #[.int .i64 4] 3) = W0 := ⟨_, rfl⟩
  obtain ⟨Bs, hBs⟩ : ∃ Bs, w2.heap.size = Bs := ⟨_, rfl⟩
  obtain ⟨b, hb⟩ : ∃ b, w1.heap.size = b := ⟨_, rfl⟩
  have q0 : W0.heap[Bs]? = some (.cells #[.slice o l.length cap] 22) := by
    rw [← hW0, ← hBs]
    exact (Below.heap_alloc _ _ _ (by simp)).trans (World.alloc_heap_new w2 _)
  have q1 : W0.heap[Bs + 1]? = some (.cells #[.int .i64 4] 3) := by
    have := World.alloc_heap_new (w2.alloc (.cells #[.slice o l.length cap] 22)) (.cells #[.int .i64 4] 3)
    rw [World.size_alloc, hW0, hBs] at this
    exact this
  have hsz : W0.heap.size = Bs + 2 := by rw [← hW0, ← hBs]; simp
  have HW0 : Wb b b (Lib.uvarint l.length) W0 := by
    rw [← hb, ← hW0]
    exact HW2.out.kept fun k _ hk => (Below.heap_alloc _ _ _ (by simp; omega)).trans (Below.heap_alloc _ _ _ hk)
  have HB0 : Below w.heap.size w W0 := by
    rw [← hW0]
    exact (HB2.out.alloc HB2.out.size _).alloc (by have := HB2.out.size; simp; omega) _
  have hbw : w.heap.size ≤ b := by rw [← hb]; exact HB1.out.size
  rw [hb] at hlt2
  rw [hBs] at hlt2
  rw [hW0, hBs, hb]
  clear HW1 HW2 HB1 HB2
  refine wpIn_rangeFunc_ownG rfl (by omega) (gf := 40) (lb := #[.pointer (some ⟨Bs, 0, none⟩), .pointer (some ⟨Bs + 1, 0, none⟩)]) rfl trivial (enters_of Tryd.func40 (by kernel_rfl) rfl)
    (chunk_stops (5 - 1) (by omega) Bs g off l.length cap l.length o HO.out hlc hcm (by omega) (by omega) W0 (by omega) (by rw [Lib.cell_of_heap q0]; rfl) (by rw [Lib.cell_of_heap q1]; rfl))
    (fun h k => ⟨k.1.trans h.1, k.2.trans h.2⟩)
    (fun W l' ob ob' hl h _ _ => by
      have hlt := (Array.getElem?_eq_some_iff.1 h).1
      exact ⟨(grownBy_putObj' W l' ob').block Bs (by omega) (fun e => by cases e; omega), (grownBy_putObj' W l' ob').block (Bs + 1) (by omega) (fun e => by cases e; omega)⟩)
    (Below.refl _ _) (fun _ => rfl)
    (fun pre W => (Wb b b (outP l pre) W ∧ W.heap[Bs]? = some (.cells #[.slice o l.length cap] 22) ∧ W.heap[Bs + 1]? = some (.cells #[.int .i64 4] 3)) ∧ Below w.heap.size w W)
    (fun _ _ _ => False)
    (OwnFrom.and (Own.from (fun s A B row hs hg hr => ⟨hs.1.keptC fun k cs t fz hk => (grownBy_keeps_cells hg hr hk rfl).trans hk, (grownBy_keeps_cells hg hr hs.2.1 rfl).trans hs.2.1, (grownBy_keeps_cells hg hr hs.2.2 rfl).trans hs.2.2⟩) _) (ownFrom_below (Nat.le_refl _) (by omega)))
    (fun _ _ _ _ _ hs _ _ => hs)
    ⟨⟨by rw [outP_nil]; exact HW0, q0, q1⟩, HB0⟩
    (fun x => { tmps := #[.slice o l.length cap, undef, .string ⟨#[]⟩, .int .i64 0, .int .i64 0, .nilIface, .pointer (some ⟨b, 0, none⟩), .slice (some ⟨g, off + x.1, none⟩) (min 4 (l.length - x.1)) (min 4 (l.length - x.1)), .slice o l.length cap, .nilIface, .nilIface, .bool false, undef, undef, undef, undef, .slice o l.length cap, .int .i64 l.length, .tuple #[], .slice o l.length cap, .func (.func 40) #[] #[.pointer (some ⟨Bs, 0, none⟩), .pointer (some ⟨Bs + 1, 0, none⟩)], .slice (some ⟨g, off + x.1, none⟩) (min 4 (l.length - x.1)) (min 4 (l.length - x.1)), undef, undef, undef, undef, undef, undef], defers := [] }) ?assign ?body ?done ?stop
  case assign =>
    intro l' x W K hK
    gi_wp2
    exact hK
  case body =>
    rintro l' pre x W ⟨⟨hw, p0, p1⟩, hB⟩ hlen
    have hx := x.2
    have hgl : g < W.heap.size := Nat.lt_of_lt_of_le (HG.out (by omega)) hB.size
    have hll : ((l.drop x.1).take 4).length = min 4 (l.length - x.1) := by simp
    have HP : Calls Tryd.prog 21 #[.slice (some ⟨g, off + x.1, none⟩) (min 4 (l.length - x.1)) (min 4 (l.length - x.1))] W fun e w' => e = .returned (strT (blockE ((l.drop x.1).take 4))) ∧ Below W.heap.size W w' := by
      have := pack_any W g (off + x.1) (min 4 (l.length - x.1)) ((l.drop x.1).take 4) (by intro e; rw [e] at hll; simp at hll; omega) (by omega) (by omega) (by unfold maxLen; omega) (fun t ht => HS.out t (List.mem_of_mem_drop (List.mem_of_mem_take ht))) hgl (fun k t hk => by
        have h4 : k < 4 := by have := (List.getElem?_eq_some_iff.1 hk).1; omega
        rw [List.getElem?_take_of_lt h4, List.getElem?_drop] at hk
        have := (HL.out.below (HG.out (by omega)) hB) (x.1 + k) t hk
        rw [← Nat.add_assoc] at this
        exact this)
      rw [hll] at this
      exact this
    gi_wp2_with (refine ⟨trivial, ?_⟩; gi_at_call 21; refine (CallsIn.inRound l' (callsIn_wide.2 HP)).mono ?_; rintro e W1 ⟨rfl, hb1⟩)
    have hw1 : Wb b b (outP l pre) W1 := hw.kept fun k _ hk => hb1.block k hk
    have hol := outP_len l hn HS.out pre
    have hbl := blockE_len ((l.drop x.1).take 4) (by omega) (fun t ht => HS.out t (List.mem_of_mem_drop (List.mem_of_mem_take ht)))
    have hbW : b ≤ W1.heap.size := Nat.le_of_lt hw1.lt
    refine ⟨trivial, ?_⟩
    refine (CallsIn.inRound l' (callsIn_wide.2 (wstring_k W1 b b (outP l pre) ⟨(blockE ((l.drop x.1).take 4)).toArray⟩ hw1 (by rw [arrSize]; omega) hbW))).mono ?_
    rintro e W2 ⟨⟨m, rfl⟩, hw2, hb2, hk2⟩
    have hw2' : Wb b b (outP l (pre ++ [x])) W2 := by rw [outP_snoc]; exact hw2
    have hBW2 : Below w.heap.size w W2 := (hB.trans (hb1.mono hB.size)).trans (hb2.mono hbw)
    have p0' : W1.heap[Bs]? = some (.cells #[.slice o l.length cap] 22) := (hb1.block Bs (Array.getElem?_eq_some_iff.1 p0).1).trans p0
    have p1' : W1.heap[Bs + 1]? = some (.cells #[.int .i64 4] 3) := (hb1.block (Bs + 1) (Array.getElem?_eq_some_iff.1 p1).1).trans p1
    have r0 : W2.heap[Bs]? = some (.cells #[.slice o l.length cap] 22) := hk2 Bs _ p0' (by intro e; cases e; omega) (fun c fz e => by cases e)
    have r1 : W2.heap[Bs + 1]? = some (.cells #[.int .i64 4] 3) := hk2 (Bs + 1) _ p1' (by intro e; cases e; omega) (fun c fz e => by cases e)
    have hko : KeepsOthers W W2 := by
      refine ⟨Nat.le_trans hb1.size hb2.size, fun k ob hk ho => ?_⟩
      refine hk2 k ob ((hb1.block k (Array.getElem?_eq_some_iff.1 hk).1).trans hk) ?_ (fun c fz e => by rw [e] at ho; cases ho)
      intro e
      cases e
      obtain ⟨cs, t, fz, hbb⟩ := hw.block
      rw [hbb] at hk
      cases hk
      cases ho
    gi_wp2
    exact ⟨hko.from _, ⟨r0.trans p0.symm, r1.trans p1.symm⟩, ⟨hw2', r0, r1⟩, hBW2⟩
  case done =>
    rintro D ys W hD ⟨k, hk1, hk2, rfl⟩ ⟨⟨hw, _, _⟩, hB⟩ hK
    have hall := outP_all l k hk2
    rw [List.drop_eq_nil_of_le hk1, dictE_nil, List.append_nil] at hall
    gi_wp2_with (refine ⟨trivial, ?_⟩; gi_at_call 22; refine (callsIn_wide.2 (bstring_k W b b _ hw (outP_ne l _))).mono ?_; rintro e W1 ⟨rfl, hb1, hk1'⟩)
    have hK1 : W1.heap[D]? = some (.deferred (some [])) := hk1' D _ hK (by intro e; cases e; obtain ⟨cs, t, fz, hbb⟩ := hw.block; rw [hbb] at hK; cases hK) (fun c fz e => by cases e)
    refine ⟨by simp, .inl ⟨_, _, rfl, run_takeDeferred hK1, ?_⟩⟩
    have hBf : Below w.heap.size w W1 := hB.trans (hb1.mono hbw)
    refine ⟨_, results_tmp3 Tryd.results6 _ _ _, ?_, hBf.trans (belowK_b (w := w) (Nat.le_refl _) W1 D _ _ (by omega) hK1 rfl rfl)⟩
    rw [HV.out, ← hall]
    rfl
  case stop =>
    rintro D c pre W _ _ h _
    exact h.elim

end Go.Proofs.YtnffjoipinhojabDoor
