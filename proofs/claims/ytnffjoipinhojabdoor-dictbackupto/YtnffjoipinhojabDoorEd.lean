import Derived.Test.YtnffjoipinhojabDoorEc
import Derived.Deep.RegionLaw
set_option linter.unusedSimpArgs false
set_option linter.unusedVariables false
namespace Go.Proofs.YtnffjoipinhojabDoor
open Go.RowKit

theorem less_comn : ∀ {a t : List UInt8}, Op.bytesLess a t = true → comn a t < t.length
  | [], [], h => by simp [Op.bytesLess] at h
  | [], y :: t, _ => by simp [comn]
  | x :: a, [], h => by simp [Op.bytesLess] at h
  | x :: a, y :: t, h => by
    simp only [comn, List.length_cons]
    split
    · rename_i e
      subst e
      have : Op.bytesLess a t = true := by
        simp only [Op.bytesLess, Bool.or_eq_true, decide_eq_true_eq, Bool.and_eq_true] at h
        rcases h with h | h
        · exact absurd h (UInt8.lt_irrefl _)
        · exact h.2
      have := less_comn this
      omega
    · omega
theorem comn_take : ∀ (a t : List UInt8), a.take (comn a t) = t.take (comn a t)
  | [], t => by simp [comn]
  | x :: a, [] => by simp [comn]
  | x :: a, y :: t => by
    simp only [comn]
    split
    · rename_i e
      subst e
      simp [comn_take a t]
    · simp

/-- texts that rise: each beyond the one ahead -/
def Rise2 : List (List UInt8) → Prop
  | a :: b :: r => Op.bytesLess a b = true ∧ Rise2 (b :: r)
  | _ => True
theorem rise2_of : ∀ {l : List (List UInt8)} {q : Nat}, orderAt q l = none → Rise2 l
  | [], _, _ => trivial
  | [a], _, _ => trivial
  | a :: b :: r, q, h => by
    unfold orderAt at h
    split at h
    · rename_i hx
      exact ⟨hx, rise2_of h⟩
    · cases h
theorem Rise2.at : ∀ {l : List (List UInt8)} {k : Nat} {a b : List UInt8}, Rise2 l → l[k]? = some a → l[k + 1]? = some b → Op.bytesLess a b = true
  | [], k, a, b, _, ha, _ => by simp at ha
  | [x], 0, a, b, _, _, hb => by simp at hb
  | [x], k + 1, a, b, _, ha, _ => by simp at ha
  | x :: y :: r, 0, a, b, h, ha, hb => by
    simp at ha hb
    subst ha hb
    exact h.1
  | x :: y :: r, k + 1, a, b, h, ha, hb => Rise2.at (l := y :: r) (k := k) h.2 (by simpa using ha) (by simpa using hb)

/-- append as one step of a region, of what it yields -/
theorem step_append_run {P : Program} {ops : Array Oper} {o : Oper} {a : Act} {w : World} {K : Act → World → Prop} {Q : Exit → Act → World → Prop} {E : Prop} (hgd : o.guard = none) (s x : Operand) (t u ty : TypeId)
    (ho : o.op = .call { callee := .builtin .append, args := #[s, x], argTypes := #[t, u] }) (hty : o.type = ty) (v1 v2 v3 : Value) (w1 : World) (hs : a.eval s = v1) (hx : a.eval x = v2)
    (hr : (Builtin.append_ #[t, u] ty #[v1, v2]).run P w = .ok v3 w1) (hK : K (a.put o.dst v3) w1) : if Region.wanted o (yielded ops a.tmps) = true then Oper.wp P o a w K Q else E := by
  have hw : Region.wanted o (yielded ops a.tmps) = true := by simp [Region.wanted, hgd]
  rw [if_pos hw]
  unfold Oper.wp
  simp [execOp, ho, hty, resolve, invoke, builtin, hs, hx, hr, Result.andThen]
  exact hK

set_option maxHeartbeats 4000000 in
set_option maxRecDepth 20000 in
theorem readBlock_any (w : World) (rb i left : Nat) (D : ByteArray) (t0 : List UInt8) (r : List (List UInt8)) (post : List UInt8) (hR : Rs rb D i w) (hd : D.data.toList.drop i = blockE (t0 :: r) ++ post) (hi : i ≤ D.size) (hD : D.size ≤ 140737488355328)
    (hl : min left 4 = r.length + 1) (hris : Rise2 (t0 :: r)) (hs : ∀ t ∈ t0 :: r, t.length ≤ 200) (hlm : left ≤ 9223372036854775807) :
    Calls Tryd.prog 47 #[.pointer (some ⟨rb, 0, none⟩), .int .i64 left] w fun e w' => ∃ u, e = .returned u ∧ OwnT w' w.heap.size u (t0 :: r) ∧ Rs rb D (i + (blockE (t0 :: r)).length) w' ∧ Fm rb w w' := by
  have hrl := hR.lt
  have hlenD : D.data.toList.length = D.size := Array.length_toList
  have hfull := congrArg List.length hd
  simp only [List.length_drop, List.length_append, hlenD] at hfull
  have HS : Hid (∀ t ∈ t0 :: r, t.length ≤ 200) := hs
  have HRi : Hid (Rise2 (t0 :: r)) := hris
  have HD : Hid (D.data.toList.drop i = blockE (t0 :: r) ++ post) := hd
  have HT0 : Hid (Calls Tryd.prog 53 #[.pointer (some ⟨rb, 0, none⟩)] w fun e w' => e = .returned (strT t0) ∧ Rs rb D (i + ((Lib.uvarint t0.length).length + t0.length)) w' ∧ Fm rb w w') := text_rd w rb i D t0 (tailE t0 r ++ post) hR (by rw [hd, blockE]; simp) hi hD
  have hmin : min (left : Int) 4 = (r.length : Int) + 1 := by omega
  have hw1 : IntKind.i64.wrap ((r.length : Int) + 1 - 1) = (r.length : Int) := by rw [IntKind.wrap_i64]; omega
  clear hd hR hs hris
  go_enter Tryd.func47, Tryd.ntmps47
  go_wp2_with fail
  refine HT0.out.mono ?_
  rintro e w1 ⟨rfl, hR1, hF1⟩
  obtain ⟨v0, w2, hcv, hbt, hb2⟩ := bts_of_string w1 t0
  have HR2 : Hid (Rs rb D (i + ((Lib.uvarint t0.length).length + t0.length)) w2) := hR1.below hb2
  have HF2 : Hid (Fm rb w w2) := hF1.trans (Fm.of_below hb2)
  have HBt : Hid (BtA w.heap.size w2 v0 t0) := by
    obtain ⟨b, c, h1, h2, h3⟩ := hbt
    exact ⟨b, c, h1, Nat.le_trans hF1.size h2, h3⟩
  obtain ⟨b0, c0, rfl, _⟩ := hbt
  clear hR1 hF1 hb2 HT0
  have HO2 : Hid ((w2.alloc (.cells #[.slice (some ⟨b0, 0, none⟩) t0.length c0] 46)).ownsRow w.heap.size 46 1 (.slice (some ⟨w2.heap.size, 0, none⟩) 1 1) 1 [.slice (some ⟨b0, 0, none⟩) t0.length c0]) :=
    ⟨rfl, .inr ⟨w2.heap.size, 1, _, rfl, HF2.out.size, World.alloc_heap_new w2 _, by omega, by unfold maxLen; omega, rfl, rfl⟩⟩
  have HB3 : Hid (Below w2.heap.size w2 (w2.alloc (.cells #[.slice (some ⟨b0, 0, none⟩) t0.length c0] 46))) := (Below.refl _ w2).alloc (Nat.le_refl _) _
  go_wp2_with fail
  go_loopw [5, 6, 16] (fun t5 t6 t16 wr => ∃ (k : Nat) (a : List UInt8) (b c : Nat) (o : Option Addr) (tc : Nat) (vs : List Value) (j : Nat), k ≤ r.length ∧ t16 = .int .i64 k ∧ t5 = .slice (some ⟨b, 0, none⟩) a.length c ∧ t6 = .slice o (k + 1) tc ∧ (t0 :: r)[k]? = some a ∧ BtA w.heap.size wr (.slice (some ⟨b, 0, none⟩) a.length c) a ∧
      wr.ownsRow w.heap.size 46 1 (.slice o (k + 1) tc) (k + 1) vs ∧ Bts w.heap.size wr vs ((t0 :: r).take (k + 1)) ∧ Rs rb D j wr ∧ j + (tailE a (r.drop k)).length = i + (blockE (t0 :: r)).length ∧ D.data.toList.drop j = tailE a (r.drop k) ++ post ∧ Fm rb w wr) (fun t5 t6 t16 wr => r.length - (intOf t16).toNat)
  case atStart =>
    refine ⟨0, t0, b0, c0, _, _, [.slice (some ⟨b0, 0, none⟩) t0.length c0], _, Nat.zero_le _, rfl, rfl, rfl, rfl, HBt.out.kept HB3.out.size (fun k _ hk => HB3.out.block k hk), HO2.out, ⟨rfl, fun j u t hu ht => ?_⟩, HR2.out.below HB3.out, ?_, ?_, HF2.out.trans (Fm.of_below HB3.out)⟩
    · match j, hu with
      | 0, hu =>
        simp at hu ht
        subst hu ht
        exact HBt.out.kept HB3.out.size (fun k _ hk => HB3.out.block k hk)
    · simp [blockE]; omega
    · rw [← List.drop_drop, HD.out, blockE]
      rw [show (Lib.uvarint t0.length ++ t0 ++ tailE t0 r ++ post) = (Lib.uvarint t0.length ++ t0) ++ (tailE t0 r ++ post) by simp, ← List.length_append, List.drop_left]
      rfl
  case round =>
    obtain ⟨k, a, b, c, o, tc, vs, j, hk, rfl, rfl, rfl, ha, hbt, hown, hbts, hRs, hj, hdj, hF⟩ := hrel
    have hjD : j ≤ D.size := by
      have := congrArg List.length hdj
      simp only [List.length_drop, List.length_append, hlenD] at this
      have hle : i + (blockE (t0 :: r)).length ≤ D.size := by omega
      omega
    have HBT : Hid (BtA w.heap.size wr (.slice (some ⟨b, 0, none⟩) a.length c) a) := hbt
    have HOW : Hid (wr.ownsRow w.heap.size 46 1 (.slice o (k + 1) tc) (k + 1) vs) := hown
    have HBS : Hid (Bts w.heap.size wr vs ((t0 :: r).take (k + 1))) := hbts
    have HRS : Hid (Rs rb D j wr) := hRs
    have HFM : Hid (Fm rb w wr) := hF
    have HDJ : Hid (D.data.toList.drop j = tailE a (r.drop k) ++ post) := hdj
    have HA : Hid ((t0 :: r)[k]? = some a) := ha
    have HJ : Hid (j + (tailE a (r.drop k)).length = i + (blockE (t0 :: r)).length) := hj
    clear hbt hown hbts hRs hF hdj ha hj HBt HO2 HB3 HR2 HF2 hcv
    by_cases hlt : k < r.length
    · obtain ⟨t, ht⟩ : ∃ t, r[k]? = some t := ⟨_, List.getElem?_eq_getElem hlt⟩
      have ht1 : (t0 :: r)[k + 1]? = some t := by simpa using ht
      have hless := HRi.out.at HA.out ht1
      have hcl := less_comn hless
      have hca := comn_le a t
      have hst : t.length ≤ 200 := HS.out t (List.mem_of_getElem? ht1)
      have hsa : a.length ≤ 200 := HS.out a (List.mem_of_getElem? HA.out)
      have hdr : r.drop k = t :: r.drop (k + 1) := by
        rw [List.drop_eq_getElem_cons hlt]
        congr 1
        exact (List.getElem?_eq_some_iff.1 ht).2
      obtain ⟨q, hq⟩ : ∃ q, q = comn a t := ⟨_, rfl⟩
      have htk : a.take q ++ t.drop q = t := by rw [hq, comn_take, List.take_append_drop]
      have hdl : (t.drop q).length = t.length - q := List.length_drop
      have hen : enc4 a t = Lib.uvarint q ++ (Lib.uvarint (t.drop q).length ++ t.drop q) := by
        unfold enc4
        rw [← hq, hdl]
        simp
      have hd1 : D.data.toList.drop j = Lib.uvarint q ++ ((Lib.uvarint (t.drop q).length ++ t.drop q) ++ (tailE t (r.drop (k + 1)) ++ post)) := by
        rw [HDJ.out, hdr, tailE, hen]
        simp
      have hj1 := congrArg List.length hd1
      simp only [List.length_drop, List.length_append, hlenD] at hj1
      obtain ⟨j1, hj1e⟩ : ∃ j1, j1 = j + (Lib.uvarint q).length := ⟨_, rfl⟩
      have hd2 : D.data.toList.drop j1 = Lib.uvarint (t.drop q).length ++ t.drop q ++ (tailE t (r.drop (k + 1)) ++ post) := by
        rw [hj1e, ← List.drop_drop, hd1, List.drop_left]
      obtain ⟨j2, hj2e⟩ : ∃ j2, j2 = j1 + ((Lib.uvarint (t.drop q).length).length + (t.drop q).length) := ⟨_, rfl⟩
      have HD3 : Hid (D.data.toList.drop j2 = tailE t (r.drop (k + 1)) ++ post) := by
        unfold Hid
        rw [hj2e, ← List.drop_drop, hd2, ← List.length_append, List.drop_left]
      have HJ2 : Hid (j2 + (tailE t (r.drop (k + 1))).length = i + (blockE (t0 :: r)).length) := by
        unfold Hid
        have := HJ.out
        rw [hdr, tailE, hen] at this
        simp only [List.length_append] at this
        omega
      have HNu : Hid (Calls Tryd.prog 45 #[.pointer (some ⟨rb, 0, none⟩)] wr fun e w' => e = .returned (.int .i64 q) ∧ Rs rb D j1 w' ∧ Fm rb wr w') := by
        have := number_rd wr rb j q D _ HRS.out hd1 (by omega) hjD hD
        rw [← hj1e] at this
        exact this
      have HTx : Hid (∀ w1, Rs rb D j1 w1 → Calls Tryd.prog 53 #[.pointer (some ⟨rb, 0, none⟩)] w1 fun e w' => e = .returned (strT (t.drop q)) ∧ Rs rb D j2 w' ∧ Fm rb w1 w') := fun w1 h1 => by
        have := text_rd w1 rb j1 D (t.drop q) _ h1 hd2 (by omega) hD
        rw [← hj2e] at this
        exact this
      have hne : t.drop q ≠ [] := by
        intro e
        rw [e] at hdl
        simp at hdl
        omega
      have HAp : Hid (∀ w1, b < w1.heap.size → BtA w.heap.size w1 (.slice (some ⟨b, 0, none⟩) a.length c) a → ∃ b2 c2 w2, (Builtin.append_ #[46, 9] 46 #[.slice (some ⟨b, 0, none⟩) q q, strT (t.drop q)]).run Tryd.prog w1 = .ok (.slice (some ⟨b2, 0, none⟩) t.length c2) w2 ∧ BtA w1.heap.size w2 (.slice (some ⟨b2, 0, none⟩) t.length c2) t ∧ Below w1.heap.size w1 w2) := fun w1 hb1 h1 => by
        obtain ⟨b', c', h2, _, _, _, h5⟩ := h1
        cases h2
        obtain ⟨v, w2, g1, g2, g3⟩ := bts_append w1 0 b q 0 a (t.drop q) (by omega) hne (by omega) (by omega) hb1 h5
        rw [htk] at g2
        have g2' := g2
        obtain ⟨b2, c2, g4, _⟩ := g2
        subst g4
        exact ⟨b2, c2, w2, g1, g2', g3⟩
      rw [← hq] at hcl hca
      have hqa : (q : Int) ≤ (a.length : Int) := by omega
      have hq0 : (0 : Int) ≤ (q : Int) := by omega
      have mixed : Tryd.prog.follows Departure.mixedOrders = true := by kernel_rfl
      obtain ⟨_, _, he1, hbb, ⟨_, _, hbl0⟩, hcc, _⟩ := HBT.out
      cases he1
      have hbl := (Array.getElem?_eq_some_iff.1 hbl0).1
      clear hbl0
      have hqc : (q : Int) ≤ (c : Int) := by omega
      have HT1 : Hid ((t0 :: r)[k + 1]? = some t) := ht1
      obtain ⟨X, hX⟩ : ∃ X, X = t.drop q := ⟨_, rfl⟩
      rw [← hX] at HTx HAp
      clear hd1 hd2 hj1 hen htk hdl hne hdr HJ HDJ ht ht1 hless hX hq hj1e hj2e
      go_wp2_with fail
      refine HNu.out.mono ?_
      rintro e w1 ⟨rfl, hR1, hF1⟩
      have HR1 : Hid (Rs rb D j1 w1) := hR1
      have HF1 : Hid (Fm rb wr w1) := hF1
      clear hR1 hF1
      have HKe : Hid (∀ w2, Fm rb w1 w2 → b < w2.heap.size ∧ BtA w.heap.size w2 (.slice (some ⟨b, 0, none⟩) a.length c) a) := fun w2 h2 => by
        have h3 := HF1.out.trans h2
        exact ⟨Nat.lt_of_lt_of_le hbl h3.size, HBT.out.kept h3.size (fun x hx1 hx2 => h3.block x hx2 (fun e => by cases e; omega))⟩
      go_wp2_with fail
      go_region_law (first | (refine step_append_run rfl (.tmp 31) (.tmp 33) 46 9 46 rfl rfl (.slice (some ⟨b, 0, none⟩) q q) (strT X) (.slice (some ⟨b3, 0, none⟩) t.length c3) w3 (by simp [Act.eval, Act.put]) (by simp [Act.eval, Act.put]) hap ?_) | (go_simp; go_at_call 53; refine (HTx.out w1.drew HR1.out).mono ?_; rintro e2 w2 ⟨rfl, hR2, hF2⟩; obtain ⟨b3, c3, w3, hap, hbt3, hb3⟩ := HAp.out w2 (HKe.out w2 ((Fm.refl rb w1).drew.trans hF2)).1 (HKe.out w2 ((Fm.refl rb w1).drew.trans hF2)).2))
      have hF13 : Fm rb w w3 := (HFM.out.trans (HF1.out.trans ((Fm.refl rb w1).drew.trans hF2))).trans (Fm.of_below hb3)
      have hFr3 : Fm rb wr w3 := (HF1.out.trans ((Fm.refl rb w1).drew.trans hF2)).trans (Fm.of_below hb3)
      have HFM3 : Hid (Fm rb w w3) := hF13
      have hkeep : ∀ x, w.heap.size ≤ x → x < wr.heap.size → w3.heap[x]? = wr.heap[x]? := fun x h1 h2 => hFr3.block x h2 (fun e => by cases e; omega)
      have HBT3 : Hid (BtA w.heap.size w3 (.slice (some ⟨b3, 0, none⟩) t.length c3) t) := by
        obtain ⟨b', c', g1, g2, g3⟩ := hbt3
        have hsz : w.heap.size ≤ w2.heap.size := Nat.le_trans HFM.out.size (Nat.le_trans HF1.out.size hF2.size)
        exact ⟨b', c', g1, Nat.le_trans hsz g2, g3⟩
      have HOW3 : Hid (w3.ownsRow w.heap.size 46 1 (.slice o (k + 1) tc) (k + 1) vs) := row_kept HOW.out hkeep
      have HBS3 : Hid (Bts w.heap.size w3 vs ((t0 :: r).take (k + 1))) := ⟨HBS.out.1, fun x u y h1 h2 => (HBS.out.2 x u y h1 h2).kept hFr3.size hkeep⟩
      have HR3 : Hid (Rs rb D j2 w3) := hR2.below hb3
      have hws : w.heap.size ≤ w3.heap.size := hF13.size
      have hoA := HOW3.out.alloc (.cells #[.slice (some ⟨b3, 0, none⟩) t.length c3] 46)
      obtain ⟨i0, hi0, hz0, hz1, hz2⟩ := info_parts infoBts
      clear hR2 hF2 hap hbt3 hb3 hF13 hFr3 hkeep HOW HBS HRS HFM HBT HR1 HF1 HKe HAp HTx HNu
      go_wp2_with (first
        | (at_builtin; refine wpList_append_own _ (by rfl) _ _ _ (by rfl) w.heap.size 46 i0 _ 1 24 Tryd.underlying117 hi0 hz0 hz1 hz2 rfl (by decide) (.slice o (k + 1) tc) (k + 1) vs (by rfl) hoA ⟨w3.heap.size, 0, none⟩ 1 1 [.slice (some ⟨b3, 0, none⟩) t.length c3] (by rfl) (by rfl) (one_new _ _ _) (by simp [Value.oneCell']) (by unfold maxLen; omega) (by omega) (by simp; omega) ?_; intro v5 w5 ho5 hg5 hi5))
      obtain ⟨o5, c5, hv5⟩ := row_form ho5
      subst hv5
      have hk5 : ∀ x, w.heap.size ≤ x → x < w3.heap.size → (∀ y, (Value.slice o (k + 1) tc).ownBlock = some y → x ≠ y) → w5.heap[x]? = w3.heap[x]? := fun x h1 h2 h3 => (hg5.block x (by simp; omega) (fun e => h3 x e.symm rfl)).trans (Below.heap_alloc _ _ _ h2)
      go_roundw
      case rel =>
        have hrow : ∀ y, (Value.slice o (k + 1) tc).ownBlock = some y → w.heap.size ≤ y ∧ ∃ cs, w3.heap[y]? = some (.cells cs 46 (0, 0)) := fun y hy => by
          rcases HOW3.out.2 with ⟨e1, _⟩ | ⟨g, cap, cur, e1, e2, e3, _⟩
          · cases e1
          · cases e1
            cases hy
            exact ⟨e2, cur, e3⟩
        have hk6 : ∀ x, w.heap.size ≤ x → x < w3.heap.size → (∀ cs fz, w3.heap[x]? ≠ some (.cells cs 46 fz)) → w5.heap[x]? = w3.heap[x]? := fun x h1 h2 h3 => hk5 x h1 h2 (fun y hy e => by
          obtain ⟨_, cs, hc⟩ := hrow y hy
          subst e
          exact h3 cs _ hc)
        have hlow : ∀ x, x < w.heap.size → w5.heap[x]? = w3.heap[x]? := fun x h1 => (hg5.block x (by simp; omega) (fun e => by have := (hrow x e.symm).1; omega)).trans (Below.heap_alloc _ _ _ (by omega))
        refine ⟨k + 1, t, b3, c3, o5, c5, vs ++ [.slice (some ⟨b3, 0, none⟩) t.length c3], j2, by omega, by go_num, rfl, rfl, HT1.out, HBT3.out.keptN (by decide) hk6, ho5, ?_, (hlow rb hrl).trans HR3.out, HJ2.out, HD3.out, ?_⟩
        · have hl1 := HBS3.out.1
          have htk : (t0 :: r).take (k + 1 + 1) = (t0 :: r).take (k + 1) ++ [t] := by rw [List.take_add_one, HT1.out]; rfl
          rw [htk]
          refine ⟨by simp only [List.length_append, hl1, List.length_cons, List.length_nil], fun x u y hu hy => ?_⟩
          by_cases hx : x < vs.length
          · rw [List.getElem?_append_left hx] at hu
            rw [List.getElem?_append_left (by omega)] at hy
            exact (HBS3.out.2 x u y hu hy).keptN (by decide) hk6
          · rw [List.getElem?_append_right (by omega)] at hu
            rw [List.getElem?_append_right (by omega)] at hy
            have e0 : x - vs.length = 0 := by
              have := (List.getElem?_eq_some_iff.1 hu).1
              simp at this
              omega
            rw [e0] at hu
            rw [show x - (List.take (k + 1) (t0 :: r)).length = 0 by omega] at hy
            simp at hu hy
            subst hu hy
            exact HBT3.out.keptN (by decide) hk6
        · exact ⟨hg5.os.trans HFM3.out.os, hg5.tape.trans HFM3.out.tape, hg5.output.trans HFM3.out.output, Nat.le_trans hws (Nat.le_trans (by simp) hg5.size), fun x h1 h2 => (hlow x h1).trans (HFM3.out.block x h1 h2)⟩
      case measure => simp [intOf]; omega
    · obtain rfl : k = r.length := by omega
      have hj0 : j = i + (blockE (t0 :: r)).length := by
        have := HJ.out
        rw [List.drop_length, tailE] at this
        simpa using this
      have htl : (t0 :: r).take (r.length + 1) = t0 :: r := by simp
      have hvl : vs.length = r.length + 1 := by
        have := HOW.out.1
        omega
      have HAs : Hid (Calls Tryd.prog 64 #[.slice o (r.length + 1) tc] wr fun e w' => ∃ u, e = .returned u ∧ OwnT w' wr.heap.size u (t0 :: r) ∧ Below wr.heap.size wr w') := by
        have hb' := HBS.out
        rw [htl] at hb'
        refine asStrings_any wr w.heap.size _ vs (t0 :: r) (by rw [hvl]; exact HOW.out) hb' ?_ (by simp) HFM.out.size
        have : r.length ≤ 3 := by omega
        simp
        omega
      have HRj : Hid (Rs rb D (i + (blockE (t0 :: r)).length) wr) := by unfold Hid; rw [← hj0]; exact HRS.out
      clear HJ HDJ HOW HBS HBT HRS hj0
      go_wp2_with fail
      refine HAs.out.mono ?_
      rintro e w5 ⟨u, rfl, hou, hb5⟩
      have HF5 : Hid (OwnT w5 w.heap.size u (t0 :: r) ∧ Rs rb D (i + (blockE (t0 :: r)).length) w5 ∧ Fm rb w w5) := by
        refine ⟨⟨hou.1, hou.2.elim .inl fun ⟨g, cap, cur, e1, e2, e3⟩ => .inr ⟨g, cap, cur, e1, Nat.le_trans HFM.out.size e2, e3⟩⟩, HRj.out.below hb5, HFM.out.trans (Fm.of_below hb5)⟩
      obtain ⟨ou, cu, hu⟩ := row_form hou
      subst hu
      clear hou hb5
      go_wp2_with fail
      go_ret
      exact ⟨_, rfl, HF5.out⟩

end Go.Proofs.YtnffjoipinhojabDoor
