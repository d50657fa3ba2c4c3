import Derived.Test.YtnffjoipinhojaaDoorPa
namespace Go.Proofs.YtnffjoipinhojaaDoor
open Go.RowKit

/-- 'append(l, list...)', l nil -/
theorem copy_list (xs : List Int) (v : Value) (w : World) (hv : Ints w v xs) (hl : xs.length ≤ 16000000000) :
    ∃ l w1, (Builtin.append_ #[32, 32] 32 #[.slice none 0 0, v]).run Tryd.prog w = .ok l w1 ∧ Own w1 w.heap.size l xs ∧ Below w.heap.size w w1 := by
  obtain ⟨i0, hi, hz0, hz1, hz2⟩ := info_parts info3
  rcases hv with ⟨a0, cap0, rfl, rfl⟩ | ⟨b, off, cap, rfl, hc⟩
  · refine ⟨.slice none 0 0, w, ?_, World.ownsRow_nil _ _ _ _, Below.refl _ _⟩
    cases a0 with
    | none => simp [Builtin.append_, run_underlying Tryd.underlying32, sizeOf, typeInfo, hi, Builtin.lenOf, Builtin.firstCells]
    | some a =>
      have h0 := run_loadCells_list (P := Tryd.prog) w a [] (fun j u hj => by simp at hj)
      simp only [List.length_nil] at h0
      simp [Builtin.append_, run_underlying Tryd.underlying32, sizeOf, typeInfo, hi, Builtin.lenOf, Builtin.firstCells, h0]
  · obtain ⟨l, w1, h1, h2, h3, _⟩ := run_append_own (P := Tryd.prog) w w.heap.size 32 32 3 i0 (.int .i64 0) 1 8 Tryd.underlying32 hi hz0 hz1 hz2 rfl (by decide) (.slice none 0 0) 0 [] (World.ownsRow_nil _ _ _ _) ⟨b, off, none⟩ xs.length cap (xs.map (Value.int .i64)) (by simp)
      (fun j u hj => by
        have hjl : j < xs.length := by
          rcases Nat.lt_or_ge j xs.length with h | h
          · exact h
          · rw [List.getElem?_eq_none (by simpa using h)] at hj; cases hj
        have hplain : (⟨b, off, none⟩ : Addr).add j = ⟨b, off + j, none⟩ := by unfold Addr.add; split <;> simp_all
        rw [hplain, hc j hjl]
        rw [List.getElem?_map, List.getElem?_eq_getElem hjl] at hj
        simp at hj
        rw [← hj]
        simp [List.getD_eq_getElem?_getD, List.getElem?_eq_getElem hjl])
      (fun u hu => by obtain ⟨y, _, rfl⟩ := List.mem_map.1 hu; rfl) (by unfold maxLen; omega) (by omega) (Nat.le_refl _)
    refine ⟨l, w1, h1, ?_, Below.grown (Below.refl _ _) h3 (Nat.le_refl _) (fun k hk => by simp [Value.ownBlock] at hk)⟩
    simpa [Own] using h2

theorem wpList_append_eq {ops : Array Oper} {rest : List Oper} {o : Oper} {a : Act} {Q : Exit → Act → World → Prop} {w w1 : World} {v l : Value} (hgd : o.guard = none) (s x : Operand)
    (ho : o.op = .call { callee := .builtin .append, args := #[s, x], argTypes := #[32, 32] }) (hty : o.type = 32) (hs : a.eval s = .slice none 0 0) (hx : a.eval x = v)
    (hr : (Builtin.append_ #[32, 32] 32 #[.slice none 0 0, v]).run Tryd.prog w = .ok l w1) (h : wpList Tryd.prog ops Q rest (a.put o.dst l) w1) : wpList Tryd.prog ops Q (o :: rest) a w :=
  wpList_plain hgd fun _ hK => by
    unfold Oper.wp execOp
    simp only [ho, hty, resolve, invoke, builtin, Sem.run_bind, Sem.run_pure, Result.andThen_ok, List.map_toArray, List.map_cons, List.map_nil, hs, hx, hr]
    exact hK _ _ h

theorem hide {p : Prop} (h : p) : Hid p := h
theorem own_base {w : World} {base base' : Nat} {v : Value} {xs : List Int} (h : Own w base v xs) (hb : base' ≤ base) : Own w base' v xs :=
  ⟨h.1, h.2.elim Or.inl fun ⟨g, cap, cur, hv, hg, r⟩ => Or.inr ⟨g, cap, cur, hv, Nat.le_trans hb hg, r⟩⟩
theorem own_cell {w : World} {base g cap k : Nat} {ys : List Int} (h : Own w base (.slice (some ⟨g, 0, none⟩) ys.length cap) ys) (hk : k < ys.length) : w.cell? ⟨g, k, none⟩ = some (.int .i64 (ys.getD k 0)) := by
  rw [World.ownsRow.cellAt h k (by omega)]
  simp [hk]
theorem own_store {w : World} {base g cap k : Nat} {ys : List Int} (h : Own w base (.slice (some ⟨g, 0, none⟩) ys.length cap) ys) (x : Int) : Own (w.setCell ⟨g, k, none⟩ (.int .i64 x)) base (.slice (some ⟨g, 0, none⟩) ys.length cap) (ys.set k x) := by
  have h1 := (World.ownsRow.stored h k (.int .i64 x)).1
  unfold Own
  rw [List.length_set, List.map_set]
  exact h1
theorem packed_size {d : Nat} {xs : List Int} {bs : List UInt8} (h : Packed d xs bs) (h2 : d ≤ 62) (hl : xs.length ≤ 1048576) : (⟨bs.toArray⟩ : ByteArray).size ≤ 1000000000 := by
  have h1 : xs.length * d ≤ 1048576 * 62 := Nat.mul_le_mul hl h2
  have h3 := h.1
  show bs.toArray.size ≤ _
  rw [List.size_toArray]
  omega
theorem nums_small {s : ByteArray} {d c : Int} (h : UnOk s.data.toList d c) (hs : s.size ≤ 1048576) : (Nums (Plain.val s.data.toList) d.toNat c.toNat).length ≤ 16000000000 := by
  obtain ⟨h1, h2, h3, h4⟩ := h
  have h5 := (fit_le h4 (by omega)).1
  have e : s.data.toList.length = s.size := by simp
  rw [nums_len]
  omega

set_option maxHeartbeats 1600000 in
set_option maxRecDepth 20000 in
theorem packs_wide (xs : List Int) (d : Int) (n : Int) (s : ByteArray) (c : Int) (v : Value) (w : World) (hg : Handle w) (hv : Ints w v xs) (hx : ∀ i, I64 (xs.getD i 0)) (hl : xs.length ≤ 1048576) (hd : d < 1 ∨ 62 < d) (hs : s.size ≤ 1048576) (hc : c ≤ 9223372036854775807) (hun : UnErr s.data.toList d c n) :
    Calls Tryd.prog 4 #[v, .int .i64 d, .string s, .int .i64 c] w fun x w' => x = .returned (.bool true) ∧ Below w.heap.size w w' := by
  obtain ⟨l, w1, hap, ho1, hb1⟩ := copy_list xs v w hv (by omega)
  have hlv := ints_len hv
  have HG : Hid (Handle w) := hg
  have HV : Hid (Ints w v xs) := hv
  have HX : Hid (∀ i, I64 (xs.getD i 0)) := hx
  have HUN := hide hun
  have HO1 : Hid (Own w1 w.heap.size l xs) := ho1
  have HB1 : Hid (Below w.heap.size w w1) := hb1
  clear hg hv hx hun ho1 hb1
  go_enter Tryd.func4, Tryd.ntmps4
  go_wp2_with (first | (at_builtin; refine wpList_append_eq rfl (.tmp 28) (.tmp 29) rfl rfl rfl rfl hap ?_))
  clear hap
  refine (pack_width d l _ (HG.out.below HB1.out) hd).mono ?_
  rintro e w2 ⟨rfl, hb2⟩
  have HO2 : Hid (Own w2 w.heap.size l xs) := own_below HO1.out hb2
  have HB2 : Hid (Below w.heap.size w w2) := HB1.out.trans (hb2.mono HB1.out.size)
  clear hb2
  go_wp2_with fail
  refine (rpack_width d v _ hd).mono ?_
  rintro e w3 ⟨rfl, rfl⟩
  have HO3 := HO2
  have HB3 := HB2
  go_wp2_with fail
  refine (ints_same xs l v _ (own_ints HO3.out) (ints_below HV.out HB3.out) (by omega)).mono ?_
  rintro e w4 ⟨rfl, hb4⟩
  have HB4 : Hid (Below w.heap.size w w4) := HB3.out.trans (hb4.mono HB3.out.size)
  clear hb4 HO1 HO2 HO3
  have HBX := HB4
  go_wp2_with (first | (go_at_call 8; refine (num_any _ _).mono ?_; rintro e w' ⟨rfl, rfl⟩))
  refine (unpack_err s d c n _ (HG.out.below HBX.out) (by omega) hc HUN.out).mono ?_
  rintro e wa ⟨rfl, hba⟩
  have HBA : Hid (Below w.heap.size w wa) := HBX.out.trans (hba.mono HBX.out.size)
  clear hba
  go_wp2_with fail
  refine (unpack_err s d c n _ (HG.out.below HBA.out) (by omega) hc HUN.out).mono ?_
  rintro e wb ⟨rfl, hbb⟩
  have HBB : Hid (Below w.heap.size w wb) := HBA.out.trans (hbb.mono HBA.out.size)
  clear hbb
  go_wp2_with fail
  go_loop [24] (fun a => a = .int .i64 0) (fun _ => 0)
  case atStart => rfl
  case round =>
    subst hrel
    go_wp2_with fail
    refine (ru_err s d c n _ (by omega) hc HUN.out).mono ?_
    rintro e wc ⟨rfl, hbc⟩
    have HBC : Hid (Below w.heap.size w wc) := HBB.out.trans (hbc.mono HBB.out.size)
    clear hbc
    go_wp2_with fail
    refine (ints_same [] _ _ _ (.inl ⟨none, 0, rfl, rfl⟩) (.inl ⟨none, 0, rfl, rfl⟩) (by simp)).mono ?_
    rintro e wd ⟨rfl, hbd⟩
    have HBD : Hid (Below w.heap.size w wd) := HBC.out.trans (hbd.mono HBC.out.size)
    clear hbd
    go_wp2_with (first | (go_at_call 8; refine (num_any _ _).mono ?_; rintro e w' ⟨rfl, rfl⟩))
    go_ret
    exact ⟨rfl, HBD.out⟩

set_option maxHeartbeats 1600000 in
set_option maxRecDepth 20000 in
theorem packs_bad_err (xs : List Int) (d : Nat) (i : Nat) (n : Int) (s : ByteArray) (c : Int) (v : Value) (w : World) (hg : Handle w) (hv : Ints w v xs) (hx : ∀ i, I64 (xs.getD i 0)) (hl : xs.length ≤ 1048576) (h1 : 1 ≤ d) (h2 : d ≤ 62) (hbad : bad d xs i) (hs : s.size ≤ 1048576) (hc : c ≤ 9223372036854775807) (hun : UnErr s.data.toList d c n) :
    Calls Tryd.prog 4 #[v, .int .i64 d, .string s, .int .i64 c] w fun x w' => x = .returned (.bool true) ∧ Below w.heap.size w w' := by
  obtain ⟨l, w1, hap, ho1, hb1⟩ := copy_list xs v w hv (by omega)
  have hlv := ints_len hv
  have HG : Hid (Handle w) := hg
  have HV : Hid (Ints w v xs) := hv
  have HX : Hid (∀ i, I64 (xs.getD i 0)) := hx
  have HUN := hide hun
  have HO1 : Hid (Own w1 w.heap.size l xs) := ho1
  have HB1 : Hid (Below w.heap.size w w1) := hb1
  have HBAD := hide hbad
  clear hg hv hx hun ho1 hb1 hbad
  go_enter Tryd.func4, Tryd.ntmps4
  go_wp2_with (first | (at_builtin; refine wpList_append_eq rfl (.tmp 28) (.tmp 29) rfl rfl rfl rfl hap ?_))
  clear hap
  refine (pack_bad xs d i l _ (HG.out.below HB1.out) (own_ints HO1.out) HX.out (by omega) h1 h2 HBAD.out).mono ?_
  rintro e w2 ⟨rfl, hb2⟩
  have HO2 : Hid (Own w2 w.heap.size l xs) := own_below HO1.out hb2
  have HB2 : Hid (Below w.heap.size w w2) := HB1.out.trans (hb2.mono HB1.out.size)
  clear hb2
  go_wp2_with fail
  refine (rpack_bad xs d i v _ (ints_below HV.out HB2.out) HX.out (by omega) h1 h2 HBAD.out).mono ?_
  rintro e w3 ⟨rfl, m3, rfl⟩
  have HO3 : Hid (Own (w2.drewN m3) w.heap.size l xs) := own_below HO2.out (below_drewN (Below.refl _ _) m3)
  have HB3 : Hid (Below w.heap.size w (w2.drewN m3)) := below_drewN HB2.out m3
  go_wp2_with fail
  refine (ints_same xs l v _ (own_ints HO3.out) (ints_below HV.out HB3.out) (by omega)).mono ?_
  rintro e w4 ⟨rfl, hb4⟩
  have HB4 : Hid (Below w.heap.size w w4) := HB3.out.trans (hb4.mono HB3.out.size)
  clear hb4 HO1 HO2 HO3
  have HBX := HB4
  go_wp2_with (first | (go_at_call 8; refine (num_any _ _).mono ?_; rintro e w' ⟨rfl, rfl⟩))
  refine (unpack_err s d c n _ (HG.out.below HBX.out) (by omega) hc HUN.out).mono ?_
  rintro e wa ⟨rfl, hba⟩
  have HBA : Hid (Below w.heap.size w wa) := HBX.out.trans (hba.mono HBX.out.size)
  clear hba
  go_wp2_with fail
  refine (unpack_err s d c n _ (HG.out.below HBA.out) (by omega) hc HUN.out).mono ?_
  rintro e wb ⟨rfl, hbb⟩
  have HBB : Hid (Below w.heap.size w wb) := HBA.out.trans (hbb.mono HBA.out.size)
  clear hbb
  go_wp2_with fail
  go_loop [24] (fun a => a = .int .i64 0) (fun _ => 0)
  case atStart => rfl
  case round =>
    subst hrel
    go_wp2_with fail
    refine (ru_err s d c n _ (by omega) hc HUN.out).mono ?_
    rintro e wc ⟨rfl, hbc⟩
    have HBC : Hid (Below w.heap.size w wc) := HBB.out.trans (hbc.mono HBB.out.size)
    clear hbc
    go_wp2_with fail
    refine (ints_same [] _ _ _ (.inl ⟨none, 0, rfl, rfl⟩) (.inl ⟨none, 0, rfl, rfl⟩) (by simp)).mono ?_
    rintro e wd ⟨rfl, hbd⟩
    have HBD : Hid (Below w.heap.size w wd) := HBC.out.trans (hbd.mono HBC.out.size)
    clear hbd
    go_wp2_with (first | (go_at_call 8; refine (num_any _ _).mono ?_; rintro e w' ⟨rfl, rfl⟩))
    go_ret
    exact ⟨rfl, HBD.out⟩

set_option maxHeartbeats 1600000 in
set_option maxRecDepth 20000 in
theorem packs_bad_ok (xs : List Int) (d : Nat) (i : Nat) (s : ByteArray) (c : Int) (v : Value) (w : World) (hg : Handle w) (hv : Ints w v xs) (hx : ∀ i, I64 (xs.getD i 0)) (hl : xs.length ≤ 1048576) (h1 : 1 ≤ d) (h2 : d ≤ 62) (hbad : bad d xs i) (hs : s.size ≤ 1048576) (_hc : c ≤ 9223372036854775807) (hun : UnOk s.data.toList d c) :
    Calls Tryd.prog 4 #[v, .int .i64 d, .string s, .int .i64 c] w fun x w' => x = .returned (.bool true) ∧ Below w.heap.size w w' := by
  obtain ⟨l, w1, hap, ho1, hb1⟩ := copy_list xs v w hv (by omega)
  have hlv := ints_len hv
  have HG : Hid (Handle w) := hg
  have HV : Hid (Ints w v xs) := hv
  have HX : Hid (∀ i, I64 (xs.getD i 0)) := hx
  have HUN := hide hun
  have HO1 : Hid (Own w1 w.heap.size l xs) := ho1
  have HB1 : Hid (Below w.heap.size w w1) := hb1
  have HBAD := hide hbad
  clear hg hv hx hun ho1 hb1 hbad
  go_enter Tryd.func4, Tryd.ntmps4
  go_wp2_with (first | (at_builtin; refine wpList_append_eq rfl (.tmp 28) (.tmp 29) rfl rfl rfl rfl hap ?_))
  clear hap
  refine (pack_bad xs d i l _ (HG.out.below HB1.out) (own_ints HO1.out) HX.out (by omega) h1 h2 HBAD.out).mono ?_
  rintro e w2 ⟨rfl, hb2⟩
  have HO2 : Hid (Own w2 w.heap.size l xs) := own_below HO1.out hb2
  have HB2 : Hid (Below w.heap.size w w2) := HB1.out.trans (hb2.mono HB1.out.size)
  clear hb2
  go_wp2_with fail
  refine (rpack_bad xs d i v _ (ints_below HV.out HB2.out) HX.out (by omega) h1 h2 HBAD.out).mono ?_
  rintro e w3 ⟨rfl, m3, rfl⟩
  have HO3 : Hid (Own (w2.drewN m3) w.heap.size l xs) := own_below HO2.out (below_drewN (Below.refl _ _) m3)
  have HB3 : Hid (Below w.heap.size w (w2.drewN m3)) := below_drewN HB2.out m3
  go_wp2_with fail
  refine (ints_same xs l v _ (own_ints HO3.out) (ints_below HV.out HB3.out) (by omega)).mono ?_
  rintro e w4 ⟨rfl, hb4⟩
  have HB4 : Hid (Below w.heap.size w w4) := HB3.out.trans (hb4.mono HB3.out.size)
  clear hb4 HO1 HO2 HO3
  have HBX := HB4
  go_wp2_with (first | (go_at_call 8; refine (num_any _ _).mono ?_; rintro e w' ⟨rfl, rfl⟩))
  refine (unpack_good s d c _ (by omega) HUN.out).mono ?_
  rintro e wa ⟨⟨m, rfl, hoa⟩, hba⟩
  have HOA : Hid (Own wa w.heap.size m (Nums (Plain.val s.data.toList) (d : Int).toNat c.toNat)) := own_base hoa HBX.out.size
  have HBA : Hid (Below w.heap.size w wa) := HBX.out.trans (hba.mono HBX.out.size)
  clear hoa hba
  go_wp2_with fail
  refine (unpack_good s d c _ (by omega) HUN.out).mono ?_
  rintro e wb ⟨⟨z, rfl, hob⟩, hbb⟩
  have HOB : Hid (Own wb wa.heap.size z (Nums (Plain.val s.data.toList) (d : Int).toNat c.toNat)) := hob
  have HBB : Hid (Below wa.heap.size wa wb) := hbb
  clear hob hbb
  obtain ⟨ns, hns⟩ : ∃ ns, ns = Nums (Plain.val s.data.toList) (d : Int).toNat c.toNat := ⟨_, rfl⟩
  have HNL : Hid (ns.length ≤ 16000000000) := by rw [hns]; exact nums_small HUN.out hs
  have HNS := hide hns
  rw [← hns] at HOA HOB
  clear hns
  obtain ⟨N, hN⟩ : ∃ N, N = ns.length := ⟨_, rfl⟩
  have hNl : N ≤ 16000000000 := by rw [hN]; exact HNL.out
  have HN := hide hN
  have hlz := ints_len (own_ints HOB.out)
  rw [← hN] at hlz
  clear hN
  go_wp2_with fail
  go_loopw [24] (fun a wr => ∃ (k : Nat) (ys : List Int), k ≤ N ∧ a = .int .i64 k ∧ ys.length = N ∧ Own wr wa.heap.size z ys ∧ Below wa.heap.size wa wr) (fun a _ => N - (intOf a).toNat)
  case atStart => exact ⟨0, ns, Nat.zero_le _, rfl, HN.out.symm, HOB.out, HBB.out⟩
  case round =>
    obtain ⟨k, ys, hk, rfl, hyl, hoy, hby⟩ := hrel
    have HYL := hide hyl
    have HOY := hide hoy
    have HBY := hide hby
    clear hyl hoy hby
    by_cases hlt : k < N
    · have hky : k < ys.length := by rw [HYL.out]; exact hlt
      have hki : (k : Int) < (ys.length : Int) := by omega
      rcases HOY.out.2 with ⟨_, h0⟩ | ⟨g, cap, cur, rfl, hgb, _⟩
      · omega
      · have hcell := own_cell HOY.out hky
        have hfz := World.ownsRow.frozenAt HOY.out k
        obtain ⟨y, hy⟩ : ∃ y, y = ys.getD k 0 := ⟨_, rfl⟩
        rw [← hy] at hcell
        clear hy
        go_wp2_with fail
        have R1 := own_store HOY.out (-9) (k := k)
        have R2 := HBY.out.setCell (p := ⟨g, k, none⟩) hgb (.int .i64 (-9))
        go_roundw
        case rel => exact ⟨k + 1, ys.set k (-9), by omega, by go_num, by rw [List.length_set]; exact HYL.out, R1, R2⟩
        case measure => simp [intOf]; omega
    · have HOM : Hid (Own wr w.heap.size m ns) := own_below HOA.out HBY.out
      have HBR : Hid (Below w.heap.size w wr) := HBA.out.trans (HBY.out.mono HBA.out.size)
      go_wp2_with fail
      refine (ru_good s d c _ (by omega) HUN.out).mono ?_
      rintro e wc ⟨⟨q, rfl, hoc⟩, hbc⟩
      have HIQ : Hid (Ints wc q ns) := by rw [← HNS.out] at hoc; exact own_ints hoc
      have HIM : Hid (Ints wc m ns) := own_ints (own_below HOM.out hbc)
      have HBC : Hid (Below w.heap.size w wc) := HBR.out.trans (hbc.mono HBR.out.size)
      clear hoc hbc
      go_wp2_with fail
      refine (ints_same ns m q _ HIM.out HIQ.out HNL.out).mono ?_
      rintro e wd ⟨rfl, hbd⟩
      have HBD : Hid (Below w.heap.size w wd) := HBC.out.trans (hbd.mono HBC.out.size)
      clear hbd
      go_wp2_with (first | (go_at_call 8; refine (num_any _ _).mono ?_; rintro e w' ⟨rfl, rfl⟩))
      go_ret
      exact ⟨rfl, HBD.out⟩

set_option maxHeartbeats 1600000 in
set_option maxRecDepth 20000 in
theorem packs_ok_err (xs : List Int) (d : Nat) (n : Int) (s : ByteArray) (c : Int) (v : Value) (w : World) (hg : Handle w) (hv : Ints w v xs) (hx : ∀ i, I64 (xs.getD i 0)) (hl : xs.length ≤ 1048576) (h1 : 1 ≤ d) (h2 : d ≤ 62) (hall : ∀ j, j < xs.length → fitsB (xs.getD j 0) d = true) (hs : s.size ≤ 1048576) (hc : c ≤ 9223372036854775807) (hun : UnErr s.data.toList d c n) :
    Calls Tryd.prog 4 #[v, .int .i64 d, .string s, .int .i64 c] w fun x w' => x = .returned (.bool true) ∧ Below w.heap.size w w' := by
  obtain ⟨l, w1, hap, ho1, hb1⟩ := copy_list xs v w hv (by omega)
  have hlv := ints_len hv
  have HG : Hid (Handle w) := hg
  have HV : Hid (Ints w v xs) := hv
  have HX : Hid (∀ i, I64 (xs.getD i 0)) := hx
  have HUN := hide hun
  have HO1 : Hid (Own w1 w.heap.size l xs) := ho1
  have HB1 : Hid (Below w.heap.size w w1) := hb1
  have HALL := hide hall
  clear hg hv hx hun ho1 hb1 hall
  go_enter Tryd.func4, Tryd.ntmps4
  go_wp2_with (first | (at_builtin; refine wpList_append_eq rfl (.tmp 28) (.tmp 29) rfl rfl rfl rfl hap ?_))
  clear hap
  refine (pack_ok xs d l _ (own_ints HO1.out) HX.out (by omega) h1 h2 HALL.out).mono ?_
  rintro e w2 ⟨⟨bs, hp1, rfl⟩, hb2⟩
  have HP1 := hide hp1
  clear hp1
  have HO2 : Hid (Own w2 w.heap.size l xs) := own_below HO1.out hb2
  have HB2 : Hid (Below w.heap.size w w2) := HB1.out.trans (hb2.mono HB1.out.size)
  clear hb2
  go_wp2_with fail
  refine (rpack_ok xs d v _ (ints_below HV.out HB2.out) (by omega) h1 h2 HALL.out).mono ?_
  rintro e w3 ⟨⟨bs2, hp2, rfl⟩, hb3⟩
  obtain rfl := hp2.one HP1.out
  have HO3 : Hid (Own w3 w.heap.size l xs) := own_below HO2.out hb3
  have HB3 : Hid (Below w.heap.size w w3) := HB2.out.trans (hb3.mono HB2.out.size)
  clear hp2 hb3
  go_wp2_with fail
  refine (ints_same xs l v _ (own_ints HO3.out) (ints_below HV.out HB3.out) (by omega)).mono ?_
  rintro e w4 ⟨rfl, hb4⟩
  have HB4 : Hid (Below w.heap.size w w4) := HB3.out.trans (hb4.mono HB3.out.size)
  clear hb4 HO1 HO2 HO3
  go_wp2_with (first | (go_at_call 8; refine (num_any _ _).mono ?_; rintro e w' ⟨rfl, rfl⟩))
  have HNB := hide (nums_back HALL.out HP1.out)
  refine (unpack_good ⟨bs2.toArray⟩ d xs.length _ (packed_size HP1.out h2 (by omega)) ⟨by omega, by omega, by omega, by simpa using HNB.out.1⟩).mono ?_
  rintro e w5 ⟨⟨back, rfl, ho5⟩, hb5⟩
  have HB5 : Hid (Below w.heap.size w w5) := HB4.out.trans (hb5.mono HB4.out.size)
  have HI5 : Hid (Ints w5 back xs) := by
    have h5 := own_ints ho5
    simp only [Int.toNat_natCast] at h5
    rw [HNB.out.2] at h5
    exact h5
  clear ho5 hb5
  go_wp2_with fail
  refine (ints_same xs back v _ HI5.out (ints_below HV.out HB5.out) (by omega)).mono ?_
  rintro e w6 ⟨rfl, hb6⟩
  have HBX : Hid (Below w.heap.size w w6) := HB5.out.trans (hb6.mono HB5.out.size)
  clear hb6
  go_wp2_with (first | (go_at_call 8; refine (num_any _ _).mono ?_; rintro e w' ⟨rfl, rfl⟩))
  refine (unpack_err s d c n _ (HG.out.below HBX.out) (by omega) hc HUN.out).mono ?_
  rintro e wa ⟨rfl, hba⟩
  have HBA : Hid (Below w.heap.size w wa) := HBX.out.trans (hba.mono HBX.out.size)
  clear hba
  go_wp2_with fail
  refine (unpack_err s d c n _ (HG.out.below HBA.out) (by omega) hc HUN.out).mono ?_
  rintro e wb ⟨rfl, hbb⟩
  have HBB : Hid (Below w.heap.size w wb) := HBA.out.trans (hbb.mono HBA.out.size)
  clear hbb
  go_wp2_with fail
  go_loop [24] (fun a => a = .int .i64 0) (fun _ => 0)
  case atStart => rfl
  case round =>
    subst hrel
    go_wp2_with fail
    refine (ru_err s d c n _ (by omega) hc HUN.out).mono ?_
    rintro e wc ⟨rfl, hbc⟩
    have HBC : Hid (Below w.heap.size w wc) := HBB.out.trans (hbc.mono HBB.out.size)
    clear hbc
    go_wp2_with fail
    refine (ints_same [] _ _ _ (.inl ⟨none, 0, rfl, rfl⟩) (.inl ⟨none, 0, rfl, rfl⟩) (by simp)).mono ?_
    rintro e wd ⟨rfl, hbd⟩
    have HBD : Hid (Below w.heap.size w wd) := HBC.out.trans (hbd.mono HBC.out.size)
    clear hbd
    go_wp2_with (first | (go_at_call 8; refine (num_any _ _).mono ?_; rintro e w' ⟨rfl, rfl⟩))
    go_ret
    exact ⟨rfl, HBD.out⟩

set_option maxHeartbeats 1600000 in
set_option maxRecDepth 20000 in
theorem packs_ok_ok (xs : List Int) (d : Nat) (s : ByteArray) (c : Int) (v : Value) (w : World) (hg : Handle w) (hv : Ints w v xs) (hx : ∀ i, I64 (xs.getD i 0)) (hl : xs.length ≤ 1048576) (h1 : 1 ≤ d) (h2 : d ≤ 62) (hall : ∀ j, j < xs.length → fitsB (xs.getD j 0) d = true) (hs : s.size ≤ 1048576) (_hc : c ≤ 9223372036854775807) (hun : UnOk s.data.toList d c) :
    Calls Tryd.prog 4 #[v, .int .i64 d, .string s, .int .i64 c] w fun x w' => x = .returned (.bool true) ∧ Below w.heap.size w w' := by
  obtain ⟨l, w1, hap, ho1, hb1⟩ := copy_list xs v w hv (by omega)
  have hlv := ints_len hv
  have HG : Hid (Handle w) := hg
  have HV : Hid (Ints w v xs) := hv
  have HX : Hid (∀ i, I64 (xs.getD i 0)) := hx
  have HUN := hide hun
  have HO1 : Hid (Own w1 w.heap.size l xs) := ho1
  have HB1 : Hid (Below w.heap.size w w1) := hb1
  have HALL := hide hall
  clear hg hv hx hun ho1 hb1 hall
  go_enter Tryd.func4, Tryd.ntmps4
  go_wp2_with (first | (at_builtin; refine wpList_append_eq rfl (.tmp 28) (.tmp 29) rfl rfl rfl rfl hap ?_))
  clear hap
  refine (pack_ok xs d l _ (own_ints HO1.out) HX.out (by omega) h1 h2 HALL.out).mono ?_
  rintro e w2 ⟨⟨bs, hp1, rfl⟩, hb2⟩
  have HP1 := hide hp1
  clear hp1
  have HO2 : Hid (Own w2 w.heap.size l xs) := own_below HO1.out hb2
  have HB2 : Hid (Below w.heap.size w w2) := HB1.out.trans (hb2.mono HB1.out.size)
  clear hb2
  go_wp2_with fail
  refine (rpack_ok xs d v _ (ints_below HV.out HB2.out) (by omega) h1 h2 HALL.out).mono ?_
  rintro e w3 ⟨⟨bs2, hp2, rfl⟩, hb3⟩
  obtain rfl := hp2.one HP1.out
  have HO3 : Hid (Own w3 w.heap.size l xs) := own_below HO2.out hb3
  have HB3 : Hid (Below w.heap.size w w3) := HB2.out.trans (hb3.mono HB2.out.size)
  clear hp2 hb3
  go_wp2_with fail
  refine (ints_same xs l v _ (own_ints HO3.out) (ints_below HV.out HB3.out) (by omega)).mono ?_
  rintro e w4 ⟨rfl, hb4⟩
  have HB4 : Hid (Below w.heap.size w w4) := HB3.out.trans (hb4.mono HB3.out.size)
  clear hb4 HO1 HO2 HO3
  go_wp2_with (first | (go_at_call 8; refine (num_any _ _).mono ?_; rintro e w' ⟨rfl, rfl⟩))
  have HNB := hide (nums_back HALL.out HP1.out)
  refine (unpack_good ⟨bs2.toArray⟩ d xs.length _ (packed_size HP1.out h2 (by omega)) ⟨by omega, by omega, by omega, by simpa using HNB.out.1⟩).mono ?_
  rintro e w5 ⟨⟨back, rfl, ho5⟩, hb5⟩
  have HB5 : Hid (Below w.heap.size w w5) := HB4.out.trans (hb5.mono HB4.out.size)
  have HI5 : Hid (Ints w5 back xs) := by
    have h5 := own_ints ho5
    simp only [Int.toNat_natCast] at h5
    rw [HNB.out.2] at h5
    exact h5
  clear ho5 hb5
  go_wp2_with fail
  refine (ints_same xs back v _ HI5.out (ints_below HV.out HB5.out) (by omega)).mono ?_
  rintro e w6 ⟨rfl, hb6⟩
  have HBX : Hid (Below w.heap.size w w6) := HB5.out.trans (hb6.mono HB5.out.size)
  clear hb6
  go_wp2_with (first | (go_at_call 8; refine (num_any _ _).mono ?_; rintro e w' ⟨rfl, rfl⟩))
  refine (unpack_good s d c _ (by omega) HUN.out).mono ?_
  rintro e wa ⟨⟨m, rfl, hoa⟩, hba⟩
  have HOA : Hid (Own wa w.heap.size m (Nums (Plain.val s.data.toList) (d : Int).toNat c.toNat)) := own_base hoa HBX.out.size
  have HBA : Hid (Below w.heap.size w wa) := HBX.out.trans (hba.mono HBX.out.size)
  clear hoa hba
  go_wp2_with fail
  refine (unpack_good s d c _ (by omega) HUN.out).mono ?_
  rintro e wb ⟨⟨z, rfl, hob⟩, hbb⟩
  have HOB : Hid (Own wb wa.heap.size z (Nums (Plain.val s.data.toList) (d : Int).toNat c.toNat)) := hob
  have HBB : Hid (Below wa.heap.size wa wb) := hbb
  clear hob hbb
  obtain ⟨ns, hns⟩ : ∃ ns, ns = Nums (Plain.val s.data.toList) (d : Int).toNat c.toNat := ⟨_, rfl⟩
  have HNL : Hid (ns.length ≤ 16000000000) := by rw [hns]; exact nums_small HUN.out hs
  have HNS := hide hns
  rw [← hns] at HOA HOB
  clear hns
  obtain ⟨N, hN⟩ : ∃ N, N = ns.length := ⟨_, rfl⟩
  have hNl : N ≤ 16000000000 := by rw [hN]; exact HNL.out
  have HN := hide hN
  have hlz := ints_len (own_ints HOB.out)
  rw [← hN] at hlz
  clear hN
  go_wp2_with fail
  go_loopw [24] (fun a wr => ∃ (k : Nat) (ys : List Int), k ≤ N ∧ a = .int .i64 k ∧ ys.length = N ∧ Own wr wa.heap.size z ys ∧ Below wa.heap.size wa wr) (fun a _ => N - (intOf a).toNat)
  case atStart => exact ⟨0, ns, Nat.zero_le _, rfl, HN.out.symm, HOB.out, HBB.out⟩
  case round =>
    obtain ⟨k, ys, hk, rfl, hyl, hoy, hby⟩ := hrel
    have HYL := hide hyl
    have HOY := hide hoy
    have HBY := hide hby
    clear hyl hoy hby
    by_cases hlt : k < N
    · have hky : k < ys.length := by rw [HYL.out]; exact hlt
      have hki : (k : Int) < (ys.length : Int) := by omega
      rcases HOY.out.2 with ⟨_, h0⟩ | ⟨g, cap, cur, rfl, hgb, _⟩
      · omega
      · have hcell := own_cell HOY.out hky
        have hfz := World.ownsRow.frozenAt HOY.out k
        obtain ⟨y, hy⟩ : ∃ y, y = ys.getD k 0 := ⟨_, rfl⟩
        rw [← hy] at hcell
        clear hy
        go_wp2_with fail
        have R1 := own_store HOY.out (-9) (k := k)
        have R2 := HBY.out.setCell (p := ⟨g, k, none⟩) hgb (.int .i64 (-9))
        go_roundw
        case rel => exact ⟨k + 1, ys.set k (-9), by omega, by go_num, by rw [List.length_set]; exact HYL.out, R1, R2⟩
        case measure => simp [intOf]; omega
    · have HOM : Hid (Own wr w.heap.size m ns) := own_below HOA.out HBY.out
      have HBR : Hid (Below w.heap.size w wr) := HBA.out.trans (HBY.out.mono HBA.out.size)
      go_wp2_with fail
      refine (ru_good s d c _ (by omega) HUN.out).mono ?_
      rintro e wc ⟨⟨q, rfl, hoc⟩, hbc⟩
      have HIQ : Hid (Ints wc q ns) := by rw [← HNS.out] at hoc; exact own_ints hoc
      have HIM : Hid (Ints wc m ns) := own_ints (own_below HOM.out hbc)
      have HBC : Hid (Below w.heap.size w wc) := HBR.out.trans (hbc.mono HBR.out.size)
      clear hoc hbc
      go_wp2_with fail
      refine (ints_same ns m q _ HIM.out HIQ.out HNL.out).mono ?_
      rintro e wd ⟨rfl, hbd⟩
      have HBD : Hid (Below w.heap.size w wd) := HBC.out.trans (hbd.mono HBC.out.size)
      clear hbd
      go_wp2_with (first | (go_at_call 8; refine (num_any _ _).mono ?_; rintro e w' ⟨rfl, rfl⟩))
      go_ret
      exact ⟨rfl, HBD.out⟩

end Go.Proofs.YtnffjoipinhojaaDoor
