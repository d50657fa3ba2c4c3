import Derived.Test.YtnffjoipinhojabGreatDoorK18
set_option linter.unusedSimpArgs false
set_option linter.unusedVariables false
namespace Go.Proofs.YtnffjoipinhojabGreatDoor
open Go.RowKit
namespace Tu

theorem keyS : Maps.Keyed Tryz.prog 9 := Maps.string_keyed Tryz.underlying9
theorem keyOf_str (l : List UInt8) (h : l.length ≤ maxLen) : keyOf Tryz.prog 9 (str l) = some (keyL l) := Go.WideMaps.keyOf_string_mk Tryz.underlying9 (by rw [arr_size]; exact h)
theorem zero_name (w : World) : (zeroValue 35).run Tryz.prog w = .ok (.agg #[.string ⟨#[]⟩, .string ⟨#[]⟩]) w := by kernel_rfl
theorem und_map : Tryz.prog.underlying 79 = some (.map 9 35) := by kernel_rfl

theorem nameElem_inv {v : Value} {z : DataW Nat × List MemPlace} (h : nameElem v = some z) : ∃ a g : ByteArray, v = .agg #[.string a, .string g] ∧ z = (.agg [.lit (.string a.data.toList), .lit (.string g.data.toList)], []) := by
  unfold nameElem at h
  split at h
  · rename_i cs
    split at h
    · rename_i a g hc
      cases h
      refine ⟨a, g, ?_, rfl⟩
      congr 1
      exact Array.toList_inj.1 hc
    · cases h
  · cases h

theorem Nm.look_some {w : World} {m : Nat} {l : List (List UInt8 × List UInt8)} (h : Nm w m l) {r g : List UInt8} (hr : r.length ≤ maxLen) (hg : look l r = some g) :
    (Instr.lookup 79 (.map (some m)) (str r) true).run Tryz.prog w = .ok (.tuple #[.agg #[str r, str g], .bool true]) w := by
  obtain ⟨D, ho, hD⟩ := h
  obtain ⟨h1, h2⟩ := hD r
  obtain ⟨v, ps, hrun, hv⟩ := ho.look_ok keyS und_map (zero_name w) (zd := zeroD) (zp := []) rfl (keyOf_str r hr)
  rw [h1, hg] at hrun
  rw [h2 g hg] at hv
  obtain ⟨a, g', rfl, hz⟩ := nameElem_inv hv
  unfold datL at hz
  simp only [Prod.mk.injEq, DataW.agg.injEq, List.cons.injEq, DataW.lit.injEq, Lit.string.injEq, and_true] at hz
  obtain ⟨⟨e1, e2⟩, _⟩ := hz
  rw [hrun]
  have ea : (⟨r.toArray⟩ : ByteArray) = a := by rw [e1]
  have eg : (⟨g.toArray⟩ : ByteArray) = g' := by rw [e2]
  rw [← ea, ← eg]
  rfl

theorem Nm.look_none {w : World} {m : Nat} {l : List (List UInt8 × List UInt8)} (h : Nm w m l) {r : List UInt8} (hr : r.length ≤ maxLen) (hg : look l r = none) :
    (Instr.lookup 79 (.map (some m)) (str r) true).run Tryz.prog w = .ok (.tuple #[.agg #[.string ⟨#[]⟩, .string ⟨#[]⟩], .bool false]) w := by
  obtain ⟨D, ho, hD⟩ := h
  obtain ⟨h1, h2⟩ := hD r
  obtain ⟨v, ps, hrun, hv⟩ := ho.look_ok keyS und_map (zero_name w) (zd := zeroD) (zp := []) rfl (keyOf_str r hr)
  rw [h1, hg] at hrun
  rw [Maps.atKey_of_not_has (by rw [h1, hg]; rfl)] at hv
  obtain ⟨a, g', rfl, hz⟩ := nameElem_inv hv
  unfold zeroD at hz
  simp only [Prod.mk.injEq, DataW.agg.injEq, List.cons.injEq, DataW.lit.injEq, Lit.string.injEq, and_true] at hz
  obtain ⟨⟨e1, e2⟩, _⟩ := hz
  have ea : (⟨#[]⟩ : ByteArray) = a := by
    cases a with | mk d => exact congrArg ByteArray.mk (Array.toList_inj.1 e1)
  have eg : (⟨#[]⟩ : ByteArray) = g' := by
    cases g' with | mk d => exact congrArg ByteArray.mk (Array.toList_inj.1 e2)
  rw [hrun, ← ea, ← eg]
  rfl

theorem trim_any (w : World) (l : List UInt8) (hl : l.length ≤ 9223372036854775807) : Calls Tryz.prog 143 #[str l, .string ⟨#[62]⟩] w fun e w' => e = .returned (str (trimG l)) ∧ w' = w := by
  refine (Any.strings_TrimSuffix (ρ := Tryz.lays102_ren) Tryz.lays102 ⟨l.toArray⟩ ⟨#[62]⟩ w (by rw [arr_size]; exact hl)).mono ?_
  rintro e w' ⟨rfl, rfl⟩
  refine ⟨?_, rfl⟩
  congr 3
  show (Lib.trimSuffix l [62]).toArray = (trimG l).toArray
  congr 1
  unfold Lib.trimSuffix trimG Lib.hasSuffix
  by_cases hl : l.getLast? = some 62
  · rw [if_pos hl, if_pos]
    · rw [List.dropLast_eq_take]
      rfl
    · rw [List.isSuffixOf_iff_suffix]
      obtain ⟨t, ht⟩ := List.getLast?_eq_some_iff.1 hl
      exact ⟨t, ht.symm⟩
  · rw [if_neg hl, if_neg]
    rw [List.isSuffixOf_iff_suffix]
    rintro ⟨t, ht⟩
    exact hl (by rw [← ht]; simp)

set_option maxHeartbeats 1000000 in
set_option maxRecDepth 20000 in
theorem meant_bad (w0 w : World) (b m p : Nat) (s : ByteArray) (st : St) (r l : List UInt8) (h : Pz w0 b m s st w) (hr : r.length ≤ 20) (hg : look st.names r = none) :
    Calls Tryz.prog 206 #[.pointer (some ⟨b, 0, none⟩), .agg #[.int .i64 p, str r, str l]] w fun e w' => e = stopE 5 p ∧ Below w.heap.size w w' := by
  obtain ⟨c2, c3, c4, c5, fz⟩ := h.cell
  have hbw := h.lt
  have hmb := h.nm.lt
  have hk : ∀ o, (w.alloc o).cell? ⟨b, 3, none⟩ = some (.map (some m)) := fun o => (World.cell?_alloc_lt _ _ ⟨b, 3, none⟩ hbw).trans c3
  have HL : ∀ W : World, W.heap[m]? = w.heap[m]? → (Instr.lookup 79 (.map (some m)) (str r) true).run Tryz.prog W = .ok (.tuple #[.agg #[.string ⟨#[]⟩, .string ⟨#[]⟩], .bool false]) W := fun W hW => (h.nm.same hW).look_none (by unfold maxLen; omega) hg
  have hl1 : ∀ o, (Instr.lookup 79 (.map (some m)) (str r) true).run Tryz.prog (w.alloc o).drew = .ok (.tuple #[.agg #[.string ⟨#[]⟩, .string ⟨#[]⟩], .bool false]) (w.alloc o).drew := fun o => HL _ (Below.heap_alloc _ _ _ hmb)
  have hl2 : ∀ o o', (Instr.lookup 79 (.map (some m)) (str r) true).run Tryz.prog ((w.alloc o).alloc o').drew = .ok (.tuple #[.agg #[.string ⟨#[]⟩, .string ⟨#[]⟩], .bool false]) ((w.alloc o).alloc o').drew := fun o o' => HL _ (by
    show ((w.alloc o).alloc o').heap[m]? = _
    rw [Below.heap_alloc _ _ _ (by simp; omega), Below.heap_alloc _ _ _ hmb])
  clear h HL hg fz c2 c4 c5
  go_enter Tryz.func206, Tryz.ntmps206
  go_wp2_with fail
  go_region
  all_goals
    go_wp2_with fail
    refine (start_any _ _).mono ?_
    rintro e w2 ⟨rfl, rfl⟩
    go_wp2_with fail
    refine (Refuse_any _ _ _).mono ?_
    rintro e w3 ⟨rfl, rfl⟩
    exact ⟨rfl, rfl, (((Below.refl _ w).alloc (Nat.le_refl _) _).alloc (by simp) _).drew⟩

set_option maxHeartbeats 1000000 in
set_option maxRecDepth 20000 in
theorem meant_ok (w0 w : World) (b m p : Nat) (s : ByteArray) (st : St) (r l g : List UInt8) (h : Pz w0 b m s st w) (hr : r.length ≤ 20) (hl20 : l.length ≤ 20) (hg200 : g.length ≤ 200) (hg : look st.names r = some g) :
    Calls Tryz.prog 206 #[.pointer (some ⟨b, 0, none⟩), .agg #[.int .i64 p, str r, str l]] w fun e w' => e = .returned (str (trimG g ++ l ++ [62])) ∧ Below w.heap.size w w' := by
  obtain ⟨c2, c3, c4, c5, fz⟩ := h.cell
  have hbw := h.lt
  have hmb := h.nm.lt
  have hk : ∀ o, (w.alloc o).cell? ⟨b, 3, none⟩ = some (.map (some m)) := fun o => (World.cell?_alloc_lt _ _ ⟨b, 3, none⟩ hbw).trans c3
  have HL : ∀ W : World, W.heap[m]? = w.heap[m]? → (Instr.lookup 79 (.map (some m)) (str r) true).run Tryz.prog W = .ok (.tuple #[.agg #[str r, str g], .bool true]) W := fun W hW => (h.nm.same hW).look_some (by unfold maxLen; omega) hg
  have hl1 : ∀ o, (Instr.lookup 79 (.map (some m)) (str r) true).run Tryz.prog (w.alloc o).drew = .ok (.tuple #[.agg #[str r, str g], .bool true]) (w.alloc o).drew := fun o => HL _ (Below.heap_alloc _ _ _ hmb)
  have hl2 : ∀ o o', (Instr.lookup 79 (.map (some m)) (str r) true).run Tryz.prog ((w.alloc o).alloc o').drew = .ok (.tuple #[.agg #[str r, str g], .bool true]) ((w.alloc o).alloc o').drew := fun o o' => HL _ (by
    show ((w.alloc o).alloc o').heap[m]? = _
    rw [Below.heap_alloc _ _ _ (by simp; omega), Below.heap_alloc _ _ _ hmb])
  obtain ⟨G, hG⟩ : ∃ G : ByteArray, G = ⟨(trimG g).toArray⟩ := ⟨_, rfl⟩
  have hGz : G.size ≤ 200 := by
    rw [hG, arr_size]
    have : (trimG g).length ≤ g.length := by unfold trimG; split <;> simp
    omega
  have hLz : (⟨l.toArray⟩ : ByteArray).size ≤ 20 := by rw [arr_size]; exact hl20
  have HTr : Hid (∀ w1, Calls Tryz.prog 143 #[str g, .string ⟨#[62]⟩] w1 fun e w' => e = .returned (.string G) ∧ w' = w1) := fun w1 => by rw [hG]; exact trim_any w1 g (by omega)
  obtain ⟨Y, hY⟩ : ∃ Y : ByteArray, G ++ (⟨l.toArray⟩ : ByteArray) = Y := ⟨_, rfl⟩
  have hYz : Y.size ≤ 220 := by rw [← hY, cat_size]; omega
  obtain ⟨Z, hZ⟩ : ∃ Z : ByteArray, Y ++ (⟨#[62]⟩ : ByteArray) = Z := ⟨_, rfl⟩
  have HE : Hid (Z = ⟨(trimG g ++ l ++ [62]).toArray⟩) := by
    unfold Hid
    rw [← hZ, ← hY, hG, cat_str, cat_str]
  obtain ⟨L, hL⟩ : ∃ L : ByteArray, L = ⟨l.toArray⟩ := ⟨_, rfl⟩
  rw [← hL] at hY hLz
  have e1 : str l = .string L := by rw [hL]
  rw [e1]
  have ha1 : ∀ w1, (Op.stringOp .add G L).run Tryz.prog w1 = .ok (.string Y) w1 := fun w1 => by
    rw [← hY]
    exact run_string_add w1 G L (by omega) (by omega)
  have ha2 : ∀ w1, (Op.stringOp .add Y ⟨#[62]⟩).run Tryz.prog w1 = .ok (.string Z) w1 := fun w1 => by
    rw [← hZ]
    have s1 : (⟨#[62]⟩ : ByteArray).size = 1 := rfl
    exact run_string_add w1 Y ⟨#[62]⟩ (by omega) (by omega)
  have HS0 : Hid ((((w.alloc (.cells #[.int .i64 p, str r, .string L] 159)).alloc (.cells #[str r, str g] 35)).drew.drew).cell? ⟨w.heap.size + 1, 1, none⟩ = some (str g) ∧ (((w.alloc (.cells #[.int .i64 p, str r, .string L] 159)).alloc (.cells #[str r, str g] 35)).drew.drew).cell? ⟨w.heap.size, 2, none⟩ = some (.string L) ∧ Below w.heap.size w (((w.alloc (.cells #[.int .i64 p, str r, .string L] 159)).alloc (.cells #[str r, str g] 35)).drew.drew)) := by
    refine ⟨?_, ?_, (((Below.refl _ w).alloc (Nat.le_refl _) _).alloc (by simp) _).drew.drew⟩
    · show ((w.alloc (.cells #[.int .i64 p, str r, .string L] 159)).alloc (.cells #[str r, str g] 35)).cell? ⟨w.heap.size + 1, 1, none⟩ = _
      rw [World.cell?_alloc_at _ _ _ _ (by simp)]
      rfl
    · show ((w.alloc (.cells #[.int .i64 p, str r, .string L] 159)).alloc (.cells #[str r, str g] 35)).cell? ⟨w.heap.size, 2, none⟩ = _
      rw [World.cell?_alloc_lt _ _ _ (by simp), World.cell?_alloc_at _ _ _ _ (by simp)]
      rfl
  clear h HL hg fz c2 c4 c5 hG hL e1
  go_enter Tryz.func206, Tryz.ntmps206
  go_wp2_with fail
  go_region
  all_goals
    go_wp2_with fail
    go_region_held3 (fun w' => w'.cell? ⟨w.heap.size + 1, 1, none⟩ = some (str g) ∧ w'.cell? ⟨w.heap.size, 2, none⟩ = some (.string L) ∧ Below w.heap.size w w') (first | assumption | exact HS0.out) (first | (go_at_call 143; refine (HTr.out _).mono ?_; rintro e2 w2 ⟨rfl, rfl⟩))
    all_goals
      go_wp2
      go_ret
      rw [HE.out]
      refine ⟨rfl, ?_⟩
      rename_i hS
      exact hS.2.2

end Tu
end Go.Proofs.YtnffjoipinhojabGreatDoor

set_option linter.unusedSimpArgs false
set_option linter.unusedVariables false
namespace Go.Proofs.YtnffjoipinhojabGreatDoor
open Go.RowKit
namespace Tu

theorem Pz.gz {w0 w : World} {b m : Nat} {s : ByteArray} {st : St} (h : Pz w0 b m s st w) : 8 ≤ w.heap.size := by have := h.gb; have := h.lt; omega

theorem look_len {l : List (List UInt8 × List UInt8)} {r g : List UInt8} (hl : ∀ x ∈ l, x.1.length ≤ 20 ∧ x.2.length ≤ 200) (h : look l r = some g) : g.length ≤ 200 := by
  induction l with
  | nil => cases h
  | cons y l ih =>
    unfold look at h
    split at h
    · cases h
      exact (hl y (by simp)).2
    · exact ih (fun z hz => hl z (by simp [hz])) h

set_option maxHeartbeats 1000000 in
set_option maxRecDepth 20000 in
theorem iri_ok (w0 w : World) (b m : Nat) (s : ByteArray) (st st' : St) (l : List UInt8) (h : Pz w0 b m s st w) (hT : Tabs w0) (hr : iriP s st = .ok l st') :
    Calls Tryz.prog 169 #[.pointer (some ⟨b, 0, none⟩)] w (POk w0 b m s w (str l) st') := by
  have c2 := h.cell.1
  have hbw := h.lt
  have HZ : Hid (∀ o, PK w0 b m s st w (w.alloc o)) := fun o => (PK.refl h).alloc o
  have hwf := h.wf.tk
  have hnm := h.wf.nm
  unfold iriP at hr
  split at hr
  · rename_i x hx
    cases hr
    have hta := as_iri_yes l st.p
    rw [hx] at c2
    have HS : Hid (∀ w1, PK w0 b m s st w w1 → Calls Tryz.prog 55 #[.pointer (some ⟨b, 0, none⟩)] w1 fun e w' => e = .returned (.tuple #[]) ∧ PK w0 b m s (step s st) w w') := fun w1 h1 => stepK h1 hT (by rw [hx]; rfl)
    clear h hT hx hwf hnm
    go_enter Tryz.func169, Tryz.ntmps169
    go_wp2_with fail
    refine (HS.out _ (HZ.out _)).mono ?_
    rintro e w1 ⟨rfl, hP⟩
    go_wp2
    go_ret
    exact ⟨rfl, hP⟩
  · rename_i r x hx
    split at hr
    · cases hr
    · rename_i g hg
      cases hr
      rw [hx] at hwf
      have hg2 := look_len hnm hg
      have h1 := as_iri_no (sg := .nam r x) rfl st.p
      have h2 := as_nam_yes r x st.p
      rw [hx] at c2
      have HS : Hid (∀ w1, PK w0 b m s st w w1 → Calls Tryz.prog 55 #[.pointer (some ⟨b, 0, none⟩)] w1 fun e w' => e = .returned (.tuple #[]) ∧ PK w0 b m s (step s st) w w') := fun w1 h1 => stepK h1 hT (by rw [hx]; rfl)
      have HM : Hid (∀ w1, PK w0 b m s st w w1 → Calls Tryz.prog 206 #[.pointer (some ⟨b, 0, none⟩), .agg #[.int .i64 st.p, str r, str x]] w1 fun e w' => e = .returned (str (trimG g ++ x ++ [62])) ∧ PK w0 b m s st w w') := fun w1 h1 =>
        (meant_ok w0 w1 b m st.p s st r x g h1.1 hwf.1 hwf.2 hg2 hg).mono fun e w' k => ⟨k.1, h1.same k.2⟩
      generalize (trimG g ++ x ++ [62]) = z at *
      clear h hT hx hwf hnm hg
      go_enter Tryz.func169, Tryz.ntmps169
      go_wp2_with fail
      refine (HM.out _ (HZ.out _)).mono ?_
      rintro e w1 ⟨rfl, hP1⟩
      go_wp2_with fail
      refine (HS.out _ hP1).mono ?_
      rintro e w2 ⟨rfl, hP⟩
      go_wp2
      go_ret
      exact ⟨rfl, hP⟩
  · unfold refused at hr
    cases hr

set_option maxHeartbeats 1000000 in
set_option maxRecDepth 20000 in
theorem iri_bad (w0 w : World) (b m : Nat) (s : ByteArray) (st : St) (n : Int) (j : Nat) (h : Pz w0 b m s st w) (hn : Sg.isNone st.now = false) (hr : iriP s st = .bad n j) :
    Calls Tryz.prog 169 #[.pointer (some ⟨b, 0, none⟩)] w (PBad w0 b m n j) := by
  have c2 := h.cell.1
  have hbw := h.lt
  have HZ : Hid (∀ o, PK w0 b m s st w (w.alloc o)) := fun o => (PK.refl h).alloc o
  have HZ0 : Hid (Pz w0 b m s st w) := h
  have hwf := h.wf.tk
  unfold iriP at hr
  split at hr
  · cases hr
  · rename_i r x hx
    split at hr
    · rename_i hg
      cases hr
      rw [hx] at hwf
      have h1 := as_iri_no (sg := .nam r x) rfl st.p
      have h2 := as_nam_yes r x st.p
      rw [hx] at c2
      have HM : Hid (∀ w1, PK w0 b m s st w w1 → Calls Tryz.prog 206 #[.pointer (some ⟨b, 0, none⟩), .agg #[.int .i64 st.p, str r, str x]] w1 fun e w' => e = stopE 5 st.p ∧ Fq w0 b m w') := fun w1 h1 =>
        (meant_bad w0 w1 b m st.p s st r x h1.1 hwf.1 hg).mono fun e w' k => ⟨k.1, h1.1.fq.below k.2⟩
      clear h hx hwf hg hn
      go_enter Tryz.func169, Tryz.ntmps169
      go_wp2_with fail
      refine (HM.out _ (HZ.out _)).mono ?_
      rintro e w1 ⟨rfl, hf⟩
      exact ⟨rfl, rfl, hf⟩
    · cases hr
  · rename_i hx1 hx2
    have hi1 : Sg.is_iri st.now = false := by
      cases hq : st.now
      case iri l => exact absurd hq (hx1 l)
      all_goals rfl
    have hi2 : Sg.is_nam st.now = false := by
      cases hq : st.now
      case nam r l => exact absurd hq (hx2 r l)
      all_goals rfl
    unfold refused at hr
    have h1 := as_iri_no hi1 st.p
    have h2 := as_nam_no hi2 st.p
    have HR : Hid (∀ w1, Calls Tryz.prog 93 #[tokV st.now st.p] w1 fun e w' => e = stopE (refErr st).1 (refErr st).2 ∧ Below w1.heap.size w1 w') := fun w1 => refuse_any w1 st.now hn st.p st rfl rfl
    cases hr
    obtain ⟨T, v, htv⟩ := tok_iface hn st.p
    rw [htv] at HR h1 h2 c2
    generalize (refErr st).1 = n at *
    generalize (refErr st).2 = j at *
    clear h hwf hn hx1 hx2 hi1 hi2 htv
    go_enter Tryz.func169, Tryz.ntmps169
    go_wp2_with fail
    refine (HR.out _).mono ?_
    rintro e w2 ⟨rfl, hB⟩
    exact ⟨rfl, rfl, HZ0.out.fq.below hB⟩

theorem res_ok (w0 w : World) (b m : Nat) (s : ByteArray) (st st' : St) (l : List UInt8) (h : Pz w0 b m s st w) (hT : Tabs w0) (hr : res s st = .ok l st') :
    Calls Tryz.prog 103 #[.pointer (some ⟨b, 0, none⟩)] w (POk w0 b m s w (str l) st') := by
  have c2 := h.cell.1
  unfold res at hr
  cases hi : iriP s st with
  | bad n j => rw [hi] at hr; cases hr
  | ok x st1 =>
    rw [hi] at hr
    obtain ⟨rfl, rfl, h200⟩ := bnd_ok hr
    have HI : Hid (Calls Tryz.prog 169 #[.pointer (some ⟨b, 0, none⟩)] w (POk w0 b m s w (str l) st')) := iri_ok w0 w b m s st st' l h hT hi
    have HB : Hid (∀ w1, Calls Tryz.prog 94 #[tokV st.now st.p, str l] w1 fun e w' => e = .returned (str l) ∧ w' = w1) := fun w1 => bounded_ok w1 st.now st.p l h200
    clear h hT hi hr h200
    go_enter Tryz.func103, Tryz.ntmps103
    go_wp2_with fail
    refine HI.out.mono ?_
    rintro e w1 ⟨rfl, hP⟩
    go_wp2_with fail
    refine (HB.out _).mono ?_
    rintro e w2 ⟨rfl, rfl⟩
    go_wp2
    go_ret
    exact ⟨rfl, hP⟩

theorem res_bad (w0 w : World) (b m : Nat) (s : ByteArray) (st : St) (n : Int) (j : Nat) (h : Pz w0 b m s st w) (hT : Tabs w0) (hn : Sg.isNone st.now = false) (hr : res s st = .bad n j) :
    Calls Tryz.prog 103 #[.pointer (some ⟨b, 0, none⟩)] w (PBad w0 b m n j) := by
  have c2 := h.cell.1
  unfold res at hr
  cases hi : iriP s st with
  | bad n' j' =>
    rw [hi] at hr
    cases hr
    have HI : Hid (Calls Tryz.prog 169 #[.pointer (some ⟨b, 0, none⟩)] w (PBad w0 b m n j)) := iri_bad w0 w b m s st n j h hn hi
    clear h hT hi hn
    go_enter Tryz.func103, Tryz.ntmps103
    go_wp2_with fail
    refine HI.out.mono ?_
    rintro e w1 ⟨rfl, hP⟩
    exact ⟨rfl, rfl, hP⟩
  | ok x st1 =>
    rw [hi] at hr
    unfold bnd at hr
    simp only at hr
    split at hr
    · rename_i h200
      cases hr
      have HI : Hid (Calls Tryz.prog 169 #[.pointer (some ⟨b, 0, none⟩)] w (POk w0 b m s w (str x) st1)) := iri_ok w0 w b m s st st1 x h hT hi
      have HB : Hid (∀ w1, Calls Tryz.prog 94 #[tokV st.now st.p, str x] w1 fun e w' => e = stopE 4 st.p ∧ w' = w1) := fun w1 => bounded_bad w1 st.now hn st.p x h200
      clear h hT hi h200 hn
      go_enter Tryz.func103, Tryz.ntmps103
      go_wp2_with fail
      refine HI.out.mono ?_
      rintro e w1 ⟨rfl, hP⟩
      go_wp2_with fail
      refine (HB.out _).mono ?_
      rintro e w2 ⟨rfl, rfl⟩
      exact ⟨rfl, rfl, hP.1.fq⟩
    · cases hr

theorem row_cases (sg : Sg) : (∃ l, sg = .row l) ∨ Sg.is_row sg = false := by
  cases sg
  case row l => exact Or.inl ⟨l, rfl⟩
  all_goals exact Or.inr rfl
theorem verb_row {s : ByteArray} {st : St} {x : List UInt8} (hx : st.now = .row x) (h97 : x ≠ [97]) : verb s st = res s st := by unfold verb; rw [hx]; simp only; rw [if_neg h97]
theorem verb_not {s : ByteArray} {st : St} (hx : Sg.is_row st.now = false) : verb s st = res s st := by
  unfold verb
  split
  · rename_i l hl
    rw [hl] at hx
    cases hx
  · rfl

set_option maxHeartbeats 1000000 in
set_option maxRecDepth 20000 in
theorem verb_a (w0 w : World) (b m : Nat) (s : ByteArray) (st : St) (h : Pz w0 b m s st w) (hT : Tabs w0) (hx : st.now = .row [97]) :
    Calls Tryz.prog 96 #[.pointer (some ⟨b, 0, none⟩)] w (POk w0 b m s w (str typeI) (step s st)) := by
  have c2 := h.cell.1
  have hbw := h.lt
  have HZ : Hid (∀ o, PK w0 b m s st w (w.alloc o)) := fun o => (PK.refl h).alloc o
  have hta := as_row_yes [97] st.p
  rw [hx] at c2
  have HS : Hid (∀ w1, PK w0 b m s st w w1 → Calls Tryz.prog 55 #[.pointer (some ⟨b, 0, none⟩)] w1 fun e w' => e = .returned (.tuple #[]) ∧ PK w0 b m s (step s st) w w') := fun w1 h1 => stepK h1 hT (by rw [hx]; rfl)
  clear h hT hx
  go_enter Tryz.func96, Tryz.ntmps96
  go_wp2_with fail
  refine (HS.out _ (HZ.out _)).mono ?_
  rintro e w1 ⟨rfl, hP⟩
  go_wp2
  go_ret
  exact ⟨rfl, hP⟩

set_option maxHeartbeats 1000000 in
set_option maxRecDepth 20000 in
theorem verb_ok (w0 w : World) (b m : Nat) (s : ByteArray) (st st' : St) (l : List UInt8) (h : Pz w0 b m s st w) (hT : Tabs w0) (hr : verb s st = .ok l st') :
    Calls Tryz.prog 96 #[.pointer (some ⟨b, 0, none⟩)] w (POk w0 b m s w (str l) st') := by
  by_cases ha : st.now = .row [97]
  · have e : verb s st = .ok typeI (step s st) := by unfold verb; rw [ha]; simp
    rw [e] at hr
    cases hr
    exact verb_a w0 w b m s st h hT ha
  have hrr : res s st = .ok l st' := by
    rcases row_cases st.now with ⟨x, hx⟩ | hx
    · rw [verb_row hx (fun e => ha (by rw [hx, e]))] at hr
      exact hr
    · rw [verb_not hx] at hr
      exact hr
  have c2 := h.cell.1
  have hbw := h.lt
  have HZ : Hid (∀ o, PK w0 b m s st w (w.alloc o)) := fun o => (PK.refl h).alloc o
  have HR : Hid (∀ w1, PK w0 b m s st w w1 → Calls Tryz.prog 103 #[.pointer (some ⟨b, 0, none⟩)] w1 (POk w0 b m s w (str l) st')) := fun w1 h1 => (res_ok w0 w1 b m s st st' l h1.1 hT hrr).mono fun e w' k => ⟨k.1, h1.on k.2⟩
  rcases row_cases st.now with ⟨x, hx⟩ | hx
  · have hta := as_row_yes x st.p
    rw [hx] at c2 ha
    obtain ⟨V, hV⟩ : ∃ V : ByteArray, V = ⟨x.toArray⟩ := ⟨_, rfl⟩
    have hne : (V.toList == [97]) = false := by
      rw [beq_eq_false_iff_ne, hV, str_toList]
      exact fun e => ha (by rw [e])
    have e1 : tokV (.row x) st.p = .iface 228 (.agg #[.int .i64 st.p, .string V]) := by rw [hV]; rfl
    have e2 : str x = .string V := by rw [hV]
    rw [e1] at c2 hta
    rw [e2] at hta
    clear h hT hx hr hrr ha hV e1 e2
    go_enter Tryz.func96, Tryz.ntmps96
    go_wp2_with fail
    refine (HR.out _ (HZ.out _)).mono ?_
    rintro e w1 ⟨rfl, hP⟩
    go_wp2
    go_ret
    exact ⟨rfl, hP⟩
  · have hta := as_row_no hx st.p
    clear h hT hr hrr ha
    go_enter Tryz.func96, Tryz.ntmps96
    go_wp2_with fail
    refine (HR.out _ (HZ.out _)).mono ?_
    rintro e w1 ⟨rfl, hP⟩
    go_wp2
    go_ret
    exact ⟨rfl, hP⟩

set_option maxHeartbeats 1000000 in
set_option maxRecDepth 20000 in
theorem verb_bad (w0 w : World) (b m : Nat) (s : ByteArray) (st : St) (n : Int) (j : Nat) (h : Pz w0 b m s st w) (hT : Tabs w0) (hn : Sg.isNone st.now = false) (hr : verb s st = .bad n j) :
    Calls Tryz.prog 96 #[.pointer (some ⟨b, 0, none⟩)] w (PBad w0 b m n j) := by
  by_cases ha : st.now = .row [97]
  · have e : verb s st = .ok typeI (step s st) := by unfold verb; rw [ha]; simp
    rw [e] at hr
    cases hr
  have hrr : res s st = .bad n j := by
    rcases row_cases st.now with ⟨x, hx⟩ | hx
    · rw [verb_row hx (fun e => ha (by rw [hx, e]))] at hr
      exact hr
    · rw [verb_not hx] at hr
      exact hr
  have c2 := h.cell.1
  have hbw := h.lt
  have HZ : Hid (∀ o, PK w0 b m s st w (w.alloc o)) := fun o => (PK.refl h).alloc o
  have HR : Hid (∀ w1, PK w0 b m s st w w1 → Calls Tryz.prog 103 #[.pointer (some ⟨b, 0, none⟩)] w1 (PBad w0 b m n j)) := fun w1 h1 => res_bad w0 w1 b m s st n j h1.1 hT hn hrr
  rcases row_cases st.now with ⟨x, hx⟩ | hx
  · have hta := as_row_yes x st.p
    rw [hx] at c2 ha
    obtain ⟨V, hV⟩ : ∃ V : ByteArray, V = ⟨x.toArray⟩ := ⟨_, rfl⟩
    have hne : (V.toList == [97]) = false := by
      rw [beq_eq_false_iff_ne, hV, str_toList]
      exact fun e => ha (by rw [e])
    have e1 : tokV (.row x) st.p = .iface 228 (.agg #[.int .i64 st.p, .string V]) := by rw [hV]; rfl
    have e2 : str x = .string V := by rw [hV]
    rw [e1] at c2 hta
    rw [e2] at hta
    clear h hT hx hr hrr ha hV e1 e2 hn
    go_enter Tryz.func96, Tryz.ntmps96
    go_wp2_with fail
    refine (HR.out _ (HZ.out _)).mono ?_
    rintro e w1 ⟨rfl, hP⟩
    exact ⟨rfl, rfl, hP⟩
  · have hta := as_row_no hx st.p
    clear h hT hr hrr ha hn
    go_enter Tryz.func96, Tryz.ntmps96
    go_wp2_with fail
    refine (HR.out _ (HZ.out _)).mono ?_
    rintro e w1 ⟨rfl, hP⟩
    exact ⟨rfl, rfl, hP⟩

end Tu
end Go.Proofs.YtnffjoipinhojabGreatDoor

