import Derived.Test.YtnffjoipinhojabDoorEd
import Derived.Lib.AppendZeros
set_option linter.unusedSimpArgs false
set_option linter.unusedVariables false
namespace Go.Proofs.YtnffjoipinhojabDoor
open Go.RowKit

theorem wpList_append_run {P : Program} {ops : Array Oper} {rest : List Oper} {o : Oper} {a : Act} {Q : Exit → Act → World → Prop} {w w1 : World} (hgd : o.guard = none) (s x : Operand) (t u ty : TypeId)
    (ho : o.op = .call { callee := .builtin .append, args := #[s, x], argTypes := #[t, u] }) (hty : o.type = ty) (v1 v2 v3 : Value) (hs : a.eval s = v1) (hx : a.eval x = v2)
    (hr : (Builtin.append_ #[t, u] ty #[v1, v2]).run P w = .ok v3 w1) (h : wpList P ops Q rest (a.put o.dst v3) w1) : wpList P ops Q (o :: rest) a w :=
  wpList_plain hgd fun _ hK => by
    unfold Oper.wp execOp
    simp only [ho, hty, resolve, invoke, builtin, Sem.run_bind, Sem.run_pure, Result.andThen_ok, List.map_toArray, List.map_cons, List.map_nil, hs, hx, hr]
    exact hK _ _ h

/-- append of texts onto a row of the call's own -/
theorem append_texts (w : World) (base : Nat) (v x : Value) (l m : List (List UInt8)) (ho : OwnT w base v l) (hx : Texts w x m) (hl : l.length ≤ 1000) (hm : m.length ≤ 1000) (hb : base ≤ w.heap.size) :
    ∃ u w1, (Builtin.append_ #[22, 22] 22 #[v, x]).run Tryd.prog w = .ok u w1 ∧ OwnT w1 base u (l ++ m) ∧ w.grownBy w1 v.ownBlock := by
  obtain ⟨i0, hi, hz0, hz1, hz2⟩ := info_parts infoStr
  rcases hx with ⟨a0, cap0, rfl, _, rfl⟩ | ⟨b, off, cap, rfl, hbl, hlc, hcm, hc⟩
  · refine ⟨v, w, ?_, by rw [List.append_nil]; exact ho, ⟨rfl, rfl, rfl, Nat.le_refl _, fun _ _ _ => rfl⟩⟩
    rcases ho.2 with ⟨rfl, h1⟩ | ⟨g, cap, cur, rfl, h2, h3, h4, h5, h6, h7⟩
    · cases a0 with
      | none => simp [Builtin.append_, run_underlying Tryd.underlying22, sizeOf, typeInfo, hi, Builtin.lenOf, Builtin.firstCells]
      | some a =>
        have h0 := run_loadCells_list (P := Tryd.prog) w a [] (fun j u hj => by simp at hj)
        simp only [List.length_nil] at h0
        simp [Builtin.append_, run_underlying Tryd.underlying22, sizeOf, typeInfo, hi, Builtin.lenOf, Builtin.firstCells, h0]
    · cases a0 with
      | none => simp [Builtin.append_, run_underlying Tryd.underlying22, sizeOf, typeInfo, hi, Builtin.lenOf, Builtin.firstCells, h4, storeCells]
      | some a =>
        have h0 := run_loadCells_list (P := Tryd.prog) w a [] (fun j u hj => by simp at hj)
        simp only [List.length_nil] at h0
        simp [Builtin.append_, run_underlying Tryd.underlying22, sizeOf, typeInfo, hi, Builtin.lenOf, Builtin.firstCells, h0, h4, storeCells]
  · obtain ⟨c, w1, h1, h2, h3, _⟩ := run_append_own (P := Tryd.prog) w base 22 22 9 i0 (.string ⟨#[]⟩) 1 16 Tryd.underlying22 hi hz0 hz1 hz2 rfl (by decide) v l.length (l.map strT) ho ⟨b, off, none⟩ m.length cap (m.map strT) (by simp)
      (fun j u hj => by
        rw [List.getElem?_map] at hj
        obtain ⟨t, ht, rfl⟩ := Option.map_eq_some_iff.1 hj
        have hplain : (⟨b, off, none⟩ : Addr).add j = ⟨b, off + j, none⟩ := by unfold Addr.add; split <;> simp_all
        rw [hplain]
        exact hc j t ht)
      (fun u hu => by obtain ⟨y, _, rfl⟩ := List.mem_map.1 hu; rfl) (by unfold maxLen; omega) (by omega) hb
    refine ⟨c, w1, h1, ?_, h3⟩
    have := h2
    rw [← List.map_append, ← List.length_append] at this
    exact this

set_option maxHeartbeats 4000000 in
set_option maxRecDepth 20000 in
theorem grow_nil (w : World) (k : Nat) (h0 : 0 < k) (hk : k ≤ 1000) :
    Calls Tryd.prog 65 #[.slice none 0 0, .int .i64 k] w fun e w' => ∃ g c, e = .returned (.slice (some ⟨g, 0, none⟩) 0 c) ∧ OwnT w' w.heap.size (.slice (some ⟨g, 0, none⟩) 0 c) [] ∧ Below w.heap.size w w' := by
  obtain ⟨i0, hi, hz0, hz1, hz2⟩ := info_parts infoStr
  have hw0 : IntKind.i64.wrap (k : Int) = k := by rw [IntKind.wrap_i64]; omega
  have hki : (0 : Int) < (k : Int) := by omega
  have hkn : ¬ ((k : Int) < 0) := by omega
  have hap := Lib.run_append_nil_zeros (P := Tryd.prog) w 22 3 22 9 i0 (.string ⟨#[]⟩) .i64 .i64 Tryd.underlying22 Tryd.underlying3 hi hz0 k h0 (by rw [hz1]; omega) (by omega) (by rw [hz2]; omega)
  obtain ⟨c, hc⟩ : ∃ c, c = grownCap w k 0 9 := ⟨_, rfl⟩
  have hck : k ≤ c := by rw [hc]; exact grownCap_ge _ _ _ _
  have hcm : c ≤ maxLen := by rw [hc]; exact grownCap_le_maxLen _ _ _ _ (by unfold maxLen; omega)
  have HW : Hid (∃ w1, (Builtin.append_ #[22, 3] 22 #[.slice none 0 0, .int .i64 k]).run Tryd.prog w = .ok (.slice (some ⟨w.heap.size, 0, none⟩) k c) w1 ∧ OwnT w1 w.heap.size (.slice (some ⟨w.heap.size, 0, none⟩) 0 c) [] ∧ Below w.heap.size w w1) := by
    rw [← hc] at hap
    refine ⟨_, hap, ⟨rfl, .inr ⟨w.heap.size, c, _, rfl, Nat.le_refl _, World.alloc_heap_new w.drew _, Nat.zero_le _, hcm, ?_, by simp⟩⟩, (Below.refl _ w).drew.alloc (Nat.le_refl _) _⟩
    have hzc : ∀ n, (Builtin.zeroCells (Value.string ⟨#[]⟩).cells n).size = n := by
      intro n
      simp [Builtin.zeroCells, Value.cells]
    simp only [Array.size_append, hzc]
    omega
  obtain ⟨w1, hap1, how, hbw⟩ := HW.out
  have HO : Hid (OwnT w1 w.heap.size (.slice (some ⟨w.heap.size, 0, none⟩) 0 c) [] ∧ Below w.heap.size w w1) := ⟨how, hbw⟩
  clear hap how hbw HW hc
  unfold maxLen at hcm
  go_enter Tryd.func65, Tryd.ntmps65
  go_wp2_with (first | (at_builtin; refine wpList_append_run rfl _ _ 22 3 22 rfl rfl _ _ _ rfl rfl hap1 ?_))
  go_ret
  exact ⟨_, c, rfl, HO.out⟩

/-- a list of texts in a value that is written out -/
theorem Texts.form {w : World} {v : Value} {l : List (List UInt8)} (h : Texts w v l) : ∃ o c, v = .slice o l.length c := by
  rcases h with ⟨o, c, rfl, _, rfl⟩ | ⟨g, off, cap, rfl, _⟩
  · exact ⟨o, c, rfl⟩
  · exact ⟨_, cap, rfl⟩

theorem Texts.fm {r : Nat} {w w' : World} {v : Value} {l : List (List UInt8)} (h : Texts w v l) (hb : Fm r w w') (hr : ∀ g off cap, v = .slice (some ⟨g, off, none⟩) l.length cap → l ≠ [] → g ≠ r) : Texts w' v l := by
  rcases h with h | ⟨g, off, cap, h1, h2, h3, h4, h5⟩
  · exact .inl h
  · refine .inr ⟨g, off, cap, h1, Nat.lt_of_lt_of_le h2 hb.size, h3, h4, fun k t hk => ?_⟩
    have hne : l ≠ [] := by intro e; rw [e] at hk; simp at hk
    exact (World.cell?_of_block (a := ⟨g, off + k, none⟩) (hb.block g h2 (fun e => hr g off cap h1 hne (by cases e; rfl)))).trans (h5 k t hk)

/-- the first q of two lists, as one -/
def pick2 (l m : List (List UInt8)) (q : Nat) : List (List UInt8) := if q = 0 then [] else if q = 1 then l else l ++ m

set_option maxHeartbeats 4000000 in
set_option maxRecDepth 20000 in
/-- slices.Concat of two lists -/
theorem concat_any (w : World) (p : Nat) (v1 v2 : Value) (l m : List (List UInt8)) (c1 : w.cell? ⟨p, 0, none⟩ = some v1) (c2 : w.cell? ⟨p, 1, none⟩ = some v2) (h1 : Texts w v1 l) (h2 : Texts w v2 m) (hl : l.length ≤ 100) (hm : m.length ≤ 100) (h0 : 0 < m.length) :
    Calls Tryd.prog 49 #[.slice (some ⟨p, 0, none⟩) 2 2] w fun e w' => ∃ u, e = .returned u ∧ OwnT w' w.heap.size u (l ++ m) ∧ Below w.heap.size w w' := by
  obtain ⟨o1, cc1, rfl⟩ := h1.form
  obtain ⟨o2, cc2, rfl⟩ := h2.form
  have hpl : p < w.heap.size := World.block_lt_of_cell? w ⟨p, 0, none⟩ c1
  have HG : Hid (Calls Tryd.prog 65 #[.slice none 0 0, .int .i64 ((l.length + m.length : Nat) : Int)] w fun e w' => ∃ g c, e = .returned (.slice (some ⟨g, 0, none⟩) 0 c) ∧ OwnT w' w.heap.size (.slice (some ⟨g, 0, none⟩) 0 c) [] ∧ Below w.heap.size w w') := grow_nil w (l.length + m.length) (by omega) (by omega)
  have HX1 : Hid (Texts w (.slice o1 l.length cc1) l) := h1
  have HX2 : Hid (Texts w (.slice o2 m.length cc2) m) := h2
  have HC : Hid (w.cell? ⟨p, 0, none⟩ = some (.slice o1 l.length cc1) ∧ w.cell? ⟨p, 1, none⟩ = some (.slice o2 m.length cc2)) := ⟨c1, c2⟩
  have hw1 : IntKind.i64.wrap (l.length : Int) = l.length := by rw [IntKind.wrap_i64]; omega
  have hw2 : IntKind.i64.wrap ((l.length : Int) + m.length) = (l.length : Int) + m.length := by rw [IntKind.wrap_i64]; omega
  clear h1 h2
  go_enter Tryd.func49, Tryd.ntmps49
  go_wp2_with fail
  go_loopw [3, 11] (fun t3 t11 wr => ∃ q : Nat, q ≤ 2 ∧ t11 = .int .i64 q ∧ t3 = .int .i64 (pick2 l m q).length ∧ w = wr) (fun t3 t11 wr => 2 - (intOf t11).toNat)
  case atStart => exact ⟨0, by omega, rfl, rfl, rfl⟩
  case round =>
    obtain ⟨q, hq, rfl, rfl, rfl⟩ := hrel
    rcases (by omega : q = 0 ∨ q = 1 ∨ q = 2) with rfl | rfl | rfl
    · have e0 : (pick2 l m 0).length = 0 := rfl
      rw [e0]
      go_wp2_with fail
      go_roundw
      case rel => exact ⟨1, by omega, by go_num, by simp [pick2], trivial⟩
      case measure => simp [intOf]
    · have e1 : (pick2 l m 1).length = l.length := rfl
      rw [e1]
      go_wp2_with fail
      go_roundw
      case rel => exact ⟨2, by omega, by go_num, by simp [pick2], trivial⟩
      case measure => simp [intOf]
    · have e2 : (pick2 l m 2).length = l.length + m.length := by simp [pick2]
      rw [e2]
      go_wp2_with fail
      refine HG.out.mono ?_
      rintro e w2 ⟨g, c, rfl, ho2, hb2⟩
      have HO2 : Hid (OwnT w2 w.heap.size (.slice (some ⟨g, 0, none⟩) 0 c) []) := ho2
      have HB2 : Hid (Below w.heap.size w w2) := hb2
      clear ho2 hb2 c1 c2
      go_wp2_with fail
      go_loopw [6, 27] (fun t6 t27 w5 => ∃ (q : Nat) (o : Option Addr) (c : Nat), q ≤ 2 ∧ t27 = .int .i64 q ∧ t6 = .slice o (pick2 l m q).length c ∧ OwnT w5 w.heap.size (.slice o (pick2 l m q).length c) (pick2 l m q) ∧ Below w.heap.size w w5) (fun t6 t27 w5 => 2 - (intOf t27).toNat)
      case atStart => exact ⟨0, _, c, by omega, rfl, rfl, HO2.out, HB2.out⟩
      case round =>
        obtain ⟨q, o, c5, hq5, rfl, rfl, ho5, hb5⟩ := hrel
        have HB5 : Hid (Below w.heap.size w wr) := hb5
        have hcell := HC.out
        have c1 := (hb5.cell (p := ⟨p, 0, none⟩) hpl).trans hcell.1
        have c2 := (hb5.cell (p := ⟨p, 1, none⟩) hpl).trans hcell.2
        clear hcell
        rcases (by omega : q = 0 ∨ q = 1 ∨ q = 2) with rfl | rfl | rfl
        · obtain ⟨u, w6, hap, ho6, hg6⟩ := append_texts wr w.heap.size _ _ (pick2 l m 0) l ho5 (HX1.out.below hb5) (by simp [pick2]) (by omega) hb5.size
          have HB6 : Hid (Below w.heap.size w w6) := Below.grown hb5 hg6 hb5.size (fun x hx => (ho5.lt x hx).1)
          have HO6 : Hid (OwnT w6 w.heap.size u (pick2 l m 1)) := ho6
          obtain ⟨o6, c6, hu⟩ := row_form HO6.out
          subst hu
          clear ho5 ho6 hg6 hb5
          go_wp2_with (first | (at_builtin; refine wpList_append_run rfl _ _ 22 22 22 rfl rfl _ _ _ rfl rfl hap ?_))
          go_roundw
          case rel => exact ⟨1, o6, c6, by omega, by go_num, rfl, HO6.out, HB6.out⟩
          case measure => simp [intOf]
        · obtain ⟨u, w6, hap, ho6, hg6⟩ := append_texts wr w.heap.size _ _ (pick2 l m 1) m ho5 (HX2.out.below hb5) (by simp [pick2]; omega) (by omega) hb5.size
          have HB6 : Hid (Below w.heap.size w w6) := Below.grown hb5 hg6 hb5.size (fun x hx => (ho5.lt x hx).1)
          have HO6 : Hid (OwnT w6 w.heap.size u (pick2 l m 2)) := ho6
          obtain ⟨o6, c6, hu⟩ := row_form HO6.out
          subst hu
          clear ho5 ho6 hg6 hb5
          go_wp2_with (first | (at_builtin; refine wpList_append_run rfl _ _ 22 22 22 rfl rfl _ _ _ rfl rfl hap ?_))
          go_roundw
          case rel => exact ⟨2, o6, c6, by omega, by go_num, by first | rfl | simp [pick2], HO6.out, HB6.out⟩
          case measure => simp [intOf]
        · have HO5 : Hid (OwnT wr w.heap.size (.slice o (pick2 l m 2).length c5) (l ++ m)) := ho5
          clear ho5 hb5
          go_wp2_with fail
          go_ret
          exact ⟨_, rfl, HO5.out, HB5.out⟩

end Go.Proofs.YtnffjoipinhojabDoor
