import Derived.Test.YtnffjoipinhojabDoorDb
set_option linter.unusedSimpArgs false
set_option linter.unusedVariables false
namespace Go.Proofs.YtnffjoipinhojabDoor
open Go.RowKit

/-- a list of texts that a caller hands in -/
def Texts (w : World) (v : Value) (l : List (List UInt8)) : Prop :=
  (∃ o c, v = .slice o 0 c ∧ c ≤ maxLen ∧ l = []) ∨ ∃ g off cap, v = .slice (some ⟨g, off, none⟩) l.length cap ∧ g < w.heap.size ∧ l.length ≤ cap ∧ cap ≤ maxLen ∧ Strs w g off l

theorem Texts.below {w w' : World} {v : Value} {l : List (List UInt8)} (h : Texts w v l) (hb : Below w.heap.size w w') : Texts w' v l := by
  rcases h with h | ⟨g, off, cap, h1, h2, h3, h4, h5⟩
  · exact .inl h
  · exact .inr ⟨g, off, cap, h1, Nat.lt_of_lt_of_le h2 hb.size, h3, h4, h5.below h2 hb⟩

/-- a row of texts of the call's own -/
abbrev OwnT (w : World) (base : Nat) (v : Value) (l : List (List UInt8)) : Prop := w.ownsRow base 9 1 v l.length (l.map strT)

theorem own_texts {w : World} {base : Nat} {v : Value} {l : List (List UInt8)} (h : OwnT w base v l) : Texts w v l := by
  rcases h.2 with ⟨h1, h2⟩ | ⟨g, cap, cur, h1, h2, h3, h4, h5, h6, h7⟩
  · exact .inl ⟨none, 0, by rw [h1], by unfold maxLen; omega, List.length_eq_zero_iff.1 h2⟩
  · refine .inr ⟨g, 0, cap, h1, (Array.getElem?_eq_some_iff.1 h3).1, h4, h5, fun k t hk => ?_⟩
    have hc := h.cells (g := g) (by rw [h1]; rfl) k (strT t) (by rw [List.getElem?_map, hk]; rfl)
    have e : (⟨g, 0, none⟩ : Addr).add k = ⟨g, 0 + k, none⟩ := by unfold Addr.add; split <;> simp_all
    rw [e] at hc
    exact hc

theorem infoStr : (Tryd.prog.info? 9).map (fun i => (i.zero, i.size, i.bytes)) = some (some (.string ⟨#[]⟩), 1, 16) := by kernel_rfl

/-- 'append(l, list...)', l nil -/
theorem copy_texts (l : List (List UInt8)) (v : Value) (w : World) (hv : Texts w v l) (hl : l.length ≤ 1048576) :
    ∃ c w1, (Builtin.append_ #[22, 22] 22 #[.slice none 0 0, v]).run Tryd.prog w = .ok c w1 ∧ OwnT w1 w.heap.size c l ∧ Below w.heap.size w w1 := by
  obtain ⟨i0, hi, hz0, hz1, hz2⟩ := info_parts infoStr
  rcases hv with ⟨a0, cap0, rfl, _, rfl⟩ | ⟨b, off, cap, rfl, hb, hlc, hcm, hc⟩
  · refine ⟨.slice none 0 0, w, ?_, World.ownsRow_nil _ _ _ _, Below.refl _ _⟩
    cases a0 with
    | none => simp [Builtin.append_, run_underlying Tryd.underlying22, sizeOf, typeInfo, hi, Builtin.lenOf, Builtin.firstCells]
    | some a =>
      have h0 := run_loadCells_list (P := Tryd.prog) w a [] (fun j u hj => by simp at hj)
      simp only [List.length_nil] at h0
      simp [Builtin.append_, run_underlying Tryd.underlying22, sizeOf, typeInfo, hi, Builtin.lenOf, Builtin.firstCells, h0]
  · obtain ⟨c, w1, h1, h2, h3, _⟩ := run_append_own (P := Tryd.prog) w w.heap.size 22 22 9 i0 (.string ⟨#[]⟩) 1 16 Tryd.underlying22 hi hz0 hz1 hz2 rfl (by decide) (.slice none 0 0) 0 [] (World.ownsRow_nil _ _ _ _) ⟨b, off, none⟩ l.length cap (l.map strT) (by simp)
      (fun j u hj => by
        rw [List.getElem?_map] at hj
        obtain ⟨t, ht, rfl⟩ := Option.map_eq_some_iff.1 hj
        have hplain : (⟨b, off, none⟩ : Addr).add j = ⟨b, off + j, none⟩ := by unfold Addr.add; split <;> simp_all
        rw [hplain]
        exact hc j t ht)
      (fun u hu => by obtain ⟨y, _, rfl⟩ := List.mem_map.1 hu; rfl) (by unfold maxLen; omega) (by omega) (Nat.le_refl _)
    refine ⟨c, w1, h1, ?_, Below.grown (Below.refl _ _) h3 (Nat.le_refl _) (fun k hk => by simp [Value.ownBlock] at hk)⟩
    simpa [OwnT] using h2

theorem wpList_append_eq {ops : Array Oper} {rest : List Oper} {o : Oper} {a : Act} {Q : Exit → Act → World → Prop} {w w1 : World} {v l : Value} (hgd : o.guard = none) (s x : Operand)
    (ho : o.op = .call { callee := .builtin .append, args := #[s, x], argTypes := #[22, 22] }) (hty : o.type = 22) (hs : a.eval s = .slice none 0 0) (hx : a.eval x = v)
    (hr : (Builtin.append_ #[22, 22] 22 #[.slice none 0 0, v]).run Tryd.prog w = .ok l w1) (h : wpList Tryd.prog ops Q rest (a.put o.dst l) w1) : wpList Tryd.prog ops Q (o :: rest) a w :=
  wpList_plain hgd fun _ hK => by
    unfold Oper.wp execOp
    simp only [ho, hty, resolve, invoke, builtin, Sem.run_bind, Sem.run_pure, Result.andThen_ok, List.map_toArray, List.map_cons, List.map_nil, hs, hx, hr]
    exact hK _ _ h

theorem refuse_nil : refuse [] = none := rfl

set_option maxHeartbeats 4000000 in
set_option maxRecDepth 20000 in
theorem check_zero (w : World) (o : Option Addr) (c : Nat) :
    Calls Tryd.prog 15 #[.slice o 0 c] w fun e w' => e = .returned (ckV []) ∧ Below w.heap.size w w' := by
  go_enter Tryd.func15, Tryd.ntmps15
  go_wp2_with fail
  go_loopw [3] (fun t3 wr => t3 = .int .i64 1 ∧ wr = w) (fun t3 wr => 0)
  case atStart => exact ⟨rfl, rfl⟩
  case round =>
    obtain ⟨rfl, rfl⟩ := hrel
    go_wp2_with fail
    go_loopw [27] (fun t27 w1 => t27 = .int .i64 0 ∧ w1 = wr) (fun t27 w1 => 0)
    case atStart => exact ⟨rfl, rfl⟩
    case round =>
      obtain ⟨rfl, rfl⟩ := hrel
      go_wp2_with fail
      go_ret
      exact ⟨rfl, Below.refl _ _⟩

theorem check_all (w : World) (v : Value) (l : List (List UInt8)) (hv : Texts w v l) (hn : l.length ≤ 1048576) (hz : ∀ t ∈ l, t.length ≤ 1000000000) :
    Calls Tryd.prog 15 #[v] w fun e w' => e = .returned (ckV l) ∧ Below w.heap.size w w' := by
  rcases hv with ⟨o, c, rfl, _, rfl⟩ | ⟨g, off, cap, rfl, hg, hlc, hcm, hL⟩
  · exact check_zero w o c
  · exact check_some w g off cap l hg (by omega) hL hz

set_option maxHeartbeats 4000000 in
set_option maxRecDepth 20000 in
theorem buildDict_zero (w : World) (o : Option Addr) (c : Nat) :
    Calls Tryd.prog 7 #[.slice o 0 c] w fun e w' => e = .returned (rbV []) ∧ Below w.heap.size w w' := by
  have HV : Hid (Calls Tryd.prog 23 #[.int .i64 0] w fun e w' => e = .returned (.string ⟨(Lib.uvarint 0).toArray⟩) ∧ Below w.heap.size w w') := refv_any 0 w (by omega)
  have HE : Hid (rbV [] = .tuple #[.string ⟨(Lib.uvarint 0).toArray⟩, .int .i64 0, .int .i64 0]) := by
    unfold Hid
    rw [rbV_none refuse_nil, dictE_nil, List.append_nil]
    rfl
  go_enter Tryd.func7, Tryd.ntmps7
  go_wp2_with fail
  go_loopw [5] (fun t5 wr => t5 = .int .i64 1 ∧ wr = w) (fun t5 wr => 0)
  case atStart => exact ⟨rfl, rfl⟩
  case round =>
    obtain ⟨rfl, rfl⟩ := hrel
    go_wp2_with fail
    go_loopw [6] (fun t6 w1 => t6 = .int .i64 0 ∧ w1 = wr) (fun t6 w1 => 0)
    case atStart => exact ⟨rfl, rfl⟩
    case round =>
      obtain ⟨rfl, rfl⟩ := hrel
      go_wp2_with fail
      refine HV.out.mono ?_
      rintro e w3 ⟨rfl, hb3⟩
      go_wp2_with fail
      go_loopw [7, 8] (fun t7 t8 w1 => t7 = .string ⟨(Lib.uvarint 0).toArray⟩ ∧ t8 = .int .i64 0 ∧ w1 = w3) (fun t7 t8 w1 => 0)
      case atStart => exact ⟨rfl, rfl, rfl⟩
      case round =>
        obtain ⟨rfl, rfl, rfl⟩ := hrel
        go_wp2_with fail
        go_ret3
        exact ⟨by rw [HE.out]; rfl, hb3⟩

theorem buildDict_all (w : World) (v : Value) (l : List (List UInt8)) (hv : Texts w v l) (hn : l.length ≤ 1048576) (hz : ∀ t ∈ l, t.length ≤ 1000000000) :
    Calls Tryd.prog 7 #[v] w fun e w' => e = .returned (rbV l) ∧ Below w.heap.size w w' := by
  rcases hv with ⟨o, c, rfl, _, rfl⟩ | ⟨g, off, cap, rfl, hg, hlc, hcm, hL⟩
  · exact buildDict_zero w o c
  · exact buildDict_some w g off cap l hg hn hL hz

theorem build_all (w : World) (v : Value) (l : List (List UInt8)) (hv : Texts w v l) (hn : l.length ≤ 1048576) (hz : ∀ t ∈ l, t.length ≤ 1000000000) (hH : Handle w) :
    Calls Tryd.prog 6 #[v] w fun e w' => e = .returned (rbV l) ∧ Below w.heap.size w w' := by
  have hC := check_all w v l hv hn hz
  cases hr : refuse l with
  | some x => exact build_bad w v l x.1 x.2 hr hC hH
  | none =>
    have hlong : longAt 0 l = none := by
      unfold refuse at hr
      split at hr
      · cases hr
      · split at hr
        · cases hr
        · rename_i h; exact h
    rcases hv with ⟨o, c, rfl, hc, rfl⟩ | ⟨g, off, cap, rfl, hg, hlc, hcm, hL⟩
    · exact build_good w o 0 0 c [] (.inl rfl) (fun h => absurd rfl h) (Nat.zero_le _) hc hn (fun k t hk => by cases hk) hr (fun t ht => by cases ht) hC
    · exact build_good w _ g off cap l (.inr rfl) (fun _ => hg) hlc hcm hn hL hr (long_none hlong) hC

theorem rbV_form (l : List (List UInt8)) : ∃ (S : ByteArray) (n i : Int), rbV l = .tuple #[.string S, .int .i64 n, .int .i64 i] := by
  unfold rbV
  split
  · exact ⟨_, _, _, rfl⟩
  · exact ⟨_, _, _, rfl⟩

set_option maxHeartbeats 4000000 in
set_option maxRecDepth 20000 in
theorem dictBuilds_any (w : World) (v : Value) (l : List (List UInt8)) (hv : Texts w v l) (hn : l.length ≤ 1048576) (hz : ∀ t ∈ l, t.length ≤ 1000000000) (hH : Handle w) :
    Calls Tryd.prog 3 #[v] w fun e w' => e = .returned (.bool true) ∧ Below w.heap.size w w' := by
  obtain ⟨c, w1, hap, hown, hb1⟩ := copy_texts l v w hv hn
  obtain ⟨S, n, i, hrb⟩ := rbV_form l
  have HV1 : Hid (Texts w1 v l) := hv.below hb1
  have HB1 : Hid (Below w.heap.size w w1) := hb1
  have HO1 : Hid (OwnT w1 w.heap.size c l) := hown
  have HBd : Hid (Calls Tryd.prog 6 #[c] w1 fun e w' => e = .returned (.tuple #[.string S, .int .i64 n, .int .i64 i]) ∧ Below w1.heap.size w1 w') := by
    have := build_all w1 c l (own_texts hown) hn hz (hH.below hb1)
    rw [hrb] at this
    exact this
  have HRd : Hid (∀ w2, Texts w2 v l → Calls Tryd.prog 7 #[v] w2 fun e w' => e = .returned (.tuple #[.string S, .int .i64 n, .int .i64 i]) ∧ Below w2.heap.size w2 w') := fun w2 h2 => by
    have := buildDict_all w2 v l h2 hn hz
    rw [hrb] at this
    exact this
  have HN : Hid (∀ w2, Calls Tryd.prog 8 #[.int .i64 n] w2 fun e w' => e = .returned (.int .i64 n) ∧ w2 = w') := fun w2 => num_any n w2
  have mixed : Tryd.prog.follows Departure.mixedOrders = true := by kernel_rfl
  obtain ⟨o, cc, hvf⟩ : ∃ o cc, v = .slice o l.length cc := by
    rcases hv with ⟨o, c, h1, _, rfl⟩ | ⟨g, off, cap, h1, _⟩
    · exact ⟨o, c, h1⟩
    · exact ⟨_, cap, h1⟩
  subst hvf
  clear hv hown hrb hH hz hb1
  go_enter Tryd.func3, Tryd.ntmps3
  go_wp2_with (at_builtin; refine wpList_append_eq rfl _ _ rfl rfl rfl rfl hap ?_)
  refine HBd.out.mono ?_
  rintro e w2 ⟨rfl, hb2⟩
  have HV2 : Hid (Texts w2 (.slice o l.length cc) l) := HV1.out.below hb2
  have HB2 : Hid (Below w.heap.size w w2) := HB1.out.trans (hb2.mono HB1.out.size)
  have HO2 : Hid (Texts w2 c l) := (own_texts HO1.out).below hb2
  clear hb2
  go_wp2_with fail
  refine (HRd.out w2 HV2.out).mono ?_
  rintro e w3 ⟨rfl, hb3⟩
  have HV3 : Hid (Texts w3 (.slice o l.length cc) l) := HV2.out.below hb3
  have HB3 : Hid (Below w.heap.size w w3) := HB2.out.trans (hb3.mono HB2.out.size)
  have HO3 : Hid (Texts w3 c l) := HO2.out.below hb3
  clear hb3
  go_wp2_with fail
  go_loopw [10] (fun t10 wr => ∃ q : Nat, q ≤ l.length ∧ t10 = .int .i64 q ∧ Below w3.heap.size w3 wr) (fun t10 wr => l.length - (intOf t10).toNat)
  case atStart => exact ⟨0, Nat.zero_le _, rfl, Below.refl _ _⟩
  case round =>
    obtain ⟨q, hq, rfl, hb⟩ := hrel
    have HB : Hid (Below w3.heap.size w3 wr) := hb
    clear hb
    by_cases hlt : q < l.length
    · obtain ⟨t, ht⟩ : ∃ t, l[q]? = some t := ⟨_, List.getElem?_eq_getElem hlt⟩
      rcases HV3.out.below HB.out with ⟨_, _, _, _, rfl⟩ | ⟨g, off, cap, hv1, hv2, _, _, hv5⟩
      · simp at hlt
      · rcases HO3.out.below HB.out with ⟨_, _, _, _, rfl⟩ | ⟨g2, off2, cap2, ho1, ho2, _, _, ho5⟩
        · simp at hlt
        · cases hv1
          subst ho1
          have c1 := hv5 q t ht
          have c2 := ho5 q t ht
          obtain ⟨T, hT⟩ : ∃ T : ByteArray, T = ⟨t.toArray⟩ := ⟨_, rfl⟩
          rw [show strT t = .string T by rw [hT]] at c1 c2
          have b3 := HB.out
          have hj0 : (0 : Int) ≤ q := by omega
          have hj1 : (q : Int) < (l.length : Int) := by omega
          clear hT ht hv5 ho5 HV1 HV2 HV3 HO1 HO2 HO3 HBd HRd
          go_wp2_with fail
          go_region_held3 (fun w' => w'.cell? ⟨g2, off2 + q, none⟩ = some (.string T) ∧ w'.cell? ⟨g, off + q, none⟩ = some (.string T) ∧ Below w3.heap.size w3 w') (first | assumption | exact ⟨c2, c1, b3⟩ | exact ⟨c2, c1, b3.drew⟩) (fail)
          all_goals go_wp2_with fail
          all_goals go_roundw
          case rel => exact ⟨q + 1, by omega, by go_num, b3.drew⟩
          case measure => simp [intOf]; omega
    · clear HV1 HV2 HV3 HO1 HO2 HO3 HBd HRd
      go_wp2_with (first | (go_at_call 8; refine (HN.out _).mono ?_; rintro e w' ⟨rfl, rfl⟩))
      go_ret
      exact ⟨rfl, HB3.out.trans (HB.out.mono HB3.out.size)⟩

end Go.Proofs.YtnffjoipinhojabDoor
