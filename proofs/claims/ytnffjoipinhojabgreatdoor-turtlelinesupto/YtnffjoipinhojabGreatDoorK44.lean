import Derived.Test.YtnffjoipinhojabGreatDoorK43
set_option linter.unusedSimpArgs false
set_option linter.unusedVariables false
namespace Go.Proofs.YtnffjoipinhojabGreatDoor
open Go.RowKit
namespace Tu

/-! turtle.Print of one sentence, without names. -/
theorem unV6 (i : Nat) : UnV (some i) = placedV 6 i := rfl

theorem set_one {x : Tri} (hx : soundT x = true) : badAt 0 [x] = none ∧ rise [] [x] = some [x] := by
  refine ⟨by simp [badAt, hx], ?_⟩
  exact rise_self [x] [] (by simp [Rising]) (by simp)

theorem nmb_nil : NmB [] := ⟨by simp, fun x h => by cases h⟩

set_option maxHeartbeats 4000000 in
set_option maxRecDepth 20000 in
theorem printOne (w : World) (g cap : Nat) (x : Tri) (hx : soundT x = true) (hg : g < w.heap.size) (hL : Lies w g [x]) (hT : Tabs w) (hG : 8 ≤ w.heap.size) (hH : Handle w) :
    Calls Tryz.prog 8 #[.slice (some ⟨g, 0, none⟩) 1 cap, .slice none 0 0] w fun e w' => (∃ s j, e = .returned (.tuple #[.string s, .int .i64 (if madeT x = true then 6 else 0), .int .i64 j])) ∧ Below w.heap.size w w' := by
  obtain ⟨hb0, hr0⟩ := set_one hx
  have HHd : Hid (∀ w', Below w.heap.size w w' → Handle w') := fun w' hb => hH.below hb
  have HTb : Hid (∀ w', Below w.heap.size w w' → Tabs w' ∧ 8 ≤ w'.heap.size) := fun w' hb => ⟨hT.below hb (by omega) (by omega), Nat.le_trans hG hb.size⟩
  have HSe : Hid (Calls Tryz.prog 14 #[.slice (some ⟨g, 0, none⟩) 1 cap] w fun e w' => ∃ g2 cap2, e = .returned (.tuple #[.slice (some ⟨g2, 0, none⟩) 1 cap2, .int .i64 0, .int .i64 0]) ∧ Lies w' g2 [x] ∧ g2 < w'.heap.size ∧ Below w.heap.size w w') := by
    refine (set_of w _ [x] (setOf_some w g cap [x] hg hL (by simp [maxLen]) hT hG) hH).mono ?_
    intro e w' h
    unfold SeV at h
    rw [hb0] at h
    simp only at h
    unfold RisV at h
    rw [hr0] at h
    obtain ⟨v, rfl, ho, hb⟩ := h
    rcases ho.2 with ⟨_, hz⟩ | ⟨g2, cap2, cur, rfl, _, hgg, _⟩
    · simp at hz
    · exact ⟨g2, cap2, rfl, own_lies ho, (Array.getElem?_eq_some_iff.1 hgg).1, hb⟩
  have HUn : Hid (∀ w1 g2 cap2, Below w.heap.size w w1 → Lies w1 g2 [x] → g2 < w1.heap.size → Calls Tryz.prog 19 #[.slice (some ⟨g2, 0, none⟩) 1 cap2, .slice none 0 0] w1 fun e w' => e = .returned (UnV (madeAt 0 [x])) ∧ Below w1.heap.size w1 w') := fun w1 g2 cap2 hb hl hg2 => unprintable_nil w1 g2 cap2 [x] hg2 hl (fun y hy => by rw [List.mem_singleton.1 hy]; exact hx) (by simp) (HTb.out _ hb).1 (HTb.out _ hb).2
  cases hm : madeT x with
  | true =>
    have hma : madeAt 0 [x] = some 0 := by simp [madeAt, hm]
    rw [hma, unV6] at HUn
    clear hT hG hH hL
    go_enter Tryz.func8, Tryz.ntmps8
    go_wp2_with fail
    refine HSe.out.mono ?_
    rintro e w1 ⟨g2, cap2, rfl, l1, g1, hb1⟩
    have HB1 : Hid (Below w.heap.size w w1) := hb1
    have HU1 : Hid (Calls Tryz.prog 19 #[.slice (some ⟨g2, 0, none⟩) 1 cap2, .slice none 0 0] w1 fun e w' => e = .returned (placedV 6 (0 : Nat)) ∧ Below w1.heap.size w1 w') := HUn.out w1 g2 cap2 hb1 l1 g1
    clear hb1 l1 g1
    go_wp2_with fail
    refine HU1.out.mono ?_
    rintro e w2 ⟨rfl, hb2⟩
    have HB2 : Hid (Below w.heap.size w w2) := HB1.out.trans (hb2.mono HB1.out.size)
    clear hb2
    go_wp2_with fail
    refine (number_placed _ _ _ (HHd.out _ HB2.out)).mono ?_
    rintro e w3 ⟨rfl, hb3⟩
    have HB3 : Hid (Below w.heap.size w w3) := HB2.out.trans (hb3.mono HB2.out.size)
    clear hb3
    go_wp2_with fail
    refine (place_placed _ _ _ (HHd.out _ HB3.out)).mono ?_
    rintro e w4 ⟨rfl, hb4⟩
    have HB4 : Hid (Below w.heap.size w w4) := HB3.out.trans (hb4.mono HB3.out.size)
    clear hb4
    go_wp2_with fail
    refine bodyPost_ret (v := .tuple #[.string ⟨#[]⟩, .int .i64 6, .int .i64 0]) (by simp [results, Tryz.results8, go_sem]) rfl ?_
    exact ⟨⟨_, _, rfl⟩, HB4.out⟩
  | false =>
    have hma : madeAt 0 [x] = none := by simp [madeAt, hm]
    rw [hma] at HUn
    have HPf : Hid (∀ w1, Below w.heap.size w w1 → Calls Tryz.prog 22 #[.pointer (some ⟨w1.heap.size, 0, none⟩)] (w1.alloc (.cells #[.pointer none, .slice none 0 0, .slice none 0 0] 61)) fun e w' => e = .returned (.tuple #[]) ∧ Pb w1.heap.size w1.heap.size (.slice none 0 0) [] w' ∧ Below w1.heap.size (w1.alloc (.cells #[.pointer none, .slice none 0 0, .slice none 0 0] 61)) w') := fun w1 hb =>
      prefixes_any _ w1.heap.size w1.heap.size (.slice none 0 0) [] (Pb.fresh w1 _) (.inl ⟨rfl, rfl⟩) nmb_nil (by simp)
    have hz : (setN [] [x]).length ≤ 100000 := by
      have k := sound_kinds hx
      have h1 := termN_len [] nmb_nil x.s (by have := k.1; unfold Back.arr at this; omega)
      have h2 := termN_len [] nmb_nil x.o k.2.2
      have h3 := verbN_len [] nmb_nil x.p (by have := kind_len (t := x.p) (by omega); exact this)
      unfold setN
      simp only [restN, headN, List.length_append, List.length_cons, List.length_nil]
      rw [if_neg (by simp)]
      simp only [List.length_cons, List.length_nil]
      omega
    have HSn : Hid (∀ w1 g2 cap2 b, Below w.heap.size w w1 → Lies w1 g2 [x] → g2 < b → b ≤ w1.heap.size → 8 ≤ b → Pb b b (.slice none 0 0) [] w1 → Calls Tryz.prog 23 #[.pointer (some ⟨b, 0, none⟩), .slice (some ⟨g2, 0, none⟩) 1 cap2] w1 fun e w' => e = .returned (.tuple #[]) ∧ Pb b b (.slice none 0 0) (setN [] [x]) w' ∧ Below b w1 w') := fun w1 g2 cap2 b hb hl hg2 hbb hgb hp =>
      sentences_some w1 b b g2 cap2 (.slice none 0 0) [] [] [x] hp (.inl ⟨rfl, rfl⟩) nmb_nil (HTb.out _ hb).1 hgb hbb hg2 hl (fun y hy => by rw [List.mem_singleton.1 hy]; exact hx) (by simp) (by simpa using (by omega : (setN [] [x]).length ≤ 1099511627776)) (by simp)
    have hne : setN [] [x] ≠ [] := by unfold setN; simp [restN, headN]
    clear hT hH hL
    go_enter Tryz.func8, Tryz.ntmps8
    go_wp2_with fail
    refine HSe.out.mono ?_
    rintro e w1 ⟨g2, cap2, rfl, l1, g1, hb1⟩
    have HB1 : Hid (Below w.heap.size w w1) := hb1
    have HU1 : Hid (Calls Tryz.prog 19 #[.slice (some ⟨g2, 0, none⟩) 1 cap2, .slice none 0 0] w1 fun e w' => e = .returned .nilIface ∧ Below w1.heap.size w1 w') := HUn.out w1 g2 cap2 hb1 l1 g1
    have HL1 : Hid (Lies w1 g2 [x] ∧ g2 < w1.heap.size) := ⟨l1, g1⟩
    clear hb1 l1 g1
    go_wp2_with fail
    refine HU1.out.mono ?_
    rintro e w2 ⟨rfl, hb2⟩
    have HB2 : Hid (Below w.heap.size w w2) := HB1.out.trans (hb2.mono HB1.out.size)
    have HL2 : Hid (Lies w2 g2 [x] ∧ g2 < w2.heap.size) := ⟨HL1.out.1.below HL1.out.2 hb2, Nat.lt_of_lt_of_le HL1.out.2 hb2.size⟩
    clear hb2
    go_wp2_with fail
    refine (HPf.out w2 HB2.out).mono ?_
    rintro e w3 ⟨rfl, p3, b3⟩
    have b3' : Below w2.heap.size w2 w3 := ((Below.refl _ w2).alloc (Nat.le_refl _) _).trans b3
    have HB3 : Hid (Below w.heap.size w w3) := HB2.out.trans (b3'.mono HB2.out.size)
    have HS3 : Hid (Calls Tryz.prog 23 #[.pointer (some ⟨w2.heap.size, 0, none⟩), .slice (some ⟨g2, 0, none⟩) 1 cap2] w3 fun e w' => e = .returned (.tuple #[]) ∧ Pb w2.heap.size w2.heap.size (.slice none 0 0) (setN [] [x]) w' ∧ Below w2.heap.size w3 w') := HSn.out w3 g2 cap2 w2.heap.size HB3.out (HL2.out.1.below HL2.out.2 b3') HL2.out.2 b3'.size (Nat.le_trans hG HB2.out.size) p3
    clear p3 b3 b3'
    go_wp2_with fail
    refine HS3.out.mono ?_
    rintro e w4 ⟨rfl, p4, b4⟩
    have HB4 : Hid (Below w.heap.size w w4) := HB3.out.trans (b4.mono HB2.out.size)
    have HStr : Hid (Calls Tryz.prog 24 #[.pointer (some ⟨w2.heap.size, 0, none⟩)] w4 fun e w' => e = .returned (str (setN [] [x])) ∧ Below w.heap.size w w') := (bstring_k w4 _ _ _ _ p4 hne).mono fun e w' z => ⟨z.1, HB4.out.trans (z.2.1.mono HB2.out.size)⟩
    clear p4 b4
    go_wp2_with fail
    refine HStr.out.mono ?_
    rintro e w5 ⟨rfl, b5⟩
    go_wp2_with fail
    refine bodyPost_ret (v := .tuple #[str (setN [] [x]), .int .i64 0, .int .i64 0]) (by simp [results, Tryz.results8, go_sem]) rfl ?_
    exact ⟨⟨_, _, rfl⟩, b5⟩

end Tu
end Go.Proofs.YtnffjoipinhojabGreatDoor

set_option linter.unusedSimpArgs false
set_option linter.unusedVariables false
namespace Go.Proofs.YtnffjoipinhojabGreatDoor
open Go.RowKit
namespace Tu

theorem numT (w : World) (n : Int) (h0 : 0 ≤ n) (h1 : n ≤ 100) : Calls Tryz.prog 11 #[.int .i64 n] w fun e w' => e = .returned (.int .i64 n) ∧ w' = w := by
  have hw : IntKind.i64.wrap n = n := by rw [IntKind.wrap_i64]; omega
  go_enter Tryz.func11, Tryz.ntmps11
  go_wp2
  go_ret
  exact ⟨rfl, rfl⟩

set_option maxHeartbeats 4000000 in
set_option maxRecDepth 20000 in
/-- trinelaw.labelled -/
theorem labelled_some (w : World) (g cap : Nat) (set : List Tri) (hg : g < w.heap.size) (hL : Lies w g set) (hx : ∀ x ∈ set, soundT x = true) (hlen : set.length ≤ 300) (hT : Tabs w) (hG : 8 ≤ w.heap.size) (hH : Handle w) :
    Calls Tryz.prog 17 #[.slice (some ⟨g, 0, none⟩) set.length cap] w fun e w' => e = .returned (.bool (set.any madeT)) ∧ Below w.heap.size w w' := by
  have HL : Hid (Lies w g set) := hL
  have HP : Hid (∀ w1 x, Below w.heap.size w w1 → x ∈ set → Calls Tryz.prog 8 #[.slice (some ⟨w1.heap.size, 0, none⟩) 1 1, .slice none 0 0] (w1.alloc (.cells #[str x.s, str x.p, str x.o] 44)) fun e w' => (∃ s j, e = .returned (.tuple #[.string s, .int .i64 (if madeT x = true then 6 else 0), .int .i64 j])) ∧ Below w.heap.size w w') := fun w1 x hb hm => by
    have hb2 : Below w.heap.size w (w1.alloc (.cells #[str x.s, str x.p, str x.o] 44)) := hb.alloc hb.size _
    refine (printOne (w1.alloc (.cells #[str x.s, str x.p, str x.o] 44)) w1.heap.size 1 x (hx x hm) (by simp) ?_ (hT.below hb2 (by omega) (by omega)) (Nat.le_trans hG hb2.size) (hH.below hb2)).mono fun e w' z => ⟨z.1, hb2.trans (z.2.mono hb2.size)⟩
    intro k y hk
    have hh := heap_new w1 (.cells #[str x.s, str x.p, str x.o] 44)
    cases k with
    | zero =>
      simp at hk
      subst hk
      refine ⟨?_, ?_, ?_⟩ <;> (rw [Lib.cell_of_heap hh]; rfl)
    | succ k => simp at hk
  clear hL hT hH hx
  go_enter Tryz.func17, Tryz.ntmps17
  go_wp2_with fail
  go_loopw [3] (fun i wr => ∃ q : Nat, i = .int .i64 q ∧ q ≤ set.length ∧ (set.take q).any madeT = false ∧ Below w.heap.size w wr) (fun i wr => set.length - (intOf i).toNat)
  case atStart => exact ⟨0, rfl, Nat.zero_le _, by simp, Below.refl _ _⟩
  case round =>
    obtain ⟨q, rfl, hq, hmd, hb⟩ := hrel
    have HB : Hid (Below w.heap.size w wr) := hb
    clear hb
    by_cases hlt : q < set.length
    · obtain ⟨x, hxq⟩ : ∃ x, set[q]? = some x := ⟨_, List.getElem?_eq_getElem hlt⟩
      have hmem := List.mem_of_getElem? hxq
      obtain ⟨c0, c1, c2⟩ := HL.out q x hxq
      have d0 : wr.cell? ⟨g, q * 3, none⟩ = some (str x.s) := (HB.out.cell (p := ⟨g, _, none⟩) hg).trans c0
      have d1 : wr.cell? ⟨g, q * 3 + 1, none⟩ = some (str x.p) := (HB.out.cell (p := ⟨g, _, none⟩) hg).trans c1
      have d2 : wr.cell? ⟨g, q * 3 + 2, none⟩ = some (str x.o) := (HB.out.cell (p := ⟨g, _, none⟩) hg).trans c2
      have HP1 := HP.out wr x HB.out hmem
      have HTk : Hid (set.take (q + 1) = set.take q ++ [x]) := by unfold Hid; rw [List.take_add_one, hxq]; rfl
      clear c0 c1 c2 hxq
      cases hm : madeT x with
      | true =>
        rw [hm] at HP1
        have HP2 : Hid (Calls Tryz.prog 8 #[.slice (some ⟨wr.heap.size, 0, none⟩) 1 1, .slice none 0 0] (wr.alloc (.cells #[str x.s, str x.p, str x.o] 44)) fun e w' => (∃ s j, e = .returned (.tuple #[.string s, .int .i64 6, .int .i64 j])) ∧ Below w.heap.size w w') := HP1
        have HA : Hid (set.any madeT = true) := by unfold Hid; rw [List.any_eq_true]; exact ⟨x, hmem, hm⟩
        clear HP1 hmd hmem hm
        go_wp2_with fail
        refine HP2.out.mono ?_
        rintro e w2 ⟨⟨s, j, rfl⟩, hb2⟩
        have HB2 : Hid (Below w.heap.size w w2) := hb2
        clear hb2
        go_wp2_with fail
        refine (numT _ 6 (by omega) (by omega)).mono ?_
        rintro e w3 ⟨rfl, rfl⟩
        go_wp2_with fail
        go_ret
        rw [HA.out]
        exact ⟨rfl, HB2.out⟩
      | false =>
        rw [hm] at HP1
        have HP2 : Hid (Calls Tryz.prog 8 #[.slice (some ⟨wr.heap.size, 0, none⟩) 1 1, .slice none 0 0] (wr.alloc (.cells #[str x.s, str x.p, str x.o] 44)) fun e w' => (∃ s j, e = .returned (.tuple #[.string s, .int .i64 0, .int .i64 j])) ∧ Below w.heap.size w w') := HP1
        have HM2 : Hid ((set.take (q + 1)).any madeT = false) := by unfold Hid; rw [HTk.out, List.any_append, hmd]; simp [hm]
        clear HP1 hmd hmem hm
        go_wp2_with fail
        refine HP2.out.mono ?_
        rintro e w2 ⟨⟨s, j, rfl⟩, hb2⟩
        have HB2 : Hid (Below w.heap.size w w2) := hb2
        clear hb2
        go_wp2_with fail
        refine (numT _ 0 (by omega) (by omega)).mono ?_
        rintro e w3 ⟨rfl, rfl⟩
        go_wp2_with fail
        go_roundw
        case rel => exact ⟨q + 1, by go_num, by omega, HM2.out, HB2.out⟩
        case measure => simp [intOf]; omega
    · have hqe : q = set.length := by omega
      subst hqe
      rw [List.take_length] at hmd
      have HA : Hid (set.any madeT = false) := hmd
      clear hmd
      go_wp2
      go_ret
      rw [HA.out]
      exact ⟨rfl, HB.out⟩

theorem labelled_nil (w : World) (a : Option Addr) (cap : Nat) : Calls Tryz.prog 17 #[.slice a 0 cap] w fun e w' => e = .returned (.bool false) ∧ Below w.heap.size w w' := by
  go_enter Tryz.func17, Tryz.ntmps17
  go_wp2_with fail
  go_loopw [3] (fun i wr => i = .int .i64 0 ∧ wr = w) (fun i wr => 0)
  case atStart => exact ⟨rfl, rfl⟩
  case round =>
    obtain ⟨rfl, rfl⟩ := hrel
    go_wp2
    go_ret
    exact ⟨rfl, Below.refl _ _⟩

end Tu
end Go.Proofs.YtnffjoipinhojabGreatDoor

