import Derived.Test.YtnffjoipinhojabDoorGc
set_option linter.unusedSimpArgs false
set_option linter.unusedVariables false
namespace Go.Proofs.YtnffjoipinhojabDoor
open Go.RowKit

theorem miss_low {l : List (List UInt8)} {s t0 : List UInt8} (h : Rise2 l) (h0 : l[0]? = some t0) (hs : Op.bytesLess s t0 = true) : whereAt 0 l s = -1 := by
  refine where_miss fun t ht e => ?_
  subst e
  obtain ⟨k, hk⟩ := List.getElem?_of_mem ht
  by_cases hk0 : k = 0
  · subst hk0
    rw [h0] at hk
    cases hk
    rw [less_irr] at hs
    cases hs
  · have := less_trans hs (h.lt' h0 hk (by omega))
    rw [less_irr] at this
    cases this

/-- a text that is not in its block is nowhere -/
theorem miss_block {l : List (List UInt8)} {s : List UInt8} {p i : Nat} (h : Rise2 l) (hp : 0 < p) (hpJ : p ≤ (l.length + 3) / 4)
    (hlo : ∀ k t, k < p → l[4 * k]? = some t → Op.bytesLess s t = false) (hhi : ∀ k t, p ≤ k → k < (l.length + 3) / 4 → l[4 * k]? = some t → Op.bytesLess s t = true)
    (hi : IsPos (blockL l (p - 1)) s i) (hne : (blockL l (p - 1))[i]? ≠ some s) : whereAt 0 l s = -1 := by
  refine where_miss fun t ht e => ?_
  subst e
  obtain ⟨k, hk⟩ := List.getElem?_of_mem ht
  have hkl := (List.getElem?_eq_some_iff.1 hk).1
  obtain ⟨a, ha⟩ : ∃ a, l[4 * (p - 1)]? = some a := ⟨_, List.getElem?_eq_getElem (by omega)⟩
  have h1 := hlo (p - 1) a (by omega) ha
  by_cases hk1 : k < 4 * (p - 1)
  · rw [h.lt' hk ha hk1] at h1
    cases h1
  · by_cases hk2 : k < 4 * p
    · have hb : (blockL l (p - 1))[k - 4 * (p - 1)]? = some t := by
        unfold blockL
        rw [List.getElem?_take_of_lt (by omega), List.getElem?_drop, show 4 * (p - 1) + (k - 4 * (p - 1)) = k by omega]
        exact hk
      rcases Nat.lt_or_ge (k - 4 * (p - 1)) i with hlt | hge
      · have := hi.2.1 _ t hb hlt
        rw [less_irr] at this
        cases this
      · rcases Nat.eq_or_lt_of_le hge with e | hlt
        · rw [← e] at hb
          exact hne hb
        · obtain ⟨c, hc⟩ : ∃ c, (blockL l (p - 1))[i]? = some c := ⟨_, List.getElem?_eq_getElem (by have := (List.getElem?_eq_some_iff.1 hb).1; omega)⟩
          have h2 := hi.2.2 i c hc (Nat.le_refl _)
          have h3 : Rise2 (blockL l (p - 1)) := h.sub _ _
          rw [h3.lt' hc hb hlt] at h2
          cases h2
    · obtain ⟨c, hc⟩ : ∃ c, l[4 * p]? = some c := ⟨_, List.getElem?_eq_getElem (by omega)⟩
      have h2 := hhi p c (Nat.le_refl _) (by omega) hc
      rcases Nat.eq_or_lt_of_le (show 4 * p ≤ k by omega) with e | hlt
      · subst e
        rw [hk] at hc
        cases hc
        rw [less_irr] at h2
        cases h2
      · have := less_trans h2 (h.lt' hc hk hlt)
        rw [less_irr] at this
        cases this
theorem hit_block {l : List (List UInt8)} {s : List UInt8} {q i : Nat} (h : Rise2 l) (hf : (blockL l q)[i]? = some s) : whereAt 0 l s = ((4 * q + i : Nat) : Int) := by
  have hi := (List.getElem?_eq_some_iff.1 hf).1
  unfold blockL at hf hi
  simp at hi
  rw [List.getElem?_take_of_lt (by omega), List.getElem?_drop] at hf
  exact where_hit h hf

set_option maxHeartbeats 8000000 in
set_option maxRecDepth 20000 in
theorem find_any (w : World) (base b : Nat) (l : List (List UInt8)) (S : ByteArray) (h : DictR base b l ((l.length + 3) / 4) w) (hr : Rise2 l) (hs : ∀ t ∈ l, t.length ≤ 200) (hn : l.length ≤ 1048576) :
    Calls Tryd.prog 13 #[.pointer (some ⟨b, 0, none⟩), .string S] w fun e w' => e = .returned (.int .i64 (whereAt 0 l S.data.toList)) ∧ Below w.heap.size w w' := by
  have mixed : Tryd.prog.follows Departure.mixedOrders = true := by kernel_rfl
  obtain ⟨W0, hW0⟩ : ∃ W0, (w.alloc (.cells #[.pointer (some ⟨b, 0, none⟩)] 30)).alloc (.cells #[.string S] 9) = W0 := ⟨_, rfl⟩
  have hb0 : Below w.heap.size w W0 := by rw [← hW0]; exact ((Below.refl _ w).alloc (Nat.le_refl _) _).alloc (by simp) _
  have k0 : W0.cell? ⟨w.heap.size, 0, none⟩ = some (.pointer (some ⟨b, 0, none⟩)) := by
    rw [← hW0]
    exact (World.cell?_of_block (a := ⟨w.heap.size, 0, none⟩) (Below.heap_alloc _ _ _ (by simp))).trans (cell_new (w := w))
  have k1 : W0.cell? ⟨w.heap.size + 1, 0, none⟩ = some (.string S) := by
    rw [← hW0]
    have := cell_new (w := w.alloc (.cells #[.pointer (some ⟨b, 0, none⟩)] 30)) (cs := #[.string S]) (e := 9) (fz := (0, 0)) (j := 0)
    rw [World.size_alloc] at this
    exact this
  have HSe : Hid (Se3 w w.heap.size (w.heap.size + 1) b S W0) := ⟨k0, k1, hb0⟩
  have HDn : Hid (∀ w1, Below w.heap.size w w1 → DictR base b l ((l.length + 3) / 4) w1) := fun w1 hb => h.below hb
  have HLn : Hid (Calls Tryd.prog 11 #[.pointer (some ⟨b, 0, none⟩)] W0 fun e w' => e = .returned (.int .i64 l.length) ∧ W0 = w') := (len_any W0 base b _ l (HDn.out W0 hb0)).mono fun e w' h => ⟨h.1, h.2.symm⟩
  obtain ⟨J, hJ⟩ : ∃ J, J = (l.length + 3) / 4 := ⟨_, rfl⟩
  obtain ⟨_, oB, cB, hH, _⟩ := HDn.out W0 hb0
  rw [← hJ] at hH
  have k2 : W0.cell? ⟨b, 1, none⟩ = some (.slice oB J cB) := by rw [Lib.cell_of_heap hH]; rfl
  have HSr : Hid (Calls Tryd.prog 32 #[.int .i64 J, .func (.func 33) #[] #[.pointer (some ⟨w.heap.size, 0, none⟩), .pointer (some ⟨w.heap.size + 1, 0, none⟩)]] W0 fun e w' => (∃ p : Nat, e = .returned (.int .i64 p) ∧ p ≤ J ∧ (∀ k t, k < p → l[4 * k]? = some t → Op.bytesLess S.data.toList t = false) ∧ (∀ k t, p ≤ k → k < J → l[4 * k]? = some t → Op.bytesLess S.data.toList t = true)) ∧ Se3 w w.heap.size (w.heap.size + 1) b S w') := search_any W0 w base b J _ _ l S HSe.out HDn.out hJ hr hs hn
  have HR : Hid (Rise2 l) := hr
  have HS : Hid (∀ t ∈ l, t.length ≤ 200) := hs
  have HJ : Hid (J = (l.length + 3) / 4) := hJ
  have hJb : J ≤ 1048576 := by omega
  have HB0 : Hid (Below w.heap.size w W0) := hb0
  by_cases hl0 : l.length = 0
  · have HWm : Hid (whereAt 0 l S.data.toList = -1) := by
      unfold Hid
      rw [List.length_eq_zero_iff.1 hl0]
      rfl
    clear h hr hs hH hb0 hJ HSr HSe
    go_enter Tryd.func13, Tryd.ntmps13
    go_wp2_with (first | (go_at_call 11; refine HLn.out.mono ?_; rintro e w' ⟨rfl, rfl⟩))
    go_ret
    exact ⟨by rw [HWm.out]; rfl, HB0.out⟩
  · have hli : ¬ (l.length : Int) = 0 := by omega
    clear h hr hs hH hb0 hJ
    go_enter Tryd.func13, Tryd.ntmps13
    go_wp2_with (first | (go_at_call 11; refine HLn.out.mono ?_; rintro e w' ⟨rfl, rfl⟩))
    refine HSr.out.mono ?_
    rintro e w2 ⟨⟨p, rfl, hpJ, hlo, hhi⟩, hse⟩
    have HLO : Hid (∀ k t, k < p → l[4 * k]? = some t → Op.bytesLess S.data.toList t = false) := hlo
    have HHI : Hid (∀ k t, p ≤ k → k < J → l[4 * k]? = some t → Op.bytesLess S.data.toList t = true) := hhi
    have HSe2 : Hid (Se3 w w.heap.size (w.heap.size + 1) b S w2) := hse
    clear hlo hhi hse HSr HLn
    by_cases hp0 : p = 0
    · subst hp0
      have HWm : Hid (whereAt 0 l S.data.toList = -1) := by
        obtain ⟨t0, ht0⟩ : ∃ t0, l[0]? = some t0 := ⟨_, List.getElem?_eq_getElem (by omega)⟩
        have hJ := HJ.out
        exact miss_low HR.out ht0 (HHI.out 0 t0 (Nat.le_refl _) (by omega) (by simpa using ht0))
      go_wp2_with fail
      go_ret
      exact ⟨by rw [HWm.out]; rfl, HSe2.out.2.2⟩
    · obtain ⟨q, rfl⟩ : ∃ q, p = q + 1 := ⟨p - 1, by omega⟩
      have h4q : 4 * q < l.length := by have := HJ.out; omega
      obtain ⟨c1, c2, b2⟩ := HSe2.out
      have hpi : ¬ ((q : Int) + 1 = 0) := by omega
      have hw1 : IntKind.i64.wrap ((q : Int) + 1 - 1) = (q : Int) := by rw [IntKind.wrap_i64]; omega
      have hwq : IntKind.i64.wrap (q : Int) = (q : Int) := by rw [IntKind.wrap_i64]; omega
      obtain ⟨L, hL⟩ : ∃ L, (blockL l q).length = L := ⟨_, rfl⟩
      have HBl : Hid (∀ w1, Se3 w w.heap.size (w.heap.size + 1) b S w1 → Calls Tryd.prog 31 #[.pointer (some ⟨b, 0, none⟩), .int .i64 q] w1 fun e w' => ∃ g c, e = .returned (.slice (some ⟨g, 0, none⟩) L c) ∧ Strs w' g 0 (blockL l q) ∧ Se3 w w.heap.size (w.heap.size + 1) b S w') := fun w1 h1 => by
        have := block_any w1 base b q l (HDn.out w1 h1.2.2) h4q HR.out HS.out hn
        rw [hL] at this
        refine this.mono ?_
        rintro e w3 ⟨g, c, rfl, _, _, hst, hb⟩
        exact ⟨g, c, rfl, hst, h1.on hb⟩
      have HBs : Hid (∀ (w1 : World) (g c : Nat), Strs w1 g 0 (blockL l q) → Calls Tryd.prog 35 #[.slice (some ⟨g, 0, none⟩) L c, .string S] w1 fun e w' => (∃ p : Nat, ∃ b : Bool, e = .returned (.tuple #[.int .i64 p, .bool b]) ∧ IsPos (blockL l q) S.data.toList p ∧ (b = true ↔ (blockL l q)[p]? = some S.data.toList)) ∧ w1 = w') := fun w1 g c h1 => by
        have := binary_any w1 g 0 c (blockL l q) S h1 (HR.out.sub _ _) (by simp [blockL]; omega)
        rw [hL] at this
        exact this
      clear hL HSe HSe2
      go_wp2_with fail
      go_region_held3 (fun w' => w'.cell? ⟨w.heap.size, 0, none⟩ = some (.pointer (some ⟨b, 0, none⟩)) ∧ w'.cell? ⟨w.heap.size + 1, 0, none⟩ = some (.string S) ∧ Below w.heap.size w w') (first | assumption | exact ⟨c1, c2, b2⟩ | exact ⟨c1, c2, b2.drew⟩) (first | (go_at_call 31; refine (HBl.out _ (by first | assumption | exact ⟨by assumption, by assumption, by first | assumption | exact b2.drew⟩)).mono ?_; rintro e2 w3 ⟨g3, c3, rfl, hst3, hS⟩) | (go_at_call 35; refine (HBs.out _ g3 c3 hst3).mono ?_; rintro e3 w4 ⟨⟨pi, fb, rfl, hpos, hfb⟩, rfl⟩))
      obtain ⟨_, _, hbw⟩ := hS
      have HBw : Hid (Below w.heap.size w w3) := hbw
      have hpl := hpos.1
      have hbl4 : (blockL l q).length ≤ 4 := by simp [blockL]; omega
      cases fb with
      | true =>
        have HWm : Hid (whereAt 0 l S.data.toList = ((4 * q + pi : Nat) : Int)) := hit_block HR.out (hfb.1 rfl)
        have hwm : IntKind.i64.wrap ((q : Int) * 4) = (q : Int) * 4 := by rw [IntKind.wrap_i64]; omega
        have hwa : IntKind.i64.wrap ((q : Int) * 4 + pi) = (q : Int) * 4 + pi := by rw [IntKind.wrap_i64]; omega
        clear hpos hfb hst3 hbw HBl HBs
        go_wp2_with fail
        go_ret
        refine ⟨?_, HBw.out⟩
        rw [HWm.out]
        refine congrArg Ending.returned (congrArg (Value.int IntKind.i64) ?_)
        omega
      | false =>
        have HWm : Hid (whereAt 0 l S.data.toList = -1) := by
          have hJ := HJ.out
          refine miss_block (p := q + 1) (i := pi) HR.out (by omega) (by omega) HLO.out (fun k t h1 h2 => HHI.out k t h1 (by omega)) hpos (fun e => ?_)
          have := hfb.2 e
          cases this
        clear hpos hfb hst3 hbw HBl HBs
        go_wp2_with fail
        go_ret
        exact ⟨by rw [HWm.out]; rfl, HBw.out⟩

end Go.Proofs.YtnffjoipinhojabDoor
