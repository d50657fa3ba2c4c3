import Derived.Test.YtnffjoipinhojabDoorIg
set_option linter.unusedSimpArgs false
set_option linter.unusedVariables false
namespace Go.Proofs.YtnffjoipinhojabDoor
open Go.RowKit

set_option maxHeartbeats 8000000 in
set_option maxRecDepth 20000 in
theorem dictOpens_any (w : World) (D S : ByteArray) (i : Int) (hD : D.size ≤ 1048576) (hH : Handle w) :
    Calls Tryd.prog 4 #[.string D, .int .i64 i, .string S] w fun e w' => e = .returned (.bool true) ∧ Below w.heap.size w w' := by
  have mixed : Tryd.prog.follows Departure.mixedOrders = true := by kernel_rfl
  have HRo : Hid (∀ w1, Calls Tryd.prog 10 #[.string D] w1 (OpP D w1)) := fun w1 => openRef_any w1 D hD
  have HNm : Hid (∀ n w2, Calls Tryd.prog 8 #[.int .i64 n] w2 fun e w' => e = .returned (.int .i64 n) ∧ w2 = w') := fun n w2 => num_any n w2
  by_cases hex : ∃ L, DictOf D L
  · obtain ⟨L, hL⟩ := hex
    have hgp := good_parts hL.1
    have hLn := hL.2.1
    have HOp : Hid (∀ w1, Calls Tryd.prog 9 #[.string D] w1 fun e w' => ∃ b, e = .returned (.tuple #[.pointer (some ⟨b, 0, none⟩), .int .i64 0]) ∧ DictR w1.heap.size b L ((L.length + 3) / 4) w' ∧ Below w1.heap.size w1 w') := fun w1 => open_ok w1 D L hL.2.2 (by omega) hgp.1 hgp.2 hLn
    have HL : Hid (DictOf D L) := hL
    have HGP : Hid (Rise2 L ∧ ∀ t ∈ L, t.length ≤ 200) := hgp
    clear hL hgp hH
    go_enter Tryd.func4, Tryd.ntmps4
    go_wp2_with fail
    refine (HOp.out w).mono ?_
    rintro e w1 ⟨b, rfl, hd1, hb1⟩
    have HB1 : Hid (Below w.heap.size w w1) := hb1
    have HD1 : Hid (DictR w.heap.size b L ((L.length + 3) / 4) w1) := hd1
    clear hd1 hb1 HOp
    go_wp2_with fail
    refine (HRo.out w1).mono ?_
    rintro e w2 ⟨v, ok, l, rfl, ho2, hl2, hy, hn, hall, hb2⟩
    have hlL := hall L HL.out
    subst hlL
    cases ok with
    | false => exact absurd HL.out (hn rfl l)
    | true =>
      have HB2 : Hid (Below w.heap.size w w2) := HB1.out.trans (hb2.mono HB1.out.size)
      have HD2 : Hid (DictR w.heap.size b l ((l.length + 3) / 4) w2) := HD1.out.below hb2
      have HT2 : Hid (Texts w2 v l) := own_texts ho2
      obtain ⟨ov, cv, rfl⟩ := row_form ho2
      have HLn : Hid (Calls Tryd.prog 11 #[.pointer (some ⟨b, 0, none⟩)] w2 fun e w' => e = .returned (.int .i64 l.length) ∧ w2 = w') := (len_any w2 _ b _ l HD2.out).mono fun e w' h => ⟨h.1, h.2.symm⟩
      have HGi : Hid (∀ (k : Nat) (t : List UInt8), l[k]? = some t → ∀ w3, Below w2.heap.size w2 w3 → Calls Tryd.prog 12 #[.pointer (some ⟨b, 0, none⟩), .int .i64 k] w3 fun e w' => e = .returned (strT t) ∧ Below w2.heap.size w2 w') := fun k t hk w3 h3 => (get_any w3 _ b k l t (HD2.out.below h3) hk HGP.out.1 HGP.out.2 hLn).mono fun e w' h => ⟨h.1, h3.trans (h.2.mono h3.size)⟩
      have HGo : Hid (∀ (k : Int), (k < 0 ∨ (l.length : Int) ≤ k) → ∀ w3, Below w2.heap.size w2 w3 → Calls Tryd.prog 12 #[.pointer (some ⟨b, 0, none⟩), .int .i64 k] w3 fun e w' => e = .returned (.string ⟨#[]⟩) ∧ Below w2.heap.size w2 w') := fun k hk w3 h3 => (get_out w3 _ b _ k l (HD2.out.below h3) hk).mono fun e w' h => ⟨h.1, by rw [h.2]; exact h3⟩
      have HFi : Hid (∀ (Z : ByteArray) w3, Below w2.heap.size w2 w3 → Calls Tryd.prog 13 #[.pointer (some ⟨b, 0, none⟩), .string Z] w3 fun e w' => e = .returned (.int .i64 (whereAt 0 l Z.data.toList)) ∧ Below w2.heap.size w2 w') := fun Z w3 h3 => (find_any w3 _ b l Z (HD2.out.below h3) HGP.out.1 HGP.out.2 hLn).mono fun e w' h => ⟨h.1, h3.trans (h.2.mono h3.size)⟩
      have HWh : Hid (∀ (Z : ByteArray) w3, Below w2.heap.size w2 w3 → Calls Tryd.prog 14 #[.slice ov l.length cv, .string Z] w3 fun e w' => e = .returned (.int .i64 (whereAt 0 l Z.data.toList)) ∧ w3 = w') := fun Z w3 h3 => where_any w3 _ l Z (HT2.out.below h3) hLn
      have HB20 : Hid (Below w2.heap.size w2 w2) := Below.refl _ _
      clear ho2 hy hn hall hb2 HD1 HB1 HRo
      rcases (by omega : i < 0 ∨ (l.length : Int) ≤ i ∨ (0 ≤ i ∧ i < (l.length : Int))) with hin | hin | hin
      · go_wp2_with (first | (go_at_call 8; refine (HNm.out _ _).mono ?_; rintro e w' ⟨rfl, rfl⟩) | (go_at_call 11; refine HLn.out.mono ?_; rintro e w' ⟨rfl, rfl⟩))
        refine (HGo.out i (.inl hin) w2 HB20.out).mono ?_
        rintro e w3 ⟨rfl, hb3⟩
        have HB3 : Hid (Below w2.heap.size w2 w3) := hb3
        clear hb3
        go_wp2_with fail
        refine (HFi.out S w3 HB3.out).mono ?_
        rintro e w4 ⟨rfl, hb4⟩
        have HB4 : Hid (Below w2.heap.size w2 w4) := hb4
        clear hb4
        go_wp2_with fail
        refine (HWh.out S w4 HB4.out).mono ?_
        rintro e w5 ⟨rfl, rfl⟩
        go_wp2_with fail
        go_loopw [12] (fun t12 wr => ∃ q : Nat, q ≤ l.length ∧ t12 = .int .i64 q ∧ Below w2.heap.size w2 wr) (fun t12 wr => l.length - (intOf t12).toNat)
        case atStart => exact ⟨0, Nat.zero_le _, rfl, HB4.out⟩
        case round =>
          obtain ⟨q, hq, rfl, hb⟩ := hrel
          have HB : Hid (Below w2.heap.size w2 wr) := hb
          clear hb
          by_cases hlt : q < l.length
          · obtain ⟨t, ht⟩ : ∃ t, l[q]? = some t := ⟨_, List.getElem?_eq_getElem hlt⟩
            rcases HT2.out.below HB.out with ⟨_, _, _, _, h0⟩ | ⟨g, off, cap, hv1, hv2, _, _, hv5⟩
            · rw [h0] at hlt; simp at hlt
            · cases hv1
              have c1 := hv5 q t ht
              obtain ⟨T, hT⟩ : ∃ T : ByteArray, T = ⟨t.toArray⟩ := ⟨_, rfl⟩
              rw [show strT t = .string T by rw [hT]] at c1
              have b3 := HB.out
              have hTd : T.data.toList = t := by rw [hT]
              have HGt : Hid (∀ w1, w1.cell? ⟨g, off + q, none⟩ = some (.string T) ∧ Below w2.heap.size w2 w1 → Calls Tryd.prog 12 #[.pointer (some ⟨b, 0, none⟩), .int .i64 q] w1 fun e w' => e = .returned (.string T) ∧ (w'.cell? ⟨g, off + q, none⟩ = some (.string T) ∧ Below w2.heap.size w2 w')) := fun w1 h1 => by
                have := get_any w1 _ b q l t (HD2.out.below h1.2) ht HGP.out.1 HGP.out.2 hLn
                rw [show strT t = .string T by rw [hT]] at this
                refine this.mono ?_
                rintro e w2 ⟨rfl, hb2⟩
                have hgl : g < w1.heap.size := World.block_lt_of_cell? w1 ⟨g, _, none⟩ h1.1
                exact ⟨rfl, (hb2.cell (p := ⟨g, _, none⟩) hgl).trans h1.1, h1.2.trans (hb2.mono h1.2.size)⟩
              have HFt : Hid (∀ w1, w1.cell? ⟨g, off + q, none⟩ = some (.string T) ∧ Below w2.heap.size w2 w1 → Calls Tryd.prog 13 #[.pointer (some ⟨b, 0, none⟩), .string T] w1 fun e w' => e = .returned (.int .i64 q) ∧ (w'.cell? ⟨g, off + q, none⟩ = some (.string T) ∧ Below w2.heap.size w2 w')) := fun w1 h1 => by
                have := find_any w1 _ b l T (HD2.out.below h1.2) HGP.out.1 HGP.out.2 hLn
                rw [hTd, where_hit HGP.out.1 ht] at this
                refine this.mono ?_
                rintro e w2 ⟨rfl, hb2⟩
                have hgl : g < w1.heap.size := World.block_lt_of_cell? w1 ⟨g, _, none⟩ h1.1
                exact ⟨rfl, (hb2.cell (p := ⟨g, _, none⟩) hgl).trans h1.1, h1.2.trans (hb2.mono h1.2.size)⟩
              have hj0 : (0 : Int) ≤ q := by omega
              have hj1 : (q : Int) < (l.length : Int) := by omega
              clear hT ht hv5 hTd
              go_wp2_with fail
              go_region_held3 (fun w' => w'.cell? ⟨g, off + q, none⟩ = some (.string T) ∧ Below w2.heap.size w2 w') (first | assumption | exact ⟨c1, b3⟩ | exact ⟨c1, b3.drew⟩) (first | (go_at_call 12; refine (HGt.out _ (by first | assumption | exact ⟨by assumption, by first | assumption | exact b3.drew⟩)).mono ?_; rintro e2 w6 ⟨rfl, hS⟩) | (go_at_call 13; refine (HFt.out _ (by first | assumption | exact ⟨by assumption, by first | assumption | exact b3.drew⟩)).mono ?_; rintro e3 w7 ⟨rfl, hS⟩))
              all_goals go_wp2_with fail
              all_goals go_roundw
              case rel => exact ⟨q + 1, by omega, by go_num, And.right (by assumption)⟩
              case measure => simp [intOf]; omega
          · have hj1 : ¬ (q : Int) < (l.length : Int) := by omega
            go_wp2_with fail
            go_ret
            exact ⟨rfl, HB2.out.trans (HB.out.mono HB2.out.size)⟩
      · have h0i : ¬ i < 0 := by omega
        have h1i : ¬ i < (l.length : Int) := by omega
        have h2i : 0 ≤ i := by omega
        go_wp2_with (first | (go_at_call 8; refine (HNm.out _ _).mono ?_; rintro e w' ⟨rfl, rfl⟩) | (go_at_call 11; refine HLn.out.mono ?_; rintro e w' ⟨rfl, rfl⟩))
        refine (HGo.out i (.inr hin) w2 HB20.out).mono ?_
        rintro e w3 ⟨rfl, hb3⟩
        have HB3 : Hid (Below w2.heap.size w2 w3) := hb3
        clear hb3
        go_wp2_with fail
        refine (HFi.out S w3 HB3.out).mono ?_
        rintro e w4 ⟨rfl, hb4⟩
        have HB4 : Hid (Below w2.heap.size w2 w4) := hb4
        clear hb4
        go_wp2_with fail
        refine (HWh.out S w4 HB4.out).mono ?_
        rintro e w5 ⟨rfl, rfl⟩
        go_wp2_with fail
        go_loopw [12] (fun t12 wr => ∃ q : Nat, q ≤ l.length ∧ t12 = .int .i64 q ∧ Below w2.heap.size w2 wr) (fun t12 wr => l.length - (intOf t12).toNat)
        case atStart => exact ⟨0, Nat.zero_le _, rfl, HB4.out⟩
        case round =>
          obtain ⟨q, hq, rfl, hb⟩ := hrel
          have HB : Hid (Below w2.heap.size w2 wr) := hb
          clear hb
          by_cases hlt : q < l.length
          · obtain ⟨t, ht⟩ : ∃ t, l[q]? = some t := ⟨_, List.getElem?_eq_getElem hlt⟩
            rcases HT2.out.below HB.out with ⟨_, _, _, _, h0⟩ | ⟨g, off, cap, hv1, hv2, _, _, hv5⟩
            · rw [h0] at hlt; simp at hlt
            · cases hv1
              have c1 := hv5 q t ht
              obtain ⟨T, hT⟩ : ∃ T : ByteArray, T = ⟨t.toArray⟩ := ⟨_, rfl⟩
              rw [show strT t = .string T by rw [hT]] at c1
              have b3 := HB.out
              have hTd : T.data.toList = t := by rw [hT]
              have HGt : Hid (∀ w1, w1.cell? ⟨g, off + q, none⟩ = some (.string T) ∧ Below w2.heap.size w2 w1 → Calls Tryd.prog 12 #[.pointer (some ⟨b, 0, none⟩), .int .i64 q] w1 fun e w' => e = .returned (.string T) ∧ (w'.cell? ⟨g, off + q, none⟩ = some (.string T) ∧ Below w2.heap.size w2 w')) := fun w1 h1 => by
                have := get_any w1 _ b q l t (HD2.out.below h1.2) ht HGP.out.1 HGP.out.2 hLn
                rw [show strT t = .string T by rw [hT]] at this
                refine this.mono ?_
                rintro e w2 ⟨rfl, hb2⟩
                have hgl : g < w1.heap.size := World.block_lt_of_cell? w1 ⟨g, _, none⟩ h1.1
                exact ⟨rfl, (hb2.cell (p := ⟨g, _, none⟩) hgl).trans h1.1, h1.2.trans (hb2.mono h1.2.size)⟩
              have HFt : Hid (∀ w1, w1.cell? ⟨g, off + q, none⟩ = some (.string T) ∧ Below w2.heap.size w2 w1 → Calls Tryd.prog 13 #[.pointer (some ⟨b, 0, none⟩), .string T] w1 fun e w' => e = .returned (.int .i64 q) ∧ (w'.cell? ⟨g, off + q, none⟩ = some (.string T) ∧ Below w2.heap.size w2 w')) := fun w1 h1 => by
                have := find_any w1 _ b l T (HD2.out.below h1.2) HGP.out.1 HGP.out.2 hLn
                rw [hTd, where_hit HGP.out.1 ht] at this
                refine this.mono ?_
                rintro e w2 ⟨rfl, hb2⟩
                have hgl : g < w1.heap.size := World.block_lt_of_cell? w1 ⟨g, _, none⟩ h1.1
                exact ⟨rfl, (hb2.cell (p := ⟨g, _, none⟩) hgl).trans h1.1, h1.2.trans (hb2.mono h1.2.size)⟩
              have hj0 : (0 : Int) ≤ q := by omega
              have hj1 : (q : Int) < (l.length : Int) := by omega
              clear hT ht hv5 hTd
              go_wp2_with fail
              go_region_held3 (fun w' => w'.cell? ⟨g, off + q, none⟩ = some (.string T) ∧ Below w2.heap.size w2 w') (first | assumption | exact ⟨c1, b3⟩ | exact ⟨c1, b3.drew⟩) (first | (go_at_call 12; refine (HGt.out _ (by first | assumption | exact ⟨by assumption, by first | assumption | exact b3.drew⟩)).mono ?_; rintro e2 w6 ⟨rfl, hS⟩) | (go_at_call 13; refine (HFt.out _ (by first | assumption | exact ⟨by assumption, by first | assumption | exact b3.drew⟩)).mono ?_; rintro e3 w7 ⟨rfl, hS⟩))
              all_goals go_wp2_with fail
              all_goals go_roundw
              case rel => exact ⟨q + 1, by omega, by go_num, And.right (by assumption)⟩
              case measure => simp [intOf]; omega
          · have hj1 : ¬ (q : Int) < (l.length : Int) := by omega
            go_wp2_with fail
            go_ret
            exact ⟨rfl, HB2.out.trans (HB.out.mono HB2.out.size)⟩
      · obtain ⟨k, rfl⟩ : ∃ k : Nat, i = k := ⟨i.toNat, by omega⟩
        obtain ⟨t, ht⟩ : ∃ t, l[k]? = some t := ⟨_, List.getElem?_eq_getElem (by omega)⟩
        have hk0 : (0 : Int) ≤ k := by omega
        have hk1 : (k : Int) < (l.length : Int) := by omega
        have HGk := HGi.out k t ht w2 HB20.out
        rcases HT2.out with ⟨_, _, _, _, h0⟩ | ⟨g, off, cap, hv1, hv2, _, _, hv5⟩
        · rw [h0] at hk1; simp at hk1; omega
        cases hv1
        have ck := hv5 k t ht
        obtain ⟨T, hT⟩ : ∃ T : ByteArray, T = ⟨t.toArray⟩ := ⟨_, rfl⟩
        rw [show strT t = .string T by rw [hT]] at ck HGk
        clear hT ht hv5
        go_wp2_with (first | (go_at_call 8; refine (HNm.out _ _).mono ?_; rintro e w' ⟨rfl, rfl⟩) | (go_at_call 11; refine HLn.out.mono ?_; rintro e w' ⟨rfl, rfl⟩))
        refine HGk.mono ?_
        rintro e w3 ⟨rfl, hb3⟩
        clear HGk ck
        have HB3 : Hid (Below w2.heap.size w2 w3) := hb3
        clear hb3
        go_wp2_with fail
        refine (HFi.out S w3 HB3.out).mono ?_
        rintro e w4 ⟨rfl, hb4⟩
        have HB4 : Hid (Below w2.heap.size w2 w4) := hb4
        clear hb4
        go_wp2_with fail
        refine (HWh.out S w4 HB4.out).mono ?_
        rintro e w5 ⟨rfl, rfl⟩
        go_wp2_with fail
        go_loopw [12] (fun t12 wr => ∃ q : Nat, q ≤ l.length ∧ t12 = .int .i64 q ∧ Below w2.heap.size w2 wr) (fun t12 wr => l.length - (intOf t12).toNat)
        case atStart => exact ⟨0, Nat.zero_le _, rfl, HB4.out⟩
        case round =>
          obtain ⟨q, hq, rfl, hb⟩ := hrel
          have HB : Hid (Below w2.heap.size w2 wr) := hb
          clear hb
          by_cases hlt : q < l.length
          · obtain ⟨t, ht⟩ : ∃ t, l[q]? = some t := ⟨_, List.getElem?_eq_getElem hlt⟩
            rcases HT2.out.below HB.out with ⟨_, _, _, _, h0⟩ | ⟨g, off, cap, hv1, hv2, _, _, hv5⟩
            · rw [h0] at hlt; simp at hlt
            · cases hv1
              have c1 := hv5 q t ht
              obtain ⟨T, hT⟩ : ∃ T : ByteArray, T = ⟨t.toArray⟩ := ⟨_, rfl⟩
              rw [show strT t = .string T by rw [hT]] at c1
              have b3 := HB.out
              have hTd : T.data.toList = t := by rw [hT]
              have HGt : Hid (∀ w1, w1.cell? ⟨g, off + q, none⟩ = some (.string T) ∧ Below w2.heap.size w2 w1 → Calls Tryd.prog 12 #[.pointer (some ⟨b, 0, none⟩), .int .i64 q] w1 fun e w' => e = .returned (.string T) ∧ (w'.cell? ⟨g, off + q, none⟩ = some (.string T) ∧ Below w2.heap.size w2 w')) := fun w1 h1 => by
                have := get_any w1 _ b q l t (HD2.out.below h1.2) ht HGP.out.1 HGP.out.2 hLn
                rw [show strT t = .string T by rw [hT]] at this
                refine this.mono ?_
                rintro e w2 ⟨rfl, hb2⟩
                have hgl : g < w1.heap.size := World.block_lt_of_cell? w1 ⟨g, _, none⟩ h1.1
                exact ⟨rfl, (hb2.cell (p := ⟨g, _, none⟩) hgl).trans h1.1, h1.2.trans (hb2.mono h1.2.size)⟩
              have HFt : Hid (∀ w1, w1.cell? ⟨g, off + q, none⟩ = some (.string T) ∧ Below w2.heap.size w2 w1 → Calls Tryd.prog 13 #[.pointer (some ⟨b, 0, none⟩), .string T] w1 fun e w' => e = .returned (.int .i64 q) ∧ (w'.cell? ⟨g, off + q, none⟩ = some (.string T) ∧ Below w2.heap.size w2 w')) := fun w1 h1 => by
                have := find_any w1 _ b l T (HD2.out.below h1.2) HGP.out.1 HGP.out.2 hLn
                rw [hTd, where_hit HGP.out.1 ht] at this
                refine this.mono ?_
                rintro e w2 ⟨rfl, hb2⟩
                have hgl : g < w1.heap.size := World.block_lt_of_cell? w1 ⟨g, _, none⟩ h1.1
                exact ⟨rfl, (hb2.cell (p := ⟨g, _, none⟩) hgl).trans h1.1, h1.2.trans (hb2.mono h1.2.size)⟩
              have hj0 : (0 : Int) ≤ q := by omega
              have hj1 : (q : Int) < (l.length : Int) := by omega
              clear hT ht hv5 hTd
              go_wp2_with fail
              go_region_held3 (fun w' => w'.cell? ⟨g, off + q, none⟩ = some (.string T) ∧ Below w2.heap.size w2 w') (first | assumption | exact ⟨c1, b3⟩ | exact ⟨c1, b3.drew⟩) (first | (go_at_call 12; refine (HGt.out _ (by first | assumption | exact ⟨by assumption, by first | assumption | exact b3.drew⟩)).mono ?_; rintro e2 w6 ⟨rfl, hS⟩) | (go_at_call 13; refine (HFt.out _ (by first | assumption | exact ⟨by assumption, by first | assumption | exact b3.drew⟩)).mono ?_; rintro e3 w7 ⟨rfl, hS⟩))
              all_goals go_wp2_with fail
              all_goals go_roundw
              case rel => exact ⟨q + 1, by omega, by go_num, And.right (by assumption)⟩
              case measure => simp [intOf]; omega
          · have hj1 : ¬ (q : Int) < (l.length : Int) := by omega
            go_wp2_with fail
            go_ret
            exact ⟨rfl, HB2.out.trans (HB.out.mono HB2.out.size)⟩
  · have hno : ∀ L, ¬ DictOf D L := fun L hL => hex ⟨L, hL⟩
    have HOp : Hid (Calls Tryd.prog 9 #[.string D] w fun e w' => e = .returned (.tuple #[.pointer none, .int .i64 8]) ∧ Below w.heap.size w w') := open_no w D hD hno hH
    have HNo : Hid (∀ L, ¬ DictOf D L) := hno
    clear hno hex hH
    go_enter Tryd.func4, Tryd.ntmps4
    go_wp2_with fail
    refine HOp.out.mono ?_
    rintro e w1 ⟨rfl, hb1⟩
    have HB1 : Hid (Below w.heap.size w w1) := hb1
    clear hb1 HOp
    go_wp2_with fail
    refine (HRo.out w1).mono ?_
    rintro e w2 ⟨v, ok, l, rfl, ho2, hl2, hy, hn, hall, hb2⟩
    cases ok with
    | true => exact absurd (hy rfl) (HNo.out l)
    | false =>
      have HB2 : Hid (Below w.heap.size w w2) := HB1.out.trans (hb2.mono HB1.out.size)
      obtain ⟨ov, cv, rfl⟩ := row_form ho2
      clear ho2 hl2 hy hn hall hb2 HB1 HRo
      go_wp2_with (first | (go_at_call 8; refine (HNm.out _ _).mono ?_; rintro e w' ⟨rfl, rfl⟩))
      go_ret
      exact ⟨rfl, HB2.out⟩

end Go.Proofs.YtnffjoipinhojabDoor
