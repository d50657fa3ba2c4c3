import Derived.Test.YtnffjoipinhojabDoorEh
set_option linter.unusedSimpArgs false
set_option linter.unusedVariables false
namespace Go.Proofs.YtnffjoipinhojabDoor
open Go.RowKit

theorem blockL_get {l : List (List UInt8)} {k : Nat} {t : List UInt8} (h : l[k]? = some t) : (blockL l (k / 4))[k % 4]? = some t := by
  unfold blockL
  rw [List.getElem?_take_of_lt (by omega), List.getElem?_drop, show 4 * (k / 4) + k % 4 = k by omega]
  exact h

set_option maxHeartbeats 4000000 in
set_option maxRecDepth 20000 in
theorem get_any (w : World) (base b k : Nat) (l : List (List UInt8)) (t : List UInt8) (h : DictR base b l ((l.length + 3) / 4) w) (hk : l[k]? = some t) (hris : Rise2 l) (hs : ∀ t ∈ l, t.length ≤ 200) (hn : l.length ≤ 1048576) :
    Calls Tryd.prog 12 #[.pointer (some ⟨b, 0, none⟩), .int .i64 k] w fun e w' => e = .returned (strT t) ∧ Below w.heap.size w w' := by
  have hkl := (List.getElem?_eq_some_iff.1 hk).1
  have HLn : Hid (Calls Tryd.prog 11 #[.pointer (some ⟨b, 0, none⟩)] w fun e w' => e = .returned (.int .i64 l.length) ∧ w' = w) := len_any w base b _ l h
  have HBl : Hid (Calls Tryd.prog 31 #[.pointer (some ⟨b, 0, none⟩), .int .i64 ((k / 4 : Nat) : Int)] w fun e w' => ∃ g c, e = .returned (.slice (some ⟨g, 0, none⟩) (blockL l (k / 4)).length c) ∧ w.heap.size ≤ g ∧ (blockL l (k / 4)).length ≤ c ∧ Strs w' g 0 (blockL l (k / 4)) ∧ Below w.heap.size w w') := block_any w base b (k / 4) l h (by omega) hris hs hn
  have hget := blockL_get hk
  have hlt4 := (List.getElem?_eq_some_iff.1 hget).1
  have HG : Hid ((blockL l (k / 4))[k % 4]? = some t) := hget
  obtain ⟨L, hL⟩ : ∃ L, (blockL l (k / 4)).length = L := ⟨_, rfl⟩
  rw [hL, show (((k / 4 : Nat) : Int)) = (k : Int) / 4 by omega] at HBl
  rw [hL] at hlt4
  have hk0 : (0 : Int) ≤ k := by omega
  have hk1 : (k : Int) < (l.length : Int) := by omega
  have hm0 : (0 : Int) ≤ (k : Int) % 4 := by omega
  have hm1 : (k : Int) % 4 < (L : Int) := by omega
  clear h hk hget hris hs hL
  go_enter Tryd.func12, Tryd.ntmps12
  go_wp2_with (first | (go_at_call 11; refine HLn.out.mono ?_; rintro e w2 ⟨rfl, rfl⟩))
  refine HBl.out.mono ?_
  rintro e w3 ⟨g, c, rfl, hg, hc, hst, hb3⟩
  have HB3 : Hid (Below w2.heap.size w2 w3) := hb3
  have c1 := hst (k % 4) t HG.out
  rw [Nat.zero_add] at c1
  obtain ⟨T, hT⟩ : ∃ T : ByteArray, T = ⟨t.toArray⟩ := ⟨_, rfl⟩
  rw [show strT t = .string T by rw [hT]] at c1
  have HT : Hid (strT t = .string T) := by unfold Hid; rw [hT]
  clear hb3 hst hT
  go_wp2_with fail
  go_ret
  exact ⟨by rw [HT.out]; rfl, HB3.out⟩

theorem dict_len (l : List (List UInt8)) (hn : l.length ≤ 1048576) (hs : ∀ t ∈ l, t.length ≤ 200) : (Lib.uvarint l.length ++ dictE l).length ≤ 1048585000 := by
  have h := outP_all l ((l.length + 3) / 4) (by omega)
  rw [List.drop_eq_nil_of_le (by omega), dictE_nil, List.append_nil] at h
  rw [← h]
  have h2 := outP_len l hn hs (upTo l.length ((l.length + 3) / 4))
  rw [upTo_len (by omega)] at h2
  omega

theorem good_parts {l : List (List UInt8)} (h : refuse l = none) : Rise2 l ∧ ∀ t ∈ l, t.length ≤ 200 := by
  unfold refuse at h
  split at h
  · cases h
  · rename_i h1
    split at h
    · cases h
    · rename_i h2
      exact ⟨rise2_of h1, long_none h2⟩

/-- dict.Open of what Build answers, by the list -/
theorem open_rb (w : World) (l : List (List UInt8)) (hr : refuse l = none) (hn : l.length ≤ 1048576) :
    Calls Tryd.prog 9 #[strT (Lib.uvarint l.length ++ dictE l)] w fun e w' => ∃ b, e = .returned (.tuple #[.pointer (some ⟨b, 0, none⟩), .int .i64 0]) ∧ DictR w.heap.size b l ((l.length + 3) / 4) w' ∧ Below w.heap.size w w' := by
  obtain ⟨h1, h2⟩ := good_parts hr
  have := dict_len l hn h2
  exact open_ok w _ l rfl (by rw [arrSize]; omega) h1 h2 hn

abbrev abac : List (List UInt8) := [[97, 98], [97, 99]]
theorem refuse_abac : refuse abac = none := by decide +kernel

set_option maxHeartbeats 8000000 in
set_option maxRecDepth 20000 in
theorem dictBack_any (w : World) (v : Value) (l : List (List UInt8)) (hv : Texts w v l) (hn : l.length ≤ 1048576) (hz : ∀ t ∈ l, t.length ≤ 1000000000) (hH : Handle w) :
    Calls Tryd.prog 5 #[v] w fun e w' => e = .returned (.bool true) ∧ Below w.heap.size w w' := by
  obtain ⟨vo, vc, rfl⟩ := hv.form
  have HBA : Hid (Below w.heap.size w (w.alloc (.cells #[.string ⟨#[97, 98]⟩, .string ⟨#[97, 99]⟩] 9))) := (Below.refl _ w).alloc (Nat.le_refl _) _
  obtain ⟨S, hS⟩ : ∃ S : ByteArray, S = ⟨(Lib.uvarint abac.length ++ dictE abac).toArray⟩ := ⟨_, rfl⟩
  have HB1 : Hid (Calls Tryd.prog 6 #[.slice (some ⟨w.heap.size, 0, none⟩) 2 2] (w.alloc (.cells #[.string ⟨#[97, 98]⟩, .string ⟨#[97, 99]⟩] 9)) fun e w' => e = .returned (.tuple #[.string S, .int .i64 0, .int .i64 0]) ∧ Below (w.alloc (.cells #[.string ⟨#[97, 98]⟩, .string ⟨#[97, 99]⟩] 9)).heap.size (w.alloc (.cells #[.string ⟨#[97, 98]⟩, .string ⟨#[97, 99]⟩] 9)) w') := by
    have := build_all (w.alloc (.cells #[.string ⟨#[97, 98]⟩, .string ⟨#[97, 99]⟩] 9)) (.slice (some ⟨w.heap.size, 0, none⟩) 2 2) abac (.inr ⟨w.heap.size, 0, 2, rfl, by simp, by simp, by unfold maxLen; omega, fun k t hk => by
      match k, hk with
      | 0, hk => cases hk; exact cell_new (w := w)
      | 1, hk => cases hk; exact cell_new (w := w)⟩) (by simp) (fun t ht => by simp at ht; rcases ht with rfl | rfl <;> simp) (hH.below HBA.out)
    rw [rbV_none refuse_abac, show strT (Lib.uvarint abac.length ++ dictE abac) = .string S by rw [hS]] at this
    exact this
  have HO1 : Hid (∀ w1, Calls Tryd.prog 9 #[.string S] w1 fun e w' => ∃ b, e = .returned (.tuple #[.pointer (some ⟨b, 0, none⟩), .int .i64 0]) ∧ DictR w1.heap.size b abac ((abac.length + 3) / 4) w' ∧ Below w1.heap.size w1 w') := fun w1 => by
    have := open_rb w1 abac refuse_abac (by simp)
    rw [show strT (Lib.uvarint abac.length ++ dictE abac) = .string S by rw [hS]] at this
    exact this
  have HG1 : Hid (∀ w1 base b, DictR base b abac ((abac.length + 3) / 4) w1 → Calls Tryd.prog 12 #[.pointer (some ⟨b, 0, none⟩), .int .i64 1] w1 fun e w' => e = .returned (.string ⟨#[97, 99]⟩) ∧ Below w1.heap.size w1 w') := fun w1 base b h1 => get_any w1 base b 1 abac [97, 99] h1 rfl (good_parts refuse_abac).1 (good_parts refuse_abac).2 (by simp)
  have HN0 : Hid (∀ w2, Calls Tryd.prog 8 #[.int .i64 0] w2 fun e w' => e = .returned (.int .i64 0) ∧ w2 = w') := fun w2 => num_any 0 w2
  have HBd : Hid (∀ w1, Below w.heap.size w w1 → Calls Tryd.prog 6 #[.slice vo l.length vc] w1 fun e w' => e = .returned (rbV l) ∧ Below w1.heap.size w1 w') := fun w1 hb => build_all w1 _ l (hv.below hb) hn hz (hH.below hb)
  have HV : Hid (Texts w (.slice vo l.length vc) l) := hv
  have mixed : Tryd.prog.follows Departure.mixedOrders = true := by kernel_rfl
  clear hv hz hH hS
  go_enter Tryd.func5, Tryd.ntmps5
  go_wp2_with fail
  refine HB1.out.mono ?_
  rintro e w2 ⟨rfl, hb2⟩
  have HB2 : Hid (Below w.heap.size w w2) := HBA.out.trans (hb2.mono HBA.out.size)
  clear hb2 HB1 HBA
  go_wp2_with fail
  refine (HO1.out w2).mono ?_
  rintro e w3 ⟨b3, rfl, hd3, hb3⟩
  have HD3 : Hid (DictR w2.heap.size b3 abac ((abac.length + 3) / 4) w3) := hd3
  have HB3 : Hid (Below w.heap.size w w3) := HB2.out.trans (hb3.mono HB2.out.size)
  have HGt := HG1.out w3 _ b3 hd3
  clear hd3 hb3
  go_wp2_with (first | (go_at_call 8; refine (HN0.out _).mono ?_; rintro e w' ⟨rfl, rfl⟩))
  refine HGt.mono ?_
  rintro e w4 ⟨rfl, hb4⟩
  have HB4 : Hid (Below w.heap.size w w4) := HB3.out.trans (hb4.mono HB3.out.size)
  clear hb4 HGt HD3 HG1 HO1
  cases hr : refuse l with
  | some x =>
    obtain ⟨n, i⟩ := x
    have hn7 : n = 7 ∨ n = 1 := by
      unfold refuse at hr
      split at hr
      · cases hr; exact .inl rfl
      · split at hr
        · cases hr; exact .inr rfl
        · cases hr
    have hne : ¬ n = 0 := by omega
    have HBb : Hid (Calls Tryd.prog 6 #[.slice vo l.length vc] w4 fun e w' => e = .returned (.tuple #[.string ⟨#[]⟩, .int .i64 n, .int .i64 i]) ∧ Below w4.heap.size w4 w') := by
      have := HBd.out w4 HB4.out
      rw [rbV_some hr] at this
      exact this
    have HNn : Hid (∀ w2, Calls Tryd.prog 8 #[.int .i64 n] w2 fun e w' => e = .returned (.int .i64 n) ∧ w2 = w') := fun w2 => num_any n w2
    clear hr HBd hn7
    go_wp2_with fail
    refine HBb.out.mono ?_
    rintro e w5 ⟨rfl, hb5⟩
    have HB5 : Hid (Below w.heap.size w w5) := HB4.out.trans (hb5.mono HB4.out.size)
    clear hb5
    go_wp2_with (first | (go_at_call 8; refine (HNn.out _).mono ?_; rintro e w' ⟨rfl, rfl⟩))
    go_ret
    exact ⟨rfl, HB5.out⟩
  | none =>
    obtain ⟨X, hX⟩ : ∃ X : ByteArray, X = ⟨(Lib.uvarint l.length ++ dictE l).toArray⟩ := ⟨_, rfl⟩
    have HBb : Hid (Calls Tryd.prog 6 #[.slice vo l.length vc] w4 fun e w' => e = .returned (.tuple #[.string X, .int .i64 0, .int .i64 0]) ∧ Below w4.heap.size w4 w') := by
      have := HBd.out w4 HB4.out
      rw [rbV_none hr, show strT (Lib.uvarint l.length ++ dictE l) = .string X by rw [hX]] at this
      exact this
    have HO2 : Hid (∀ w1, Calls Tryd.prog 9 #[.string X] w1 fun e w' => ∃ b, e = .returned (.tuple #[.pointer (some ⟨b, 0, none⟩), .int .i64 0]) ∧ DictR w1.heap.size b l ((l.length + 3) / 4) w' ∧ Below w1.heap.size w1 w') := fun w1 => by
      have := open_rb w1 l hr hn
      rw [show strT (Lib.uvarint l.length ++ dictE l) = .string X by rw [hX]] at this
      exact this
    have HGP : Hid (Rise2 l ∧ ∀ t ∈ l, t.length ≤ 200) := good_parts hr
    clear hr HBd hX
    go_wp2_with fail
    refine HBb.out.mono ?_
    rintro e w5 ⟨rfl, hb5⟩
    have HB5 : Hid (Below w.heap.size w w5) := HB4.out.trans (hb5.mono HB4.out.size)
    clear hb5 HBb
    go_wp2_with (first | (go_at_call 8; refine (HN0.out _).mono ?_; rintro e w' ⟨rfl, rfl⟩))
    refine (HO2.out w5).mono ?_
    rintro e w6 ⟨b6, rfl, hd6, hb6⟩
    have HD6 : Hid (DictR w5.heap.size b6 l ((l.length + 3) / 4) w6) := hd6
    have HB6 : Hid (Below w.heap.size w w6) := HB5.out.trans (hb6.mono HB5.out.size)
    have HLn : Hid (Calls Tryd.prog 11 #[.pointer (some ⟨b6, 0, none⟩)] w6 fun e w' => e = .returned (.int .i64 l.length) ∧ w6 = w') := (len_any w6 _ b6 _ l hd6).mono fun e w' h => ⟨h.1, h.2.symm⟩
    clear hd6 hb6 HO2
    go_wp2_with (first | (go_at_call 8; refine (HN0.out _).mono ?_; rintro e w' ⟨rfl, rfl⟩) | (go_at_call 11; refine HLn.out.mono ?_; rintro e w' ⟨rfl, rfl⟩))
    go_loopw [13] (fun t13 wr => ∃ q : Nat, q ≤ l.length ∧ t13 = .int .i64 q ∧ Below w6.heap.size w6 wr) (fun t13 wr => l.length - (intOf t13).toNat)
    case atStart => exact ⟨0, Nat.zero_le _, rfl, Below.refl _ _⟩
    case round =>
      obtain ⟨q, hq, rfl, hb⟩ := hrel
      have HB : Hid (Below w6.heap.size w6 wr) := hb
      clear hb
      by_cases hlt : q < l.length
      · obtain ⟨t, ht⟩ : ∃ t, l[q]? = some t := ⟨_, List.getElem?_eq_getElem hlt⟩
        rcases HV.out.below (HB6.out.trans (HB.out.mono HB6.out.size)) with ⟨_, _, _, _, rfl⟩ | ⟨g, off, cap, hv1, hv2, _, _, hv5⟩
        · simp at hlt
        · cases hv1
          have c1 := hv5 q t ht
          obtain ⟨T, hT⟩ : ∃ T : ByteArray, T = ⟨t.toArray⟩ := ⟨_, rfl⟩
          rw [show strT t = .string T by rw [hT]] at c1
          have b3 := HB.out
          have HGt : Hid (∀ w1, w1.cell? ⟨g, off + q, none⟩ = some (.string T) ∧ Below w6.heap.size w6 w1 → Calls Tryd.prog 12 #[.pointer (some ⟨b6, 0, none⟩), .int .i64 q] w1 fun e w' => e = .returned (.string T) ∧ (w'.cell? ⟨g, off + q, none⟩ = some (.string T) ∧ Below w6.heap.size w6 w')) := fun w1 h1 => by
            have := get_any w1 _ b6 q l t (HD6.out.below h1.2) ht HGP.out.1 HGP.out.2 hn
            rw [show strT t = .string T by rw [hT]] at this
            refine this.mono ?_
            rintro e w2 ⟨rfl, hb2⟩
            have hgl : g < w1.heap.size := World.block_lt_of_cell? w1 ⟨g, _, none⟩ h1.1
            exact ⟨rfl, (hb2.cell (p := ⟨g, _, none⟩) hgl).trans h1.1, h1.2.trans (hb2.mono h1.2.size)⟩
          have hj0 : (0 : Int) ≤ q := by omega
          have hj1 : (q : Int) < (l.length : Int) := by omega
          clear hT ht hv5 HV HLn HN0 HGP HD6
          go_wp2_with fail
          go_region_held3 (fun w' => w'.cell? ⟨g, off + q, none⟩ = some (.string T) ∧ Below w6.heap.size w6 w') (first | assumption | exact ⟨c1, b3⟩ | exact ⟨c1, b3.drew⟩) (first | (go_at_call 12; refine (HGt.out _ (by first | assumption | exact ⟨by assumption, by first | assumption | exact b3.drew⟩)).mono ?_; rintro e2 w2 ⟨rfl, hS⟩))
          all_goals go_wp2_with fail
          all_goals go_roundw
          case rel => exact ⟨q + 1, by omega, by go_num, And.right (by assumption)⟩
          case measure => simp [intOf]; omega
      · clear HV HLn HN0 HGP HD6
        go_wp2_with fail
        go_ret
        exact ⟨rfl, HB6.out.trans (HB.out.mono HB6.out.size)⟩

end Go.Proofs.YtnffjoipinhojabDoor
