import Derived.Test.YtnffjoipinhojabGreatDoorK06
set_option linter.unusedSimpArgs false
set_option linter.unusedVariables false
namespace Go.Proofs.YtnffjoipinhojabGreatDoor
open Go.RowKit

def schS : List UInt8 := [43, 45, 46]
def badS : List UInt8 := [60, 62, 34, 123, 125, 124, 94, 96, 92]
theorem schS_asc : asc schS := by unfold asc schS; decide
theorem badS_asc : asc badS := by unfold asc badS; decide
theorem inScheme_lt {c : Int} (h : inScheme c = true) : 0 ≤ c ∧ c < 128 := by simp [inScheme, letter, digit] at h; omega

/-- IRI's two sets, as they stand behind their making -/
def iW1 (w : World) : World := ((oW w schS).alloc (.cells #[fnV 116 #[], fnV 121 #[], fnV 175 #[.pointer (some ⟨w.heap.size, 0, none⟩)]] 182)).alloc (.cells #[.slice (some ⟨w.heap.size + 1, 0, none⟩) 3 3] 234)
theorem iW1_size (w : World) : (iW1 w).heap.size = w.heap.size + 3 := by simp [iW1, oW]
theorem iW1_below (w : World) : Below w.heap.size w (iW1 w) := ((oW_below w schS).alloc (by simp [oW]) _).alloc (by simp [oW]; omega) _

theorem set_scheme (w : World) : IsSet 174 #[.pointer (some ⟨w.heap.size + 1 + 1, 0, none⟩)] inScheme w.heap.size (w.heap.size + 3) (iW1 w) := by
  have ho := (set_oW w schS schS_asc (by decide)).below (B := w.heap.size + 1) (w := iW1 w) (((Below.refl _ _).alloc (by simp [oW]) _).alloc (by simp [oW]) _) (Nat.le_refl _)
  have h := set_either (iW1 w) (w.heap.size + 2) (w.heap.size + 1) 3 3 [⟨116, #[], letter⟩, ⟨121, #[], digit⟩, ⟨175, #[.pointer (some ⟨w.heap.size, 0, none⟩)], oneOfP schS⟩] w.heap.size (w.heap.size + 3) rfl (by omega)
    (fun x hx => by
      simp only [List.mem_cons, List.not_mem_nil, or_false] at hx
      rcases hx with rfl | rfl | rfl
      · have := set_letter (iW1 w)
        exact ⟨this.en, by rw [iW1_size]; omega, fun w _ _ => this.at' w (fun k a b => by omega) (Nat.zero_le _)⟩
      · have := set_digit (iW1 w)
        exact ⟨this.en, by rw [iW1_size]; omega, fun w _ _ => this.at' w (fun k a b => by omega) (Nat.zero_le _)⟩
      · exact ⟨ho.en, by rw [iW1_size]; omega, fun u hu hz => ho.at' u (fun k a b => hu k a (by omega)) (by omega)⟩)
    (by omega) (by omega) (by omega) (by omega) (by rw [iW1_size]; omega) (by rw [iW1, World.cell?_alloc_at _ _ _ _ (by simp [oW])]; rfl) (by omega)
    (fun j x hj => by
      rw [iW1, World.cell?_alloc_lt _ _ _ (by simp [oW]), World.cell?_alloc_at _ _ _ _ (by simp [oW])]
      match j, hj with
      | 0, hj => simp at hj; subst hj; simp
      | 1, hj => simp at hj; subst hj; simp
      | 2, hj => simp at hj; subst hj; simp
      | (n + 3), hj => simp at hj)
  refine ⟨h.en, h.le, fun u a b c h0 h1 => ?_⟩
  have := h.at' u a b c h0 h1
  have e : anyP [⟨116, #[], letter⟩, ⟨121, #[], digit⟩, ⟨175, #[.pointer (some ⟨w.heap.size, 0, none⟩)], oneOfP schS⟩] c = inScheme c := by
    simp only [anyP, List.any_cons, List.any_nil, Bool.or_false, inScheme]
    rw [show oneOfP schS c = decide (c = 43 ∨ c = 45 ∨ c = 46) by rw [Bool.eq_iff_iff]; simp [oneOfP, schS]; omega, Bool.or_assoc]
  rw [e] at this
  exact this

def iW2 (u : World) : World := (((oW u badS).alloc (.cells #[fnV 124 #[], fnV 175 #[.pointer (some ⟨u.heap.size, 0, none⟩)]] 182)).alloc (.cells #[.slice (some ⟨u.heap.size + 1, 0, none⟩) 2 2] 234)).alloc (.cells #[fnV 174 #[.pointer (some ⟨u.heap.size + 1 + 1, 0, none⟩)]] 182)
theorem iW2_size (w : World) : (iW2 w).heap.size = w.heap.size + 4 := by simp [iW2, oW]
theorem iW2_below (w : World) : Below w.heap.size w (iW2 w) := (((oW_below w badS).alloc (by simp [oW]) _).alloc (by simp [oW]; omega) _).alloc (by simp [oW]; omega) _

theorem set_inIri (u : World) : IsSet 177 #[.pointer (some ⟨u.heap.size + 3, 0, none⟩)] inIri u.heap.size (u.heap.size + 4) (iW2 u) := by
  have ho := (set_oW u badS badS_asc (by decide)).below (B := u.heap.size + 1) (w := iW2 u) ((((Below.refl _ _).alloc (by simp [oW]) _).alloc (by simp [oW]) _).alloc (by simp [oW]) _) (Nat.le_refl _)
  have h := set_either (iW2 u) (u.heap.size + 2) (u.heap.size + 1) 2 2 [⟨124, #[], control⟩, ⟨175, #[.pointer (some ⟨u.heap.size, 0, none⟩)], oneOfP badS⟩] u.heap.size (u.heap.size + 3) rfl (by omega)
    (fun x hx => by
      simp only [List.mem_cons, List.not_mem_nil, or_false] at hx
      rcases hx with rfl | rfl
      · have := set_control (iW2 u)
        exact ⟨this.en, by rw [iW2_size]; omega, fun w _ _ => this.at' w (fun k a b => by omega) (Nat.zero_le _)⟩
      · exact ⟨ho.en, by rw [iW2_size]; omega, fun v hu hz => ho.at' v (fun k a b => hu k a (by omega)) (by omega)⟩)
    (by omega) (by omega) (by omega) (by omega) (by rw [iW2_size]; omega)
    (by rw [iW2, World.cell?_alloc_lt _ _ _ (by simp [oW]), World.cell?_alloc_at _ _ _ _ (by simp [oW])]; rfl) (by omega)
    (fun j x hj => by
      rw [iW2, World.cell?_alloc_lt _ _ _ (by simp [oW]), World.cell?_alloc_lt _ _ _ (by simp [oW]), World.cell?_alloc_at _ _ _ _ (by simp [oW])]
      match j, hj with
      | 0, hj => simp at hj; subst hj; simp
      | 1, hj => simp at hj; subst hj; simp
      | (n + 2), hj => simp at hj)
  have h2 := set_not (iW2 u) (u.heap.size + 3) _ _ _ _ _ h (by omega) (by omega) (by rw [iW2, World.cell?_alloc_at _ _ _ _ (by simp [oW])]; rfl)
  refine ⟨h2.en, h2.le, fun v a b c h0 h1 => ?_⟩
  have := h2.at' v a b c h0 h1
  have e : (!anyP [⟨124, #[], control⟩, ⟨175, #[.pointer (some ⟨u.heap.size, 0, none⟩)], oneOfP badS⟩] c) = inIri c := by
    simp only [anyP, List.any_cons, List.any_nil, Bool.or_false, inIri]
    rw [show oneOfP badS c = badIri c by rw [Bool.eq_iff_iff]; simp [oneOfP, badS, badIri]; omega]
  rw [e] at this
  exact this

def iWx (w : World) : World := (((((((w.alloc (.cells #[str schS] 9)).alloc (.cells #[fnV 116 #[], fnV 121 #[], fnV 175 #[.pointer (some ⟨w.heap.size, 0, none⟩)]] 182)).alloc (.cells #[.slice (some ⟨w.heap.size + 1, 0, none⟩) 3 3] 234)).alloc (.cells #[str badS] 9)).alloc (.cells #[fnV 124 #[], fnV 175 #[.pointer (some ⟨w.heap.size + 1 + 1 + 1, 0, none⟩)]] 182)).alloc (.cells #[.slice (some ⟨w.heap.size + 1 + 1 + 1 + 1, 0, none⟩) 2 2] 234)).alloc (.cells #[fnV 174 #[.pointer (some ⟨w.heap.size + 1 + 1 + 1 + 1 + 1, 0, none⟩)]] 182))
theorem iW_eq (w : World) : iW2 (iW1 w) = iWx w := by
  have e : (iW1 w).heap.size = w.heap.size + 1 + 1 + 1 := by rw [iW1_size]
  unfold iW2
  rw [e]
  rfl

/-- both sets, and the mark -/
structure Ir (w w1 : World) (b i : Nat) (s : ByteArray) : Prop where
  call : Calls Tryz.prog 125 #[.pointer (some ⟨b, 0, none⟩)] (iWx w) fun e w' => e = .returned (.func (.func 178) #[] #[.pointer (some ⟨w.heap.size + 7, 0, none⟩), .pointer (some ⟨w.heap.size + 8, 0, none⟩)]) ∧ w' = w1
  mkd : Mk (iW2 (iW1 w)) w1 b i s
  sch : IsSet 174 #[.pointer (some ⟨w.heap.size + 1 + 1, 0, none⟩)] inScheme w.heap.size (w.heap.size + 3) w1
  iri : IsSet 177 #[.pointer (some ⟨w.heap.size + 1 + 1 + 1 + 1 + 1 + 1, 0, none⟩)] inIri (w.heap.size + 3) (w.heap.size + 7) w1
  adv : Adv b i w w1
  size : w1.heap.size = w.heap.size + 9
  bw : b < w.heap.size

theorem Ir.of (w : World) (b i : Nat) (s : ByteArray) (h : Rd w b s i) (hT : Tabs w) (hb4 : 8 ≤ b) : ∃ w1, Ir w w1 b i s := by
  have hbw := h.lt
  have h1 := iW1_below w
  have h2 := iW2_below (iW1 w)
  rw [iW1_size] at h2
  have hB : Below w.heap.size w (iW2 (iW1 w)) := h1.trans (h2.mono (by omega))
  have hR := h.below hB
  have hTT := hT.below hB (by omega) (by omega)
  obtain ⟨w1, m⟩ := Mk.of (iW2 (iW1 w)) b i s hR hTT hb4
  have hz : (iW2 (iW1 w)).heap.size = w.heap.size + 7 := by rw [iW2_size, iW1_size]
  have s1 := ((set_scheme w).below h2 (Nat.le_refl _)).adv m.adv (.inl hbw)
  have s2 := set_inIri (iW1 w)
  rw [iW1_size] at s2
  have s3 := s2.adv m.adv (.inl (by omega))
  have hc := m.call
  rw [hz, iW_eq] at hc
  exact ⟨w1, hc, m, s1, s3, (h.stay hB).trans m.adv, by rw [m.size, hz], hbw⟩

theorem scheme_q {s : ByteArray} {j : Nat} (h : bt s j = 58) : scheme s j = .ok () (j + 1) := by rw [scheme, if_pos h]
theorem scheme_on {s : ByteArray} {j : Nat} (h : bt s j ≠ 58) (h2 : inScheme (bt s j) = true) : scheme s j = scheme s (j + 1) := by rw [scheme, if_neg h, dif_pos h2]
theorem scheme_bad {s : ByteArray} {j : Nat} (h : bt s j ≠ 58) (h2 : inScheme (bt s j) = false) : scheme s j = .bad j := by rw [scheme, if_neg h, dif_neg (by simp [h2])]

theorem sub_len (s : ByteArray) (i j : Nat) (h : i ≤ j) (hj : j ≤ s.size) : (sub s i j).length = j - i := by
  unfold sub
  have : s.data.toList.length = s.size := by simp
  simp only [List.length_take, List.length_drop, this]
  omega

set_option maxHeartbeats 4000000 in
theorem iri_any (w : World) (b i : Nat) (s : ByteArray) (h : Rd w b s i) (hT : Tabs w) (hb4 : 8 ≤ b) (hsz : s.size ≤ 1099511627776) :
    Calls Tryz.prog 71 #[.pointer (some ⟨b, 0, none⟩)] w (Out b w str (iri s i)) := by
  obtain ⟨w1, hI⟩ := Ir.of w b i s h hT hb4
  have I : Hid (Ir w w1 b i s) := hI
  have e0 := enters_of Tryz.func178 (by kernel_rfl) rfl
  have his := h.le
  have hbw := h.lt
  clear hI h hT
  by_cases c1 : bt s i = 60
  · have hi1 := bt_in c1 (by omega)
    have HW : Hid (Calls Tryz.prog 126 #[.pointer (some ⟨b, 0, none⟩), .int .u8 60] w1 fun e w' => e = .returned (.tuple #[]) ∧ Adv b (i + 1) w1 w') := want_ok w1 b i s 60 I.out.mkd.rd (by omega) (by omega) c1
    have RT : Hid (∀ j w2, j ≤ s.size → Adv b j w1 w2 → Rd w2 b s j ∧ Tabs w2 ∧ IsSet 174 #[.pointer (some ⟨w.heap.size + 1 + 1, 0, none⟩)] inScheme w.heap.size (w.heap.size + 3) w2) := fun j w2 hj a =>
      ⟨I.out.mkd.rd.adv a hj, I.out.mkd.tabs.adv a hb4 I.out.mkd.rd.lt, I.out.sch.adv a (.inl hbw)⟩
    cases c2 : letter (bt s (i + 1)) with
    | false =>
      have HR : iri s i = .bad (i + 1) := by unfold iri; rw [if_neg (by simp [c1]), if_pos c2]
      rw [HR]
      have HL : Hid (∀ w2, Adv b (i + 1) w1 w2 → Calls Tryz.prog 127 #[.pointer (some ⟨b, 0, none⟩), fnV 116 #[]] w2 fun e w' => e = stopE 2 (i + 1 : Nat) ∧ Adv b (i + 1) w1 w') := fun w2 a => by
        obtain ⟨r1, r2, r3⟩ := RT.out _ w2 (by omega) a
        exact (wants_no w2 b (i + 1) s r1 r2 _ _ _ _ _ (set_letter w2) (asc_no (fun c => letter_lt) c2)).mono fun e w' k => ⟨k.1, a.trans k.2⟩
      clear HR c1 c2 RT
      go_enter Tryz.func71, Tryz.ntmps71
      go_wp2_with fail
      refine (oneOf_any _ _).mono ?_
      rintro e a1 ⟨rfl, rfl⟩
      go_wp2_with fail
      refine (either_any _ _ _ _ _ rfl).mono ?_
      rintro e a2 ⟨rfl, rfl⟩
      go_wp2_with fail
      refine (oneOf_any _ _).mono ?_
      rintro e a3 ⟨rfl, rfl⟩
      go_wp2_with fail
      refine (either_any _ _ _ _ _ rfl).mono ?_
      rintro e a4 ⟨rfl, rfl⟩
      go_wp2_with fail
      refine (not_any _ _ _).mono ?_
      rintro e a5 ⟨rfl, rfl⟩
      go_wp2_with fail
      refine I.out.call.mono ?_
      rintro e a6 ⟨rfl, rfl⟩
      go_wp2_with fail
      refine HW.out.mono ?_
      rintro e w2 ⟨rfl, hA2⟩
      go_wp2_with fail
      refine (HL.out _ hA2).mono ?_
      rintro e w3 ⟨rfl, hA3⟩
      go_wp2_with fail
      exact ⟨rfl, rfl, _, I.out.adv.trans hA3⟩
    | true =>
      have hi2 : i + 1 < s.size := bt_lt_size (by have := letter_lt c2; omega)
      obtain ⟨e1, e2⟩ := asc_yes (fun c => letter_lt) c2
      have HL : Hid (∀ w2, Adv b (i + 1) w1 w2 → Calls Tryz.prog 127 #[.pointer (some ⟨b, 0, none⟩), fnV 116 #[]] w2 fun e w' => (∃ n, e = .returned (.int .i32 n)) ∧ Adv b (i + 2) w1 w') := fun w2 a => by
        obtain ⟨r1, r2, r3⟩ := RT.out _ w2 (by omega) a
        have := wants_yes w2 b (i + 1) s r1 r2 _ _ _ _ _ (set_letter w2) (by rw [e1]; exact Nat.one_ne_zero) e2
        rw [e1] at this
        exact this.mono fun e w' k => ⟨⟨_, k.1⟩, a.trans k.2⟩
      have HIR : Hid (iri s i = match scheme s (i + 2) with | .bad j => .bad j | .ok _ j => match body s 62 inIri inIri false j with | .bad k => .bad k | .ok m k => .ok (sub s i j ++ m ++ [62]) k) := by
        unfold Hid iri
        rw [if_neg (by simp [c1]), if_neg (by simp [c2])]
        rfl
      clear c1 c2 e1 e2
      go_enter Tryz.func71, Tryz.ntmps71
      go_wp2_with fail
      refine (oneOf_any _ _).mono ?_
      rintro e a1 ⟨rfl, rfl⟩
      go_wp2_with fail
      refine (either_any _ _ _ _ _ rfl).mono ?_
      rintro e a2 ⟨rfl, rfl⟩
      go_wp2_with fail
      refine (oneOf_any _ _).mono ?_
      rintro e a3 ⟨rfl, rfl⟩
      go_wp2_with fail
      refine (either_any _ _ _ _ _ rfl).mono ?_
      rintro e a4 ⟨rfl, rfl⟩
      go_wp2_with fail
      refine (not_any _ _ _).mono ?_
      rintro e a5 ⟨rfl, rfl⟩
      go_wp2_with fail
      refine I.out.call.mono ?_
      rintro e a6 ⟨rfl, rfl⟩
      go_wp2_with fail
      refine HW.out.mono ?_
      rintro e w2 ⟨rfl, hA2⟩
      go_wp2_with fail
      refine (HL.out _ hA2).mono ?_
      rintro e w3 ⟨⟨n0, rfl⟩, hA3⟩
      go_wp2_with fail
      clear HW HL hA2
      go_loopw [] (fun wr => ∃ j : Nat, Adv b j a6 wr ∧ i + 2 ≤ j ∧ j ≤ s.size ∧ scheme s (i + 2) = scheme s j) (fun wr => s.size - posOf wr b)
      case atStart => exact ⟨i + 2, hA3, by omega, by omega, rfl⟩
      case round =>
        obtain ⟨j, hA, hij, hjs, hsc⟩ := hrel
        have HA : Hid (Adv b j a6 wr) := hA
        have HS : Hid (scheme s (i + 2) = scheme s j) := hsc
        obtain ⟨r1, r2, r3⟩ := RT.out j wr hjs hA
        have HP : Hid (posOf wr b = j) := r1.pos
        have hTk := take_any wr b j s 58 r1 (by omega) (by omega)
        clear hA hsc hA3
        by_cases c3 : bt s j = 58
        · have hj1 := bt_in c3 (by omega)
          simp only [c3, decide_true, if_true] at hTk
          have HK : Hid (Calls Tryz.prog 64 #[.pointer (some ⟨b, 0, none⟩), .int .u8 58] wr fun e w' => e = .returned (.bool true) ∧ Adv b (j + 1) a6 w') := hTk.mono fun e w' k => ⟨k.1, HA.out.trans k.2⟩
          have HI2 : Hid (iri s i = match body s 62 inIri inIri false (j + 1) with | .bad k => .bad k | .ok m k => .ok (sub s i (j + 1) ++ m ++ [62]) k) := by
            unfold Hid
            rw [HIR.out, HS.out, scheme_q c3]
          clear hTk c3 r1 r2 r3 HIR HS HA HP
          go_wp2_with fail
          refine HK.out.mono ?_
          rintro e w4 ⟨rfl, hA4⟩
          go_wp2_with fail
          have hBw : w.heap.size + 9 ≤ w4.heap.size := by have := hA4.size; have := I.out.size; omega
          have hB5 : Below w4.heap.size w4 (w4.alloc (.cells #[.pointer none, .slice none 0 0] 59)) := (Below.refl _ _).alloc (Nat.le_refl _) _
          have hA5 : Adv b (j + 1) a6 (w4.alloc (.cells #[.pointer none, .slice none 0 0] 59)) := hA4.then_below hB5
          have hBu := Bu.fresh w4
          have V0 : Inv w (w4.alloc (.cells #[.pointer none, .slice none 0 0] 59)) b (j + 1) w4.heap.size s [] 177 #[.pointer (some ⟨w.heap.size + 1 + 1 + 1 + 1 + 1 + 1, 0, none⟩)] inIri (w.heap.size + 3) (w.heap.size + 7) := by
            obtain ⟨r1, r2, r3⟩ := RT.out (j + 1) _ (by omega) hA5
            exact ⟨r1, I.out.adv.trans hA5, r2, hBu, I.out.iri.adv hA5 (.inl (by omega)), hb4, hbw, by omega, by omega, by omega, by simp, hsz⟩
          have HV0 : Hid (Inv w (w4.alloc (.cells #[.pointer none, .slice none 0 0] 59)) b (j + 1) w4.heap.size s [] 177 #[.pointer (some ⟨w.heap.size + 1 + 1 + 1 + 1 + 1 + 1, 0, none⟩)] inIri (w.heap.size + 3) (w.heap.size + 7)) := V0
          have HSi := I.out.mkd.since hA5 (by omega) (by omega)
          rw [show (iW2 (iW1 w)).heap.size = w.heap.size + 7 by rw [iW2_size, iW1_size]] at HSi
          have HSI : Hid (Calls Tryz.prog 178 #[.pointer (some ⟨w.heap.size + 7, 0, none⟩), .pointer (some ⟨w.heap.size + 8, 0, none⟩)] (w4.alloc (.cells #[.pointer none, .slice none 0 0] 59)) fun e w'' => e = .returned (str (sub s i (j + 1))) ∧ Inv w w'' b (j + 1) w4.heap.size s [] 177 #[.pointer (some ⟨w.heap.size + 1 + 1 + 1 + 1 + 1 + 1, 0, none⟩)] inIri (w.heap.size + 3) (w.heap.size + 7)) := HSi.mono fun e w'' k => ⟨k.1, HV0.out.advance (HV0.out.rd.stay k.2) (Nat.le_refl _) (by omega)⟩
          clear hB5 hA5 hBu V0 HSi HK
          refine HSI.out.mono ?_
          rintro e w5 ⟨rfl, v5⟩
          go_wp2_with fail
          have hsl := sub_len s i (j + 1) (by omega) (by omega)
          have hss : (⟨(sub s i (j + 1)).toArray⟩ : ByteArray).size ≤ j + 1 := by show (sub s i (j + 1)).toArray.size ≤ _; simp; omega
          refine (wstring_any _ w4.heap.size w4.heap.size [] ⟨(sub s i (j + 1)).toArray⟩ v5.bu (by simp only [List.length_nil]; omega) (Nat.le_of_lt v5.BwR)).mono ?_
          rintro e w6 ⟨⟨n6, rfl⟩, hb6, hB6⟩
          have v6 : Inv w w6 b (j + 1) w4.heap.size s (sub s i (j + 1)) 177 #[.pointer (some ⟨w.heap.size + 1 + 1 + 1 + 1 + 1 + 1, 0, none⟩)] inIri (w.heap.size + 3) (w.heap.size + 7) := v5.wrote hB6 (by simpa using hb6) (by omega)
          have HV6 : Hid (Inv w w6 b (j + 1) w4.heap.size s (sub s i (j + 1)) 177 #[.pointer (some ⟨w.heap.size + 1 + 1 + 1 + 1 + 1 + 1, 0, none⟩)] inIri (w.heap.size + 3) (w.heap.size + 7)) := v6
          clear HSI HV0 v5 hb6 hB6 v6 hss
          go_wp2_with fail
          obtain ⟨j0, hj0⟩ : ∃ j0, j0 = j + 1 := ⟨_, rfl⟩
          rw [← hj0] at HV6 HI2
          have hj0s : j0 ≤ s.size := by omega
          have hij0 : i ≤ j0 := by omega
          clear hsl hj0 hj1 hij hjs hA4
          go_loopw [] (fun wr => ∃ (j : Nat) (acc : List UInt8), Inv w wr b j w4.heap.size s (sub s i j0 ++ acc) 177 #[.pointer (some ⟨w.heap.size + 1 + 1 + 1 + 1 + 1 + 1, 0, none⟩)] inIri (w.heap.size + 3) (w.heap.size + 7) ∧ body s 62 inIri inIri false j0 = (body s 62 inIri inIri false j).pre acc) (fun wr => s.size - posOf wr b)
          case atStart => exact ⟨j0, [], by rw [List.append_nil]; exact HV6.out, by cases body s 62 inIri inIri false j0 <;> simp [R.pre]⟩
          case round =>
            obtain ⟨j, acc, hv, hbd⟩ := hrel
            have V : Hid (Inv w wr b j w4.heap.size s (sub s i j0 ++ acc) 177 #[.pointer (some ⟨w.heap.size + 1 + 1 + 1 + 1 + 1 + 1, 0, none⟩)] inIri (w.heap.size + 3) (w.heap.size + 7)) := hv
            have HB : Hid (body s 62 inIri inIri false j0 = (body s 62 inIri inIri false j).pre acc) := hbd
            have HP : Hid (posOf wr b = j) := hv.rd.pos
            have hjs := hv.rd.le
            have hTk := take_any wr b j s 62 hv.rd (by omega) (by omega)
            clear hv hbd HV6
            by_cases c1 : bt s j = 62
            · have hj1 := bt_in c1 (by omega)
              simp only [c1, decide_true, if_true] at hTk
              have HK : Hid (Calls Tryz.prog 64 #[.pointer (some ⟨b, 0, none⟩), .int .u8 62] wr fun e w' => e = .returned (.bool true) ∧ Adv b (j + 1) wr w') := hTk
              have HR : Hid (iri s i = .ok (sub s i j0 ++ acc ++ [62]) (j + 1)) := by unfold Hid; rw [HI2.out, HB.out, body_q c1]; simp [R.pre]
              clear hTk c1 HI2 HB
              go_wp2_with fail
              refine HK.out.mono ?_
              rintro e w7 ⟨rfl, hA7⟩
              have V7 := V.out.advance hA7 (by omega) (by omega)
              have HV7 : Hid (Inv w w7 b (j + 1) w4.heap.size s (sub s i j0 ++ acc) 177 #[.pointer (some ⟨w.heap.size + 1 + 1 + 1 + 1 + 1 + 1, 0, none⟩)] inIri (w.heap.size + 3) (w.heap.size + 7)) := V7
              clear V7 hA7 V
              go_wp2_with fail
              refine (wbyte_any _ w4.heap.size w4.heap.size (sub s i j0 ++ acc) 62 HV7.out.bu (by have := HV7.out.len; have := HV7.out.rd.le; omega) (Nat.le_of_lt HV7.out.BwR)).mono ?_
              rintro e w8 ⟨rfl, hb8, hB8⟩
              go_wp2_with fail
              have hz8 : w4.heap.size ≤ w8.heap.size := Nat.le_of_lt hb8.lt
              refine (bstring_any _ w4.heap.size w4.heap.size (sub s i j0 ++ acc ++ [62]) hb8 hz8).mono ?_
              rintro e w9 ⟨rfl, hB9⟩
              go_wp2_with fail
              go_ret
              rw [HR.out, List.append_assoc]
              exact ⟨rfl, Below.trans HV7.out.adv ((hB8.trans hB9).mono (by omega))⟩
            · have hd : decide (bt s j = 62) = false := by simpa using c1
              rw [if_neg c1, hd] at hTk
              have HK : Hid (Calls Tryz.prog 64 #[.pointer (some ⟨b, 0, none⟩), .int .u8 62] wr fun e w' => e = .returned (.bool false) ∧ Inv w w' b j w4.heap.size s (sub s i j0 ++ acc) 177 #[.pointer (some ⟨w.heap.size + 1 + 1 + 1 + 1 + 1 + 1, 0, none⟩)] inIri (w.heap.size + 3) (w.heap.size + 7)) := hTk.mono fun e w' k => ⟨k.1, V.out.advance k.2 (Nat.le_refl _) hjs⟩
              have HSe : Hid (∀ w', Inv w w' b j w4.heap.size s (sub s i j0 ++ acc) 177 #[.pointer (some ⟨w.heap.size + 1 + 1 + 1 + 1 + 1 + 1, 0, none⟩)] inIri (w.heap.size + 3) (w.heap.size + 7) → Calls Tryz.prog 107 #[.pointer (some ⟨b, 0, none⟩), .int .u8 92] w' fun e w'' => e = .returned (.bool (decide (bt s j = 92))) ∧ Inv w w'' b j w4.heap.size s (sub s i j0 ++ acc) 177 #[.pointer (some ⟨w.heap.size + 1 + 1 + 1 + 1 + 1 + 1, 0, none⟩)] inIri (w.heap.size + 3) (w.heap.size + 7)) := fun w' v =>
                (sees_any w' b j s 92 v.rd (by omega) (by omega)).mono fun e w'' k => ⟨k.1, by obtain ⟨_, n, rfl⟩ := k; exact v.advance (v.rd.stayN n) (Nat.le_refl _) hjs⟩
              have HWr : Hid (∀ (w' : World) (c k : Nat), Inv w w' b k w4.heap.size s (sub s i j0 ++ acc) 177 #[.pointer (some ⟨w.heap.size + 1 + 1 + 1 + 1 + 1 + 1, 0, none⟩)] inIri (w.heap.size + 3) (w.heap.size + 7) → c ≤ 1114111 → j < k → Calls Tryz.prog 128 #[.pointer (some ⟨w4.heap.size, 0, none⟩), .int .i32 c] w' fun e w'' => (∃ n, e = .returned (.tuple #[.int .i64 n, .nilIface])) ∧ Inv w w'' b k w4.heap.size s (sub s i j0 ++ (acc ++ Lib.encodeRune c)) 177 #[.pointer (some ⟨w.heap.size + 1 + 1 + 1 + 1 + 1 + 1, 0, none⟩)] inIri (w.heap.size + 3) (w.heap.size + 7)) := fun w' c k v hc hjk => by
                have hl := V.out.len
                have hz := v.sz
                have hk := v.rd.le
                have he := enc_len (c : Int)
                refine (wrune_any w' w4.heap.size w4.heap.size (sub s i j0 ++ acc) c v.bu (by omega) (by omega) (by omega) (Nat.le_of_lt v.BwR)).mono ?_
                rintro e w'' ⟨h1, h2, h3⟩
                rw [List.append_assoc] at h2
                exact ⟨h1, v.wrote h3 h2 (by simp only [List.length_append] at *; omega)⟩
              by_cases c2 : bt s j = 92
              · have hone : one s j inIri inIri false = esc s j inIri false := by unfold one; rw [if_pos c2]
                have hE : ∀ w', Inv w w' b j w4.heap.size s (sub s i j0 ++ acc) 177 #[.pointer (some ⟨w.heap.size + 1 + 1 + 1 + 1 + 1 + 1, 0, none⟩)] inIri (w.heap.size + 3) (w.heap.size + 7) → Calls Tryz.prog 129 #[.pointer (some ⟨b, 0, none⟩), fnV 177 #[.pointer (some ⟨w.heap.size + 1 + 1 + 1 + 1 + 1 + 1, 0, none⟩)], .string ⟨#[]⟩] w' (Out b w' (fun n : Nat => .int .i32 n) (esc s j inIri false)) := fun w' v =>
                  escape_any w' b j s v.rd v.tabs v.gb _ _ inIri _ _ v.set (.inl (by omega)) false c2
                simp only [c2, decide_true] at HSe
                cases hes : esc s j inIri false with
                | bad k =>
                  rw [hes] at hE hone
                  have HE : Hid (∀ w', Inv w w' b j w4.heap.size s (sub s i j0 ++ acc) 177 #[.pointer (some ⟨w.heap.size + 1 + 1 + 1 + 1 + 1 + 1, 0, none⟩)] inIri (w.heap.size + 3) (w.heap.size + 7) → Calls Tryz.prog 129 #[.pointer (some ⟨b, 0, none⟩), fnV 177 #[.pointer (some ⟨w.heap.size + 1 + 1 + 1 + 1 + 1 + 1, 0, none⟩)], .string ⟨#[]⟩] w' (Out b w' (fun n : Nat => .int .i32 n) (.bad k))) := hE
                  have HR : Hid (iri s i = .bad k) := by unfold Hid; rw [HI2.out, HB.out, body_bad c1 hone]; rfl
                  clear hTk c1 hd c2 hes hE hone HWr HI2 HB V
                  go_wp2_with fail
                  refine HK.out.mono ?_
                  rintro e w7 ⟨rfl, v7⟩
                  go_wp2_with fail
                  refine (HSe.out _ v7).mono ?_
                  rintro e w8 ⟨rfl, v8⟩
                  go_wp2_with fail
                  refine (HE.out _ v8).mono ?_
                  rintro e w9 ⟨rfl, m, hA9⟩
                  go_wp2_with fail
                  refine ⟨rfl, ?_⟩
                  rw [HR.out]
                  exact ⟨rfl, m, v8.adv.trans hA9⟩
                | ok c k =>
                  rw [hes] at hE hone
                  have hjk := one_lt hone
                  have hcm : c ≤ 1114111 := esc_max hes
                  have HE : Hid (∀ w', Inv w w' b j w4.heap.size s (sub s i j0 ++ acc) 177 #[.pointer (some ⟨w.heap.size + 1 + 1 + 1 + 1 + 1 + 1, 0, none⟩)] inIri (w.heap.size + 3) (w.heap.size + 7) → Calls Tryz.prog 129 #[.pointer (some ⟨b, 0, none⟩), fnV 177 #[.pointer (some ⟨w.heap.size + 1 + 1 + 1 + 1 + 1 + 1, 0, none⟩)], .string ⟨#[]⟩] w' (Out b w' (fun n : Nat => .int .i32 n) (.ok c k))) := hE
                  have HR : Hid (body s 62 inIri inIri false j0 = (body s 62 inIri inIri false k).pre (acc ++ Lib.encodeRune c)) := by unfold Hid; rw [HB.out, body_ok c1 hone, pre_pre]
                  clear hTk c1 hd c2 hes hE hone HI2 HB V
                  go_wp2_with fail
                  refine HK.out.mono ?_
                  rintro e w7 ⟨rfl, v7⟩
                  go_wp2_with fail
                  refine (HSe.out _ v7).mono ?_
                  rintro e w8 ⟨rfl, v8⟩
                  go_wp2_with fail
                  refine (HE.out _ v8).mono ?_
                  rintro e w9 ⟨rfl, hA9⟩
                  have v9 := v8.advance hA9 (by omega) hjk.2
                  go_wp2_with fail
                  refine (HWr.out _ c k v9 hcm hjk.1).mono ?_
                  rintro e w10 ⟨⟨n, rfl⟩, v10⟩
                  go_wp2_with fail
                  go_roundw
                  case rel => exact ⟨k, _, v10, HR.out⟩
                  case measure => rw [v10.rd.pos, HP.out]; omega
              · have hd2 : decide (bt s j = 92) = false := by simpa using c2
                rw [hd2] at HSe
                by_cases c3 : (chr s j).2 ≠ 0 ∧ inIri (chr s j).1 = true
                · have hone : one s j inIri inIri false = .ok (chr s j).1 (j + (chr s j).2) := by unfold one; rw [if_neg c2, if_pos c3]
                  have hjk := one_lt hone
                  have hcm := (chr_code c3.1).2.1
                  have HE : Hid (∀ w', Inv w w' b j w4.heap.size s (sub s i j0 ++ acc) 177 #[.pointer (some ⟨w.heap.size + 1 + 1 + 1 + 1 + 1 + 1, 0, none⟩)] inIri (w.heap.size + 3) (w.heap.size + 7) → Calls Tryz.prog 127 #[.pointer (some ⟨b, 0, none⟩), fnV 177 #[.pointer (some ⟨w.heap.size + 1 + 1 + 1 + 1 + 1 + 1, 0, none⟩)]] w' fun e w'' => e = .returned (.int .i32 (chr s j).1) ∧ Adv b (j + (chr s j).2) w' w'') := fun w' v =>
                    wants_yes w' b j s v.rd v.tabs _ _ _ _ _ v.set c3.1 c3.2
                  have HR : Hid (body s 62 inIri inIri false j0 = (body s 62 inIri inIri false (j + (chr s j).2)).pre (acc ++ Lib.encodeRune (chr s j).1)) := by unfold Hid; rw [HB.out, body_ok c1 hone, pre_pre]
                  obtain ⟨c, n, ecn⟩ : ∃ c n, chr s j = (c, n) := ⟨_, _, rfl⟩
                  simp only [ecn] at *
                  clear hTk c1 hd c2 hd2 c3 hone ecn HI2 HB V
                  go_wp2_with fail
                  refine HK.out.mono ?_
                  rintro e w7 ⟨rfl, v7⟩
                  go_wp2_with fail
                  refine (HSe.out _ v7).mono ?_
                  rintro e w8 ⟨rfl, v8⟩
                  go_wp2_with fail
                  refine (HE.out _ v8).mono ?_
                  rintro e w9 ⟨rfl, hA9⟩
                  have v9 := v8.advance hA9 (by omega) hjk.2
                  go_wp2_with fail
                  refine (HWr.out _ c (j + n) v9 hcm hjk.1).mono ?_
                  rintro e w10 ⟨⟨n7, rfl⟩, v10⟩
                  go_wp2_with fail
                  go_roundw
                  case rel => exact ⟨j + n, _, v10, HR.out⟩
                  case measure => rw [v10.rd.pos, HP.out]; omega
                · have hone : one s j inIri inIri false = .bad j := by unfold one; rw [if_neg c2, if_neg c3]
                  have HE : Hid (∀ w', Inv w w' b j w4.heap.size s (sub s i j0 ++ acc) 177 #[.pointer (some ⟨w.heap.size + 1 + 1 + 1 + 1 + 1 + 1, 0, none⟩)] inIri (w.heap.size + 3) (w.heap.size + 7) → Calls Tryz.prog 127 #[.pointer (some ⟨b, 0, none⟩), fnV 177 #[.pointer (some ⟨w.heap.size + 1 + 1 + 1 + 1 + 1 + 1, 0, none⟩)]] w' fun e w'' => e = stopE 2 j ∧ Adv b j w' w'') := fun w' v =>
                    wants_no w' b j s v.rd v.tabs _ _ _ _ _ v.set c3
                  have HR : Hid (iri s i = .bad j) := by unfold Hid; rw [HI2.out, HB.out, body_bad c1 hone]; rfl
                  clear hTk c1 hd c2 hd2 c3 hone HWr HI2 HB V
                  go_wp2_with fail
                  refine HK.out.mono ?_
                  rintro e w7 ⟨rfl, v7⟩
                  go_wp2_with fail
                  refine (HSe.out _ v7).mono ?_
                  rintro e w8 ⟨rfl, v8⟩
                  go_wp2_with fail
                  refine (HE.out _ v8).mono ?_
                  rintro e w9 ⟨rfl, hA9⟩
                  go_wp2_with fail
                  refine ⟨rfl, ?_⟩
                  rw [HR.out]
                  exact ⟨rfl, j, v8.adv.trans hA9⟩
        · have hd : decide (bt s j = 58) = false := by simpa using c3
          rw [if_neg c3, hd] at hTk
          have HK : Hid (Calls Tryz.prog 64 #[.pointer (some ⟨b, 0, none⟩), .int .u8 58] wr fun e w' => e = .returned (.bool false) ∧ Adv b j a6 w') := hTk.mono fun e w' k => ⟨k.1, HA.out.trans k.2⟩
          cases c4 : inScheme (bt s j) with
          | true =>
            obtain ⟨e1, e2⟩ := asc_yes (fun c => inScheme_lt) c4
            have hj1 : j < s.size := bt_lt_size (by have := inScheme_lt c4; omega)
            have HL : Hid (∀ w2, Adv b j a6 w2 → Calls Tryz.prog 127 #[.pointer (some ⟨b, 0, none⟩), fnV 174 #[.pointer (some ⟨w.heap.size + 1 + 1, 0, none⟩)]] w2 fun e w' => (∃ n, e = .returned (.int .i32 n)) ∧ Adv b (j + 1) a6 w') := fun w2 a => by
              obtain ⟨q1, q2, q3⟩ := RT.out _ w2 hjs a
              have := wants_yes w2 b j s q1 q2 _ _ _ _ _ q3 (by rw [e1]; exact Nat.one_ne_zero) e2
              rw [e1] at this
              exact this.mono fun e w' k => ⟨⟨_, k.1⟩, a.trans k.2⟩
            have HS2 : Hid (scheme s (i + 2) = scheme s (j + 1)) := by unfold Hid; rw [HS.out, scheme_on c3 c4]
            clear hTk hd c3 c4 e1 e2 r1 r2 r3 HS HA HIR
            go_wp2_with fail
            refine HK.out.mono ?_
            rintro e w4 ⟨rfl, hA4⟩
            go_wp2_with fail
            refine (HL.out _ hA4).mono ?_
            rintro e w5 ⟨⟨n5, rfl⟩, hA5⟩
            go_wp2_with fail
            go_roundw
            case rel => exact ⟨j + 1, hA5, by omega, by omega, HS2.out⟩
            case measure =>
              have := (RT.out _ _ (by omega) hA5).1.pos
              rw [this, HP.out]
              omega
          | false =>
            have HL : Hid (∀ w2, Adv b j a6 w2 → Calls Tryz.prog 127 #[.pointer (some ⟨b, 0, none⟩), fnV 174 #[.pointer (some ⟨w.heap.size + 1 + 1, 0, none⟩)]] w2 fun e w' => e = stopE 2 j ∧ Adv b j a6 w') := fun w2 a => by
              obtain ⟨q1, q2, q3⟩ := RT.out _ w2 hjs a
              exact (wants_no w2 b j s q1 q2 _ _ _ _ _ q3 (asc_no (fun c => inScheme_lt) c4)).mono fun e w' k => ⟨k.1, a.trans k.2⟩
            have HR : Hid (iri s i = .bad j) := by unfold Hid; rw [HIR.out, HS.out, scheme_bad c3 c4]
            clear hTk hd c3 c4 r1 r2 r3 HS HA HIR
            go_wp2_with fail
            refine HK.out.mono ?_
            rintro e w4 ⟨rfl, hA4⟩
            go_wp2_with fail
            refine (HL.out _ hA4).mono ?_
            rintro e w5 ⟨rfl, hA5⟩
            go_wp2_with fail
            refine ⟨rfl, ?_⟩
            rw [HR.out]
            exact ⟨rfl, j, I.out.adv.trans hA5⟩
  · have HR : iri s i = .bad i := by unfold iri; rw [if_pos c1]
    rw [HR]
    have HW : Hid (Calls Tryz.prog 126 #[.pointer (some ⟨b, 0, none⟩), .int .u8 60] w1 fun e w' => e = stopE 2 i ∧ Adv b i w1 w') := want_bad w1 b i s 60 I.out.mkd.rd (by omega) (by omega) c1
    clear HR c1
    go_enter Tryz.func71, Tryz.ntmps71
    go_wp2_with fail
    refine (oneOf_any _ _).mono ?_
    rintro e a1 ⟨rfl, rfl⟩
    go_wp2_with fail
    refine (either_any _ _ _ _ _ rfl).mono ?_
    rintro e a2 ⟨rfl, rfl⟩
    go_wp2_with fail
    refine (oneOf_any _ _).mono ?_
    rintro e a3 ⟨rfl, rfl⟩
    go_wp2_with fail
    refine (either_any _ _ _ _ _ rfl).mono ?_
    rintro e a4 ⟨rfl, rfl⟩
    go_wp2_with fail
    refine (not_any _ _ _).mono ?_
    rintro e a5 ⟨rfl, rfl⟩
    go_wp2_with fail
    refine I.out.call.mono ?_
    rintro e a6 ⟨rfl, rfl⟩
    go_wp2_with fail
    refine HW.out.mono ?_
    rintro e w2 ⟨rfl, hA2⟩
    go_wp2_with fail
    exact ⟨rfl, rfl, _, I.out.adv.trans hA2⟩
end Go.Proofs.YtnffjoipinhojabGreatDoor

set_option linter.unusedSimpArgs false
set_option linter.unusedVariables false
namespace Go.Proofs.YtnffjoipinhojabGreatDoor

/-- Right characters alone. -/
inductive VU : List UInt8 → Prop
  | nil : VU []
  | cons (c : Nat) (l : List UInt8) : Lib.validRune c = true → VU l → VU (Lib.encodeRune c ++ l)

theorem VU.append {l m : List UInt8} (h : VU l) (k : VU m) : VU (l ++ m) := by
  induction h with
  | nil => exact k
  | cons c l hv _ ih => rw [List.append_assoc]; exact .cons c _ hv ih

theorem VU.one {c : Nat} (h : Lib.validRune c = true) : VU (Lib.encodeRune c) := by
  have := VU.cons c [] h .nil
  simpa using this

theorem arr_get! (l : List UInt8) (i : Nat) (x : UInt8) (h : l[i]? = some x) : (⟨l.toArray⟩ : ByteArray).get! i = x := by
  have hi : i < l.length := (List.getElem?_eq_some_iff.1 h).1
  show l.toArray[i]! = x
  rw [getElem!_pos l.toArray i (by simpa using hi)]
  simpa [List.getElem?_eq_getElem hi] using h

theorem u8_toNat {x : Int} (h0 : 0 ≤ x) (h1 : x < 256) : (x.toNat.toUInt8).toNat = x.toNat := by
  simp
  omega

/-- What was encoded is decoded. -/
theorem dec_enc (pre post : List UInt8) (c : Nat) (hv : Lib.validRune c = true) :
    Utf8.decode ⟨(pre ++ (Lib.encodeRune c ++ post)).toArray⟩ pre.length = (c, (Lib.encodeRune c).length) := by
  have at' : ∀ k x, (Lib.encodeRune c)[k]? = some x → (⟨(pre ++ (Lib.encodeRune c ++ post)).toArray⟩ : ByteArray).get! (pre.length + k) = x := by
    intro k x hx
    apply arr_get!
    have hk : k < (Lib.encodeRune c).length := (List.getElem?_eq_some_iff.1 hx).1
    rw [List.getElem?_append_right (by omega), Nat.add_sub_cancel_left, List.getElem?_append_left hk]
    exact hx
  have sz : (⟨(pre ++ (Lib.encodeRune c ++ post)).toArray⟩ : ByteArray).size - pre.length = (Lib.encodeRune c).length + post.length := by
    show (pre ++ (Lib.encodeRune c ++ post)).toArray.size - _ = _
    simp
  simp only [Lib.validRune, decide_eq_true_eq] at hv
  rw [Lib.decode_at, sz]
  by_cases h1 : c ≤ 127
  · have e : Lib.encodeRune c = [((c : Int).toNat).toUInt8] := by simp only [Lib.encodeRune, Lib.encodeRuneZ_one (r := (c : Int)) (by omega) (by omega), List.map_cons, List.map_nil]
    have g0 := at' 0 _ (by rw [e]; rfl)
    rw [Nat.add_zero] at g0
    rw [g0, e, u8_toNat (by omega) (by omega)]
    unfold Lib.decodeN
    rw [if_pos (by omega)]
    simp
  · by_cases h2 : c ≤ 2047
    · have e : Lib.encodeRune c = [((192 + (c : Int) / 64).toNat).toUInt8, ((128 + (c : Int) % 64).toNat).toUInt8] := by simp only [Lib.encodeRune, Lib.encodeRuneZ_two (r := (c : Int)) (by omega) (by omega), List.map_cons, List.map_nil]
      have g0 := at' 0 _ (by rw [e]; rfl)
      have g1 := at' 1 _ (by rw [e]; rfl)
      rw [Nat.add_zero] at g0
      rw [g0, g1, e, u8_toNat (by omega) (by omega), u8_toNat (by omega) (by omega)]
      unfold Lib.decodeN
      simp only [List.length_cons, List.length_nil]
      rw [if_neg (by omega), if_pos (by omega), if_pos (by omega)]
      apply Prod.ext <;> simp only <;> omega
    · by_cases h3 : c ≤ 65535
      · have e : Lib.encodeRune c = [((224 + (c : Int) / 4096).toNat).toUInt8, ((128 + (c : Int) / 64 % 64).toNat).toUInt8, ((128 + (c : Int) % 64).toNat).toUInt8] := by simp only [Lib.encodeRune, Lib.encodeRuneZ_three (r := (c : Int)) (by omega), List.map_cons, List.map_nil]
        have g0 := at' 0 _ (by rw [e]; rfl)
        have g1 := at' 1 _ (by rw [e]; rfl)
        have g2 := at' 2 _ (by rw [e]; rfl)
        rw [Nat.add_zero] at g0
        rw [g0, g1, g2, e, u8_toNat (by omega) (by omega), u8_toNat (by omega) (by omega), u8_toNat (by omega) (by omega)]
        unfold Lib.decodeN
        simp only [List.length_cons, List.length_nil]
        rw [if_neg (by omega), if_neg (by omega), if_pos (by omega), if_pos (by omega)]
        apply Prod.ext <;> simp only <;> omega
      · have e : Lib.encodeRune c = [((240 + (c : Int) / 262144).toNat).toUInt8, ((128 + (c : Int) / 4096 % 64).toNat).toUInt8, ((128 + (c : Int) / 64 % 64).toNat).toUInt8, ((128 + (c : Int) % 64).toNat).toUInt8] := by simp only [Lib.encodeRune, Lib.encodeRuneZ_four (r := (c : Int)) (by omega) (by omega), List.map_cons, List.map_nil]
        have g0 := at' 0 _ (by rw [e]; rfl)
        have g1 := at' 1 _ (by rw [e]; rfl)
        have g2 := at' 2 _ (by rw [e]; rfl)
        have g3 := at' 3 _ (by rw [e]; rfl)
        rw [Nat.add_zero] at g0
        rw [g0, g1, g2, g3, e, u8_toNat (by omega) (by omega), u8_toNat (by omega) (by omega), u8_toNat (by omega) (by omega), u8_toNat (by omega) (by omega)]
        unfold Lib.decodeN
        simp only [List.length_cons, List.length_nil]
        rw [if_neg (by omega), if_neg (by omega), if_neg (by omega), if_pos (by omega), if_pos (by omega)]
        apply Prod.ext <;> simp only <;> omega

theorem enc_pos (c : Nat) : 1 ≤ (Lib.encodeRune c).length := by
  unfold Lib.encodeRune
  rw [List.length_map]
  exact (Lib.encodeRuneZ_length c).1

theorem enc_low {c : Nat} (h : c ≤ 127) : Lib.encodeRune c = [UInt8.ofNat c] := by
  simp only [Lib.encodeRune, Lib.encodeRuneZ_one (r := (c : Int)) (by omega) (by omega), List.map_cons, List.map_nil]
  rfl

theorem enc_high {c : Nat} (h : 128 ≤ c) : ∀ x ∈ Lib.encodeRune c, 128 ≤ x.toNat := by
  have hz : ∀ y ∈ Lib.encodeRuneZ c, 128 ≤ y ∧ y < 256 := by
    intro y hy
    unfold Lib.encodeRuneZ at hy
    repeat' split at hy
    all_goals (simp at hy; omega)
  intro x hx
  unfold Lib.encodeRune at hx
  rw [List.mem_map] at hx
  obtain ⟨y, hy, rfl⟩ := hx
  have := hz y hy
  rw [u8_toNat (by omega) (by omega)]
  omega

theorem escaped_append (l m : List UInt8) : escaped (l ++ m) = escaped l ++ escaped m := by
  induction l with
  | nil => rfl
  | cons c l ih => simp only [List.cons_append, escaped, ih, List.append_assoc]

theorem escaped_high (l : List UInt8) (h : ∀ x ∈ l, 128 ≤ x.toNat) : escaped l = l := by
  induction l with
  | nil => rfl
  | cons c l ih =>
    have hc := h c (by simp)
    have ne : ∀ k : UInt8, k.toNat < 128 → c ≠ k := by rintro k hk rfl; omega
    simp only [escaped, if_neg (ne 92 (by decide)), if_neg (ne 34 (by decide)), if_neg (ne 10 (by decide)), if_neg (ne 13 (by decide)), ih (fun x hx => h x (by simp [hx]))]
    rfl

theorem escaped_other {c : Nat} (h1 : c ≠ 92) (h2 : c ≠ 34) (h3 : c ≠ 10) (h4 : c ≠ 13) : escaped (Lib.encodeRune c) = Lib.encodeRune c := by
  by_cases h : c ≤ 127
  · have ne : ∀ k : Nat, k ≤ 127 → c ≠ k → UInt8.ofNat c ≠ UInt8.ofNat k := by
      intro k hk hne e
      have := congrArg UInt8.toNat e
      simp at this
      omega
    rw [enc_low h]
    simp only [escaped, if_neg (ne 92 (by omega) h1), if_neg (ne 34 (by omega) h2), if_neg (ne 10 (by omega) h3), if_neg (ne 13 (by omega) h4)]
    have e1 := ne 92 (by omega) h1
    have e2 := ne 34 (by omega) h2
    have e3 := ne 10 (by omega) h3
    have e4 := ne 13 (by omega) h4
    simp only [show (92 : UInt8) = UInt8.ofNat 92 from rfl, show (34 : UInt8) = UInt8.ofNat 34 from rfl, show (10 : UInt8) = UInt8.ofNat 10 from rfl, show (13 : UInt8) = UInt8.ofNat 13 from rfl, if_neg e1, if_neg e2, if_neg e3, if_neg e4]
    rfl
  · exact escaped_high _ (enc_high (by omega))

theorem escaped_len (l : List UInt8) : (escaped l).length ≤ 2 * l.length := by
  induction l with
  | nil => simp [escaped]
  | cons c l ih =>
    simp only [escaped, List.length_append, List.length_cons]
    repeat' split
    all_goals (simp; omega)

theorem chr_valid {s : ByteArray} {i : Nat} (h : (chr s i).2 ≠ 0) : Lib.validRune (chr s i).1 = true := by
  unfold chr at *
  split at h
  · rename_i hi
    simp only [if_pos hi]
    split at h
    · exact absurd rfl h
    · rename_i hne
      simp only [if_neg hne]
      revert hne
      rw [Lib.decode_at]
      unfold Lib.decodeN Lib.validRune
      intro hne
      repeat' split
      all_goals first
        | (simp only [decide_eq_true_eq]; omega)
        | (exfalso; apply hne; repeat' split; all_goals first | rfl | omega)
  · exact absurd rfl h

theorem num_valid {s : ByteArray} {i j k : Nat} {has : Int → Bool} {c m : Nat} (h : num s i j k has = .ok c m) : Lib.validRune c = true := by
  unfold num at h
  split at h
  · cases h
  · split at h
    · rename_i hv
      cases h
      simp at hv
      exact hv.1
    · cases h

theorem one_valid {s : ByteArray} {i : Nat} {hasP hasE : Int → Bool} {sh : Bool} {c m : Nat} (h : one s i hasP hasE sh = .ok c m) : Lib.validRune c = true := by
  unfold one at h
  split at h
  · unfold esc at h
    split at h
    · exact num_valid h
    · split at h
      · exact num_valid h
      · split at h
        · split at h
          · rename_i x hx
            cases h
            unfold shortOf at hx
            repeat' split at hx
            all_goals first | (cases hx; decide) | cases hx
          · cases h
        · cases h
  · split at h
    · rename_i h2
      cases h
      exact chr_valid h2.1
    · cases h

theorem encr_len (r : Int) : (Lib.encodeRune r).length ≤ 4 := by
  unfold Lib.encodeRune
  rw [List.length_map]
  exact (Lib.encodeRuneZ_length r).2

theorem body_valid (s : ByteArray) (q : Int) (hq : q < 256) (hasP hasE : Int → Bool) (sh : Bool) : ∀ (n i : Nat), s.size - i < n → ∀ l j, body s q hasP hasE sh i = .ok l j → VU l ∧ l.length ≤ 4 * (j - i) ∧ i < j ∧ j ≤ s.size := by
  intro n
  induction n with
  | zero => intro i hn; omega
  | succ n ih =>
    intro i hn l j h
    rw [body] at h
    split at h
    · rename_i hb
      cases h
      have := bt_in hb hq
      exact ⟨.nil, by simp, by omega, by omega⟩
    · split at h
      · cases h
      · rename_i c k ho
        have hk := one_lt ho
        have hv := one_valid ho
        cases hb : body s q hasP hasE sh k with
        | bad m => rw [hb] at h; cases h
        | ok m j' =>
          rw [hb] at h
          simp only [R.pre] at h
          cases h
          have := ih k (by omega) m j hb
          refine ⟨.cons c m hv this.1, ?_, by omega, this.2.2.2⟩
          have := encr_len c
          simp only [List.length_append]
          omega

theorem quoted_valid {s : ByteArray} {i : Nat} {l : List UInt8} {j : Nat} (h : quoted s i = .ok l j) : VU l ∧ l.length ≤ 4 * s.size ∧ i < j ∧ j ≤ s.size := by
  unfold quoted at h
  split at h
  · cases h
  · have := body_valid s 34 (by omega) plainQ allc true (s.size - (i + 1) + 1) (i + 1) (by omega) l j h
    exact ⟨this.1, by omega, by omega, this.2.2.2⟩

theorem scheme_lt (s : ByteArray) : ∀ (n i : Nat), s.size - i < n → ∀ j, scheme s i = .ok () j → i < j ∧ j ≤ s.size := by
  intro n
  induction n with
  | zero => intro i hn; omega
  | succ n ih =>
    intro i hn j h
    rw [scheme] at h
    split at h
    · rename_i hb
      cases h
      have := bt_in hb (by omega)
      omega
    · split at h
      · rename_i hs
        have hi : i < s.size := by
          apply bt_lt_size
          simp [inScheme, letter, digit] at hs
          omega
        have := ih (i + 1) (by omega) j h
        omega
      · cases h

theorem iri_len {s : ByteArray} {i : Nat} {l : List UInt8} {j : Nat} (h : iri s i = .ok l j) : l.length ≤ 5 * s.size + 1 ∧ i < j ∧ j ≤ s.size ∧ l ≠ [] := by
  unfold iri at h
  split at h
  · cases h
  · split at h
    · cases h
    · split at h
      · cases h
      · rename_i k hk
        have h1 := scheme_lt s _ _ (Nat.lt_succ_self _) k hk
        split at h
        · cases h
        · rename_i m j' hb
          cases h
          have h2 := body_valid s 62 (by omega) inIri inIri false _ k (Nat.lt_succ_self _) m j hb
          have h3 : (sub s i k).length ≤ s.size := by
            have e : s.data.toList.length = s.size := by simp
            unfold sub
            rw [List.length_take, List.length_drop, e]
            omega
          refine ⟨by simp; omega, by omega, h2.2.2.2, by simp⟩
end Go.Proofs.YtnffjoipinhojabGreatDoor

