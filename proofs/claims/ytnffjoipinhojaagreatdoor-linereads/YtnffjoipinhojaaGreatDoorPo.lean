import Derived.Test.YtnffjoipinhojaaGreatDoorPm
import Derived.Test.YtnffjoipinhojaaGreatDoorPg
import Derived.Test.YtnffjoipinhojaaGreatDoorRy
set_option linter.unusedSimpArgs false
set_option linter.unusedVariables false
namespace Go.Proofs.YtnffjoipinhojaaGreatDoor
open Go.RowKit
namespace Ref

/-- What a longer reading comes to. -/
def Pout2 (b : Nat) (s : ByteArray) (a : Int) (w : World) (r : R (List UInt8)) (e : Ending) (w' : World) : Prop :=
  match r with
  | .ok l j => e = .returned (str l) ∧ Mv b s j 0 a w w'
  | .bad j => ∃ l k, e = .returned (str l) ∧ l.length ≤ 16 * s.size + 16 ∧ Mv b s k 2 j w w'

theorem one_esc {s : ByteArray} {j : Nat} {hasP hasE : Int → Bool} {sh : Bool} (h : bt s j = 92) : one s j hasP hasE sh = esc s j hasE sh := by unfold one; rw [if_pos h]
theorem one_bad {s : ByteArray} {j : Nat} {hasP hasE : Int → Bool} {sh : Bool} (h : bt s j ≠ 92) (h2 : (chr s j).2 = 0 ∨ hasP (chr s j).1 = false) : one s j hasP hasE sh = .bad j := by
  unfold one
  rw [if_neg h, if_neg]
  rintro ⟨k1, k2⟩
  rcases h2 with h2 | h2
  · exact k1 h2
  · rw [h2] at k2; cases k2
theorem one_plain {s : ByteArray} {j : Nat} {hasP hasE : Int → Bool} {sh : Bool} (h : bt s j ≠ 92) (h2 : (chr s j).2 ≠ 0 → hasP (chr s j).1 = true) : one s j hasP hasE sh = plainR s j := by
  unfold one plainR
  rw [if_neg h]
  by_cases k : (chr s j).2 = 0
  · rw [if_pos k, if_neg (fun x => x.1 k)]
  · rw [if_neg k, if_pos ⟨k, h2 k⟩]

theorem chr_end {s : ByteArray} {j : Nat} (h : ¬ j < s.size) : (chr s j).2 = 0 := by unfold chr; rw [if_neg h]

theorem plainQ_ok {s : ByteArray} {j : Nat} (hb : bt s j ≠ 10 ∧ bt s j ≠ 13 ∧ bt s j ≠ 34 ∧ bt s j ≠ 92) (h : (chr s j).2 ≠ 0) : plainQ (chr s j).1 = true := by
  unfold plainQ
  by_cases h1 : bt s j < 128
  · have e := chr_ascii h1
    have hr := bt_range s j
    rw [e]
    simp
    omega
  · have := chr_code h
    simp
    omega

set_option maxRecDepth 20000 in
set_option maxHeartbeats 4000000 in
theorem quoted_any (w : World) (b i : Nat) (s : ByteArray) (a : Int) (h : Pn w b s i 0 a) :
    Calls Tryz.prog 48 #[.pointer (some ⟨b, 0, none⟩)] w (Pout2 b s a w (quoted s i)) := by
  have hms := h.ms
  obtain ⟨E1, hE1⟩ : ∃ Q : World → Prop, Q = fun w2 => (bt s i = 34 ∧ Mv b s (i + 1) 0 a w w2) ∨ (bt s i ≠ 34 ∧ Mv b s i 2 i w w2) := ⟨_, rfl⟩
  have HN1 : Hid (Calls Tryz.prog 54 #[.pointer (some ⟨b, 0, none⟩), .int .i64 34] w fun e w' => e = .returned (.tuple #[]) ∧ E1 w') := by
    unfold Hid
    rw [hE1]
    by_cases c : bt s i = 34
    · exact (need_ok w b i s a 34 h (by omega) (by omega) c).mono fun e w' k => ⟨k.1, .inl ⟨c, k.2⟩⟩
    · exact (need_bad w b i s a 34 h (by omega) (by omega) c).mono fun e w' k => ⟨k.1, .inr ⟨c, k.2⟩⟩
  clear h
  go_enter Tryz.func48, Tryz.ntmps48
  go_wp2_with fail
  refine HN1.out.mono ?_
  rintro e w2 ⟨rfl, m2⟩
  rw [hE1] at m2
  have HM2 : Hid ((bt s i = 34 ∧ Mv b s (i + 1) 0 a w w2) ∨ (bt s i ≠ 34 ∧ Mv b s i 2 i w w2)) := m2
  clear m2 HN1 hE1
  go_wp2_with fail
  go_loopw [3] (fun t3 wr => (∃ (j : Nat) (l : List UInt8) (Y : ByteArray), t3 = .string Y ∧ Y = ⟨l.toArray⟩ ∧ Y.size ≤ 4 * j ∧ j ≤ s.size ∧ Mv b s j 0 a w wr ∧ quoted s i = (body s 34 plainQ allc true j).pre l) ∨
      (∃ (k m : Nat) (l : List UInt8) (Y : ByteArray), t3 = .string Y ∧ Y = ⟨l.toArray⟩ ∧ Y.size ≤ 16 * s.size + 16 ∧ Mv b s k 2 m w wr ∧ quoted s i = .bad m))
    (fun t3 wr => if intOf ((wr.cell? ⟨b, 2, none⟩).getD undef) = 0 then s.size + 1 - (intOf ((wr.cell? ⟨b, 1, none⟩).getD undef)).toNat else 0)
  case atStart =>
    rcases HM2.out with ⟨c, m⟩ | ⟨c, m⟩
    · refine .inl ⟨i + 1, [], ⟨#[]⟩, rfl, rfl, Nat.zero_le _, ?_, m, ?_⟩
      · have := bt_in c (by omega); omega
      · unfold quoted; rw [if_neg (by simp [c])]; cases body s 34 plainQ allc true (i + 1) <;> rfl
    · refine .inr ⟨i, i, [], ⟨#[]⟩, rfl, rfl, Nat.zero_le _, m, ?_⟩
      unfold quoted; rw [if_pos c]
  case round =>
    rcases hrel with ⟨j, l, Y, rfl, hY, hYs, hjs, hM, hQ⟩ | ⟨k, m, l, Y, rfl, hY, hYs, hM, hQ⟩
    · have HY : Hid (Y = ⟨l.toArray⟩) := hY
      have HM : Hid (Mv b s j 0 a w wr) := hM
      have HQ : Hid (quoted s i = (body s 34 plainQ allc true j).pre l) := hQ
      obtain ⟨y, hy⟩ : ∃ y, y = nb s j 0 := ⟨_, rfl⟩
      have HX : Hid (∀ n, Calls Tryz.prog 71 #[.pointer (some ⟨b, 0, none⟩)] (wr.drewN n) fun e w' => e = .returned (.int .i64 y) ∧ ∃ n', w' = (wr.drewN n).drewN n') := fun n => by
        have := next_any (wr.drewN n) b j s 0 a (HM.out.pn.drewN n)
        rw [← hy] at this
        exact this
      have HX0 : Hid (Calls Tryz.prog 71 #[.pointer (some ⟨b, 0, none⟩)] wr fun e w' => e = .returned (.int .i64 y) ∧ ∃ n', w' = wr.drewN n') := by
        have := next_any wr b j s 0 a HM.out.pn
        rw [← hy] at this
        exact this
      obtain ⟨r0, r1, r2, r3, rf, rms, rle⟩ := hM.pn
      have HMe : Hid ((if intOf ((wr.cell? ⟨b, 2, none⟩).getD undef) = 0 then s.size + 1 - (intOf ((wr.cell? ⟨b, 1, none⟩).getD undef)).toNat else 0) = s.size + 1 - j) := by unfold Hid; rw [r1, r2]; rfl
      have hnl := fun c h0 h1 => nb_live s j c h0 h1
      rw [← hy] at hnl
      clear hM hQ hY HM2
      by_cases y34 : y = 34
      · have hb : bt s j = 34 := (hnl 34 (by omega) (by omega)).1 y34
        have HR : Hid (quoted s i = .ok l (j + 1)) := by unfold Hid; rw [HQ.out, body_q hb]; simp [R.pre]
        have HND : Hid (∀ n, Calls Tryz.prog 54 #[.pointer (some ⟨b, 0, none⟩), .int .i64 34] (wr.drewN n) fun e w' => e = .returned (.tuple #[]) ∧ Mv b s (j + 1) 0 a (wr.drewN n) w') := fun n => need_ok _ b j s a 34 (HM.out.pn.drewN n) (by omega) (by omega) hb
        clear hb hnl hy
        go_wp2_with fail
        refine HX0.out.mono ?_
        rintro e w4 ⟨rfl, n2, rfl⟩
        go_wp2_with fail
        refine (HND.out _).mono ?_
        rintro e w5 ⟨rfl, m5⟩
        go_wp2_with fail
        go_ret
        rw [HR.out]
        exact ⟨ret_str HY.out, HM.out.trans ((Mv.stayN HM.out.pn _).trans m5)⟩
      have hb34 : bt s j ≠ 34 := fun k => y34 ((hnl 34 (by omega) (by omega)).2 k)
      by_cases ystop : y < 0 ∨ y = 10 ∨ y = 13
      · have HR : Hid (quoted s i = .bad j) := by
          unfold Hid
          have ho : one s j plainQ allc true = .bad j := by
            rcases ystop with k | k | k
            · have hj : ¬ j < s.size := fun hj => by rw [hy, nb_bt hj] at k; have := bt_range s j; omega
              exact one_bad (by rw [bt_end (by omega)]; omega) (.inl (chr_end hj))
            · have hb : bt s j = 10 := (hnl 10 (by omega) (by omega)).1 k
              exact one_bad (by omega) (.inr (by rw [chr_ascii (by omega), hb]; rfl))
            · have hb : bt s j = 13 := (hnl 13 (by omega) (by omega)).1 k
              exact one_bad (by omega) (.inr (by rw [chr_ascii (by omega), hb]; rfl))
          rw [HQ.out, body_bad hb34 ho]
          rfl
        have HPO : Hid (∀ (n : Nat) (e : Ending) (w' : World), e = .returned (.tuple #[]) ∧ Mv b s j 2 j (wr.drewN n) w' → Pout2 b s a w (quoted s i) (.returned (.string ⟨#[]⟩)) w') := fun n e w' k => by
          rw [HR.out]
          exact ⟨[], _, rfl, by simp, HM.out.trans ((Mv.stayN HM.out.pn _).trans k.2)⟩
        clear hb34 hnl hy HR
        rcases ystop with k | k | k
        · have y10 : ¬ y = 10 := by omega
          go_wp2_with fail
          refine HX0.out.mono ?_
          rintro e w4 ⟨rfl, n2, rfl⟩
          go_wp2_with fail
          refine (HX.out _).mono ?_
          rintro e w5 ⟨rfl, n3, rfl⟩
          go_wp2_with fail
          refine (fail_live _ _ _ _ _ _ _ (HM.out.pn.drewN _)).mono ?_
          intro e w6 k6
          have hP := HPO.out _ e w6 k6
          obtain ⟨rfl, m6⟩ := k6
          have HP : Hid (Pout2 b s a w (quoted s i) (.returned (.string ⟨#[]⟩)) w6) := hP
          clear hP m6
          go_wp2_with fail
          go_ret
          exact HP.out
        · subst k
          go_wp2_with fail
          refine HX0.out.mono ?_
          rintro e w4 ⟨rfl, n2, rfl⟩
          go_wp2_with fail
          refine (HX.out _).mono ?_
          rintro e w5 ⟨rfl, n3, rfl⟩
          go_wp2_with fail
          refine (fail_live _ _ _ _ _ _ _ (HM.out.pn.drewN _)).mono ?_
          intro e w6 k6
          have hP := HPO.out _ e w6 k6
          obtain ⟨rfl, m6⟩ := k6
          have HP : Hid (Pout2 b s a w (quoted s i) (.returned (.string ⟨#[]⟩)) w6) := hP
          clear hP m6
          go_wp2_with fail
          go_ret
          exact HP.out
        · subst k
          go_wp2_with fail
          refine HX0.out.mono ?_
          rintro e w4 ⟨rfl, n2, rfl⟩
          go_wp2_with fail
          refine (HX.out _).mono ?_
          rintro e w5 ⟨rfl, n3, rfl⟩
          go_wp2_with fail
          refine (fail_live _ _ _ _ _ _ _ (HM.out.pn.drewN _)).mono ?_
          intro e w6 k6
          have hP := HPO.out _ e w6 k6
          obtain ⟨rfl, m6⟩ := k6
          have HP : Hid (Pout2 b s a w (quoted s i) (.returned (.string ⟨#[]⟩)) w6) := hP
          clear hP m6
          go_wp2_with fail
          go_ret
          exact HP.out
      have y10 : ¬ y = 10 := fun k => ystop (.inr (.inl k))
      have y13 : ¬ y = 13 := fun k => ystop (.inr (.inr k))
      have y0 : ¬ y < 0 := fun k => ystop (.inl k)
      clear ystop
      have hj : j < s.size := by
        apply Classical.byContradiction
        intro k
        rw [nb_end k] at hy
        omega
      -- what a character's reading makes of the round
      have HST : Hid (∀ (r : R Nat), one s j plainQ allc true = r → ∀ (e : Ending) (w1 w' : World), Mv b s j 0 a w w1 ∨ Mv b s (j + 1) 0 a w w1 → Pout b s a w1 (encR r) e w' → ∃ X : ByteArray, e = .returned (.string X) ∧ X.size ≤ 8 * s.size + 8 ∧
          ((∃ (k : Nat) (l2 : List UInt8), Y ++ X = ⟨l2.toArray⟩ ∧ X.size ≤ 4 ∧ j < k ∧ k ≤ s.size ∧ Mv b s k 0 a w w' ∧ quoted s i = (body s 34 plainQ allc true k).pre l2) ∨
           (∃ (k m : Nat) (l2 : List UInt8), Y ++ X = ⟨l2.toArray⟩ ∧ Mv b s k 2 m w w' ∧ quoted s i = .bad m))) := by
        intro r hr e w1 w' hm ho
        cases r with
        | ok c k =>
          obtain ⟨h1, h2⟩ := ho
          have hlt := one_lt hr
          refine ⟨_, h1, ?_, .inl ⟨k, l ++ Lib.encodeRune c, ?_, ?_, hlt.1, hlt.2, ?_, ?_⟩⟩
          · rw [arr_size]; have := enc_len (c : Int); omega
          · rw [HY.out, cat_str]
          · rw [arr_size]; exact enc_len _
          · rcases hm with hm | hm <;> exact hm.trans h2
          · rw [HQ.out, body_ok hb34 hr, pre_pre]
        | bad m =>
          obtain ⟨l', k, h1, h2, h3⟩ := ho
          refine ⟨_, h1, by rw [arr_size]; exact h2, .inr ⟨k, m, l ++ l', by rw [HY.out, cat_str], ?_, ?_⟩⟩
          · rcases hm with hm | hm <;> exact hm.trans h3
          · rw [HQ.out, body_bad hb34 hr]; rfl
      by_cases y92 : y = 92
      · have hb : bt s j = 92 := (hnl 92 (by omega) (by omega)).1 y92
        have HES : Hid (∀ w4, Pn w4 b s (j + 1) 0 a → Calls Tryz.prog 90 #[.pointer (some ⟨b, 0, none⟩), .int .i64 j] w4 (Pout b s a w4 (encR (esc s j allc true)))) := fun w4 k => escape_any w4 b j s a k
        have HO : Hid (one s j plainQ allc true = esc s j allc true) := one_esc hb
        clear hb34 hnl hy hb
        subst y92
        go_wp2_with fail
        refine HX0.out.mono ?_
        rintro e w4 ⟨rfl, n2, rfl⟩
        go_wp2_with fail
        refine (HX.out _).mono ?_
        rintro e w5 ⟨rfl, n3, rfl⟩
        go_wp2_with fail
        have M5 := HM.out.trans ((Mv.stayN HM.out.pn (n2 + n3)).trans (Mv.atI (HM.out.pn.drewN (n2 + n3)) ((j : Int) + 1) (j + 1) (by omega) (by omega)))
        refine (HES.out _ M5.pn).mono ?_
        intro e w6 ho
        obtain ⟨X, rfl, hXs, hcase⟩ := HST.out _ HO.out _ _ _ (.inr M5) ho
        clear ho M5
        rcases hcase with ⟨k, l2, hYX, hX4, hjk, hks, mk, hQ2⟩ | ⟨k, m, l2, hYX, mk, hQ2⟩
        · have HYX : Hid (Y ++ X = ⟨l2.toArray⟩) := hYX
          have HK : Hid (Mv b s k 0 a w w6) := mk
          have HQ2 : Hid (quoted s i = (body s 34 plainQ allc true k).pre l2) := hQ2
          obtain ⟨v0, v1, v2, v3, vf, vms, vle⟩ := mk.pn
          clear hYX mk hQ2 r0 r1 r2 r3 rf
          go_wp2_with fail
          go_roundw
          case rel => exact .inl ⟨k, l2, _, rfl, HYX.out, by rw [cat_size]; omega, hks, HK.out, HQ2.out⟩
          case measure => rw [HMe.out, v1, v2]; simp [intOf]; omega
        · have HYX : Hid (Y ++ X = ⟨l2.toArray⟩) := hYX
          have HK : Hid (Mv b s k 2 m w w6) := mk
          have HQ2 : Hid (quoted s i = .bad m) := hQ2
          obtain ⟨v0, v1, v2, v3, vf, vms, vle⟩ := mk.pn
          clear hYX mk hQ2 r0 r1 r2 r3 rf
          go_wp2_with fail
          go_roundw
          case rel => exact .inr ⟨k, m, l2, _, rfl, HYX.out, by rw [cat_size]; omega, HK.out, HQ2.out⟩
          case measure => rw [HMe.out, v1, v2]; simp [intOf]; omega
      · have hb92 : bt s j ≠ 92 := fun k => y92 ((hnl 92 (by omega) (by omega)).2 k)
        have hb10 : bt s j ≠ 10 := fun k => y10 ((hnl 10 (by omega) (by omega)).2 k)
        have hb13 : bt s j ≠ 13 := fun k => y13 ((hnl 13 (by omega) (by omega)).2 k)
        have HPL : Hid (∀ n, Calls Tryz.prog 85 #[.pointer (some ⟨b, 0, none⟩)] (wr.drewN n) (Pout b s a (wr.drewN n) (encR (plainR s j)))) := fun n => plain_any _ b j s a (HM.out.pn.drewN n) hj
        have HO : Hid (one s j plainQ allc true = plainR s j) := one_plain hb92 (plainQ_ok ⟨hb10, hb13, hb34, hb92⟩)
        have d1 : decide (y < 0) = false := by simp; omega
        have d2 : (y == 10) = false := by simp [y10]
        have d3 : (y == 13) = false := by simp [y13]
        have d4 : (y == 92) = false := by simp [y92]
        clear hb34 hnl hy hb92 hb10 hb13
        go_wp2_with fail
        refine HX0.out.mono ?_
        rintro e w4 ⟨rfl, n2, rfl⟩
        go_wp2_with fail
        refine (HX.out _).mono ?_
        rintro e w5 ⟨rfl, n3, rfl⟩
        go_wp2_with fail
        refine (HPL.out _).mono ?_
        intro e w6 ho
        obtain ⟨X, rfl, hXs, hcase⟩ := HST.out _ HO.out _ _ _ (.inl (HM.out.trans (Mv.stayN HM.out.pn _))) ho
        clear ho
        rcases hcase with ⟨k, l2, hYX, hX4, hjk, hks, mk, hQ2⟩ | ⟨k, m, l2, hYX, mk, hQ2⟩
        · have HYX : Hid (Y ++ X = ⟨l2.toArray⟩) := hYX
          have HK : Hid (Mv b s k 0 a w w6) := mk
          have HQ2 : Hid (quoted s i = (body s 34 plainQ allc true k).pre l2) := hQ2
          obtain ⟨v0, v1, v2, v3, vf, vms, vle⟩ := mk.pn
          clear hYX mk hQ2 r0 r1 r2 r3 rf
          go_wp2_with fail
          go_roundw
          case rel => exact .inl ⟨k, l2, _, rfl, HYX.out, by rw [cat_size]; omega, hks, HK.out, HQ2.out⟩
          case measure => rw [HMe.out, v1, v2]; simp [intOf]; omega
        · have HYX : Hid (Y ++ X = ⟨l2.toArray⟩) := hYX
          have HK : Hid (Mv b s k 2 m w w6) := mk
          have HQ2 : Hid (quoted s i = .bad m) := hQ2
          obtain ⟨v0, v1, v2, v3, vf, vms, vle⟩ := mk.pn
          clear hYX mk hQ2 r0 r1 r2 r3 rf
          go_wp2_with fail
          go_roundw
          case rel => exact .inr ⟨k, m, l2, _, rfl, HYX.out, by rw [cat_size]; omega, HK.out, HQ2.out⟩
          case measure => rw [HMe.out, v1, v2]; simp [intOf]; omega
    · have HY : Hid (Y = ⟨l.toArray⟩) := hY
      have HM : Hid (Mv b s k 2 m w wr) := hM
      have HQ : Hid (quoted s i = .bad m) := hQ
      have HND : Hid (∀ n, Calls Tryz.prog 54 #[.pointer (some ⟨b, 0, none⟩), .int .i64 34] (wr.drewN n) fun e w' => e = .returned (.tuple #[]) ∧ ∃ n', w' = (wr.drewN n).drewN n') := fun n => need_dead _ b k s 2 m 34 (HM.out.pn.drewN n) (by omega) (by omega)
      have HND0 : Hid (Calls Tryz.prog 54 #[.pointer (some ⟨b, 0, none⟩), .int .i64 34] wr fun e w' => e = .returned (.tuple #[]) ∧ ∃ n', w' = wr.drewN n') := need_dead _ b k s 2 m 34 HM.out.pn (by omega) (by omega)
      obtain ⟨r0, r1, r2, r3, rf, rms, rle⟩ := hM.pn
      clear hM hQ hY HM2
      go_wp2_with fail
      refine HND0.out.mono ?_
      rintro e w4 ⟨rfl, n2, rfl⟩
      go_wp2_with fail
      go_ret
      rw [HQ.out]
      exact ⟨l, k, ret_str HY.out, by rw [HY.out, arr_size] at hYs; exact hYs, HM.out.trans (Mv.stayN HM.out.pn _)⟩
end Ref
end Go.Proofs.YtnffjoipinhojaaGreatDoor
