import Derived.Test.YtnffjoipinhojaaGreatDoorPf
import Derived.Test.YtnffjoipinhojaaGreatDoorPi
set_option linter.unusedSimpArgs false
set_option linter.unusedVariables false
namespace Go.Proofs.YtnffjoipinhojaaGreatDoor
open Go.RowKit
namespace Ref

theorem str_sub (s : ByteArray) (i j : Nat) : s.extract i j = ⟨(sub s i j).toArray⟩ := by
  unfold sub
  apply ByteArray.ext
  apply Array.toList_inj.1
  simp [List.extract_eq_take_drop]

theorem alnum_nb (s : ByteArray) (i : Nat) : letter (nb s i 0) = letter (bt s i) ∧ digit (nb s i 0) = digit (bt s i) := by
  by_cases h : i < s.size
  · rw [nb_bt h]; exact ⟨rfl, rfl⟩
  · rw [nb_end h, bt_end (by omega)]; exact ⟨rfl, rfl⟩

theorem sub_head2 (s : ByteArray) (i n : Nat) (h : i + 2 + n ≤ s.size) (h1 : bt s i = 95) (h2 : bt s (i + 1) = 58) : sub s i (i + 2 + n) = [95, 58] ++ sub s (i + 2) (i + 2 + n) := by
  have hl : s.data.toList.length = s.size := by simp
  have e0 : s.data.toList[i]'(by omega) = 95 := by
    apply UInt8.toNat_inj.1
    have := bt_lt (s := s) (i := i) (by omega)
    rw [h1] at this
    have h3 : (s[i]'(by omega)).toNat = 95 := by omega
    exact h3
  have e1 : s.data.toList[i + 1]'(by omega) = 58 := by
    apply UInt8.toNat_inj.1
    have := bt_lt (s := s) (i := i + 1) (by omega)
    rw [h2] at this
    have h3 : (s[i + 1]'(by omega)).toNat = 58 := by omega
    exact h3
  unfold sub
  rw [List.drop_eq_getElem_cons (show i < s.data.toList.length by omega), List.drop_eq_getElem_cons (show i + 1 < s.data.toList.length by omega), e0, e1]
  rw [show i + 2 + n - i = n + 2 by omega, show i + 2 + n - (i + 2) = n by omega]
  rfl

theorem rz {p : Int → Bool} {s : ByteArray} {k i : Nat} : run p s (k + 1) i = if p (bt s i) then run p s k (i + 1) + 1 else 0 := rfl

theorem Mv.atI {w : World} {b : Nat} {s : ByteArray} {i : Nat} {e a : Int} (h : Pn w b s i e a) (v : Int) (j : Nat) (hj : j ≤ s.size + 1) (hv : v = j) : Mv b s j e a w (w.setCell ⟨b, 1, none⟩ (.int .i64 v)) := by
  subst hv; exact Mv.at' h j hj

theorem cellI {w : World} {b : Nat} {s : ByteArray} {i : Nat} {e a : Int} (h : Pn w b s i e a) (v : Int) : (w.setCell ⟨b, 1, none⟩ (.int .i64 v)).cell? ⟨b, 1, none⟩ = some (.int .i64 v) := by
  rw [cell_set h.c1, if_pos rfl]

theorem label_dead (w : World) (b f : Nat) (s : ByteArray) (m : Int) (Q : World → Prop)
    (h1 : Calls Tryz.prog 54 #[.pointer (some ⟨b, 0, none⟩), .int .i64 95] w fun e w' => e = .returned (.tuple #[]) ∧ Q w')
    (h2 : ∀ w2, Q w2 → Calls Tryz.prog 54 #[.pointer (some ⟨b, 0, none⟩), .int .i64 58] w2 fun e w' => e = .returned (.tuple #[]) ∧ Mv b s f 2 m w w') :
    Calls Tryz.prog 72 #[.pointer (some ⟨b, 0, none⟩)] w fun e w' => e = .returned (str []) ∧ Mv b s f 2 m w w' := by
  have HN1 : Hid (Calls Tryz.prog 54 #[.pointer (some ⟨b, 0, none⟩), .int .i64 95] w fun e w' => e = .returned (.tuple #[]) ∧ Q w') := h1
  have HN2 : Hid (∀ w2, Q w2 → Calls Tryz.prog 54 #[.pointer (some ⟨b, 0, none⟩), .int .i64 58] w2 fun e w' => e = .returned (.tuple #[]) ∧ Mv b s f 2 m w w') := h2
  clear h1 h2
  go_enter Tryz.func72, Tryz.ntmps72
  go_wp2_with fail
  refine HN1.out.mono ?_
  rintro e w2 ⟨rfl, m2⟩
  go_wp2_with fail
  refine (HN2.out _ m2).mono ?_
  rintro e w3 ⟨rfl, m3⟩
  have M3 : Hid (Mv b s f 2 m w w3) := m3
  obtain ⟨p0, p1, p2, p3, pf, pms, ple⟩ := m3.pn
  have HX : Hid (∀ n, Calls Tryz.prog 71 #[.pointer (some ⟨b, 0, none⟩)] (w3.drewN n) fun e w' => e = .returned (.int .i64 (-1)) ∧ ∃ n', w' = (w3.drewN n).drewN n') := fun n => by
    have := next_any (w3.drewN n) b f s 2 m (M3.out.pn.drewN n)
    rw [nb_dead s f (by omega)] at this
    exact this
  have HX0 : Hid (Calls Tryz.prog 71 #[.pointer (some ⟨b, 0, none⟩)] w3 fun e w' => e = .returned (.int .i64 (-1)) ∧ ∃ n', w' = w3.drewN n') := by
    have := next_any w3 b f s 2 m M3.out.pn
    rw [nb_dead s f (by omega)] at this
    exact this
  have HLt : Hid (∀ w2, Calls Tryz.prog 81 #[.int .i64 (-1)] w2 fun e w' => e = .returned (.bool false) ∧ w' = w2) := fun w2 => letter_any w2 (-1)
  have HDt : Hid (∀ w2, Calls Tryz.prog 82 #[.int .i64 (-1)] w2 fun e w' => e = .returned (.bool false) ∧ w' = w2) := fun w2 => digit_any w2 (-1)
  clear m2 m3 HN1 HN2
  go_wp2_with fail
  go_loopw [] (fun wr => wr = w3) (fun wr => 0)
  case atStart => rfl
  case round =>
    subst hrel
    go_wp2_with fail
    refine HX0.out.mono ?_
    rintro e w4 ⟨rfl, n2, rfl⟩
    go_wp2_with fail
    refine (HLt.out _).mono ?_
    rintro e w5 ⟨rfl, rfl⟩
    go_wp2_with fail
    refine (HX.out n2).mono ?_
    rintro e w6 ⟨rfl, n3, rfl⟩
    go_wp2_with fail
    refine (HDt.out _).mono ?_
    rintro e w7 ⟨rfl, rfl⟩
    go_wp2_with fail
    refine (fail_dead _ _ _ _ _ _ _ _ (M3.out.pn.drewN (n2 + n3)) (by omega)).mono ?_
    rintro e w6 ⟨rfl, rfl⟩
    go_wp2_with fail
    go_ret
    exact ⟨rfl, M3.out.trans (Mv.stayN M3.out.pn _)⟩

set_option maxHeartbeats 2000000 in
theorem label_any (w : World) (b i : Nat) (s : ByteArray) (a : Int) (h : Pn w b s i 0 a) :
    Calls Tryz.prog 72 #[.pointer (some ⟨b, 0, none⟩)] w (Pout b s a w (blank s i)) := by
  have hms := h.ms
  have DEAD : Hid (∀ (wd : World) (f : Nat) (m : Int), Mv b s f 2 m w wd → Pn wd b s f 2 m) := fun wd f m x => x.pn
  by_cases c1 : bt s i = 95
  · have hi1 := bt_in c1 (by omega)
    have HN1 : Hid (Calls Tryz.prog 54 #[.pointer (some ⟨b, 0, none⟩), .int .i64 95] w fun e w' => e = .returned (.tuple #[]) ∧ Mv b s (i + 1) 0 a w w') := need_ok w b i s a 95 h (by omega) (by omega) c1
    by_cases c2 : bt s (i + 1) = 58
    · have hi2 := bt_in c2 (by omega)
      have HN2 : Hid (∀ w2, Mv b s (i + 1) 0 a w w2 → Calls Tryz.prog 54 #[.pointer (some ⟨b, 0, none⟩), .int .i64 58] w2 fun e w' => e = .returned (.tuple #[]) ∧ Mv b s (i + 2) 0 a w w') := fun w2 m =>
        (need_ok w2 b (i + 1) s a 58 m.pn (by omega) (by omega) c2).mono fun e w' k => ⟨k.1, m.trans k.2⟩
      have HBl : Hid (blank s i = if run alnum s 20 (i + 2) = 0 then .bad (i + 2) else .ok (sub s i (i + 2 + run alnum s 20 (i + 2))) (i + 2 + run alnum s 20 (i + 2))) := by
        unfold Hid blank
        rw [if_neg (by simp [c1]), if_neg (by simp [c2])]
      have HH2 : Hid (∀ n, i + 2 + n ≤ s.size → sub s i (i + 2 + n) = [95, 58] ++ sub s (i + 2) (i + 2 + n)) := fun n hn => sub_head2 s i n hn c1 c2
      clear c1 c2 h
      go_enter Tryz.func72, Tryz.ntmps72
      go_wp2_with fail
      refine HN1.out.mono ?_
      rintro e w2 ⟨rfl, m2⟩
      go_wp2_with fail
      refine (HN2.out _ m2).mono ?_
      rintro e w3 ⟨rfl, m3⟩
      have M3 : Hid (Mv b s (i + 2) 0 a w w3) := m3
      obtain ⟨p0, p1, p2, p3, pf, pms, ple⟩ := m3.pn
      clear m2 m3 HN1 HN2
      go_wp2_with fail
      go_loopw [] (fun wr => ∃ q : Nat, q ≤ 20 ∧ Mv b s (i + 2 + q) 0 a w wr ∧ i + 2 + q ≤ s.size ∧ run alnum s 20 (i + 2) = q + run alnum s (20 - q) (i + 2 + q)) (fun wr => s.size - (intOf ((wr.cell? ⟨b, 1, none⟩).getD undef)).toNat)
      case atStart => exact ⟨0, by omega, M3.out, by omega, by simp⟩
      case round =>
        obtain ⟨q, hq, hM, hqs, hrun⟩ := hrel
        have HM : Hid (Mv b s (i + 2 + q) 0 a w wr) := hM
        have HRn : Hid (run alnum s 20 (i + 2) = q + run alnum s (20 - q) (i + 2 + q)) := hrun
        have hN := next_any wr b (i + 2 + q) s 0 a hM.pn
        obtain ⟨r0, r1, r2, r3, rf, rms, rle⟩ := hM.pn
        have HMe : Hid (intOf ((wr.cell? ⟨b, 1, none⟩).getD undef) = ((i + 2 + q : Nat) : Int)) := by unfold Hid; rw [r1]; rfl
        clear hM hrun p0 p1 p2 p3 pf M3
        by_cases hlt : q < 20
        · obtain ⟨y, hy⟩ : ∃ y, y = nb s (i + 2 + q) 0 := ⟨_, rfl⟩
          obtain ⟨al, ad⟩ := alnum_nb s (i + 2 + q)
          rw [← hy] at hN al ad
          obtain ⟨m, hm1⟩ : ∃ m, 20 - q = m + 1 := ⟨20 - q - 1, by omega⟩
          have hm2 : 20 - (q + 1) = m := by omega
          have HX : Hid (∀ n, Calls Tryz.prog 71 #[.pointer (some ⟨b, 0, none⟩)] (wr.drewN n) fun e w' => e = .returned (.int .i64 y) ∧ ∃ n', w' = (wr.drewN n).drewN n') := fun n => by
            have := next_any (wr.drewN n) b (i + 2 + q) s 0 a (HM.out.pn.drewN n)
            rw [← hy] at this
            exact this
          have HNx : Hid (Calls Tryz.prog 71 #[.pointer (some ⟨b, 0, none⟩)] wr fun e w' => e = .returned (.int .i64 y) ∧ ∃ n, w' = wr.drewN n) := hN
          have hLt := fun w2 => letter_any w2 y
          have hDt := fun w2 => digit_any w2 y
          cases hl : letter (bt s (i + 2 + q)) with
          | true =>
            rw [hl] at al
            have HLt : Hid (∀ w2, Calls Tryz.prog 81 #[.int .i64 y] w2 fun e w' => e = .returned (.bool true) ∧ w' = w2) := fun w2 => by have := hLt w2; rw [al] at this; exact this
            have hjs : i + 2 + q < s.size := bt_lt_size (by have := letter_lt hl; omega)
            have HR2 : Hid (run alnum s 20 (i + 2) = (q + 1) + run alnum s (20 - (q + 1)) (i + 2 + (q + 1))) := by
              unfold Hid
              rw [HRn.out, hm1, hm2, rz, if_pos (by simp [alnum, hl])]
              rw [show i + 2 + (q + 1) = i + 2 + q + 1 by omega]
              omega
            clear hN hLt hDt al ad hl hy hm1 hm2 HRn
            go_wp2_with fail
            refine HNx.out.mono ?_
            rintro e w4 ⟨rfl, n2, rfl⟩
            go_wp2_with fail
            refine (HLt.out _).mono ?_
            rintro e w5 ⟨rfl, rfl⟩
            go_wp2_with fail
            go_roundw
            case rel => exact ⟨q + 1, by omega, HM.out.trans ((Mv.stayN HM.out.pn _).trans (Mv.atI (HM.out.pn.drewN _) _ (i + 2 + (q + 1)) (by omega) (by omega))), by omega, HR2.out⟩
            case measure => rw [HMe.out, cellI (HM.out.pn.drewN _)]; simp [intOf]; omega
          | false =>
            rw [hl] at al
            have HLt : Hid (∀ w2, Calls Tryz.prog 81 #[.int .i64 y] w2 fun e w' => e = .returned (.bool false) ∧ w' = w2) := fun w2 => by have := hLt w2; rw [al] at this; exact this
            cases hd : digit (bt s (i + 2 + q)) with
            | true =>
              rw [hd] at ad
              have HDt : Hid (∀ w2, Calls Tryz.prog 82 #[.int .i64 y] w2 fun e w' => e = .returned (.bool true) ∧ w' = w2) := fun w2 => by have := hDt w2; rw [ad] at this; exact this
              have hjs : i + 2 + q < s.size := bt_lt_size (by simp [digit] at hd; omega)
              have HR2 : Hid (run alnum s 20 (i + 2) = (q + 1) + run alnum s (20 - (q + 1)) (i + 2 + (q + 1))) := by
                unfold Hid
                rw [HRn.out, hm1, hm2, rz, if_pos (by simp [alnum, hd])]
                rw [show i + 2 + (q + 1) = i + 2 + q + 1 by omega]
                omega
              clear hN hLt hDt al ad hl hd hy hm1 hm2 HRn
              go_wp2_with fail
              refine HNx.out.mono ?_
              rintro e w4 ⟨rfl, n2, rfl⟩
              go_wp2_with fail
              refine (HLt.out _).mono ?_
              rintro e w5 ⟨rfl, rfl⟩
              go_wp2_with fail
              refine (HX.out n2).mono ?_
              rintro e w6 ⟨rfl, n3, rfl⟩
              go_wp2_with fail
              refine (HDt.out _).mono ?_
              rintro e w7 ⟨rfl, rfl⟩
              go_wp2_with fail
              go_roundw
              case rel => exact ⟨q + 1, by omega, HM.out.trans ((Mv.stayN HM.out.pn _).trans (Mv.atI (HM.out.pn.drewN _) _ (i + 2 + (q + 1)) (by omega) (by omega))), by omega, HR2.out⟩
              case measure => rw [HMe.out, cellI (HM.out.pn.drewN _)]; simp [intOf]; omega
            | false =>
              rw [hd] at ad
              have HDt : Hid (∀ w2, Calls Tryz.prog 82 #[.int .i64 y] w2 fun e w' => e = .returned (.bool false) ∧ w' = w2) := fun w2 => by have := hDt w2; rw [ad] at this; exact this
              have HR2 : Hid (run alnum s 20 (i + 2) = q) := by
                unfold Hid
                rw [HRn.out, hm1, rz, if_neg (by simp [alnum, hd, hl])]
                rfl
              by_cases hq0 : q = 0
              · subst hq0
                have HR : Hid (blank s i = .bad (i + 2)) := by unfold Hid; rw [HBl.out, if_pos HR2.out]
                clear hN hLt hDt al ad hl hd hy hm1 hm2 HRn
                go_wp2_with fail
                refine HNx.out.mono ?_
                rintro e w4 ⟨rfl, n2, rfl⟩
                go_wp2_with fail
                refine (HLt.out _).mono ?_
                rintro e w5 ⟨rfl, rfl⟩
                go_wp2_with fail
                refine (HX.out n2).mono ?_
                rintro e w6 ⟨rfl, n3, rfl⟩
                go_wp2_with fail
                refine (HDt.out _).mono ?_
                rintro e w7 ⟨rfl, rfl⟩
                go_wp2_with fail
                refine (fail_live _ _ _ _ _ _ _ (HM.out.pn.drewN (n2 + n3))).mono ?_
                rintro e w6 ⟨rfl, m6⟩
                obtain ⟨v0, v1, v2, v3, vf, vms, vle⟩ := m6.pn
                have M6 := HM.out.trans ((Mv.stayN HM.out.pn (n2 + n3)).trans m6)
                clear m6
                go_wp2_with fail
                go_ret
                rw [HR.out]
                exact ⟨[], _, rfl, by simp, M6⟩
              · have HR : Hid (blank s i = .ok (sub s i (i + 2 + q)) (i + 2 + q)) := by unfold Hid; rw [HBl.out, HR2.out, if_neg hq0]
                obtain ⟨X, hX⟩ : ∃ X : ByteArray, s.extract (i + 2) (i + 2 + q) = X := ⟨_, rfl⟩
                have hXs : X.size ≤ s.size := by rw [← hX]; simp; omega
                have HCT : Hid ((⟨#[95, 58]⟩ : ByteArray) ++ X = ⟨(sub s i (i + 2 + q)).toArray⟩) := by
                  unfold Hid
                  rw [← hX, str_sub, HH2.out q hqs, show (⟨#[95, 58]⟩ : ByteArray) = ⟨[95, 58].toArray⟩ from rfl, cat_str]
                clear hN hLt hDt al ad hl hd hy hm1 hm2 HRn
                go_wp2_with fail
                refine HNx.out.mono ?_
                rintro e w4 ⟨rfl, n2, rfl⟩
                go_wp2_with fail
                refine (HLt.out _).mono ?_
                rintro e w5 ⟨rfl, rfl⟩
                go_wp2_with fail
                refine (HX.out n2).mono ?_
                rintro e w6 ⟨rfl, n3, rfl⟩
                go_wp2_with fail
                refine (HDt.out _).mono ?_
                rintro e w7 ⟨rfl, rfl⟩
                go_wp2_with fail
                go_quiet (fail)
                go_wp2_with fail
                go_ret
                rw [HR.out]
                refine ⟨ret_str (by rw [HCT.out]), ?_⟩
                exact HM.out.trans ((Mv.stayN HM.out.pn (n2 + n3)).trans (Mv.stayN (HM.out.pn.drewN _) _))
        · have hqe : q = 20 := by omega
          subst hqe
          have HR2 : Hid (run alnum s 20 (i + 2) = 20) := by unfold Hid; rw [HRn.out]; rfl
          have HR : Hid (blank s i = .ok (sub s i (i + 2 + 20)) (i + 2 + 20)) := by unfold Hid; rw [HBl.out, HR2.out, if_neg (by omega)]
          obtain ⟨X, hX⟩ : ∃ X : ByteArray, s.extract (i + 2) (i + 2 + 20) = X := ⟨_, rfl⟩
          have hXs : X.size ≤ s.size := by rw [← hX]; simp; omega
          have HCT : Hid ((⟨#[95, 58]⟩ : ByteArray) ++ X = ⟨(sub s i (i + 2 + 20)).toArray⟩) := by
            unfold Hid
            rw [← hX, str_sub, HH2.out 20 hqs, show (⟨#[95, 58]⟩ : ByteArray) = ⟨[95, 58].toArray⟩ from rfl, cat_str]
          clear hN HRn
          go_wp2_with fail
          go_quiet (fail)
          go_wp2_with fail
          go_ret
          rw [HR.out]
          refine ⟨ret_str (by rw [HCT.out]), ?_⟩
          exact HM.out.trans (Mv.stayN HM.out.pn _)
    · have hB : blank s i = .bad (i + 1) := by unfold blank; rw [if_neg (by simp [c1]), if_pos c2]
      rw [hB]
      refine (label_dead w b (i + 1) s (i + 1 : Nat) (fun w2 => Mv b s (i + 1) 0 a w w2) HN1.out (fun w2 m => ?_)).mono fun e w' k => ⟨[], _, k.1, by simp, k.2⟩
      exact (need_bad w2 b (i + 1) s a 58 m.pn (by omega) (by omega) c2).mono fun e w' k => ⟨k.1, m.trans k.2⟩
  · have hB : blank s i = .bad i := by unfold blank; rw [if_pos c1]
    rw [hB]
    refine (label_dead w b i s i (fun w2 => Mv b s i 2 i w w2) (need_bad w b i s a 95 h (by omega) (by omega) c1) (fun w2 m => ?_)).mono fun e w' k => ⟨[], _, k.1, by simp, k.2⟩
    refine (need_dead w2 b i s 2 i 58 m.pn (by omega) (by omega)).mono ?_
    rintro e w' ⟨rfl, n, rfl⟩
    exact ⟨rfl, m.trans (Mv.stayN m.pn n)⟩
end Ref
end Go.Proofs.YtnffjoipinhojaaGreatDoor
