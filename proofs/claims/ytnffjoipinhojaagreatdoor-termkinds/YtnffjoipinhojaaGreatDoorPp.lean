import Derived.Test.YtnffjoipinhojaaGreatDoorPo
import Derived.Test.YtnffjoipinhojaaGreatDoorRz
set_option linter.unusedSimpArgs false
set_option linter.unusedVariables false
namespace Go.Proofs.YtnffjoipinhojaaGreatDoor
open Go.RowKit
namespace Ref

def post62 : R (List UInt8) → R (List UInt8)
  | .ok m k => .ok (m ++ [62]) k
  | .bad k => .bad k

theorem iri_q {s : ByteArray} {i j : Nat} (h1 : bt s i = 60) (h2 : letter (bt s (i + 1)) = true) (h3 : scheme s (i + 2) = .ok () j) : iri s i = post62 ((body s 62 inIri inIri false j).pre (sub s i j)) := by
  unfold iri
  rw [if_neg (by simp [h1]), if_neg (by simp [h2]), h3]
  simp only
  cases body s 62 inIri inIri false j <;> simp [R.pre, post62]
theorem iri_s {s : ByteArray} {i j : Nat} (h1 : bt s i = 60) (h2 : letter (bt s (i + 1)) = true) (h3 : scheme s (i + 2) = .bad j) : iri s i = .bad j := by
  unfold iri
  rw [if_neg (by simp [h1]), if_neg (by simp [h2]), h3]

theorem esc_u {s : ByteArray} {j : Nat} (h : bt s (j + 1) = 117) : esc s j inIri false = num s j (j + 1 + 1) 4 inIri := by unfold esc; rw [if_pos h]
theorem esc_U {s : ByteArray} {j : Nat} (h : bt s (j + 1) = 85) : esc s j inIri false = num s j (j + 1 + 1) 8 inIri := by unfold esc; rw [if_neg (by omega), if_pos h]
theorem esc_no {s : ByteArray} {j : Nat} (h : bt s (j + 1) ≠ 117) (h2 : bt s (j + 1) ≠ 85) : esc s j inIri false = .bad (j + 1) := by unfold esc; rw [if_neg h, if_neg h2]; rfl

theorem inIri_ok {s : ByteArray} {j : Nat} (hb : inIri (bt s j) = true ∨ 128 ≤ bt s j) (h : (chr s j).2 ≠ 0) : inIri (chr s j).1 = true := by
  by_cases h1 : bt s j < 128
  · have e := chr_ascii h1
    have hr := bt_range s j
    rw [e]
    show inIri (((bt s j).toNat : Nat) : Int) = true
    rw [Int.toNat_of_nonneg hr.1]
    rcases hb with hb | hb
    · exact hb
    · omega
  · have := chr_code h
    exact inIri_high (by have := this.2.2.1 (by omega); omega)

set_option maxRecDepth 20000 in
set_option maxHeartbeats 4000000 in
theorem iri_any (w : World) (b i : Nat) (s : ByteArray) (a : Int) (h : Pn w b s i 0 a) :
    Calls Tryz.prog 44 #[.pointer (some ⟨b, 0, none⟩)] w (Pout2 b s a w (iri s i)) := by
  have hms := h.ms
  by_cases c1 : bt s i = 60
  · have hi1 := bt_in c1 (by omega)
    have HN1 : Hid (Calls Tryz.prog 54 #[.pointer (some ⟨b, 0, none⟩), .int .i64 60] w fun e w' => e = .returned (.tuple #[]) ∧ Mv b s (i + 1) 0 a w w') := need_ok w b i s a 60 h (by omega) (by omega) c1
    obtain ⟨y, hy⟩ : ∃ y, y = nb s (i + 1) 0 := ⟨_, rfl⟩
    have HX : Hid (∀ w2, Mv b s (i + 1) 0 a w w2 → Calls Tryz.prog 71 #[.pointer (some ⟨b, 0, none⟩)] w2 fun e w' => e = .returned (.int .i64 y) ∧ ∃ n', w' = w2.drewN n') := fun w2 m => by
      have := next_any w2 b (i + 1) s 0 a m.pn
      rw [← hy] at this
      exact this
    obtain ⟨al, ad⟩ := alnum_nb s (i + 1)
    rw [← hy] at al
    cases hl : letter (bt s (i + 1)) with
    | false =>
      rw [hl] at al
      have HLt : Hid (∀ w2, Calls Tryz.prog 81 #[.int .i64 y] w2 fun e w' => e = .returned (.bool false) ∧ w' = w2) := fun w2 => by have := letter_any w2 y; rw [al] at this; exact this
      have HR : Hid (iri s i = .bad (i + 1)) := by unfold Hid iri; rw [if_neg (by simp [c1]), if_pos hl]
      clear h c1 hy al ad hl
      go_enter Tryz.func44, Tryz.ntmps44
      go_wp2_with fail
      refine HN1.out.mono ?_
      rintro e w2 ⟨rfl, m2⟩
      have HM : Hid (Mv b s (i + 1) 0 a w w2) := m2
      obtain ⟨p0, p1, p2, p3, pf, pms, ple⟩ := m2.pn
      clear m2
      go_wp2_with fail
      refine (HX.out _ HM.out).mono ?_
      rintro e w3 ⟨rfl, n3, rfl⟩
      go_wp2_with fail
      refine (HLt.out _).mono ?_
      rintro e w4 ⟨rfl, rfl⟩
      go_wp2_with fail
      refine (fail_live _ _ _ _ _ _ _ (HM.out.pn.drewN _)).mono ?_
      rintro e w5 ⟨rfl, m5⟩
      have HM5 : Hid (Mv b s (i + 1) 2 (i + 1 : Nat) w w5) := HM.out.trans ((Mv.stayN HM.out.pn _).trans m5)
      clear m5
      go_wp2_with fail
      go_ret
      rw [HR.out]
      exact ⟨[], _, rfl, by simp, HM5.out⟩
    | true =>
      rw [hl] at al
      have HLt : Hid (∀ w2, Calls Tryz.prog 81 #[.int .i64 y] w2 fun e w' => e = .returned (.bool true) ∧ w' = w2) := fun w2 => by have := letter_any w2 y; rw [al] at this; exact this
      have hll := letter_lt hl
      have hi2 : i + 1 < s.size := bt_lt_size (by omega)
      have HS0 : Hid (scheme s (i + 2) = scheme s (i + 1)) := by
        unfold Hid
        rw [scheme_on (j := i + 1) (by intro k; rw [k] at hl; cases hl) (by simp [inScheme, hl])]
      have HIQ : Hid (∀ j, scheme s (i + 2) = .ok () j → iri s i = post62 ((body s 62 inIri inIri false j).pre (sub s i j))) := fun j k => iri_q c1 hl k
      have HIS : Hid (∀ j, scheme s (i + 2) = .bad j → iri s i = .bad j) := fun j k => iri_s c1 hl k
      have HY0 : Hid ((⟨#[60]⟩ : ByteArray) = ⟨(sub s i (i + 1)).toArray⟩) := by
        unfold Hid
        rw [sub_succ s i i (Nat.le_refl _) hi1]
        have e0 : s[i] = 60 := by
          apply UInt8.toNat_inj.1
          have := bt_lt hi1
          rw [c1] at this
          show _ = 60
          omega
        rw [e0]
        have : sub s i i = [] := by unfold sub; rw [Nat.sub_self]; rfl
        rw [this]
        rfl
      clear h c1 hy al ad hl hll
      go_enter Tryz.func44, Tryz.ntmps44
      go_wp2_with fail
      refine HN1.out.mono ?_
      rintro e w2 ⟨rfl, m2⟩
      have HM0 : Hid (Mv b s (i + 1) 0 a w w2) := m2
      clear m2 HN1
      go_wp2_with fail
      refine (HX.out _ HM0.out).mono ?_
      rintro e w3 ⟨rfl, n3, rfl⟩
      go_wp2_with fail
      refine (HLt.out _).mono ?_
      rintro e w4 ⟨rfl, rfl⟩
      have HM1 : Hid (Mv b s (i + 1) 0 a w (w2.drewN n3)) := HM0.out.trans (Mv.stayN HM0.out.pn _)
      clear HLt HX HM0
      go_wp2_with fail
      go_loopw [3] (fun t3 wr => ∃ (j : Nat) (Y : ByteArray), i + 1 ≤ j ∧ j ≤ s.size ∧ t3 = .string Y ∧ Y = ⟨(sub s i j).toArray⟩ ∧ Y.size = j - i ∧ Mv b s j 0 a w wr ∧ scheme s (i + 2) = scheme s j) (fun t3 wr => s.size - (intOf ((wr.cell? ⟨b, 1, none⟩).getD undef)).toNat)
      case atStart => exact ⟨i + 1, _, Nat.le_refl _, by omega, rfl, HY0.out, by show 1 = _; omega, HM1.out, HS0.out⟩
      case round =>
        obtain ⟨j, Y, hij, hjs, rfl, hY, hYs, hM, hSc⟩ := hrel
        have HY : Hid (Y = ⟨(sub s i j).toArray⟩) := hY
        have HM : Hid (Mv b s j 0 a w wr) := hM
        have HSc : Hid (scheme s (i + 2) = scheme s j) := hSc
        obtain ⟨y, hy⟩ : ∃ y, y = nb s j 0 := ⟨_, rfl⟩
        have HX : Hid (∀ n, Calls Tryz.prog 71 #[.pointer (some ⟨b, 0, none⟩)] (wr.drewN n) fun e w' => e = .returned (.int .i64 y) ∧ ∃ n', w' = (wr.drewN n).drewN n') := fun n => by
          have := next_any (wr.drewN n) b j s 0 a (HM.out.pn.drewN n)
          rw [← hy] at this
          exact this
        have HX0 : Hid (Calls Tryz.prog 71 #[.pointer (some ⟨b, 0, none⟩)] wr fun e w' => e = .returned (.int .i64 y) ∧ ∃ n', w' = wr.drewN n') := by
          have := next_any wr b j s 0 a HM.out.pn
          rw [← hy] at this
          exact this
        obtain ⟨r0, r1, r2, r3, rf, rms, rle⟩ := hM.pn
        have HMe : Hid (intOf ((wr.cell? ⟨b, 1, none⟩).getD undef) = (j : Int)) := by unfold Hid; rw [r1]; rfl
        obtain ⟨al, ad⟩ := alnum_nb s j
        rw [← hy] at al ad
        clear hM hSc hY HM1 HS0 HY0
        have hnl := fun c h0 h1 => nb_live s j c h0 h1
        rw [← hy] at hnl
        cases hl : letter (bt s j) with
        | true =>
          rw [hl] at al
          have HLt : Hid (∀ w2, Calls Tryz.prog 81 #[.int .i64 y] w2 fun e w' => e = .returned (.bool true) ∧ w' = w2) := fun w2 => by have := letter_any w2 y; rw [al] at this; exact this
          have hj : j < s.size := bt_lt_size (by have := letter_lt hl; omega)
          have hsch : inScheme (bt s j) = true := by simp [inScheme, hl]
          have HSc2 : Hid (scheme s (i + 2) = scheme s (j + 1)) := by unfold Hid; rw [HSc.out, scheme_on (by intro k; rw [k] at hsch; cases hsch) hsch]
          obtain ⟨X, hX⟩ : ∃ X : ByteArray, X = ⟨[s[j]].toArray⟩ := ⟨_, rfl⟩
          have hXe : s.extract j (j + 1) = X := by rw [ext_one s j hj, hX]
          have hX1 : X.size = 1 := by rw [hX, arr_size]; rfl
          have HYX : Hid (Y ++ X = ⟨(sub s i (j + 1)).toArray⟩) := by unfold Hid; rw [HY.out, hX, cat_str, sub_succ s i j (by omega) hj]
          clear hX hsch HSc hy al ad
          clear hl hnl
          go_wp2_with fail
          refine HX0.out.mono ?_
          rintro e w4 ⟨rfl, n2, rfl⟩
          go_wp2_with fail
          refine (HLt.out _).mono ?_
          rintro e w5 ⟨rfl, rfl⟩
          go_wp2_with fail
          go_quiet (fail)
          go_wp2_with fail
          go_roundw
          case rel => exact ⟨j + 1, _, by omega, by omega, rfl, HYX.out, by rw [cat_size, hYs, hX1]; omega, HM.out.trans ((Mv.stayN HM.out.pn _).trans (Mv.atI (HM.out.pn.drewN _) _ (j + 1) (by omega) (by omega))), HSc2.out⟩
          case measure => rw [HMe.out, cellI (HM.out.pn.drewN _)]; simp [intOf]; omega
        | false =>
          rw [hl] at al
          have HLt : Hid (∀ w2, Calls Tryz.prog 81 #[.int .i64 y] w2 fun e w' => e = .returned (.bool false) ∧ w' = w2) := fun w2 => by have := letter_any w2 y; rw [al] at this; exact this
          cases hg : digit (bt s j) with
          | true =>
            rw [hg] at ad
            have HDt : Hid (∀ w2, Calls Tryz.prog 82 #[.int .i64 y] w2 fun e w' => e = .returned (.bool true) ∧ w' = w2) := fun w2 => by have := digit_any w2 y; rw [ad] at this; exact this
            have hj : j < s.size := bt_lt_size (by simp [digit] at hg; omega)
            have hsch : inScheme (bt s j) = true := by simp [inScheme, hg]
            have HSc2 : Hid (scheme s (i + 2) = scheme s (j + 1)) := by unfold Hid; rw [HSc.out, scheme_on (by intro k; rw [k] at hsch; cases hsch) hsch]
            obtain ⟨X, hX⟩ : ∃ X : ByteArray, X = ⟨[s[j]].toArray⟩ := ⟨_, rfl⟩
            have hXe : s.extract j (j + 1) = X := by rw [ext_one s j hj, hX]
            have hX1 : X.size = 1 := by rw [hX, arr_size]; rfl
            have HYX : Hid (Y ++ X = ⟨(sub s i (j + 1)).toArray⟩) := by unfold Hid; rw [HY.out, hX, cat_str, sub_succ s i j (by omega) hj]
            clear hX hsch HSc hy al ad
            clear hl hg hnl
            go_wp2_with fail
            refine HX0.out.mono ?_
            rintro e w4 ⟨rfl, n2, rfl⟩
            go_wp2_with fail
            refine (HLt.out _).mono ?_
            rintro e w5 ⟨rfl, rfl⟩
            go_wp2_with fail
            refine (HX.out _).mono ?_
            rintro e w4 ⟨rfl, n3, rfl⟩
            go_wp2_with fail
            refine (HDt.out _).mono ?_
            rintro e w5 ⟨rfl, rfl⟩
            go_wp2_with fail
            go_quiet (fail)
            go_wp2_with fail
            go_roundw
            case rel => exact ⟨j + 1, _, by omega, by omega, rfl, HYX.out, by rw [cat_size, hYs, hX1]; omega, HM.out.trans ((Mv.stayN HM.out.pn _).trans (Mv.atI (HM.out.pn.drewN _) _ (j + 1) (by omega) (by omega))), HSc2.out⟩
            case measure => rw [HMe.out, cellI (HM.out.pn.drewN _)]; simp [intOf]; omega
          | false =>
            rw [hg] at ad
            have HDt : Hid (∀ w2, Calls Tryz.prog 82 #[.int .i64 y] w2 fun e w' => e = .returned (.bool false) ∧ w' = w2) := fun w2 => by have := digit_any w2 y; rw [ad] at this; exact this
            by_cases y43 : y = 43
            · have hb : bt s j = 43 := (hnl 43 (by omega) (by omega)).1 y43
              have hj : j < s.size := bt_in hb (by omega)
              have hsch : inScheme (bt s j) = true := by rw [hb]; rfl
              have HSc2 : Hid (scheme s (i + 2) = scheme s (j + 1)) := by unfold Hid; rw [HSc.out, scheme_on (by intro k; rw [k] at hsch; cases hsch) hsch]
              obtain ⟨X, hX⟩ : ∃ X : ByteArray, X = ⟨[s[j]].toArray⟩ := ⟨_, rfl⟩
              have hXe : s.extract j (j + 1) = X := by rw [ext_one s j hj, hX]
              have hX1 : X.size = 1 := by rw [hX, arr_size]; rfl
              have HYX : Hid (Y ++ X = ⟨(sub s i (j + 1)).toArray⟩) := by unfold Hid; rw [HY.out, hX, cat_str, sub_succ s i j (by omega) hj]
              clear hX hsch HSc hy al ad
              clear hl hg hnl hb
              subst y43
              go_wp2_with fail
              refine HX0.out.mono ?_
              rintro e w4 ⟨rfl, n2, rfl⟩
              go_wp2_with fail
              refine (HLt.out _).mono ?_
              rintro e w5 ⟨rfl, rfl⟩
              go_wp2_with fail
              refine (HX.out _).mono ?_
              rintro e w4 ⟨rfl, n3, rfl⟩
              go_wp2_with fail
              refine (HDt.out _).mono ?_
              rintro e w5 ⟨rfl, rfl⟩
              go_wp2_with fail
              refine (HX.out _).mono ?_
              rintro e w4 ⟨rfl, n4, rfl⟩
              go_wp2_with fail
              go_quiet (fail)
              go_wp2_with fail
              go_roundw
              case rel => exact ⟨j + 1, _, by omega, by omega, rfl, HYX.out, by rw [cat_size, hYs, hX1]; omega, HM.out.trans ((Mv.stayN HM.out.pn _).trans (Mv.atI (HM.out.pn.drewN _) _ (j + 1) (by omega) (by omega))), HSc2.out⟩
              case measure => rw [HMe.out, cellI (HM.out.pn.drewN _)]; simp [intOf]; omega
            by_cases y45 : y = 45
            · have hb : bt s j = 45 := (hnl 45 (by omega) (by omega)).1 y45
              have hj : j < s.size := bt_in hb (by omega)
              have hsch : inScheme (bt s j) = true := by rw [hb]; rfl
              have HSc2 : Hid (scheme s (i + 2) = scheme s (j + 1)) := by unfold Hid; rw [HSc.out, scheme_on (by intro k; rw [k] at hsch; cases hsch) hsch]
              obtain ⟨X, hX⟩ : ∃ X : ByteArray, X = ⟨[s[j]].toArray⟩ := ⟨_, rfl⟩
              have hXe : s.extract j (j + 1) = X := by rw [ext_one s j hj, hX]
              have hX1 : X.size = 1 := by rw [hX, arr_size]; rfl
              have HYX : Hid (Y ++ X = ⟨(sub s i (j + 1)).toArray⟩) := by unfold Hid; rw [HY.out, hX, cat_str, sub_succ s i j (by omega) hj]
              clear hX hsch HSc hy al ad
              clear hl hg hnl hb
              subst y45
              go_wp2_with fail
              refine HX0.out.mono ?_
              rintro e w4 ⟨rfl, n2, rfl⟩
              go_wp2_with fail
              refine (HLt.out _).mono ?_
              rintro e w5 ⟨rfl, rfl⟩
              go_wp2_with fail
              refine (HX.out _).mono ?_
              rintro e w4 ⟨rfl, n3, rfl⟩
              go_wp2_with fail
              refine (HDt.out _).mono ?_
              rintro e w5 ⟨rfl, rfl⟩
              go_wp2_with fail
              refine (HX.out _).mono ?_
              rintro e w4 ⟨rfl, n4, rfl⟩
              go_wp2_with fail
              refine (HX.out _).mono ?_
              rintro e w4 ⟨rfl, n5, rfl⟩
              go_wp2_with fail
              go_quiet (fail)
              go_wp2_with fail
              go_roundw
              case rel => exact ⟨j + 1, _, by omega, by omega, rfl, HYX.out, by rw [cat_size, hYs, hX1]; omega, HM.out.trans ((Mv.stayN HM.out.pn _).trans (Mv.atI (HM.out.pn.drewN _) _ (j + 1) (by omega) (by omega))), HSc2.out⟩
              case measure => rw [HMe.out, cellI (HM.out.pn.drewN _)]; simp [intOf]; omega
            by_cases y46 : y = 46
            · have hb : bt s j = 46 := (hnl 46 (by omega) (by omega)).1 y46
              have hj : j < s.size := bt_in hb (by omega)
              have hsch : inScheme (bt s j) = true := by rw [hb]; rfl
              have HSc2 : Hid (scheme s (i + 2) = scheme s (j + 1)) := by unfold Hid; rw [HSc.out, scheme_on (by intro k; rw [k] at hsch; cases hsch) hsch]
              obtain ⟨X, hX⟩ : ∃ X : ByteArray, X = ⟨[s[j]].toArray⟩ := ⟨_, rfl⟩
              have hXe : s.extract j (j + 1) = X := by rw [ext_one s j hj, hX]
              have hX1 : X.size = 1 := by rw [hX, arr_size]; rfl
              have HYX : Hid (Y ++ X = ⟨(sub s i (j + 1)).toArray⟩) := by unfold Hid; rw [HY.out, hX, cat_str, sub_succ s i j (by omega) hj]
              clear hX hsch HSc hy al ad
              clear hl hg hnl hb
              subst y46
              go_wp2_with fail
              refine HX0.out.mono ?_
              rintro e w4 ⟨rfl, n2, rfl⟩
              go_wp2_with fail
              refine (HLt.out _).mono ?_
              rintro e w5 ⟨rfl, rfl⟩
              go_wp2_with fail
              refine (HX.out _).mono ?_
              rintro e w4 ⟨rfl, n3, rfl⟩
              go_wp2_with fail
              refine (HDt.out _).mono ?_
              rintro e w5 ⟨rfl, rfl⟩
              go_wp2_with fail
              refine (HX.out _).mono ?_
              rintro e w4 ⟨rfl, n4, rfl⟩
              go_wp2_with fail
              refine (HX.out _).mono ?_
              rintro e w4 ⟨rfl, n5, rfl⟩
              go_wp2_with fail
              refine (HX.out _).mono ?_
              rintro e w4 ⟨rfl, n6, rfl⟩
              go_wp2_with fail
              go_quiet (fail)
              go_wp2_with fail
              go_roundw
              case rel => exact ⟨j + 1, _, by omega, by omega, rfl, HYX.out, by rw [cat_size, hYs, hX1]; omega, HM.out.trans ((Mv.stayN HM.out.pn _).trans (Mv.atI (HM.out.pn.drewN _) _ (j + 1) (by omega) (by omega))), HSc2.out⟩
              case measure => rw [HMe.out, cellI (HM.out.pn.drewN _)]; simp [intOf]; omega
            have hsch : inScheme (bt s j) = false := by
              have k43 : bt s j ≠ 43 := fun k => y43 ((hnl 43 (by omega) (by omega)).2 k)
              have k45 : bt s j ≠ 45 := fun k => y45 ((hnl 45 (by omega) (by omega)).2 k)
              have k46 : bt s j ≠ 46 := fun k => y46 ((hnl 46 (by omega) (by omega)).2 k)
              simp [inScheme, hl, hg, k43, k45, k46]
            have d43 : (y == 43) = false := by simp [y43]
            have d45 : (y == 45) = false := by simp [y45]
            have d46 : (y == 46) = false := by simp [y46]
            have HND : Hid (∀ n, Calls Tryz.prog 54 #[.pointer (some ⟨b, 0, none⟩), .int .i64 58] (wr.drewN n) fun e w' => e = .returned (.tuple #[]) ∧ ((bt s j = 58 ∧ Mv b s (j + 1) 0 a w w') ∨ (bt s j ≠ 58 ∧ Mv b s j 2 j w w'))) := fun n => by
              have hS := HM.out.trans (Mv.stayN HM.out.pn n)
              by_cases c : bt s j = 58
              · exact (need_ok _ b j s a 58 (HM.out.pn.drewN n) (by omega) (by omega) c).mono fun e w' k => ⟨k.1, .inl ⟨c, hS.trans k.2⟩⟩
              · exact (need_bad _ b j s a 58 (HM.out.pn.drewN n) (by omega) (by omega) c).mono fun e w' k => ⟨k.1, .inr ⟨c, hS.trans k.2⟩⟩
            have HBD : Hid (bt s j ≠ 58 → iri s i = .bad j) := fun c => HIS.out j (by rw [HSc.out, scheme_bad c hsch])
            have HGO : Hid (bt s j = 58 → iri s i = post62 ((body s 62 inIri inIri false (j + 1)).pre (sub s i (j + 1)))) := fun c => HIQ.out (j + 1) (by rw [HSc.out, scheme_q c])
            clear hsch hl hg hnl al ad hy HSc HMe
            go_wp2_with fail
            refine HX0.out.mono ?_
            rintro e w4 ⟨rfl, n2, rfl⟩
            go_wp2_with fail
            refine (HLt.out _).mono ?_
            rintro e w5 ⟨rfl, rfl⟩
            go_wp2_with fail
            refine (HX.out _).mono ?_
            rintro e w4 ⟨rfl, n3, rfl⟩
            go_wp2_with fail
            refine (HDt.out _).mono ?_
            rintro e w5 ⟨rfl, rfl⟩
            go_wp2_with fail
            refine (HX.out _).mono ?_
            rintro e w4 ⟨rfl, n4, rfl⟩
            go_wp2_with fail
            refine (HX.out _).mono ?_
            rintro e w4 ⟨rfl, n5, rfl⟩
            go_wp2_with fail
            refine (HX.out _).mono ?_
            rintro e w4 ⟨rfl, n6, rfl⟩
            go_wp2_with fail
            refine (HND.out _).mono ?_
            rintro e w7 ⟨rfl, m7⟩
            have HM7 : Hid ((bt s j = 58 ∧ Mv b s (j + 1) 0 a w w7) ∨ (bt s j ≠ 58 ∧ Mv b s j 2 j w w7)) := m7
            clear m7 r0 r1 r2 r3 rf HND HM HX HX0 HLt HDt
            go_wp2_with fail
            have HY1 : Hid (bt s j = 58 → Y ++ ⟨#[58]⟩ = ⟨(sub s i (j + 1)).toArray⟩) := fun c => by
              have hj : j < s.size := bt_in c (by omega)
              rw [HY.out, show (⟨#[58]⟩ : ByteArray) = ⟨[58].toArray⟩ from rfl, cat_str, sub_succ s i j (by omega) hj]
              have e0 : s[j] = 58 := by
                apply UInt8.toNat_inj.1
                have := bt_lt hj
                rw [c] at this
                show _ = 58
                omega
              rw [e0]
            go_loopw [3] (fun t3 wr => (∃ (q : Nat) (l : List UInt8) (Z : ByteArray), t3 = .string Z ∧ Z = ⟨l.toArray⟩ ∧ Z.size ≤ 4 * q ∧ q ≤ s.size ∧ Mv b s q 0 a w wr ∧ iri s i = post62 ((body s 62 inIri inIri false q).pre l)) ∨
                (∃ (k m : Nat) (l : List UInt8) (Z : ByteArray), t3 = .string Z ∧ Z = ⟨l.toArray⟩ ∧ Z.size ≤ 12 * s.size + 12 ∧ Mv b s k 2 m w wr ∧ iri s i = .bad m))
              (fun t3 wr => if intOf ((wr.cell? ⟨b, 2, none⟩).getD undef) = 0 then s.size + 1 - (intOf ((wr.cell? ⟨b, 1, none⟩).getD undef)).toNat else 0)
            case atStart =>
              rcases HM7.out with ⟨c, m⟩ | ⟨c, m⟩
              · refine .inl ⟨j + 1, _, _, rfl, HY1.out c, ?_, ?_, m, HGO.out c⟩
                · rw [cat_size, hYs]; show j - i + 1 ≤ _; omega
                · have := bt_in c (by omega); omega
              · refine .inr ⟨j, j, sub s i j ++ [58], _, rfl, ?_, ?_, m, HBD.out c⟩
                · rw [HY.out, show (⟨#[58]⟩ : ByteArray) = ⟨[58].toArray⟩ from rfl, cat_str]
                · rw [cat_size, hYs]; show j - i + 1 ≤ _; omega
            case round =>
              clear HM7 HBD HGO HY1
              rcases hrel with ⟨q, l, Z, rfl, hZ, hZs, hqs, hM, hQ⟩ | ⟨k, m, l, Z, rfl, hZ, hZs, hM, hQ⟩
              · have HZ : Hid (Z = ⟨l.toArray⟩) := hZ
                have HM : Hid (Mv b s q 0 a w wr) := hM
                have HQ : Hid (iri s i = post62 ((body s 62 inIri inIri false q).pre l)) := hQ
                obtain ⟨y, hy⟩ : ∃ y, y = nb s q 0 := ⟨_, rfl⟩
                have HX : Hid (∀ n, Calls Tryz.prog 71 #[.pointer (some ⟨b, 0, none⟩)] (wr.drewN n) fun e w' => e = .returned (.int .i64 y) ∧ ∃ n', w' = (wr.drewN n).drewN n') := fun n => by
                  have := next_any (wr.drewN n) b q s 0 a (HM.out.pn.drewN n)
                  rw [← hy] at this
                  exact this
                have HX0 : Hid (Calls Tryz.prog 71 #[.pointer (some ⟨b, 0, none⟩)] wr fun e w' => e = .returned (.int .i64 y) ∧ ∃ n', w' = wr.drewN n') := by
                  have := next_any wr b q s 0 a HM.out.pn
                  rw [← hy] at this
                  exact this
                obtain ⟨r0, r1, r2, r3, rf, rms, rle⟩ := hM.pn
                have HMe : Hid ((if intOf ((wr.cell? ⟨b, 2, none⟩).getD undef) = 0 then s.size + 1 - (intOf ((wr.cell? ⟨b, 1, none⟩).getD undef)).toNat else 0) = s.size + 1 - q) := by unfold Hid; rw [r1, r2]; rfl
                have hnl := fun c h0 h1 => nb_live s q c h0 h1
                rw [← hy] at hnl
                clear hM hQ hZ
                by_cases y62 : y = 62
                · have hb : bt s q = 62 := (hnl 62 (by omega) (by omega)).1 y62
                  have HR : Hid (iri s i = .ok (l ++ [62]) (q + 1)) := by unfold Hid; rw [HQ.out, body_q hb]; simp [R.pre, post62]
                  have HND : Hid (∀ n, Calls Tryz.prog 54 #[.pointer (some ⟨b, 0, none⟩), .int .i64 62] (wr.drewN n) fun e w' => e = .returned (.tuple #[]) ∧ Mv b s (q + 1) 0 a (wr.drewN n) w') := fun n => need_ok _ b q s a 62 (HM.out.pn.drewN n) (by omega) (by omega) hb
                  have HZ6 : Hid (Z ++ ⟨#[62]⟩ = ⟨(l ++ [62]).toArray⟩) := by unfold Hid; rw [HZ.out, show (⟨#[62]⟩ : ByteArray) = ⟨[62].toArray⟩ from rfl, cat_str]
                  clear hb hnl hy
                  go_wp2_with fail
                  refine HX0.out.mono ?_
                  rintro e w4 ⟨rfl, n2, rfl⟩
                  go_wp2_with fail
                  refine (HND.out _).mono ?_
                  rintro e w5 ⟨rfl, m5⟩
                  go_wp2_with fail
                  go_ret
                  rw [HR.out]
                  exact ⟨ret_str HZ6.out, HM.out.trans ((Mv.stayN HM.out.pn _).trans m5)⟩
                have hb62 : bt s q ≠ 62 := fun k => y62 ((hnl 62 (by omega) (by omega)).2 k)
                have HST : Hid (∀ (r : R Nat), one s q inIri inIri false = r → ∀ (e : Ending) (w1 w' : World), Mv b s q 0 a w w1 ∨ Mv b s (q + 1) 0 a w w1 → Pout b s a w1 (encR r) e w' → ∃ X : ByteArray, e = .returned (.string X) ∧ X.size ≤ 8 * s.size + 8 ∧
                    ((∃ (k : Nat) (l2 : List UInt8), Z ++ X = ⟨l2.toArray⟩ ∧ X.size ≤ 4 ∧ q < k ∧ k ≤ s.size ∧ Mv b s k 0 a w w' ∧ iri s i = post62 ((body s 62 inIri inIri false k).pre l2)) ∨
                     (∃ (k m : Nat) (l2 : List UInt8), Z ++ X = ⟨l2.toArray⟩ ∧ Mv b s k 2 m w w' ∧ iri s i = .bad m))) := by
                  intro r hr e w1 w' hm ho
                  cases r with
                  | ok c k =>
                    obtain ⟨h1, h2⟩ := ho
                    have hlt := one_lt hr
                    refine ⟨_, h1, ?_, .inl ⟨k, l ++ Lib.encodeRune c, ?_, ?_, hlt.1, hlt.2, ?_, ?_⟩⟩
                    · rw [arr_size]; have := enc_len (c : Int); omega
                    · rw [HZ.out, cat_str]
                    · rw [arr_size]; exact enc_len _
                    · rcases hm with hm | hm <;> exact hm.trans h2
                    · rw [HQ.out, body_ok hb62 hr, pre_pre]
                  | bad m =>
                    obtain ⟨l', k, h1, h2, h3⟩ := ho
                    refine ⟨_, h1, by rw [arr_size]; exact h2, .inr ⟨k, m, l ++ l', by rw [HZ.out, cat_str], ?_, ?_⟩⟩
                    · rcases hm with hm | hm <;> exact hm.trans h3
                    · rw [HQ.out, body_bad hb62 hr]; rfl
                have HBB : Hid (∀ m, one s q inIri inIri false = .bad m → iri s i = .bad m) := fun m k => by rw [HQ.out, body_bad hb62 k]; rfl
                by_cases y92 : y = 92
                · have hb : bt s q = 92 := (hnl 92 (by omega) (by omega)).1 y92
                  have hq : q < s.size := bt_in hb (by omega)
                  have HO : Hid (one s q inIri inIri false = esc s q inIri false) := one_esc hb
                  obtain ⟨z, hz⟩ : ∃ z, z = nb s (q + 1) 0 := ⟨_, rfl⟩
                  have hnz := fun c h0 h1 => nb_live s (q + 1) c h0 h1
                  rw [← hz] at hnz
                  have HW : Hid (∀ w5, Mv b s (q + 1) 0 a w w5 → ∀ n, Calls Tryz.prog 71 #[.pointer (some ⟨b, 0, none⟩)] (w5.drewN n) fun e w' => e = .returned (.int .i64 z) ∧ ∃ n', w' = (w5.drewN n).drewN n') := fun w5 m n => by
                    have := next_any (w5.drewN n) b (q + 1) s 0 a (m.pn.drewN n)
                    rw [← hz] at this
                    exact this
                  clear hb62 hnl hy hb
                  subst y92
                  go_wp2_with fail
                  refine HX0.out.mono ?_
                  rintro e w4 ⟨rfl, n2, rfl⟩
                  go_wp2_with fail
                  refine (HX.out _).mono ?_
                  rintro e w5 ⟨rfl, n3, rfl⟩
                  go_wp2_with fail
                  have M5 := HM.out.trans ((Mv.stayN HM.out.pn (n2 + n3)).trans (Mv.atI (HM.out.pn.drewN (n2 + n3)) ((q : Int) + 1) (q + 1) (by omega) (by omega)))
                  generalize (wr.drewN (n2 + n3)).setCell ⟨b, 1, none⟩ (.int .i64 ((q : Int) + 1)) = w5 at M5 ⊢
                  have HM5 : Hid (Mv b s (q + 1) 0 a w w5) := M5
                  have HZ0 : Hid (Calls Tryz.prog 71 #[.pointer (some ⟨b, 0, none⟩)] w5 fun e w' => e = .returned (.int .i64 z) ∧ ∃ n', w' = w5.drewN n') := by
                    have := next_any w5 b (q + 1) s 0 a M5.pn
                    rw [← hz] at this
                    exact this
                  have HZN : Hid (∀ n, Calls Tryz.prog 71 #[.pointer (some ⟨b, 0, none⟩)] (w5.drewN n) fun e w' => e = .returned (.int .i64 z) ∧ ∃ n', w' = (w5.drewN n).drewN n') := HW.out w5 M5
                  obtain ⟨t0, t1, t2, t3, tf, tms, tle⟩ := M5.pn
                  clear M5 HW HX HX0
                  by_cases z117 : z = 117
                  · have hb : bt s (q + 1) = 117 := (hnz 117 (by omega) (by omega)).1 z117
                    have HNum : Hid (∀ n, Calls Tryz.prog 83 #[.pointer (some ⟨b, 0, none⟩), .int .i64 q, .bool true] (w5.drewN n) (Pout b s a (w5.drewN n) (encR (num s q (q + 1 + 1) 4 inIri)))) := fun n => number_any (w5.drewN n) b q (q + 1) 4 s a true inIri rfl (HM5.out.pn.drewN n) (.inl ⟨hb, rfl⟩)
                    have HO2 : Hid (one s q inIri inIri false = num s q (q + 1 + 1) 4 inIri) := by unfold Hid; rw [HO.out, esc_u hb]
                    clear hnz hz hb
                    subst z117
                    refine HZ0.out.mono ?_
                    rintro e w7 ⟨rfl, n4, rfl⟩
                    go_wp2_with fail
                    refine (HNum.out _).mono ?_
                    intro e w6 ho
                    obtain ⟨X, rfl, hXs, hcase⟩ := HST.out _ HO2.out _ _ _ (.inr (HM5.out.trans (Mv.stayN HM5.out.pn _))) ho
                    clear ho t0 t1 t2 t3 tf
                    rcases hcase with ⟨k, l2, hZX, hX4, hqk, hks, mk, hQ2⟩ | ⟨k, m, l2, hZX, mk, hQ2⟩
                    · have HZX : Hid (Z ++ X = ⟨l2.toArray⟩) := hZX
                      have HK : Hid (Mv b s k 0 a w w6) := mk
                      have HQ2 : Hid (iri s i = post62 ((body s 62 inIri inIri false k).pre l2)) := hQ2
                      obtain ⟨v0, v1, v2, v3, vf, vms, vle⟩ := mk.pn
                      clear hZX mk hQ2 r0 r1 r2 r3 rf
                      go_wp2_with fail
                      go_roundw
                      case rel => exact .inl ⟨k, l2, _, rfl, HZX.out, by rw [cat_size]; omega, hks, HK.out, HQ2.out⟩
                      case measure => rw [HMe.out, v1, v2]; simp [intOf]; omega
                    · have HZX : Hid (Z ++ X = ⟨l2.toArray⟩) := hZX
                      have HK : Hid (Mv b s k 2 m w w6) := mk
                      have HQ2 : Hid (iri s i = .bad m) := hQ2
                      obtain ⟨v0, v1, v2, v3, vf, vms, vle⟩ := mk.pn
                      clear hZX mk hQ2 r0 r1 r2 r3 rf
                      go_wp2_with fail
                      go_roundw
                      case rel => exact .inr ⟨k, m, l2, _, rfl, HZX.out, by rw [cat_size]; omega, HK.out, HQ2.out⟩
                      case measure => rw [HMe.out, v1, v2]; simp [intOf]; omega
                  · by_cases z85 : z = 85
                    · have hb : bt s (q + 1) = 85 := (hnz 85 (by omega) (by omega)).1 z85
                      have HNum : Hid (∀ n, Calls Tryz.prog 83 #[.pointer (some ⟨b, 0, none⟩), .int .i64 q, .bool true] (w5.drewN n) (Pout b s a (w5.drewN n) (encR (num s q (q + 1 + 1) 8 inIri)))) := fun n => number_any (w5.drewN n) b q (q + 1) 8 s a true inIri rfl (HM5.out.pn.drewN n) (.inr ⟨hb, rfl⟩)
                      have HO2 : Hid (one s q inIri inIri false = num s q (q + 1 + 1) 8 inIri) := by unfold Hid; rw [HO.out, esc_U hb]
                      clear hnz hz hb z117
                      subst z85
                      refine HZ0.out.mono ?_
                      rintro e w7 ⟨rfl, n4, rfl⟩
                      go_wp2_with fail
                      refine (HZN.out _).mono ?_
                      rintro e w7 ⟨rfl, n5, rfl⟩
                      go_wp2_with fail
                      refine (HNum.out _).mono ?_
                      intro e w6 ho
                      obtain ⟨X, rfl, hXs, hcase⟩ := HST.out _ HO2.out _ _ _ (.inr (HM5.out.trans (Mv.stayN HM5.out.pn _))) ho
                      clear ho t0 t1 t2 t3 tf
                      rcases hcase with ⟨k, l2, hZX, hX4, hqk, hks, mk, hQ2⟩ | ⟨k, m, l2, hZX, mk, hQ2⟩
                      · have HZX : Hid (Z ++ X = ⟨l2.toArray⟩) := hZX
                        have HK : Hid (Mv b s k 0 a w w6) := mk
                        have HQ2 : Hid (iri s i = post62 ((body s 62 inIri inIri false k).pre l2)) := hQ2
                        obtain ⟨v0, v1, v2, v3, vf, vms, vle⟩ := mk.pn
                        clear hZX mk hQ2 r0 r1 r2 r3 rf
                        go_wp2_with fail
                        go_roundw
                        case rel => exact .inl ⟨k, l2, _, rfl, HZX.out, by rw [cat_size]; omega, hks, HK.out, HQ2.out⟩
                        case measure => rw [HMe.out, v1, v2]; simp [intOf]; omega
                      · have HZX : Hid (Z ++ X = ⟨l2.toArray⟩) := hZX
                        have HK : Hid (Mv b s k 2 m w w6) := mk
                        have HQ2 : Hid (iri s i = .bad m) := hQ2
                        obtain ⟨v0, v1, v2, v3, vf, vms, vle⟩ := mk.pn
                        clear hZX mk hQ2 r0 r1 r2 r3 rf
                        go_wp2_with fail
                        go_roundw
                        case rel => exact .inr ⟨k, m, l2, _, rfl, HZX.out, by rw [cat_size]; omega, HK.out, HQ2.out⟩
                        case measure => rw [HMe.out, v1, v2]; simp [intOf]; omega
                    · have h117 : bt s (q + 1) ≠ 117 := fun k => z117 ((hnz 117 (by omega) (by omega)).2 k)
                      have h85 : bt s (q + 1) ≠ 85 := fun k => z85 ((hnz 85 (by omega) (by omega)).2 k)
                      have HR : Hid (iri s i = .bad (q + 1)) := HBB.out _ (by rw [HO.out, esc_no h117 h85])
                      have HPO : Hid (∀ (n : Nat) (e : Ending) (w' : World), e = .returned (.tuple #[]) ∧ Mv b s (q + 1) 2 ((q + 1 : Nat) : Int) (w5.drewN n) w' → Pout2 b s a w (iri s i) (.returned (.string ⟨#[]⟩)) w') := fun n e w' k => by
                        rw [HR.out]
                        exact ⟨[], _, rfl, by simp, HM5.out.trans ((Mv.stayN HM5.out.pn _).trans k.2)⟩
                      clear hnz hz h117 h85 HR
                      have d117 : (z == 117) = false := by simp [z117]
                      have d85 : (z == 85) = false := by simp [z85]
                      have e117 : (z != 117) = true := by simp [z117]
                      have e85 : (z != 85) = true := by simp [z85]
                      refine HZ0.out.mono ?_
                      rintro e w7 ⟨rfl, n4, rfl⟩
                      go_wp2_with fail
                      refine (HZN.out _).mono ?_
                      rintro e w7 ⟨rfl, n5, rfl⟩
                      go_wp2_with fail
                      refine (fail_live _ _ _ _ _ _ _ (HM5.out.pn.drewN _)).mono ?_
                      intro e w6 k6
                      have hP := HPO.out _ e w6 k6
                      obtain ⟨rfl, m6⟩ := k6
                      have HP : Hid (Pout2 b s a w (iri s i) (.returned (.string ⟨#[]⟩)) w6) := hP
                      clear hP m6
                      go_wp2_with fail
                      go_ret
                      exact HP.out
                · have hb92 : bt s q ≠ 92 := fun k => y92 ((hnl 92 (by omega) (by omega)).2 k)
                  have d92 : (y == 92) = false := by simp [y92]
                  by_cases y128 : y < 128
                  · have HIn : Hid (∀ w2, Calls Tryz.prog 84 #[.int .i64 y] w2 fun e w' => e = .returned (.bool (inIri y)) ∧ w' = w2) := fun w2 => inIri_any w2 y
                    cases hin : inIri y with
                    | false =>
                      rw [hin] at HIn
                      have HR : Hid (iri s i = .bad q) := HBB.out _ (by
                        by_cases hq : q < s.size
                        · have hyb : y = bt s q := by rw [hy, nb_bt hq]
                          rw [hyb] at hin y128
                          refine one_bad hb92 (.inr ?_)
                          have hr := bt_range s q
                          rw [chr_ascii y128]
                          show inIri (((bt s q).toNat : Nat) : Int) = false
                          rw [Int.toNat_of_nonneg hr.1]
                          exact hin
                        · exact one_bad hb92 (.inl (chr_end hq)))
                      have HPO : Hid (∀ (n : Nat) (e : Ending) (w' : World), e = .returned (.tuple #[]) ∧ Mv b s q 2 (q : Int) (wr.drewN n) w' → Pout2 b s a w (iri s i) (.returned (.string ⟨#[]⟩)) w') := fun n e w' k => by
                        rw [HR.out]
                        exact ⟨[], _, rfl, by simp, HM.out.trans ((Mv.stayN HM.out.pn _).trans k.2)⟩
                      have d128 : decide (y < 128) = true := by simpa using y128
                      clear hb62 hb92 hnl hy hin HR
                      go_wp2_with fail
                      refine HX0.out.mono ?_
                      rintro e w4 ⟨rfl, n2, rfl⟩
                      go_wp2_with fail
                      refine (HX.out _).mono ?_
                      rintro e w5 ⟨rfl, n3, rfl⟩
                      go_wp2_with fail
                      refine (HIn.out _).mono ?_
                      rintro e w7 ⟨rfl, rfl⟩
                      go_wp2_with fail
                      refine (fail_live _ _ _ _ _ _ _ (HM.out.pn.drewN _)).mono ?_
                      intro e w6 k6
                      have hP := HPO.out _ e w6 k6
                      obtain ⟨rfl, m6⟩ := k6
                      have HP : Hid (Pout2 b s a w (iri s i) (.returned (.string ⟨#[]⟩)) w6) := hP
                      clear hP m6
                      go_wp2_with fail
                      go_ret
                      exact HP.out
                    | true =>
                      rw [hin] at HIn
                      have hq : q < s.size := by
                        apply Classical.byContradiction
                        intro k
                        rw [nb_end k] at hy
                        rw [hy] at hin
                        cases hin
                      have hyb : y = bt s q := by rw [hy, nb_bt hq]
                      have HO : Hid (one s q inIri inIri false = plainR s q) := one_plain hb92 (inIri_ok (.inl (by rw [← hyb]; exact hin)))
                      have HPL : Hid (∀ n, Calls Tryz.prog 85 #[.pointer (some ⟨b, 0, none⟩)] (wr.drewN n) (Pout b s a (wr.drewN n) (encR (plainR s q)))) := fun n => plain_any _ b q s a (HM.out.pn.drewN n) hq
                      have d128 : decide (y < 128) = true := by simpa using y128
                      clear hb62 hb92 hnl hy hin hyb
                      go_wp2_with fail
                      refine HX0.out.mono ?_
                      rintro e w4 ⟨rfl, n2, rfl⟩
                      go_wp2_with fail
                      refine (HX.out _).mono ?_
                      rintro e w5 ⟨rfl, n3, rfl⟩
                      go_wp2_with fail
                      refine (HIn.out _).mono ?_
                      rintro e w7 ⟨rfl, rfl⟩
                      go_wp2_with fail
                      refine (HPL.out _).mono ?_
                      intro e w6 ho
                      obtain ⟨X, rfl, hXs, hcase⟩ := HST.out _ HO.out _ _ _ (.inl (HM.out.trans (Mv.stayN HM.out.pn _))) ho
                      clear ho
                      rcases hcase with ⟨k, l2, hZX, hX4, hqk, hks, mk, hQ2⟩ | ⟨k, m, l2, hZX, mk, hQ2⟩
                      · have HZX : Hid (Z ++ X = ⟨l2.toArray⟩) := hZX
                        have HK : Hid (Mv b s k 0 a w w6) := mk
                        have HQ2 : Hid (iri s i = post62 ((body s 62 inIri inIri false k).pre l2)) := hQ2
                        obtain ⟨v0, v1, v2, v3, vf, vms, vle⟩ := mk.pn
                        clear hZX mk hQ2 r0 r1 r2 r3 rf
                        go_wp2_with fail
                        go_roundw
                        case rel => exact .inl ⟨k, l2, _, rfl, HZX.out, by rw [cat_size]; omega, hks, HK.out, HQ2.out⟩
                        case measure => rw [HMe.out, v1, v2]; simp [intOf]; omega
                      · have HZX : Hid (Z ++ X = ⟨l2.toArray⟩) := hZX
                        have HK : Hid (Mv b s k 2 m w w6) := mk
                        have HQ2 : Hid (iri s i = .bad m) := hQ2
                        obtain ⟨v0, v1, v2, v3, vf, vms, vle⟩ := mk.pn
                        clear hZX mk hQ2 r0 r1 r2 r3 rf
                        go_wp2_with fail
                        go_roundw
                        case rel => exact .inr ⟨k, m, l2, _, rfl, HZX.out, by rw [cat_size]; omega, HK.out, HQ2.out⟩
                        case measure => rw [HMe.out, v1, v2]; simp [intOf]; omega
                  · have hq : q < s.size := by
                      apply Classical.byContradiction
                      intro k
                      rw [nb_end k] at hy
                      omega
                    have hyb : y = bt s q := by rw [hy, nb_bt hq]
                    have HO : Hid (one s q inIri inIri false = plainR s q) := one_plain hb92 (inIri_ok (.inr (by rw [← hyb]; omega)))
                    have HPL : Hid (∀ n, Calls Tryz.prog 85 #[.pointer (some ⟨b, 0, none⟩)] (wr.drewN n) (Pout b s a (wr.drewN n) (encR (plainR s q)))) := fun n => plain_any _ b q s a (HM.out.pn.drewN n) hq
                    have d128 : decide (y < 128) = false := by simpa using y128
                    clear hb62 hb92 hnl hy hyb
                    go_wp2_with fail
                    refine HX0.out.mono ?_
                    rintro e w4 ⟨rfl, n2, rfl⟩
                    go_wp2_with fail
                    refine (HX.out _).mono ?_
                    rintro e w5 ⟨rfl, n3, rfl⟩
                    go_wp2_with fail
                    refine (HPL.out _).mono ?_
                    intro e w6 ho
                    obtain ⟨X, rfl, hXs, hcase⟩ := HST.out _ HO.out _ _ _ (.inl (HM.out.trans (Mv.stayN HM.out.pn _))) ho
                    clear ho
                    rcases hcase with ⟨k, l2, hZX, hX4, hqk, hks, mk, hQ2⟩ | ⟨k, m, l2, hZX, mk, hQ2⟩
                    · have HZX : Hid (Z ++ X = ⟨l2.toArray⟩) := hZX
                      have HK : Hid (Mv b s k 0 a w w6) := mk
                      have HQ2 : Hid (iri s i = post62 ((body s 62 inIri inIri false k).pre l2)) := hQ2
                      obtain ⟨v0, v1, v2, v3, vf, vms, vle⟩ := mk.pn
                      clear hZX mk hQ2 r0 r1 r2 r3 rf
                      go_wp2_with fail
                      go_roundw
                      case rel => exact .inl ⟨k, l2, _, rfl, HZX.out, by rw [cat_size]; omega, hks, HK.out, HQ2.out⟩
                      case measure => rw [HMe.out, v1, v2]; simp [intOf]; omega
                    · have HZX : Hid (Z ++ X = ⟨l2.toArray⟩) := hZX
                      have HK : Hid (Mv b s k 2 m w w6) := mk
                      have HQ2 : Hid (iri s i = .bad m) := hQ2
                      obtain ⟨v0, v1, v2, v3, vf, vms, vle⟩ := mk.pn
                      clear hZX mk hQ2 r0 r1 r2 r3 rf
                      go_wp2_with fail
                      go_roundw
                      case rel => exact .inr ⟨k, m, l2, _, rfl, HZX.out, by rw [cat_size]; omega, HK.out, HQ2.out⟩
                      case measure => rw [HMe.out, v1, v2]; simp [intOf]; omega
              · have HZ : Hid (Z = ⟨l.toArray⟩) := hZ
                have HM : Hid (Mv b s k 2 m w wr) := hM
                have HQ : Hid (iri s i = .bad m) := hQ
                have HND0 : Hid (Calls Tryz.prog 54 #[.pointer (some ⟨b, 0, none⟩), .int .i64 62] wr fun e w' => e = .returned (.tuple #[]) ∧ ∃ n', w' = wr.drewN n') := need_dead _ b k s 2 m 62 HM.out.pn (by omega) (by omega)
                obtain ⟨r0, r1, r2, r3, rf, rms, rle⟩ := hM.pn
                have HZ6 : Hid (Z ++ ⟨#[62]⟩ = ⟨(l ++ [62]).toArray⟩) := by unfold Hid; rw [HZ.out, show (⟨#[62]⟩ : ByteArray) = ⟨[62].toArray⟩ from rfl, cat_str]
                have HLen : Hid (l.length = Z.size) := by unfold Hid; rw [HZ.out, arr_size]
                clear hM hQ hZ
                go_wp2_with fail
                refine HND0.out.mono ?_
                rintro e w4 ⟨rfl, n2, rfl⟩
                go_wp2_with fail
                go_ret
                rw [HQ.out]
                exact ⟨l ++ [62], k, ret_str HZ6.out, by have := HLen.out; simp; omega, HM.out.trans (Mv.stayN HM.out.pn _)⟩
  · have HN1 : Hid (Calls Tryz.prog 54 #[.pointer (some ⟨b, 0, none⟩), .int .i64 60] w fun e w' => e = .returned (.tuple #[]) ∧ Mv b s i 2 i w w') := need_bad w b i s a 60 h (by omega) (by omega) c1
    have HR : Hid (iri s i = .bad i) := by unfold Hid iri; rw [if_pos c1]
    have HLt : Hid (∀ w2, Calls Tryz.prog 81 #[.int .i64 (-1)] w2 fun e w' => e = .returned (.bool false) ∧ w' = w2) := fun w2 => letter_any w2 (-1)
    clear h c1
    go_enter Tryz.func44, Tryz.ntmps44
    go_wp2_with fail
    refine HN1.out.mono ?_
    rintro e w2 ⟨rfl, m2⟩
    have HM : Hid (Mv b s i 2 i w w2) := m2
    have HX0 : Hid (Calls Tryz.prog 71 #[.pointer (some ⟨b, 0, none⟩)] w2 fun e w' => e = .returned (.int .i64 (-1)) ∧ ∃ n', w' = w2.drewN n') := by
      have := next_any w2 b i s 2 i m2.pn
      rw [nb_dead s i (by omega)] at this
      exact this
    obtain ⟨p0, p1, p2, p3, pf, pms, ple⟩ := m2.pn
    clear m2
    go_wp2_with fail
    refine HX0.out.mono ?_
    rintro e w3 ⟨rfl, n3, rfl⟩
    go_wp2_with fail
    refine (HLt.out _).mono ?_
    rintro e w4 ⟨rfl, rfl⟩
    go_wp2_with fail
    refine (fail_dead _ _ _ _ _ _ _ _ (HM.out.pn.drewN _) (by omega)).mono ?_
    rintro e w5 ⟨rfl, rfl⟩
    go_wp2_with fail
    go_ret
    rw [HR.out]
    exact ⟨[], _, rfl, by simp, HM.out.trans (Mv.stayN HM.out.pn _)⟩
end Ref
end Go.Proofs.YtnffjoipinhojaaGreatDoor
