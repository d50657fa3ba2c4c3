import Derived.Test.YtnffjoipinhojaaGreatDoorPj
set_option linter.unusedSimpArgs false
set_option linter.unusedVariables false
namespace Go.Proofs.YtnffjoipinhojaaGreatDoor
open Go.RowKit
namespace Ref

def pr (p : Nat) : Int → Bool := if p = 0 then letter else alnum
def partR (s : ByteArray) (p f : Nat) : R Unit := if run (pr p) s 8 f = 0 then .bad f else langTail s (f + run (pr p) s 8 f)
def lowR (s : ByteArray) (i : Nat) : R Unit → R (List UInt8)
  | .bad j => .bad j
  | .ok _ j => .ok (Lib.toLowerA (sub s i j)) j

theorem language_part (s : ByteArray) (i : Nat) : language s i = partR s 0 i := rfl
theorem langTail_part {s : ByteArray} {j p : Nat} (h : bt s j = 45) : langTail s j = partR s (p + 1) (j + 1) := by
  rw [langTail]
  simp only [h, dite_true]
  rfl
theorem langTail_stop {s : ByteArray} {j : Nat} (h : bt s j ≠ 45) : langTail s j = .ok () j := by
  rw [langTail]
  simp only [h, dite_false]

theorem sub_succ (s : ByteArray) (i g : Nat) (hi : i ≤ g) (hg : g < s.size) : sub s i (g + 1) = sub s i g ++ [s[g]] := by
  have hl : s.data.toList.length = s.size := by simp
  unfold sub
  rw [show g + 1 - i = (g - i) + 1 by omega, List.take_add_one]
  congr 1
  rw [List.getElem?_drop, show i + (g - i) = g by omega, List.getElem?_eq_getElem (by omega)]
  rfl

theorem low_succ (s : ByteArray) (i g : Nat) (hi : i ≤ g) (hg : g < s.size) : Lib.toLowerA (sub s i (g + 1)) = Lib.toLowerA (sub s i g) ++ [Lib.lowerB s[g]] := by
  rw [sub_succ s i g hi hg]
  simp [Lib.toLowerA]

theorem low_val (s : ByteArray) (g : Nat) (hg : g < s.size) : ((Lib.lowerB s[g]).toNat : Int) = if 65 ≤ bt s g ∧ bt s g ≤ 90 then bt s g + 32 else bt s g := by
  rw [bt_lt hg]
  have hx := s[g].toNat_lt
  unfold Lib.lowerB Lib.isUpperB
  by_cases h : 65 ≤ s[g] ∧ s[g] ≤ 90
  · have h1 := UInt8.le_iff_toNat_le.1 h.1
    have h2 := UInt8.le_iff_toNat_le.1 h.2
    have h1' : 65 ≤ s[g].toNat := h1
    have h2' : s[g].toNat ≤ 90 := h2
    rw [if_pos (by simp [h.1, h.2]), if_pos (by omega), UInt8.toNat_add, show (32 : UInt8).toNat = 32 from rfl]
    omega
  · have h' : ¬ (65 ≤ s[g].toNat ∧ s[g].toNat ≤ 90) := fun k => h ⟨UInt8.le_iff_toNat_le.2 k.1, UInt8.le_iff_toNat_le.2 k.2⟩
    rw [if_neg (by simpa using h), if_neg (by omega)]

set_option maxRecDepth 20000 in
set_option maxHeartbeats 4000000 in
theorem language_any (w : World) (b i : Nat) (s : ByteArray) (a : Int) (h : Pn w b s i 0 a) (hi : i ≤ s.size) :
    Calls Tryz.prog 43 #[.pointer (some ⟨b, 0, none⟩)] w (Pout b s a w (lowR s i (language s i))) := by
  have hms := h.ms
  have M0 : Hid (Mv b s i 0 a w w) := Mv.stayN h 0
  obtain ⟨c0, c1, c2, c3, fz, ms, le⟩ := h
  go_enter Tryz.func43, Tryz.ntmps43
  go_wp2_with fail
  go_loopw [3, 4] (fun t3 t4 wr => ∃ (f p : Nat) (Y : ByteArray), i ≤ f ∧ f ≤ s.size ∧ p ≤ f ∧ t3 = .string Y ∧ t4 = .int .i64 p ∧ Y = ⟨(Lib.toLowerA (sub s i f)).toArray⟩ ∧ Y.size = f - i ∧ Mv b s f 0 a w wr ∧ language s i = partR s p f) (fun t3 t4 wr => s.size - (intOf ((wr.cell? ⟨b, 1, none⟩).getD undef)).toNat)
  case atStart => exact ⟨i, 0, ⟨#[]⟩, by omega, hi, by omega, rfl, rfl, by simp [sub, Lib.toLowerA], by show 0 = _; omega, M0.out, language_part s i⟩
  case round =>
    obtain ⟨f, p, Y, hif, hfs, hpf, rfl, rfl, hY, hYs, hM, hL⟩ := hrel
    have HY : Hid (Y = ⟨(Lib.toLowerA (sub s i f)).toArray⟩) := hY
    have HM : Hid (Mv b s f 0 a w wr) := hM
    have HL : Hid (language s i = partR s p f) := hL
    obtain ⟨r0, r1, r2, r3, rf, rms, rle⟩ := hM.pn
    have HMe : Hid (intOf ((wr.cell? ⟨b, 1, none⟩).getD undef) = (f : Int)) := by unfold Hid; rw [r1]; rfl
    clear hM hL hY M0 c0 c1 c2 c3 fz
    go_wp2_with fail
    go_loopw [3] (fun t3 wq => ∃ (q : Nat) (Z : ByteArray), q ≤ 8 ∧ f + q ≤ s.size ∧ t3 = .string Z ∧ Z = ⟨(Lib.toLowerA (sub s i (f + q))).toArray⟩ ∧ Z.size = f + q - i ∧ Mv b s (f + q) 0 a w wq ∧ run (pr p) s 8 f = q + run (pr p) s (8 - q) (f + q)) (fun t3 wq => s.size - (intOf ((wq.cell? ⟨b, 1, none⟩).getD undef)).toNat)
    case atStart => exact ⟨0, Y, by omega, by omega, rfl, HY.out, hYs, HM.out, by simp⟩
    case round =>
      obtain ⟨q, Z, hq, hqs, rfl, hZ, hZs, hM2, hrun⟩ := hrel
      have HZ : Hid (Z = ⟨(Lib.toLowerA (sub s i (f + q))).toArray⟩) := hZ
      have HM2 : Hid (Mv b s (f + q) 0 a w wr) := hM2
      have HRn : Hid (run (pr p) s 8 f = q + run (pr p) s (8 - q) (f + q)) := hrun
      obtain ⟨y, hy⟩ : ∃ y, y = nb s (f + q) 0 := ⟨_, rfl⟩
      have HX : Hid (∀ n, Calls Tryz.prog 71 #[.pointer (some ⟨b, 0, none⟩)] (wr.drewN n) fun e w' => e = .returned (.int .i64 y) ∧ ∃ n', w' = (wr.drewN n).drewN n') := fun n => by
        have := next_any (wr.drewN n) b (f + q) s 0 a (HM2.out.pn.drewN n)
        rw [← hy] at this
        exact this
      have HX0 : Hid (Calls Tryz.prog 71 #[.pointer (some ⟨b, 0, none⟩)] wr fun e w' => e = .returned (.int .i64 y) ∧ ∃ n', w' = wr.drewN n') := by
        have := next_any wr b (f + q) s 0 a HM2.out.pn
        rw [← hy] at this
        exact this
      obtain ⟨v0, v1, v2, v3, vf, vms, vle⟩ := hM2.pn
      have HMq : Hid (intOf ((wr.cell? ⟨b, 1, none⟩).getD undef) = ((f + q : Nat) : Int)) := by unfold Hid; rw [v1]; rfl
      clear hM2 hZ hrun r0 r1 r2 r3 rf
      by_cases hlt : q < 8
      · obtain ⟨m, hm1⟩ : ∃ m, 8 - q = m + 1 := ⟨8 - q - 1, by omega⟩
        have hm2 : 8 - (q + 1) = m := by omega
        obtain ⟨al, ad⟩ := alnum_nb s (f + q)
        rw [← hy] at al ad
        cases hl : letter (bt s (f + q)) with
        | true =>
          rw [hl] at al
          have HLt : Hid (∀ w2, Calls Tryz.prog 81 #[.int .i64 y] w2 fun e w' => e = .returned (.bool true) ∧ w' = w2) := fun w2 => by have := letter_any w2 y; rw [al] at this; exact this
          have hly := letter_lt hl
          have hjs : f + q < s.size := bt_lt_size (by omega)
          have hyb : y = bt s (f + q) := by rw [hy, nb_bt hjs]
          rw [← hyb] at hly
          have HR2 : Hid (run (pr p) s 8 f = (q + 1) + run (pr p) s (8 - (q + 1)) (f + (q + 1))) := by
            unfold Hid
            rw [HRn.out, hm1, hm2, rz, if_pos (by unfold pr; split <;> simp [alnum, hl])]
            rw [show f + (q + 1) = f + q + 1 by omega]
            omega
          clear hm1 hm2 HRn ad
          by_cases hup : 65 ≤ y ∧ y ≤ 90
          · obtain ⟨u1, u2⟩ := hup
            have HLow : Hid (Lib.toLowerA (sub s i (f + (q + 1))) = Lib.toLowerA (sub s i (f + q)) ++ [Lib.lowerB s[f + q]]) := low_succ s i (f + q) (by omega) hjs
            have hlv := low_val s (f + q) hjs
            obtain ⟨x, hx⟩ : ∃ x, x = Lib.lowerB s[f + q] := ⟨_, rfl⟩
            rw [← hx] at HLow hlv
            have hxv : (x.toNat : Int) = y + 32 := by rw [hlv, ← hyb]; first | rw [if_pos (by omega)] | rw [if_neg (by omega)]
            have hcv : ∀ n : Nat, (convert 98 9 (.slice (some ⟨wr.heap.size, 0, none⟩) 1 1)).run Tryz.prog ((wr.drewN n).alloc (.cells #[.int .u8 (y + 32)] 5)) = .ok (.string ⟨#[x]⟩) ((wr.drewN n).alloc (.cells #[.int .u8 (y + 32)] 5)) := fun n => by
              have := conv (wr.drewN n) [x]
              simp only [List.map_cons, List.map_nil, List.length_cons, List.length_nil, hxv] at this
              exact this
            have hAp : Hid (∀ (n : Nat) C, Pn ((wr.drewN n).alloc C) b s (f + q) 0 a) := fun n C => (Mv.stay HM2.out.pn ((below_drewN (Below.refl _ _) n).alloc (Nat.le_refl _) C)).pn
            have hA1 := fun n C => (hAp.out n C).c1
            have hAf := fun n C => (hAp.out n C).fz
            have hmod : (y + 32) % 256 = y + 32 := by omega
            clear hlv hx hxv hyb hy
            clear hl al
            go_wp2_with fail
            refine HX0.out.mono ?_
            rintro e w4 ⟨rfl, n2, rfl⟩
            go_wp2_with fail
            refine (HLt.out _).mono ?_
            rintro e w5 ⟨rfl, rfl⟩
            go_wp2_with fail
            refine (HX.out (n2)).mono ?_
            rintro e w6 ⟨rfl, n3, rfl⟩
            go_wp2_with fail
            go_roundw
            case rel =>
              refine ⟨q + 1, _, by omega, by omega, rfl, ?_, ?_, HM2.out.trans ((Mv.stay HM2.out.pn ((below_drewN (Below.refl _ _) _).alloc (Nat.le_refl _) _)).trans (Mv.atI (Mv.stay HM2.out.pn ((below_drewN (Below.refl _ _) _).alloc (Nat.le_refl _) _)).pn _ (f + (q + 1)) (by omega) (by omega))), HR2.out⟩
              · rw [HZ.out, show (⟨#[x]⟩ : ByteArray) = ⟨[x].toArray⟩ from rfl, cat_str]; exact congrArg _ (congrArg _ HLow.out.symm)
              · rw [cat_size, hZs]; show f + q - i + 1 = _; omega
            case measure => rw [HMq.out, cellI (Mv.stay HM2.out.pn ((below_drewN (Below.refl _ _) _).alloc (Nat.le_refl _) _)).pn]; simp [intOf]; omega
          · have u1 : ¬ (65 ≤ y ∧ y ≤ 90) := hup
            have u2 : 97 ≤ y := by
              have hl2 := al
              simp [letter] at hl2
              omega
            have HLow : Hid (Lib.toLowerA (sub s i (f + (q + 1))) = Lib.toLowerA (sub s i (f + q)) ++ [Lib.lowerB s[f + q]]) := low_succ s i (f + q) (by omega) hjs
            have hlv := low_val s (f + q) hjs
            obtain ⟨x, hx⟩ : ∃ x, x = Lib.lowerB s[f + q] := ⟨_, rfl⟩
            rw [← hx] at HLow hlv
            have hxv : (x.toNat : Int) = y := by rw [hlv, ← hyb]; first | rw [if_pos (by omega)] | rw [if_neg (by omega)]
            have hcv : ∀ n : Nat, (convert 98 9 (.slice (some ⟨wr.heap.size, 0, none⟩) 1 1)).run Tryz.prog ((wr.drewN n).alloc (.cells #[.int .u8 (y)] 5)) = .ok (.string ⟨#[x]⟩) ((wr.drewN n).alloc (.cells #[.int .u8 (y)] 5)) := fun n => by
              have := conv (wr.drewN n) [x]
              simp only [List.map_cons, List.map_nil, List.length_cons, List.length_nil, hxv] at this
              exact this
            have hAp : Hid (∀ (n : Nat) C, Pn ((wr.drewN n).alloc C) b s (f + q) 0 a) := fun n C => (Mv.stay HM2.out.pn ((below_drewN (Below.refl _ _) n).alloc (Nat.le_refl _) C)).pn
            have hA1 := fun n C => (hAp.out n C).c1
            have hAf := fun n C => (hAp.out n C).fz
            have hmod : (y) % 256 = y := by omega
            clear hlv hx hxv hyb hy
            have u3 : ¬ y ≤ 90 := by omega
            have u4 : 65 ≤ y := by omega
            clear hl al hup u1
            go_wp2_with fail
            refine HX0.out.mono ?_
            rintro e w4 ⟨rfl, n2, rfl⟩
            go_wp2_with fail
            refine (HLt.out _).mono ?_
            rintro e w5 ⟨rfl, rfl⟩
            go_wp2_with fail
            refine (HX.out (n2)).mono ?_
            rintro e w6 ⟨rfl, n3, rfl⟩
            go_wp2_with fail
            go_roundw
            case rel =>
              refine ⟨q + 1, _, by omega, by omega, rfl, ?_, ?_, HM2.out.trans ((Mv.stay HM2.out.pn ((below_drewN (Below.refl _ _) _).alloc (Nat.le_refl _) _)).trans (Mv.atI (Mv.stay HM2.out.pn ((below_drewN (Below.refl _ _) _).alloc (Nat.le_refl _) _)).pn _ (f + (q + 1)) (by omega) (by omega))), HR2.out⟩
              · rw [HZ.out, show (⟨#[x]⟩ : ByteArray) = ⟨[x].toArray⟩ from rfl, cat_str]; exact congrArg _ (congrArg _ HLow.out.symm)
              · rw [cat_size, hZs]; show f + q - i + 1 = _; omega
            case measure => rw [HMq.out, cellI (Mv.stay HM2.out.pn ((below_drewN (Below.refl _ _) _).alloc (Nat.le_refl _) _)).pn]; simp [intOf]; omega
        | false =>
          rw [hl] at al
          have HLt : Hid (∀ w2, Calls Tryz.prog 81 #[.int .i64 y] w2 fun e w' => e = .returned (.bool false) ∧ w' = w2) := fun w2 => by have := letter_any w2 y; rw [al] at this; exact this
          by_cases hp : p = 0
          · have hp0 : ¬ 0 < p := by omega
            have HR2 : Hid (run (pr p) s 8 f = q) := by
              unfold Hid
              rw [HRn.out, hm1, rz, if_neg (by unfold pr; rw [if_pos hp, hl]; simp)]
              rfl
            have hyb : True := trivial
            clear hm1 hm2 al ad hl
            by_cases hq0 : q = 0
            · subst hq0
              have HR : Hid (lowR s i (language s i) = .bad f) := by unfold Hid; rw [HL.out]; unfold partR; rw [if_pos HR2.out]; rfl
              clear HRn hy hyb
              go_wp2_with fail
              refine HX0.out.mono ?_
              rintro e w4 ⟨rfl, n2, rfl⟩
              go_wp2_with fail
              refine (HLt.out _).mono ?_
              rintro e w5 ⟨rfl, rfl⟩
              go_wp2_with fail
              refine (fail_live _ _ _ _ _ _ _ (HM2.out.pn.drewN (n2))).mono ?_
              rintro e w7 ⟨rfl, m7⟩
              go_wp2_with fail
              go_ret
              rw [HR.out]
              exact ⟨[], _, rfl, by simp, HM2.out.trans ((Mv.stayN HM2.out.pn _).trans m7)⟩
            have HP : Hid (language s i = langTail s (f + q)) := by unfold Hid; rw [HL.out]; unfold partR; rw [HR2.out, if_neg hq0]
            by_cases hd : y = 45
            · have hbd : bt s (f + q) = 45 := (nb_live s (f + q) 45 (by omega) (by omega)).1 (by rw [← hy, hd])
              have hjs : f + q < s.size := bt_in hbd (by omega)
              have HP2 : Hid (language s i = partR s (p + 1) (f + q + 1)) := by unfold Hid; rw [HP.out, langTail_part hbd]
              have HLow : Hid (Lib.toLowerA (sub s i (f + q + 1)) = Lib.toLowerA (sub s i (f + q)) ++ [45]) := by
                unfold Hid
                rw [low_succ s i (f + q) (by omega) hjs]
                have := low_val s (f + q) hjs
                rw [hbd, if_neg (by omega)] at this
                rw [show Lib.lowerB s[f + q] = 45 from UInt8.toNat_inj.1 (by show _ = 45; omega)]
              clear HRn hy hyb hbd HP
              subst hd
              go_wp2_with fail
              refine HX0.out.mono ?_
              rintro e w4 ⟨rfl, n2, rfl⟩
              go_wp2_with fail
              refine (HLt.out _).mono ?_
              rintro e w5 ⟨rfl, rfl⟩
              go_wp2_with fail
              refine (HX.out (n2)).mono ?_
              rintro e w6 ⟨rfl, n5, rfl⟩
              go_wp2_with fail
              go_roundw
              case rel =>
                refine ⟨f + q + 1, p + 1, _, by omega, by omega, by omega, rfl, by go_num, ?_, ?_, HM2.out.trans ((Mv.stayN HM2.out.pn _).trans (Mv.atI (HM2.out.pn.drewN _) _ (f + q + 1) (by omega) (by omega))), HP2.out⟩
                · rw [HZ.out, show (⟨#[45]⟩ : ByteArray) = ⟨[45].toArray⟩ from rfl, cat_str]; exact congrArg _ (congrArg _ HLow.out.symm)
                · rw [cat_size, hZs]; show f + q - i + 1 = _; omega
              case measure => rw [HMe.out, cellI (HM2.out.pn.drewN _)]; simp [intOf]; omega
            · have hbd : bt s (f + q) ≠ 45 := fun k => hd (by rw [hy]; exact (nb_live s (f + q) 45 (by omega) (by omega)).2 k)
              have HR : Hid (lowR s i (language s i) = .ok (Lib.toLowerA (sub s i (f + q))) (f + q)) := by unfold Hid; rw [HP.out, langTail_stop hbd]; rfl
              clear HRn hy hyb hbd HP
              go_wp2_with fail
              refine HX0.out.mono ?_
              rintro e w4 ⟨rfl, n2, rfl⟩
              go_wp2_with fail
              refine (HLt.out _).mono ?_
              rintro e w5 ⟨rfl, rfl⟩
              go_wp2_with fail
              refine (HX.out (n2)).mono ?_
              rintro e w6 ⟨rfl, n5, rfl⟩
              go_wp2_with fail
              go_ret
              rw [HR.out]
              exact ⟨ret_str HZ.out, HM2.out.trans (Mv.stayN HM2.out.pn _)⟩
          · have hp0 : 0 < p := by omega
            cases hg : digit (bt s (f + q)) with
            | true =>
              rw [hg] at ad
              have HDt : Hid (∀ w2, Calls Tryz.prog 82 #[.int .i64 y] w2 fun e w' => e = .returned (.bool true) ∧ w' = w2) := fun w2 => by have := digit_any w2 y; rw [ad] at this; exact this
              have hjs : f + q < s.size := bt_lt_size (by simp [digit] at hg; omega)
              have hyb : y = bt s (f + q) := by rw [hy, nb_bt hjs]
              have hly : 48 ≤ y ∧ y ≤ 57 := by rw [hyb]; simpa [digit] using hg
              obtain ⟨u1, u2⟩ := hly
              have HR2 : Hid (run (pr p) s 8 f = (q + 1) + run (pr p) s (8 - (q + 1)) (f + (q + 1))) := by
                unfold Hid
                rw [HRn.out, hm1, hm2, rz, if_pos (by unfold pr; rw [if_neg hp]; simp [alnum, hg])]
                rw [show f + (q + 1) = f + q + 1 by omega]
                omega
              clear hm1 hm2 HRn al ad
              have HLow : Hid (Lib.toLowerA (sub s i (f + (q + 1))) = Lib.toLowerA (sub s i (f + q)) ++ [Lib.lowerB s[f + q]]) := low_succ s i (f + q) (by omega) hjs
              have hlv := low_val s (f + q) hjs
              obtain ⟨x, hx⟩ : ∃ x, x = Lib.lowerB s[f + q] := ⟨_, rfl⟩
              rw [← hx] at HLow hlv
              have hxv : (x.toNat : Int) = y := by rw [hlv, ← hyb]; first | rw [if_pos (by omega)] | rw [if_neg (by omega)]
              have hcv : ∀ n : Nat, (convert 98 9 (.slice (some ⟨wr.heap.size, 0, none⟩) 1 1)).run Tryz.prog ((wr.drewN n).alloc (.cells #[.int .u8 (y)] 5)) = .ok (.string ⟨#[x]⟩) ((wr.drewN n).alloc (.cells #[.int .u8 (y)] 5)) := fun n => by
                have := conv (wr.drewN n) [x]
                simp only [List.map_cons, List.map_nil, List.length_cons, List.length_nil, hxv] at this
                exact this
              have hAp : Hid (∀ (n : Nat) C, Pn ((wr.drewN n).alloc C) b s (f + q) 0 a) := fun n C => (Mv.stay HM2.out.pn ((below_drewN (Below.refl _ _) n).alloc (Nat.le_refl _) C)).pn
              have hA1 := fun n C => (hAp.out n C).c1
              have hAf := fun n C => (hAp.out n C).fz
              have hmod : (y) % 256 = y := by omega
              clear hlv hx hxv hyb hy
              have u3 : ¬ 65 ≤ y := by omega
              clear hl hg
              go_wp2_with fail
              refine HX0.out.mono ?_
              rintro e w4 ⟨rfl, n2, rfl⟩
              go_wp2_with fail
              refine (HLt.out _).mono ?_
              rintro e w5 ⟨rfl, rfl⟩
              go_wp2_with fail
              refine (HX.out (n2)).mono ?_
              rintro e w6 ⟨rfl, n3, rfl⟩
              go_wp2_with fail
              refine (HDt.out _).mono ?_
              rintro e w5 ⟨rfl, rfl⟩
              go_wp2_with fail
              refine (HX.out (n2 + n3)).mono ?_
              rintro e w6 ⟨rfl, n4, rfl⟩
              go_wp2_with fail
              go_roundw
              case rel =>
                refine ⟨q + 1, _, by omega, by omega, rfl, ?_, ?_, HM2.out.trans ((Mv.stay HM2.out.pn ((below_drewN (Below.refl _ _) _).alloc (Nat.le_refl _) _)).trans (Mv.atI (Mv.stay HM2.out.pn ((below_drewN (Below.refl _ _) _).alloc (Nat.le_refl _) _)).pn _ (f + (q + 1)) (by omega) (by omega))), HR2.out⟩
                · rw [HZ.out, show (⟨#[x]⟩ : ByteArray) = ⟨[x].toArray⟩ from rfl, cat_str]; exact congrArg _ (congrArg _ HLow.out.symm)
                · rw [cat_size, hZs]; show f + q - i + 1 = _; omega
              case measure => rw [HMq.out, cellI (Mv.stay HM2.out.pn ((below_drewN (Below.refl _ _) _).alloc (Nat.le_refl _) _)).pn]; simp [intOf]; omega
            | false =>
              rw [hg] at ad
              have HDt : Hid (∀ w2, Calls Tryz.prog 82 #[.int .i64 y] w2 fun e w' => e = .returned (.bool false) ∧ w' = w2) := fun w2 => by have := digit_any w2 y; rw [ad] at this; exact this
              have HR2 : Hid (run (pr p) s 8 f = q) := by
                unfold Hid
                rw [HRn.out, hm1, rz, if_neg (by unfold pr; rw [if_neg hp]; simp [alnum, hg, hl])]
                rfl
              have hyb : True := trivial
              clear hm1 hm2 al ad hl hg
              by_cases hq0 : q = 0
              · subst hq0
                have HR : Hid (lowR s i (language s i) = .bad f) := by unfold Hid; rw [HL.out]; unfold partR; rw [if_pos HR2.out]; rfl
                clear HRn hy hyb
                go_wp2_with fail
                refine HX0.out.mono ?_
                rintro e w4 ⟨rfl, n2, rfl⟩
                go_wp2_with fail
                refine (HLt.out _).mono ?_
                rintro e w5 ⟨rfl, rfl⟩
                go_wp2_with fail
                refine (HX.out (n2)).mono ?_
                rintro e w6 ⟨rfl, n3, rfl⟩
                go_wp2_with fail
                refine (HDt.out _).mono ?_
                rintro e w5 ⟨rfl, rfl⟩
                go_wp2_with fail
                refine (fail_live _ _ _ _ _ _ _ (HM2.out.pn.drewN (n2 + n3))).mono ?_
                rintro e w7 ⟨rfl, m7⟩
                go_wp2_with fail
                go_ret
                rw [HR.out]
                exact ⟨[], _, rfl, by simp, HM2.out.trans ((Mv.stayN HM2.out.pn _).trans m7)⟩
              have HP : Hid (language s i = langTail s (f + q)) := by unfold Hid; rw [HL.out]; unfold partR; rw [HR2.out, if_neg hq0]
              by_cases hd : y = 45
              · have hbd : bt s (f + q) = 45 := (nb_live s (f + q) 45 (by omega) (by omega)).1 (by rw [← hy, hd])
                have hjs : f + q < s.size := bt_in hbd (by omega)
                have HP2 : Hid (language s i = partR s (p + 1) (f + q + 1)) := by unfold Hid; rw [HP.out, langTail_part hbd]
                have HLow : Hid (Lib.toLowerA (sub s i (f + q + 1)) = Lib.toLowerA (sub s i (f + q)) ++ [45]) := by
                  unfold Hid
                  rw [low_succ s i (f + q) (by omega) hjs]
                  have := low_val s (f + q) hjs
                  rw [hbd, if_neg (by omega)] at this
                  rw [show Lib.lowerB s[f + q] = 45 from UInt8.toNat_inj.1 (by show _ = 45; omega)]
                clear HRn hy hyb hbd HP
                subst hd
                go_wp2_with fail
                refine HX0.out.mono ?_
                rintro e w4 ⟨rfl, n2, rfl⟩
                go_wp2_with fail
                refine (HLt.out _).mono ?_
                rintro e w5 ⟨rfl, rfl⟩
                go_wp2_with fail
                refine (HX.out (n2)).mono ?_
                rintro e w6 ⟨rfl, n3, rfl⟩
                go_wp2_with fail
                refine (HDt.out _).mono ?_
                rintro e w5 ⟨rfl, rfl⟩
                go_wp2_with fail
                refine (HX.out (n2 + n3)).mono ?_
                rintro e w6 ⟨rfl, n5, rfl⟩
                go_wp2_with fail
                go_roundw
                case rel =>
                  refine ⟨f + q + 1, p + 1, _, by omega, by omega, by omega, rfl, by go_num, ?_, ?_, HM2.out.trans ((Mv.stayN HM2.out.pn _).trans (Mv.atI (HM2.out.pn.drewN _) _ (f + q + 1) (by omega) (by omega))), HP2.out⟩
                  · rw [HZ.out, show (⟨#[45]⟩ : ByteArray) = ⟨[45].toArray⟩ from rfl, cat_str]; exact congrArg _ (congrArg _ HLow.out.symm)
                  · rw [cat_size, hZs]; show f + q - i + 1 = _; omega
                case measure => rw [HMe.out, cellI (HM2.out.pn.drewN _)]; simp [intOf]; omega
              · have hbd : bt s (f + q) ≠ 45 := fun k => hd (by rw [hy]; exact (nb_live s (f + q) 45 (by omega) (by omega)).2 k)
                have HR : Hid (lowR s i (language s i) = .ok (Lib.toLowerA (sub s i (f + q))) (f + q)) := by unfold Hid; rw [HP.out, langTail_stop hbd]; rfl
                clear HRn hy hyb hbd HP
                go_wp2_with fail
                refine HX0.out.mono ?_
                rintro e w4 ⟨rfl, n2, rfl⟩
                go_wp2_with fail
                refine (HLt.out _).mono ?_
                rintro e w5 ⟨rfl, rfl⟩
                go_wp2_with fail
                refine (HX.out (n2)).mono ?_
                rintro e w6 ⟨rfl, n3, rfl⟩
                go_wp2_with fail
                refine (HDt.out _).mono ?_
                rintro e w5 ⟨rfl, rfl⟩
                go_wp2_with fail
                refine (HX.out (n2 + n3)).mono ?_
                rintro e w6 ⟨rfl, n5, rfl⟩
                go_wp2_with fail
                go_ret
                rw [HR.out]
                exact ⟨ret_str HZ.out, HM2.out.trans (Mv.stayN HM2.out.pn _)⟩
      · have hqe : q = 8 := by omega
        have HR2 : Hid (run (pr p) s 8 f = q) := by unfold Hid; rw [HRn.out, hqe]; rfl
        have hyb : True := trivial
        have hq0 : ¬ q = 0 := by omega
        have HP : Hid (language s i = langTail s (f + q)) := by unfold Hid; rw [HL.out]; unfold partR; rw [HR2.out, if_neg hq0]
        by_cases hd : y = 45
        · have hbd : bt s (f + q) = 45 := (nb_live s (f + q) 45 (by omega) (by omega)).1 (by rw [← hy, hd])
          have hjs : f + q < s.size := bt_in hbd (by omega)
          have HP2 : Hid (language s i = partR s (p + 1) (f + q + 1)) := by unfold Hid; rw [HP.out, langTail_part hbd]
          have HLow : Hid (Lib.toLowerA (sub s i (f + q + 1)) = Lib.toLowerA (sub s i (f + q)) ++ [45]) := by
            unfold Hid
            rw [low_succ s i (f + q) (by omega) hjs]
            have := low_val s (f + q) hjs
            rw [hbd, if_neg (by omega)] at this
            rw [show Lib.lowerB s[f + q] = 45 from UInt8.toNat_inj.1 (by show _ = 45; omega)]
          clear HRn hy hyb hbd HP
          subst hd
          go_wp2_with fail
          refine HX0.out.mono ?_
          rintro e w6 ⟨rfl, n5, rfl⟩
          go_wp2_with fail
          go_roundw
          case rel =>
            refine ⟨f + q + 1, p + 1, _, by omega, by omega, by omega, rfl, by go_num, ?_, ?_, HM2.out.trans ((Mv.stayN HM2.out.pn _).trans (Mv.atI (HM2.out.pn.drewN _) _ (f + q + 1) (by omega) (by omega))), HP2.out⟩
            · rw [HZ.out, show (⟨#[45]⟩ : ByteArray) = ⟨[45].toArray⟩ from rfl, cat_str]; exact congrArg _ (congrArg _ HLow.out.symm)
            · rw [cat_size, hZs]; show f + q - i + 1 = _; omega
          case measure => rw [HMe.out, cellI (HM2.out.pn.drewN _)]; simp [intOf]; omega
        · have hbd : bt s (f + q) ≠ 45 := fun k => hd (by rw [hy]; exact (nb_live s (f + q) 45 (by omega) (by omega)).2 k)
          have HR : Hid (lowR s i (language s i) = .ok (Lib.toLowerA (sub s i (f + q))) (f + q)) := by unfold Hid; rw [HP.out, langTail_stop hbd]; rfl
          clear HRn hy hyb hbd HP
          go_wp2_with fail
          refine HX0.out.mono ?_
          rintro e w6 ⟨rfl, n5, rfl⟩
          go_wp2_with fail
          go_ret
          rw [HR.out]
          exact ⟨ret_str HZ.out, HM2.out.trans (Mv.stayN HM2.out.pn _)⟩
end Ref
end Go.Proofs.YtnffjoipinhojaaGreatDoor
