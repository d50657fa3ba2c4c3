import Derived.Test.YtnffjoipinhojaaGreatDoorPb
import Derived.Test.YtnffjoipinhojaaGreatDoorPe
import Derived.Test.YtnffjoipinhojaaGreatDoorSa
set_option linter.unusedSimpArgs false
set_option linter.unusedVariables false
namespace Go.Proofs.YtnffjoipinhojaaGreatDoor
open Go.RowKit
namespace Ref

/-- What a Pen's reading comes to. -/
def Pout (b : Nat) (s : ByteArray) (a : Int) (w : World) (r : R (List UInt8)) (e : Ending) (w' : World) : Prop :=
  match r with
  | .ok l j => e = .returned (str l) ∧ Mv b s j 0 a w w'
  | .bad j => ∃ l k, e = .returned (str l) ∧ l.length ≤ 8 * s.size + 8 ∧ Mv b s k 2 j w w'

def encR : R Nat → R (List UInt8)
  | .ok c j => .ok (Lib.encodeRune c) j
  | .bad j => .bad j

theorem nb_bt {s : ByteArray} {i : Nat} (h : i < s.size) : nb s i 0 = bt s i := by unfold nb; rw [if_neg (by simp), if_pos h]
theorem nb_end {s : ByteArray} {i : Nat} (h : ¬ i < s.size) : nb s i 0 = -1 := by unfold nb; rw [if_neg (by simp), if_neg h]
theorem nb_range (s : ByteArray) (i : Nat) : -1 ≤ nb s i 0 ∧ nb s i 0 ≤ 256 := by
  by_cases h : i < s.size
  · rw [nb_bt h]; have := bt_range s i; omega
  · rw [nb_end h]; omega
theorem hexv_nb (s : ByteArray) (i : Nat) : hexv (nb s i 0) = hexv (bt s i) := by
  by_cases h : i < s.size
  · rw [nb_bt h]
  · rw [nb_end h, bt_end (by omega)]; rfl

theorem inIri_high {c : Int} (h : 128 ≤ c) : inIri c = true := by simp [inIri, control, badIri]; omega

theorem enc_two {c : Nat} (h : 128 ≤ c) : (Lib.encodeRune c).length ≠ 1 := by
  unfold Lib.encodeRune
  rw [List.length_map]
  unfold Lib.encodeRuneZ
  rw [if_neg (by omega)]
  repeat' split
  all_goals simp

set_option maxHeartbeats 2000000 in
theorem number_any (w : World) (b i j k : Nat) (s : ByteArray) (a : Int) (f : Bool) (has : Int → Bool) (hf : has = if f then inIri else allc) (h : Pn w b s j 0 a) (hk : bt s j = 117 ∧ k = 4 ∨ bt s j = 85 ∧ k = 8) :
    Calls Tryz.prog 83 #[.pointer (some ⟨b, 0, none⟩), .int .i64 i, .bool f] w (Pout b s a w (encR (num s i (j + 1) k has))) := by
  have HF : Hid (has = if f then inIri else allc) := hf
  clear hf
  have H : Hid (Pn w b s j 0 a) := h
  have hjs : j < s.size := bt_lt_size (by omega)
  have hms := h.ms
  have hcell := h
  obtain ⟨c0, c1, c2, c3, fz, ms, le⟩ := hcell
  have HM1 : Hid (∀ n, Mv b s (j + 1) 0 a w ((w.drewN n).setCell ⟨b, 1, none⟩ (.int .i64 ((j + 1 : Nat) : Int)))) := fun n => (Mv.stayN h n).trans (Mv.at' (h.drewN n) (j + 1) (by omega))
  have hbj := bt_lt hjs
  have hk8 : k ≤ 8 := by omega
  clear h
  rcases hk with ⟨hb, rfl⟩ | ⟨hb, rfl⟩
  · have hu : (s[j].toNat : Int) = 117 := by rw [← hbj]; exact hb
    clear hb hbj
    go_enter Tryz.func83, Tryz.ntmps83
    go_wp2_with fail
    go_quiet (fail)
    go_wp2_with fail
    have M1 := HM1.out nq
    go_loopw [8, 9] (fun t8 t9 wr => ∃ q acc : Nat, q ≤ 4 ∧ t9 = .int .i64 q ∧ t8 = .int .i64 acc ∧ acc < 16 ^ q ∧ Mv b s (j + 1 + q) 0 a w wr ∧ j + 1 + q ≤ s.size ∧ hexs s 4 (j + 1) 0 = hexs s (4 - q) (j + 1 + q) acc) (fun _ t9 _ => 4 - (intOf t9).toNat)
    case atStart => exact ⟨0, 0, by omega, rfl, rfl, by simp, M1, by omega, rfl⟩
    case round =>
      obtain ⟨q, acc, hq, rfl, rfl, hacc, hM, hqs, hh⟩ := hrel
      have HH : Hid (hexs s 4 (j + 1) 0 = hexs s (4 - q) (j + 1 + q) acc) := hh
      have HM : Hid (Mv b s (j + 1 + q) 0 a w wr) := hM
      have hN := next_any wr b (j + 1 + q) s 0 a hM.pn
      clear hh
      by_cases hlt : q < 4
      · have hpow : (16 : Nat) ^ q ≤ 16 ^ 7 := Nat.pow_le_pow_right (by decide) (by omega)
        have hacc2 : acc < 268435456 := by omega
        have HACC : Hid (acc < 16 ^ q) := hacc
        obtain ⟨y, hy⟩ : ∃ y, y = nb s (j + 1 + q) 0 := ⟨_, rfl⟩
        have hyr := nb_range s (j + 1 + q)
        rw [← hy] at hN hyr
        have hX : ∀ w2, Calls Tryz.prog 146 #[.int .i64 y] w2 fun e w' => e = .returned (.int .i64 (hexv y)) ∧ w' = w2 := fun w2 => hex_any w2 y hyr.1 hyr.2
        have hyb : hexv y = hexv (bt s (j + 1 + q)) := by rw [hy, hexv_nb]
        obtain ⟨m, hm1⟩ : ∃ m, 4 - q = m + 1 := ⟨4 - q - 1, by omega⟩
        have hm2 : 4 - (q + 1) = m := by omega
        have hcc := hM.pn
        obtain ⟨p0, p1, p2, p3, pf, pms, ple⟩ := hcc
        clear hpow hacc
        by_cases hx : hexv (bt s (j + 1 + q)) < 0
        · have HR : Hid (num s i (j + 1) 4 has = .bad (j + 1 + q)) := by
            unfold Hid num
            rw [HH.out, hm1]
            simp only [hexs, if_pos hx]
          rw [hyb] at hX
          obtain ⟨v, hv⟩ : ∃ v, v = hexv (bt s (j + 1 + q)) := ⟨_, rfl⟩
          rw [← hv] at hX hx
          have HX : Hid (∀ w2, Calls Tryz.prog 146 #[.int .i64 y] w2 fun e w' => e = .returned (.int .i64 v) ∧ w' = w2) := hX
          have HN : Hid (Calls Tryz.prog 71 #[.pointer (some ⟨b, 0, none⟩)] wr fun e w' => e = .returned (.int .i64 y) ∧ ∃ n, w' = wr.drewN n) := hN
          clear hX hN hv hy hyb hM hm1 hm2 hyr c0 c1 c2 c3 fz M1
          go_wp2_with fail
          refine HN.out.mono ?_
          rintro e w2 ⟨rfl, n2, rfl⟩
          go_wp2_with fail
          refine (HX.out _).mono ?_
          rintro e w3 ⟨rfl, rfl⟩
          go_wp2_with fail
          refine (fail_live _ _ _ _ _ _ _ (HM.out.pn.drewN n2)).mono ?_
          rintro e w4 ⟨rfl, hM4⟩
          go_wp2_with fail
          go_ret
          rw [HR.out]
          exact ⟨[], _, rfl, by simp, HM.out.trans ((Mv.stayN HM.out.pn n2).trans hM4)⟩
        · have hl := hexv_lt hx
          have hjs2 : j + 1 + q < s.size := bt_lt_size (by omega)
          obtain ⟨d, hd⟩ : ∃ d : Nat, hexv (bt s (j + 1 + q)) = (d : Int) := ⟨(hexv (bt s (j + 1 + q))).toNat, by omega⟩
          have HN2 : Hid (hexs s 4 (j + 1) 0 = hexs s (4 - (q + 1)) (j + 1 + (q + 1)) (16 * acc + d)) := by
            unfold Hid
            rw [HH.out, hm1, hm2]
            simp only [hexs, if_neg hx]
            rw [hd]
            rfl
          rw [hyb, hd] at hX
          have hd15 : d ≤ 15 := by omega
          have HX : Hid (∀ w2, Calls Tryz.prog 146 #[.int .i64 y] w2 fun e w' => e = .returned (.int .i64 (d : Int)) ∧ w' = w2) := hX
          have HN : Hid (Calls Tryz.prog 71 #[.pointer (some ⟨b, 0, none⟩)] wr fun e w' => e = .returned (.int .i64 y) ∧ ∃ n, w' = wr.drewN n) := hN
          clear hX hN hy hyb hM hm1 hm2 hyr hx hl hd c0 c1 c2 c3 fz M1
          go_wp2_with fail
          refine HN.out.mono ?_
          rintro e w2 ⟨rfl, n2, rfl⟩
          go_wp2_with fail
          refine (HX.out _).mono ?_
          rintro e w3 ⟨rfl, rfl⟩
          go_wp2_with fail
          go_roundw
          case rel =>
            refine ⟨q + 1, 16 * acc + d, by omega, by go_num, by go_num, ?_, HM.out.trans ((Mv.stayN HM.out.pn n2).trans (Mv.at' (HM.out.pn.drewN n2) (j + 1 + (q + 1)) (by omega))), by omega, HN2.out⟩
            have := HACC.out
            rw [Nat.pow_succ]
            omega
          case measure => simp [intOf]; omega
      · have hqk : q = 4 := by omega
        subst hqk
        have hacc2 : acc < 4294967296 := by have : (16 : Nat) ^ 4 ≤ 16 ^ 8 := Nat.pow_le_pow_right (by decide) (by omega); omega
        have HNm : Hid (num s i (j + 1) 4 has = if Lib.validRune acc && has acc then .ok acc (j + 1 + 4) else .bad i) := by
          unfold Hid num
          rw [HH.out]
          simp only [Nat.sub_self, hexs]
        have hE := encoded_any wr acc hacc2
        unfold encS at hE
        have hcc := hM.pn
        obtain ⟨p0, p1, p2, p3, pf, pms, ple⟩ := hcc
        clear hacc hN c0 c1 c2 c3 fz M1
        cases hv : Lib.validRune (acc : Int) with
        | false =>
          rw [hv] at hE
          simp only [Bool.false_eq_true, if_false] at hE
          have HR : Hid (num s i (j + 1) 4 has = .bad i) := by unfold Hid; rw [HNm.out, hv]; simp
          clear hM hv
          go_wp2_with fail
          refine hE.mono ?_
          rintro e w2 ⟨rfl, hB2⟩
          have M2 := HM.out.trans (Mv.stay HM.out.pn hB2)
          go_wp2_with fail
          refine (fail_live _ _ _ _ _ _ _ M2.pn).mono ?_
          rintro e w3 ⟨rfl, hM3⟩
          go_wp2_with fail
          go_ret
          rw [HR.out]
          exact ⟨[], _, rfl, by simp, M2.trans hM3⟩
        | true =>
          rw [hv] at hE
          simp only [if_true] at hE
          have hr : acc ≤ 1114111 := by simp [Lib.validRune] at hv; omega
          obtain ⟨E, hEd⟩ : ∃ E : ByteArray, E = ⟨(Lib.encodeRune acc).toArray⟩ := ⟨_, rfl⟩
          have hE1 : E.toList.isEmpty = false := by
            have := enc_pos acc
            rw [ByteArray.toList_eq, hEd]
            show (Lib.encodeRune acc).isEmpty = false
            cases hl : Lib.encodeRune acc with
            | nil => rw [hl] at this; simp at this
            | cons => rfl
          have hE2 : E.size = (Lib.encodeRune acc).length := by rw [hEd]; show (Lib.encodeRune acc).toArray.size = _; simp
          have HE : Hid (Calls Tryz.prog 147 #[.int .i64 acc] wr fun e w' => e = .returned (.string E) ∧ Below wr.heap.size wr w') := by rw [hEd]; exact hE
          have HED : Hid (E = ⟨(Lib.encodeRune acc).toArray⟩) := hEd
          cases f with
          | false =>
            have HR : Hid (num s i (j + 1) 4 has = .ok acc (j + 1 + 4)) := by unfold Hid; rw [HNm.out, hv, HF.out]; simp [allc]
            clear hM hv hE hEd hE2
            go_wp2_with fail
            refine HE.out.mono ?_
            rintro e w2 ⟨rfl, hB2⟩
            have M2 := HM.out.trans (Mv.stay HM.out.pn hB2)
            go_wp2_with fail
            go_ret
            rw [HR.out]
            exact ⟨by rw [HED.out]; rfl, M2⟩
          | true =>
            have hI : ∀ w2, Calls Tryz.prog 84 #[.int .i64 acc] w2 fun e w' => e = .returned (.bool (inIri acc)) ∧ w' = w2 := fun w2 => inIri_any w2 acc
            by_cases h128 : acc < 128
            · have hs1 : E.size = 1 := by rw [hE2, enc_low (by omega)]; rfl
              cases hii : inIri acc with
              | true =>
                rw [hii] at hI
                have HR : Hid (num s i (j + 1) 4 has = .ok acc (j + 1 + 4)) := by unfold Hid; rw [HNm.out, hv, HF.out]; simp [hii]
                clear hM hv hE hEd hE2 hii
                go_wp2_with fail
                refine HE.out.mono ?_
                rintro e w2 ⟨rfl, hB2⟩
                have M2 := HM.out.trans (Mv.stay HM.out.pn hB2)
                go_wp2_with fail
                refine (hI _).mono ?_
                rintro e w3 ⟨rfl, rfl⟩
                go_wp2_with fail
                go_ret
                rw [HR.out]
                exact ⟨by rw [HED.out]; rfl, M2⟩
              | false =>
                rw [hii] at hI
                have HR : Hid (num s i (j + 1) 4 has = .bad i) := by unfold Hid; rw [HNm.out, hv, HF.out]; simp [hii]
                clear hM hv hE hEd hE2 hii
                go_wp2_with fail
                refine HE.out.mono ?_
                rintro e w2 ⟨rfl, hB2⟩
                have M2 := HM.out.trans (Mv.stay HM.out.pn hB2)
                go_wp2_with fail
                refine (hI _).mono ?_
                rintro e w3 ⟨rfl, rfl⟩
                go_wp2_with fail
                refine (fail_live _ _ _ _ _ _ _ M2.pn).mono ?_
                rintro e w4 ⟨rfl, hM4⟩
                go_wp2_with fail
                go_ret
                rw [HR.out]
                exact ⟨[], _, rfl, by simp, M2.trans hM4⟩
            · have hs1 : ¬ (E.size = 1) := by rw [hE2]; exact enc_two (by omega)
              have hii : inIri acc = true := inIri_high (by omega)
              have HR : Hid (num s i (j + 1) 4 has = .ok acc (j + 1 + 4)) := by unfold Hid; rw [HNm.out, hv, HF.out]; simp [hii]
              clear hM hv hE hEd hE2 hii
              go_wp2_with fail
              refine HE.out.mono ?_
              rintro e w2 ⟨rfl, hB2⟩
              have M2 := HM.out.trans (Mv.stay HM.out.pn hB2)
              go_wp2_with fail
              go_ret
              rw [HR.out]
              exact ⟨by rw [HED.out]; rfl, M2⟩
  · have hu : (s[j].toNat : Int) = 85 := by rw [← hbj]; exact hb
    clear hb hbj
    go_enter Tryz.func83, Tryz.ntmps83
    go_wp2_with fail
    go_quiet (fail)
    go_wp2_with fail
    have M1 := HM1.out nq
    go_loopw [8, 9] (fun t8 t9 wr => ∃ q acc : Nat, q ≤ 8 ∧ t9 = .int .i64 q ∧ t8 = .int .i64 acc ∧ acc < 16 ^ q ∧ Mv b s (j + 1 + q) 0 a w wr ∧ j + 1 + q ≤ s.size ∧ hexs s 8 (j + 1) 0 = hexs s (8 - q) (j + 1 + q) acc) (fun _ t9 _ => 8 - (intOf t9).toNat)
    case atStart => exact ⟨0, 0, by omega, rfl, rfl, by simp, M1, by omega, rfl⟩
    case round =>
      obtain ⟨q, acc, hq, rfl, rfl, hacc, hM, hqs, hh⟩ := hrel
      have HH : Hid (hexs s 8 (j + 1) 0 = hexs s (8 - q) (j + 1 + q) acc) := hh
      have HM : Hid (Mv b s (j + 1 + q) 0 a w wr) := hM
      have hN := next_any wr b (j + 1 + q) s 0 a hM.pn
      clear hh
      by_cases hlt : q < 8
      · have hpow : (16 : Nat) ^ q ≤ 16 ^ 7 := Nat.pow_le_pow_right (by decide) (by omega)
        have hacc2 : acc < 268435456 := by omega
        have HACC : Hid (acc < 16 ^ q) := hacc
        obtain ⟨y, hy⟩ : ∃ y, y = nb s (j + 1 + q) 0 := ⟨_, rfl⟩
        have hyr := nb_range s (j + 1 + q)
        rw [← hy] at hN hyr
        have hX : ∀ w2, Calls Tryz.prog 146 #[.int .i64 y] w2 fun e w' => e = .returned (.int .i64 (hexv y)) ∧ w' = w2 := fun w2 => hex_any w2 y hyr.1 hyr.2
        have hyb : hexv y = hexv (bt s (j + 1 + q)) := by rw [hy, hexv_nb]
        obtain ⟨m, hm1⟩ : ∃ m, 8 - q = m + 1 := ⟨8 - q - 1, by omega⟩
        have hm2 : 8 - (q + 1) = m := by omega
        have hcc := hM.pn
        obtain ⟨p0, p1, p2, p3, pf, pms, ple⟩ := hcc
        clear hpow hacc
        by_cases hx : hexv (bt s (j + 1 + q)) < 0
        · have HR : Hid (num s i (j + 1) 8 has = .bad (j + 1 + q)) := by
            unfold Hid num
            rw [HH.out, hm1]
            simp only [hexs, if_pos hx]
          rw [hyb] at hX
          obtain ⟨v, hv⟩ : ∃ v, v = hexv (bt s (j + 1 + q)) := ⟨_, rfl⟩
          rw [← hv] at hX hx
          have HX : Hid (∀ w2, Calls Tryz.prog 146 #[.int .i64 y] w2 fun e w' => e = .returned (.int .i64 v) ∧ w' = w2) := hX
          have HN : Hid (Calls Tryz.prog 71 #[.pointer (some ⟨b, 0, none⟩)] wr fun e w' => e = .returned (.int .i64 y) ∧ ∃ n, w' = wr.drewN n) := hN
          clear hX hN hv hy hyb hM hm1 hm2 hyr c0 c1 c2 c3 fz M1
          go_wp2_with fail
          refine HN.out.mono ?_
          rintro e w2 ⟨rfl, n2, rfl⟩
          go_wp2_with fail
          refine (HX.out _).mono ?_
          rintro e w3 ⟨rfl, rfl⟩
          go_wp2_with fail
          refine (fail_live _ _ _ _ _ _ _ (HM.out.pn.drewN n2)).mono ?_
          rintro e w4 ⟨rfl, hM4⟩
          go_wp2_with fail
          go_ret
          rw [HR.out]
          exact ⟨[], _, rfl, by simp, HM.out.trans ((Mv.stayN HM.out.pn n2).trans hM4)⟩
        · have hl := hexv_lt hx
          have hjs2 : j + 1 + q < s.size := bt_lt_size (by omega)
          obtain ⟨d, hd⟩ : ∃ d : Nat, hexv (bt s (j + 1 + q)) = (d : Int) := ⟨(hexv (bt s (j + 1 + q))).toNat, by omega⟩
          have HN2 : Hid (hexs s 8 (j + 1) 0 = hexs s (8 - (q + 1)) (j + 1 + (q + 1)) (16 * acc + d)) := by
            unfold Hid
            rw [HH.out, hm1, hm2]
            simp only [hexs, if_neg hx]
            rw [hd]
            rfl
          rw [hyb, hd] at hX
          have hd15 : d ≤ 15 := by omega
          have HX : Hid (∀ w2, Calls Tryz.prog 146 #[.int .i64 y] w2 fun e w' => e = .returned (.int .i64 (d : Int)) ∧ w' = w2) := hX
          have HN : Hid (Calls Tryz.prog 71 #[.pointer (some ⟨b, 0, none⟩)] wr fun e w' => e = .returned (.int .i64 y) ∧ ∃ n, w' = wr.drewN n) := hN
          clear hX hN hy hyb hM hm1 hm2 hyr hx hl hd c0 c1 c2 c3 fz M1
          go_wp2_with fail
          refine HN.out.mono ?_
          rintro e w2 ⟨rfl, n2, rfl⟩
          go_wp2_with fail
          refine (HX.out _).mono ?_
          rintro e w3 ⟨rfl, rfl⟩
          go_wp2_with fail
          go_roundw
          case rel =>
            refine ⟨q + 1, 16 * acc + d, by omega, by go_num, by go_num, ?_, HM.out.trans ((Mv.stayN HM.out.pn n2).trans (Mv.at' (HM.out.pn.drewN n2) (j + 1 + (q + 1)) (by omega))), by omega, HN2.out⟩
            have := HACC.out
            rw [Nat.pow_succ]
            omega
          case measure => simp [intOf]; omega
      · have hqk : q = 8 := by omega
        subst hqk
        have hacc2 : acc < 4294967296 := by have : (16 : Nat) ^ 8 ≤ 16 ^ 8 := Nat.pow_le_pow_right (by decide) (by omega); omega
        have HNm : Hid (num s i (j + 1) 8 has = if Lib.validRune acc && has acc then .ok acc (j + 1 + 8) else .bad i) := by
          unfold Hid num
          rw [HH.out]
          simp only [Nat.sub_self, hexs]
        have hE := encoded_any wr acc hacc2
        unfold encS at hE
        have hcc := hM.pn
        obtain ⟨p0, p1, p2, p3, pf, pms, ple⟩ := hcc
        clear hacc hN c0 c1 c2 c3 fz M1
        cases hv : Lib.validRune (acc : Int) with
        | false =>
          rw [hv] at hE
          simp only [Bool.false_eq_true, if_false] at hE
          have HR : Hid (num s i (j + 1) 8 has = .bad i) := by unfold Hid; rw [HNm.out, hv]; simp
          clear hM hv
          go_wp2_with fail
          refine hE.mono ?_
          rintro e w2 ⟨rfl, hB2⟩
          have M2 := HM.out.trans (Mv.stay HM.out.pn hB2)
          go_wp2_with fail
          refine (fail_live _ _ _ _ _ _ _ M2.pn).mono ?_
          rintro e w3 ⟨rfl, hM3⟩
          go_wp2_with fail
          go_ret
          rw [HR.out]
          exact ⟨[], _, rfl, by simp, M2.trans hM3⟩
        | true =>
          rw [hv] at hE
          simp only [if_true] at hE
          have hr : acc ≤ 1114111 := by simp [Lib.validRune] at hv; omega
          obtain ⟨E, hEd⟩ : ∃ E : ByteArray, E = ⟨(Lib.encodeRune acc).toArray⟩ := ⟨_, rfl⟩
          have hE1 : E.toList.isEmpty = false := by
            have := enc_pos acc
            rw [ByteArray.toList_eq, hEd]
            show (Lib.encodeRune acc).isEmpty = false
            cases hl : Lib.encodeRune acc with
            | nil => rw [hl] at this; simp at this
            | cons => rfl
          have hE2 : E.size = (Lib.encodeRune acc).length := by rw [hEd]; show (Lib.encodeRune acc).toArray.size = _; simp
          have HE : Hid (Calls Tryz.prog 147 #[.int .i64 acc] wr fun e w' => e = .returned (.string E) ∧ Below wr.heap.size wr w') := by rw [hEd]; exact hE
          have HED : Hid (E = ⟨(Lib.encodeRune acc).toArray⟩) := hEd
          cases f with
          | false =>
            have HR : Hid (num s i (j + 1) 8 has = .ok acc (j + 1 + 8)) := by unfold Hid; rw [HNm.out, hv, HF.out]; simp [allc]
            clear hM hv hE hEd hE2
            go_wp2_with fail
            refine HE.out.mono ?_
            rintro e w2 ⟨rfl, hB2⟩
            have M2 := HM.out.trans (Mv.stay HM.out.pn hB2)
            go_wp2_with fail
            go_ret
            rw [HR.out]
            exact ⟨by rw [HED.out]; rfl, M2⟩
          | true =>
            have hI : ∀ w2, Calls Tryz.prog 84 #[.int .i64 acc] w2 fun e w' => e = .returned (.bool (inIri acc)) ∧ w' = w2 := fun w2 => inIri_any w2 acc
            by_cases h128 : acc < 128
            · have hs1 : E.size = 1 := by rw [hE2, enc_low (by omega)]; rfl
              cases hii : inIri acc with
              | true =>
                rw [hii] at hI
                have HR : Hid (num s i (j + 1) 8 has = .ok acc (j + 1 + 8)) := by unfold Hid; rw [HNm.out, hv, HF.out]; simp [hii]
                clear hM hv hE hEd hE2 hii
                go_wp2_with fail
                refine HE.out.mono ?_
                rintro e w2 ⟨rfl, hB2⟩
                have M2 := HM.out.trans (Mv.stay HM.out.pn hB2)
                go_wp2_with fail
                refine (hI _).mono ?_
                rintro e w3 ⟨rfl, rfl⟩
                go_wp2_with fail
                go_ret
                rw [HR.out]
                exact ⟨by rw [HED.out]; rfl, M2⟩
              | false =>
                rw [hii] at hI
                have HR : Hid (num s i (j + 1) 8 has = .bad i) := by unfold Hid; rw [HNm.out, hv, HF.out]; simp [hii]
                clear hM hv hE hEd hE2 hii
                go_wp2_with fail
                refine HE.out.mono ?_
                rintro e w2 ⟨rfl, hB2⟩
                have M2 := HM.out.trans (Mv.stay HM.out.pn hB2)
                go_wp2_with fail
                refine (hI _).mono ?_
                rintro e w3 ⟨rfl, rfl⟩
                go_wp2_with fail
                refine (fail_live _ _ _ _ _ _ _ M2.pn).mono ?_
                rintro e w4 ⟨rfl, hM4⟩
                go_wp2_with fail
                go_ret
                rw [HR.out]
                exact ⟨[], _, rfl, by simp, M2.trans hM4⟩
            · have hs1 : ¬ (E.size = 1) := by rw [hE2]; exact enc_two (by omega)
              have hii : inIri acc = true := inIri_high (by omega)
              have HR : Hid (num s i (j + 1) 8 has = .ok acc (j + 1 + 8)) := by unfold Hid; rw [HNm.out, hv, HF.out]; simp [hii]
              clear hM hv hE hEd hE2 hii
              go_wp2_with fail
              refine HE.out.mono ?_
              rintro e w2 ⟨rfl, hB2⟩
              have M2 := HM.out.trans (Mv.stay HM.out.pn hB2)
              go_wp2_with fail
              go_ret
              rw [HR.out]
              exact ⟨by rw [HED.out]; rfl, M2⟩
end Ref
end Go.Proofs.YtnffjoipinhojaaGreatDoor
