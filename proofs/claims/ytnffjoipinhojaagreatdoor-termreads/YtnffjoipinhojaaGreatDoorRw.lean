import Derived.Test.YtnffjoipinhojaaGreatDoorRv
import Derived.Laws.BitsAllLaws
set_option linter.unusedSimpArgs false
set_option linter.unusedVariables false
namespace Go.Proofs.YtnffjoipinhojaaGreatDoor
open Go.RowKit

theorem hexValue_any (w : World) (c : Int) (h : ¬ hexv c < 0) :
    Calls Tryz.prog 225 #[.int .i32 c] w fun e w' => e = .returned (.int .u32 (hexv c)) ∧ Below w.heap.size w w' := by
  have hl := hexv_lt h
  have hD := (set_digit w).at' w (fun k a b => by omega) (Nat.zero_le _) c (by omega) (by omega)
  simp only [List.append_toArray, List.append_nil, Array.append_empty] at hD
  cases hd : digit c with
  | true =>
    rw [hd] at hD
    simp [digit] at hd
    have e : Hid (hexv c = c - 48) := by unfold Hid hexv; rw [if_pos hd]
    go_enter Tryz.func225, Tryz.ntmps225
    go_wp2_with fail
    refine hD.mono ?_
    rintro e w' ⟨rfl, hB⟩
    go_wp2_with fail
    go_ret
    exact ⟨ret_int (by rw [e.out] <;> omega), hB⟩
  | false =>
    rw [hd] at hD
    simp [digit] at hd
    by_cases hc : c < 97
    · have e : Hid (hexv c = c - 55 ∧ 65 ≤ c) := by
        unfold Hid hexv at *
        rw [if_neg (by omega)] at *
        split at hl <;> first | (simp_all; done) | (simp_all; omega)
      have e2 := e.out.2
      go_enter Tryz.func225, Tryz.ntmps225
      go_wp2_with fail
      refine hD.mono ?_
      rintro e w' ⟨rfl, hB⟩
      go_wp2_with fail
      go_ret
      exact ⟨ret_int (by rw [e.out.1] <;> omega), hB⟩
    · have e : Hid (hexv c = c - 87) := by
        unfold Hid hexv
        rw [if_neg (by omega), if_neg (by omega), if_pos (by omega)]
      go_enter Tryz.func225, Tryz.ntmps225
      go_wp2_with fail
      refine hD.mono ?_
      rintro e w' ⟨rfl, hB⟩
      go_wp2_with fail
      go_ret
      exact ⟨ret_int (by rw [e.out] <;> omega), hB⟩

def hexS : List UInt8 := [48, 49, 50, 51, 52, 53, 54, 55, 56, 57, 65, 66, 67, 68, 69, 70, 97, 98, 99, 100, 101, 102]
def hexP (c : Int) : Bool := decide (¬ hexv c < 0)
theorem hexS_asc : asc hexS := by unfold asc hexS; decide
theorem hexS_P (c : Int) : oneOfP hexS c = hexP c := by
  rw [Bool.eq_iff_iff]
  simp [oneOfP, hexS, hexP, hexv]
  split
  · omega
  · split
    · omega
    · split <;> omega
theorem hexP_lt {c : Int} (h : hexP c = true) : 0 ≤ c ∧ c < 128 := by
  simp only [hexP, decide_eq_true_eq] at h
  have := hexv_lt h
  omega

def oW (u : World) (l : List UInt8) : World := u.alloc (.cells #[str l] 9)
theorem oW_below (u : World) (l : List UInt8) : Below u.heap.size u (oW u l) := (Below.refl _ u).alloc (Nat.le_refl _) _
theorem set_oW (u : World) (l : List UInt8) (hl : asc l) (hz : l.length ≤ 1000) : IsSet 188 #[.pointer (some ⟨u.heap.size, 0, none⟩)] (oneOfP l) u.heap.size (u.heap.size + 1) (oW u l) := by
  have := set_oneOf (oW u l) u.heap.size ⟨l.toArray⟩ hl (by show l.toArray.size ≤ _; simp; omega) (by simp [oW])
  simpa using this

set_option maxHeartbeats 2000000 in
theorem numbered_any (w : World) (b i j k : Nat) (s : ByteArray) (h : Rd w b s j) (hT : Tabs w) (hb4 : 8 ≤ b) (g : Nat) (lb : Array Value) (p : Int → Bool) (lo hi : Nat) (hp : IsSet g lb p lo hi w) (hbl : b < lo ∨ hi ≤ b) (hk : k ≤ 8) :
    Calls Tryz.prog 194 #[.pointer (some ⟨b, 0, none⟩), .int .i64 i, .int .i64 k, fnV g lb] w (Out b w (fun n : Nat => .int .i32 n) (num s i j k p)) := by
  have H : Hid (Rd w b s j) := h
  have HT : Hid (Tabs w) := hT
  have HP : Hid (IsSet g lb p lo hi w) := hp
  have hbw := h.lt
  clear h hT hp
  go_enter Tryz.func194, Tryz.ntmps194
  go_wp2_with fail
  go_loopw [9, 12] (fun t9 t12 wr => ∃ q acc : Nat, q ≤ k ∧ t12 = .int .i64 q ∧ t9 = .int .u32 acc ∧ acc < 16 ^ q ∧ Adv b (j + q) w wr ∧ j + q ≤ s.size ∧ hexs s k j 0 = hexs s (k - q) (j + q) acc) (fun _ t12 _ => k - (intOf t12).toNat)
  case atStart => exact ⟨0, 0, Nat.zero_le _, rfl, rfl, by simp, H.out.stay (Below.refl _ _), H.out.le, rfl⟩
  case round =>
    obtain ⟨q, acc, hq, rfl, rfl, hacc, hA, hqs, hh⟩ := hrel
    have HH : Hid (hexs s k j 0 = hexs s (k - q) (j + q) acc) := hh
    have HA : Hid (Adv b (j + q) w wr) := hA
    have hRd := H.out.adv hA hqs
    have hTb := HT.out.adv hA hb4 hbw
    clear hh
    by_cases hlt : q < k
    · have hwo := oW_below wr hexS
      have hset := set_oW wr hexS hexS_asc (by decide)
      have hW1 : Rd (oW wr hexS) b s (j + q) := hRd.below hwo
      have hW2 : Tabs (oW wr hexS) := hTb.below hwo (by have := hA.size; omega) (by have := hA.size; omega)
      have hA1 : Adv b (j + q) w (oW wr hexS) := hA.then_below hwo
      have hbr : b < wr.heap.size := Nat.lt_of_lt_of_le hbw hA.size
      have hpow : (16 : Nat) ^ q ≤ 16 ^ 7 := Nat.pow_le_pow_right (by decide) (by omega)
      have hacc2 : acc < 268435456 := by omega
      have HACC : Hid (acc < 16 ^ q) := hacc
      clear hpow hacc
      cases hx : hexP (bt s (j + q)) with
      | true =>
        obtain ⟨e1, e2⟩ := asc_yes (p := oneOfP hexS) (fun c hc => by rw [hexS_P] at hc; exact hexP_lt hc) (s := s) (j := j + q) (by rw [hexS_P]; exact hx)
        have hWt := wants_yes (oW wr hexS) b (j + q) s hW1 hW2 _ _ _ _ _ hset (by rw [e1]; exact Nat.one_ne_zero) e2
        rw [e1] at hWt
        simp only at hWt
        have hlt2 := hexP_lt hx
        rw [show (((bt s (j + q)).toNat : Nat) : Int) = bt s (j + q) by omega] at hWt
        have hx2 : ¬ hexv (bt s (j + q)) < 0 := by simpa [hexP] using hx
        have hlim := hexv_lt hx2
        have HW : Hid (Calls Tryz.prog 137 #[.pointer (some ⟨b, 0, none⟩), fnV 188 #[.pointer (some ⟨wr.heap.size, 0, none⟩)]] (oW wr hexS) fun e w' => e = .returned (.int .i32 (bt s (j + q))) ∧ Adv b (j + q + 1) w w') := hWt.mono fun e w' k => ⟨k.1, hA1.trans k.2⟩
        have HHV : Hid (∀ w2, Calls Tryz.prog 225 #[.int .i32 (bt s (j + q))] w2 fun e w' => e = .returned (.int .u32 (hexv (bt s (j + q)))) ∧ Below w2.heap.size w2 w') := fun w2 => hexValue_any w2 _ hx2
        have hjs : j + q < s.size := bt_lt_size (by omega)
        have HN : Hid (hexs s k j 0 = hexs s (k - (q + 1)) (j + (q + 1)) (16 * acc + (hexv (bt s (j + q))).toNat)) := by
          unfold Hid
          rw [HH.out]
          obtain ⟨m, hm1⟩ : ∃ m, k - q = m + 1 := ⟨k - q - 1, by omega⟩
          have hm2 : k - (q + 1) = m := by omega
          rw [hm1, hm2]
          simp only [hexs, if_neg hx2]
          rfl
        obtain ⟨y, hy⟩ : ∃ y : Nat, hexv (bt s (j + q)) = (y : Int) := ⟨(hexv (bt s (j + q))).toNat, by omega⟩
        rw [hy] at HHV HN hlim
        obtain ⟨c, hc⟩ : ∃ c, c = bt s (j + q) := ⟨_, rfl⟩
        rw [← hc] at HW HHV hlim
        have hy16 : y ≤ 15 := by omega
        have HYY : Hid (y ≤ 15) := hy16
        clear hWt e1 e2 hx hx2 hset hW1 hW2 hRd hTb hA hA1 hwo hy hc hlt2
        go_wp2_with fail
        refine (oneOf_any _ _).mono ?_
        rintro e w2 ⟨rfl, rfl⟩
        go_wp2_with fail
        refine HW.out.mono ?_
        rintro e w3 ⟨rfl, hA3⟩
        go_wp2_with fail
        refine (HHV.out _).mono ?_
        rintro e w4 ⟨rfl, hB4⟩
        go_wp2_with fail
        go_roundw
        case rel =>
          refine ⟨q + 1, 16 * acc + y, by omega, by go_num, ?_, ?_, (hA3.then_below hB4), by omega, HN.out⟩
          · rw [show (acc : Int) * 16 = ((16 * acc : Nat) : Int) by omega, u32_or_nat _ _ (by omega) (by omega)]
            congr 2
            exact (Nat.two_pow_add_eq_or_of_lt (i := 4) (by omega) acc).symm
          · have := HACC.out
            have := HYY.out
            rw [Nat.pow_succ]
            omega
        case measure => simp [intOf]; omega
      | false =>
        have hWt := wants_no (oW wr hexS) b (j + q) s hW1 hW2 _ _ _ _ _ hset (asc_no (fun c hc => by rw [hexS_P] at hc; exact hexP_lt hc) (by rw [hexS_P]; exact hx))
        have hx2 : hexv (bt s (j + q)) < 0 := by simpa [hexP] using hx
        have HN : Hid (num s i j k p = .bad (j + q)) := by
          unfold Hid num
          rw [HH.out]
          obtain ⟨m, hm1⟩ : ∃ m, k - q = m + 1 := ⟨k - q - 1, by omega⟩
          rw [hm1]
          simp only [hexs, if_pos hx2]
        have HW : Hid (Calls Tryz.prog 137 #[.pointer (some ⟨b, 0, none⟩), fnV 188 #[.pointer (some ⟨wr.heap.size, 0, none⟩)]] (oW wr hexS) fun e w' => e = stopE 2 (j + q : Nat) ∧ Adv b (j + q) w w') := hWt.mono fun e w' k => ⟨k.1, hA1.trans k.2⟩
        clear hWt hx hx2 hset hW1 hW2 hRd hTb hA hA1 hwo
        go_wp2_with fail
        refine (oneOf_any _ _).mono ?_
        rintro e w2 ⟨rfl, rfl⟩
        go_wp2_with fail
        refine HW.out.mono ?_
        rintro e w3 ⟨rfl, hA3⟩
        go_wp2_with fail
        refine ⟨rfl, ?_⟩
        rw [HN.out]
        exact ⟨rfl, _, hA3⟩
    · have hqk : q = k := by omega
      have HN : Hid (num s i j k p = if Lib.validRune acc && p acc then .ok acc (j + q) else .bad i) := by
        unfold Hid num
        rw [HH.out, show k - q = 0 by omega]
        simp only [hexs]
      have hpow : (16 : Nat) ^ q ≤ 16 ^ 8 := Nat.pow_le_pow_right (by decide) (by omega)
      have hacc2 : acc < 4294967296 := by omega
      have hset := HP.out.adv hA hbl
      clear hpow hacc hRd hTb hA
      by_cases hbig : acc ≤ 2147483647
      · cases hv : Lib.validRune acc with
        | false =>
          have hV : ∀ w2, Calls Tryz.prog 226 #[.int .i32 acc] w2 fun e w' => e = .returned (.bool false) ∧ w' = w2 := fun w2 => by have := validRune_any w2 acc; rw [hv] at this; exact this
          have HNN : Hid (num s i j k p = .bad i) := by unfold Hid; rw [HN.out, hv]; simp
          clear hv HN
          go_wp2_with fail
          refine (hV _).mono ?_
          rintro e w2 ⟨rfl, rfl⟩
          go_wp2_with fail
          refine (Refuse_any _ _ _).mono ?_
          rintro e w3 ⟨rfl, rfl⟩
          go_wp2_with fail
          refine ⟨rfl, ?_⟩
          rw [HNN.out]
          exact ⟨rfl, _, HA.out⟩
        | true =>
          have hV : ∀ w2, Calls Tryz.prog 226 #[.int .i32 acc] w2 fun e w' => e = .returned (.bool true) ∧ w' = w2 := fun w2 => by have := validRune_any w2 acc; rw [hv] at this; exact this
          have hr : (acc : Int) ≤ 1114111 := by simp [Lib.validRune] at hv; omega
          have hC := hset.at' wr (fun _ _ _ => rfl) hset.le acc (by omega) hr
          have eg := hset.en
          cases hpa : p acc with
          | false =>
            rw [hpa] at hC
            have HNN : Hid (num s i j k p = .bad i) := by unfold Hid; rw [HN.out, hv, hpa]; simp
            clear hv HN hpa hset
            go_wp2_with fail
            refine (hV _).mono ?_
            rintro e w2 ⟨rfl, rfl⟩
            go_wp2_with (go_at_fn g; refine hC.mono ?_; rintro e w3 ⟨rfl, hB3⟩)
            refine (Refuse_any _ _ _).mono ?_
            rintro e w4 ⟨rfl, rfl⟩
            go_wp2_with fail
            refine ⟨rfl, ?_⟩
            rw [HNN.out]
            exact ⟨rfl, _, HA.out.then_below hB3⟩
          | true =>
            rw [hpa] at hC
            have HNN : Hid (num s i j k p = .ok acc (j + q)) := by unfold Hid; rw [HN.out, hv, hpa]; simp
            clear hv HN hpa hset
            go_wp2_with fail
            refine (hV _).mono ?_
            rintro e w2 ⟨rfl, rfl⟩
            go_wp2_with (go_at_fn g; refine hC.mono ?_; rintro e w3 ⟨rfl, hB3⟩)
            go_ret
            rw [HNN.out]
            exact ⟨rfl, HA.out.then_below hB3⟩
      · have hwr : IntKind.i32.wrap (acc : Int) = (acc : Int) - 4294967296 := by
          rw [IntKind.wrap_i32]
          omega
        have hV : ∀ w2, Calls Tryz.prog 226 #[.int .i32 ((acc : Int) - 4294967296)] w2 fun e w' => e = .returned (.bool false) ∧ w' = w2 := fun w2 => by
          have := validRune_any w2 ((acc : Int) - 4294967296)
          rw [show Lib.validRune ((acc : Int) - 4294967296) = false by simp [Lib.validRune]; omega] at this
          exact this
        have HNN : Hid (num s i j k p = .bad i) := by
          unfold Hid
          rw [HN.out, show Lib.validRune (acc : Int) = false by simp [Lib.validRune]; omega]; simp
        clear HN
        go_wp2_with fail
        refine (hV _).mono ?_
        rintro e w2 ⟨rfl, rfl⟩
        go_wp2_with fail
        refine (Refuse_any _ _ _).mono ?_
        rintro e w3 ⟨rfl, rfl⟩
        go_wp2_with fail
        refine ⟨rfl, ?_⟩
        rw [HNN.out]
        exact ⟨rfl, _, HA.out⟩
end Go.Proofs.YtnffjoipinhojaaGreatDoor
