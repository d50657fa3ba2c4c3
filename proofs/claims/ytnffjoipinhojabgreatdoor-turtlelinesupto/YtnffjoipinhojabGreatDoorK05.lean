import Derived.Test.YtnffjoipinhojabGreatDoorK04
import Derived.Laws.BitsAllLaws
set_option linter.unusedSimpArgs false
set_option linter.unusedVariables false
namespace Go.Proofs.YtnffjoipinhojabGreatDoor
open Go.RowKit

/-- where the reader in block b stands -/
def posOf (w : World) (b : Nat) : Nat := match w.cell? ⟨b, 1, none⟩ with | some (.int _ n) => n.toNat | _ => 0
theorem Rd.pos {w : World} {b i : Nat} {s : ByteArray} (h : Rd w b s i) : posOf w b = i := by unfold posOf; rw [h.c1]; simp

def langR (s : ByteArray) (i : Nat) : R (List UInt8) := match language s i with | .ok _ j => .ok (sub s i j) j | .bad j => .bad j

theorem langTail_step (s : ByteArray) (j : Nat) (h : bt s j = 45) : langTail s j = if run alnum s 8 (j + 1) = 0 then .bad (j + 1) else langTail s (j + 1 + run alnum s 8 (j + 1)) := by
  rw [langTail, dif_pos h]
theorem langTail_end (s : ByteArray) (j : Nat) (h : bt s j ≠ 45) : langTail s j = .ok () j := by
  rw [langTail, dif_neg h]

set_option maxHeartbeats 1000000 in
theorem language_any (w : World) (b i : Nat) (s : ByteArray) (h : Rd w b s i) (hT : Tabs w) (hb4 : 8 ≤ b) :
    Calls Tryz.prog 199 #[.pointer (some ⟨b, 0, none⟩)] w (Out b w str (langR s i)) := by
  obtain ⟨w1, m⟩ := Mk.of w b i s h hT hb4
  have e0 := enters_of Tryz.func178 (by kernel_rfl) rfl
  have M : Hid (Mk w w1 b i s) := m
  clear m h hT
  cases c1 : letter (bt s i) with
  | false =>
    have HL : langR s i = .bad i := by unfold langR language; rw [if_pos ((run_zero (by omega)).2 c1)]
    rw [HL]
    have HS : Hid (Calls Tryz.prog 196 #[.pointer (some ⟨b, 0, none⟩), fnV 116 #[], .int .i64 8] w1 fun e w' => e = stopE 2 i ∧ Adv b i w1 w') :=
      some_bad w1 b i 8 s M.out.rd M.out.tabs _ _ letter 0 0 (set_letter w1) (fun c => letter_lt) c1
    clear c1 HL
    go_enter Tryz.func199, Tryz.ntmps199
    go_wp2_with fail
    refine M.out.call.mono ?_
    rintro e w' ⟨rfl, rfl⟩
    go_wp2_with fail
    refine HS.out.mono ?_
    rintro e w2 ⟨rfl, hA2⟩
    go_wp2_with fail
    exact ⟨rfl, rfl, _, M.out.adv.trans hA2⟩
  | true =>
    have hne : run letter s 8 i ≠ 0 := fun e => by have := (run_zero (p := letter) (s := s) (k := 8) (i := i) (by omega)).1 e; rw [c1] at this; cases this
    have hle := (run_le letter (fun c hc => by have := letter_lt hc; omega) s 8 i).2
    have HS : Hid (Calls Tryz.prog 196 #[.pointer (some ⟨b, 0, none⟩), fnV 116 #[], .int .i64 8] w1 fun e w' => e = .returned (.tuple #[]) ∧ Adv b (i + run letter s 8 i) w1 w') :=
      some_ok w1 b i 8 s M.out.rd M.out.tabs _ _ letter 0 0 (set_letter w1) (fun c => letter_lt) M.out.gb (.inr (Nat.zero_le _)) (by omega) (by omega) c1
    have HL : Hid (language s i = langTail s (i + run letter s 8 i)) := by unfold Hid language; rw [if_neg hne]
    obtain ⟨r, hr⟩ : ∃ r, r = run letter s 8 i := ⟨_, rfl⟩
    rw [← hr] at HS HL hle hne
    clear c1 hr
    go_enter Tryz.func199, Tryz.ntmps199
    go_wp2_with fail
    refine M.out.call.mono ?_
    rintro e w' ⟨rfl, rfl⟩
    go_wp2_with fail
    refine HS.out.mono ?_
    rintro e w2 ⟨rfl, hA2⟩
    go_wp2_with fail
    go_loopw [] (fun wr => ∃ j : Nat, Adv b j w' wr ∧ i ≤ j ∧ j ≤ s.size ∧ language s i = langTail s j) (fun wr => s.size - posOf wr b)
    case atStart => exact ⟨i + r, hA2, by omega, by omega, HL.out⟩
    case round =>
      obtain ⟨j, hA, hij, hjs, hl⟩ := hrel
      have HL2 : Hid (language s i = langTail s j) := hl
      have HA : Hid (Adv b j w' wr) := hA
      have hRd := M.out.rd.adv hA hjs
      have HP : Hid (posOf wr b = j) := hRd.pos
      have hTk := take_any wr b j s 45 hRd (by omega) (by omega)
      clear hl HL HS hA2
      by_cases c2 : bt s j = 45
      · have hj1 := bt_in c2 (by omega)
        rw [if_pos c2] at hTk
        have hd : decide (bt s j = 45) = true := by simpa using c2
        rw [hd] at hTk
        have HT : Hid (Calls Tryz.prog 64 #[.pointer (some ⟨b, 0, none⟩), .int .u8 45] wr fun e w'' => e = .returned (.bool true) ∧ Adv b (j + 1) w' w'') := hTk.mono fun e w'' k => ⟨k.1, HA.out.trans k.2⟩
        have hst := langTail_step s j c2
        have HN : Hid (∀ w3, Adv b (j + 1) w' w3 → Rd (alW w3) b s (j + 1) ∧ Tabs (alW w3) ∧ Adv b (j + 1) w' (alW w3) ∧ b < w3.heap.size) := fun w3 a => by
          have a2 := a.then_below (alW_below w3)
          exact ⟨M.out.rd.adv a2 (by omega), M.out.tabs.adv a2 M.out.gb M.out.rd.lt, a2, Nat.lt_of_lt_of_le M.out.rd.lt a.size⟩
        clear hTk hd c2 hRd hA
        by_cases c3 : run alnum s 8 (j + 1) = 0
        · rw [if_pos c3] at hst
          have HS : Hid (∀ w3, Adv b (j + 1) w' w3 → Calls Tryz.prog 196 #[.pointer (some ⟨b, 0, none⟩), fnV 174 #[.pointer (some ⟨w3.heap.size + 1, 0, none⟩)], .int .i64 8] (alW w3) fun e w'' => e = stopE 2 (j + 1 : Nat) ∧ Adv b (j + 1) w' w'') := fun w3 a => by
            obtain ⟨r1, r2, r3, r4⟩ := HN.out w3 a
            exact (some_bad (alW w3) b (j + 1) 8 s r1 r2 _ _ alnum _ _ (set_alnum w3) (fun c => alnum_lt) ((run_zero (by omega)).1 c3)).mono fun e w' k => ⟨k.1, r3.trans k.2⟩
          have HR : langR s i = .bad (j + 1) := by unfold langR; rw [HL2.out, hst]
          have HRR : Hid (langR s i = .bad (j + 1)) := HR
          clear c3 hst HR
          go_wp2_with fail
          refine HT.out.mono ?_
          rintro e w3 ⟨rfl, hA3⟩
          go_wp2_with fail
          refine (either_any _ _ _ _ _ rfl).mono ?_
          rintro e w4 ⟨rfl, rfl⟩
          go_wp2_with fail
          refine (HS.out _ hA3).mono ?_
          rintro e w5 ⟨rfl, hA5⟩
          go_wp2_with fail
          refine ⟨rfl, ?_⟩
          rw [HRR.out]
          exact ⟨rfl, _, M.out.adv.trans hA5⟩
        · rw [if_neg c3] at hst
          have hp : alnum (bt s (j + 1)) = true := by
            cases hq : alnum (bt s (j + 1)) with
            | true => rfl
            | false => exact absurd ((run_zero (by omega)).2 hq) c3
          have hle2 := (run_le alnum (fun c hc => by have := alnum_lt hc; omega) s 8 (j + 1)).2
          have HS : Hid (∀ w3, Adv b (j + 1) w' w3 → Calls Tryz.prog 196 #[.pointer (some ⟨b, 0, none⟩), fnV 174 #[.pointer (some ⟨w3.heap.size + 1, 0, none⟩)], .int .i64 8] (alW w3) fun e w'' => e = .returned (.tuple #[]) ∧ Adv b (j + 1 + run alnum s 8 (j + 1)) w' w'') := fun w3 a => by
            obtain ⟨r1, r2, r3, r4⟩ := HN.out w3 a
            exact (some_ok (alW w3) b (j + 1) 8 s r1 r2 _ _ alnum _ _ (set_alnum w3) (fun c => alnum_lt) M.out.gb (.inl r4) (by omega) (by omega) hp).mono fun e w' k => ⟨k.1, r3.trans k.2⟩
          have HR : Hid (language s i = langTail s (j + 1 + run alnum s 8 (j + 1))) := by unfold Hid; rw [HL2.out, hst]
          obtain ⟨n, hn⟩ : ∃ n, n = run alnum s 8 (j + 1) := ⟨_, rfl⟩
          rw [← hn] at HS HR hle2 c3
          clear hst hp hn
          go_wp2_with fail
          refine HT.out.mono ?_
          rintro e w3 ⟨rfl, hA3⟩
          go_wp2_with fail
          refine (either_any _ _ _ _ _ rfl).mono ?_
          rintro e w4 ⟨rfl, rfl⟩
          go_wp2_with fail
          refine (HS.out _ hA3).mono ?_
          rintro e w5 ⟨rfl, hA5⟩
          go_wp2_with fail
          go_roundw
          case rel => exact ⟨j + 1 + n, hA5, by omega, by omega, HR.out⟩
          case measure =>
            have := (M.out.rd.adv hA5 (by omega)).pos
            rw [this, HP.out]
            omega
      · rw [if_neg c2] at hTk
        have hd : decide (bt s j = 45) = false := by simpa using c2
        rw [hd] at hTk
        have HT : Hid (Calls Tryz.prog 64 #[.pointer (some ⟨b, 0, none⟩), .int .u8 45] wr fun e w'' => e = .returned (.bool false) ∧ Adv b j w' w'') := hTk.mono fun e w'' k => ⟨k.1, HA.out.trans k.2⟩
        have HR : Hid (langR s i = .ok (sub s i j) j) := by unfold Hid langR; rw [HL2.out, langTail_end s j c2]
        clear hTk hd c2 hRd hA
        go_wp2_with fail
        refine HT.out.mono ?_
        rintro e w3 ⟨rfl, hA3⟩
        go_wp2_with fail
        refine (M.out.since hA3 hij hjs).mono ?_
        rintro e w6 ⟨rfl, hB6⟩
        go_wp2_with fail
        go_ret
        rw [HR.out]
        exact ⟨rfl, M.out.adv.trans (hA3.then_below hB6)⟩
end Go.Proofs.YtnffjoipinhojabGreatDoor

set_option linter.unusedSimpArgs false
set_option linter.unusedVariables false
namespace Go.Proofs.YtnffjoipinhojabGreatDoor
open Go.RowKit

theorem hexValue_any (w : World) (c : Int) (h : ¬ hexv c < 0) :
    Calls Tryz.prog 210 #[.int .i32 c] w fun e w' => e = .returned (.int .u32 (hexv c)) ∧ Below w.heap.size w w' := by
  have hl := hexv_lt h
  have hD := (set_digit w).at' w (fun k a b => by omega) (Nat.zero_le _) c (by omega) (by omega)
  simp only [List.append_toArray, List.append_nil, Array.append_empty] at hD
  cases hd : digit c with
  | true =>
    rw [hd] at hD
    simp [digit] at hd
    have e : Hid (hexv c = c - 48) := by unfold Hid hexv; rw [if_pos hd]
    go_enter Tryz.func210, Tryz.ntmps210
    go_wp2_with fail
    refine hD.mono ?_
    rintro e w' ⟨rfl, hB⟩
    go_wp2_with fail
    go_ret
    exact ⟨ret_int (by rw [e.out] <;> omega), hB⟩
  | false =>
    rw [hd] at hD
    simp [digit] at hd
    by_cases hc : c < 97
    · have e : Hid (hexv c = c - 55 ∧ 65 ≤ c) := by
        unfold Hid hexv at *
        rw [if_neg (by omega)] at *
        split at hl <;> first | (simp_all; done) | (simp_all; omega)
      have e2 := e.out.2
      go_enter Tryz.func210, Tryz.ntmps210
      go_wp2_with fail
      refine hD.mono ?_
      rintro e w' ⟨rfl, hB⟩
      go_wp2_with fail
      go_ret
      exact ⟨ret_int (by rw [e.out.1] <;> omega), hB⟩
    · have e : Hid (hexv c = c - 87) := by
        unfold Hid hexv
        rw [if_neg (by omega), if_neg (by omega), if_pos (by omega)]
      go_enter Tryz.func210, Tryz.ntmps210
      go_wp2_with fail
      refine hD.mono ?_
      rintro e w' ⟨rfl, hB⟩
      go_wp2_with fail
      go_ret
      exact ⟨ret_int (by rw [e.out] <;> omega), hB⟩

def hexS : List UInt8 := [48, 49, 50, 51, 52, 53, 54, 55, 56, 57, 65, 66, 67, 68, 69, 70, 97, 98, 99, 100, 101, 102]
def hexP (c : Int) : Bool := decide (¬ hexv c < 0)
theorem hexS_asc : asc hexS := by unfold asc hexS; decide
theorem hexS_P (c : Int) : oneOfP hexS c = hexP c := by
  rw [Bool.eq_iff_iff]
  simp [oneOfP, hexS, hexP, hexv]
  split
  · omega
  · split
    · omega
    · split <;> omega
theorem hexP_lt {c : Int} (h : hexP c = true) : 0 ≤ c ∧ c < 128 := by
  simp only [hexP, decide_eq_true_eq] at h
  have := hexv_lt h
  omega

def oW (u : World) (l : List UInt8) : World := u.alloc (.cells #[str l] 9)
theorem oW_below (u : World) (l : List UInt8) : Below u.heap.size u (oW u l) := (Below.refl _ u).alloc (Nat.le_refl _) _
theorem set_oW (u : World) (l : List UInt8) (hl : asc l) (hz : l.length ≤ 1000) : IsSet 175 #[.pointer (some ⟨u.heap.size, 0, none⟩)] (oneOfP l) u.heap.size (u.heap.size + 1) (oW u l) := by
  have := set_oneOf (oW u l) u.heap.size ⟨l.toArray⟩ hl (by show l.toArray.size ≤ _; simp; omega) (by simp [oW])
  simpa using this

set_option maxHeartbeats 2000000 in
theorem numbered_any (w : World) (b i j k : Nat) (s : ByteArray) (h : Rd w b s j) (hT : Tabs w) (hb4 : 8 ≤ b) (g : Nat) (lb : Array Value) (p : Int → Bool) (lo hi : Nat) (hp : IsSet g lb p lo hi w) (hbl : b < lo ∨ hi ≤ b) (hk : k ≤ 8) :
    Calls Tryz.prog 181 #[.pointer (some ⟨b, 0, none⟩), .int .i64 i, .int .i64 k, fnV g lb] w (Out b w (fun n : Nat => .int .i32 n) (num s i j k p)) := by
  have H : Hid (Rd w b s j) := h
  have HT : Hid (Tabs w) := hT
  have HP : Hid (IsSet g lb p lo hi w) := hp
  have hbw := h.lt
  clear h hT hp
  go_enter Tryz.func181, Tryz.ntmps181
  go_wp2_with fail
  go_loopw [9, 12] (fun t9 t12 wr => ∃ q acc : Nat, q ≤ k ∧ t12 = .int .i64 q ∧ t9 = .int .u32 acc ∧ acc < 16 ^ q ∧ Adv b (j + q) w wr ∧ j + q ≤ s.size ∧ hexs s k j 0 = hexs s (k - q) (j + q) acc) (fun _ t12 _ => k - (intOf t12).toNat)
  case atStart => exact ⟨0, 0, Nat.zero_le _, rfl, rfl, by simp, H.out.stay (Below.refl _ _), H.out.le, rfl⟩
  case round =>
    obtain ⟨q, acc, hq, rfl, rfl, hacc, hA, hqs, hh⟩ := hrel
    have HH : Hid (hexs s k j 0 = hexs s (k - q) (j + q) acc) := hh
    have HA : Hid (Adv b (j + q) w wr) := hA
    have hRd := H.out.adv hA hqs
    have hTb := HT.out.adv hA hb4 hbw
    clear hh
    by_cases hlt : q < k
    · have hwo := oW_below wr hexS
      have hset := set_oW wr hexS hexS_asc (by decide)
      have hW1 : Rd (oW wr hexS) b s (j + q) := hRd.below hwo
      have hW2 : Tabs (oW wr hexS) := hTb.below hwo (by have := hA.size; omega) (by have := hA.size; omega)
      have hA1 : Adv b (j + q) w (oW wr hexS) := hA.then_below hwo
      have hbr : b < wr.heap.size := Nat.lt_of_lt_of_le hbw hA.size
      have hpow : (16 : Nat) ^ q ≤ 16 ^ 7 := Nat.pow_le_pow_right (by decide) (by omega)
      have hacc2 : acc < 268435456 := by omega
      have HACC : Hid (acc < 16 ^ q) := hacc
      clear hpow hacc
      cases hx : hexP (bt s (j + q)) with
      | true =>
        obtain ⟨e1, e2⟩ := asc_yes (p := oneOfP hexS) (fun c hc => by rw [hexS_P] at hc; exact hexP_lt hc) (s := s) (j := j + q) (by rw [hexS_P]; exact hx)
        have hWt := wants_yes (oW wr hexS) b (j + q) s hW1 hW2 _ _ _ _ _ hset (by rw [e1]; exact Nat.one_ne_zero) e2
        rw [e1] at hWt
        simp only at hWt
        have hlt2 := hexP_lt hx
        rw [show (((bt s (j + q)).toNat : Nat) : Int) = bt s (j + q) by omega] at hWt
        have hx2 : ¬ hexv (bt s (j + q)) < 0 := by simpa [hexP] using hx
        have hlim := hexv_lt hx2
        have HW : Hid (Calls Tryz.prog 127 #[.pointer (some ⟨b, 0, none⟩), fnV 175 #[.pointer (some ⟨wr.heap.size, 0, none⟩)]] (oW wr hexS) fun e w' => e = .returned (.int .i32 (bt s (j + q))) ∧ Adv b (j + q + 1) w w') := hWt.mono fun e w' k => ⟨k.1, hA1.trans k.2⟩
        have HHV : Hid (∀ w2, Calls Tryz.prog 210 #[.int .i32 (bt s (j + q))] w2 fun e w' => e = .returned (.int .u32 (hexv (bt s (j + q)))) ∧ Below w2.heap.size w2 w') := fun w2 => hexValue_any w2 _ hx2
        have hjs : j + q < s.size := bt_lt_size (by omega)
        have HN : Hid (hexs s k j 0 = hexs s (k - (q + 1)) (j + (q + 1)) (16 * acc + (hexv (bt s (j + q))).toNat)) := by
          unfold Hid
          rw [HH.out]
          obtain ⟨m, hm1⟩ : ∃ m, k - q = m + 1 := ⟨k - q - 1, by omega⟩
          have hm2 : k - (q + 1) = m := by omega
          rw [hm1, hm2]
          simp only [hexs, if_neg hx2]
          rfl
        obtain ⟨y, hy⟩ : ∃ y : Nat, hexv (bt s (j + q)) = (y : Int) := ⟨(hexv (bt s (j + q))).toNat, by omega⟩
        rw [hy] at HHV HN hlim
        obtain ⟨c, hc⟩ : ∃ c, c = bt s (j + q) := ⟨_, rfl⟩
        rw [← hc] at HW HHV hlim
        have hy16 : y ≤ 15 := by omega
        have HYY : Hid (y ≤ 15) := hy16
        clear hWt e1 e2 hx hx2 hset hW1 hW2 hRd hTb hA hA1 hwo hy hc hlt2
        go_wp2_with fail
        refine (oneOf_any _ _).mono ?_
        rintro e w2 ⟨rfl, rfl⟩
        go_wp2_with fail
        refine HW.out.mono ?_
        rintro e w3 ⟨rfl, hA3⟩
        go_wp2_with fail
        refine (HHV.out _).mono ?_
        rintro e w4 ⟨rfl, hB4⟩
        go_wp2_with fail
        go_roundw
        case rel =>
          refine ⟨q + 1, 16 * acc + y, by omega, by go_num, ?_, ?_, (hA3.then_below hB4), by omega, HN.out⟩
          · rw [show (acc : Int) * 16 = ((16 * acc : Nat) : Int) by omega, u32_or_nat _ _ (by omega) (by omega)]
            congr 2
            exact (Nat.two_pow_add_eq_or_of_lt (i := 4) (by omega) acc).symm
          · have := HACC.out
            have := HYY.out
            rw [Nat.pow_succ]
            omega
        case measure => simp [intOf]; omega
      | false =>
        have hWt := wants_no (oW wr hexS) b (j + q) s hW1 hW2 _ _ _ _ _ hset (asc_no (fun c hc => by rw [hexS_P] at hc; exact hexP_lt hc) (by rw [hexS_P]; exact hx))
        have hx2 : hexv (bt s (j + q)) < 0 := by simpa [hexP] using hx
        have HN : Hid (num s i j k p = .bad (j + q)) := by
          unfold Hid num
          rw [HH.out]
          obtain ⟨m, hm1⟩ : ∃ m, k - q = m + 1 := ⟨k - q - 1, by omega⟩
          rw [hm1]
          simp only [hexs, if_pos hx2]
        have HW : Hid (Calls Tryz.prog 127 #[.pointer (some ⟨b, 0, none⟩), fnV 175 #[.pointer (some ⟨wr.heap.size, 0, none⟩)]] (oW wr hexS) fun e w' => e = stopE 2 (j + q : Nat) ∧ Adv b (j + q) w w') := hWt.mono fun e w' k => ⟨k.1, hA1.trans k.2⟩
        clear hWt hx hx2 hset hW1 hW2 hRd hTb hA hA1 hwo
        go_wp2_with fail
        refine (oneOf_any _ _).mono ?_
        rintro e w2 ⟨rfl, rfl⟩
        go_wp2_with fail
        refine HW.out.mono ?_
        rintro e w3 ⟨rfl, hA3⟩
        go_wp2_with fail
        refine ⟨rfl, ?_⟩
        rw [HN.out]
        exact ⟨rfl, _, hA3⟩
    · have hqk : q = k := by omega
      have HN : Hid (num s i j k p = if Lib.validRune acc && p acc then .ok acc (j + q) else .bad i) := by
        unfold Hid num
        rw [HH.out, show k - q = 0 by omega]
        simp only [hexs]
      have hpow : (16 : Nat) ^ q ≤ 16 ^ 8 := Nat.pow_le_pow_right (by decide) (by omega)
      have hacc2 : acc < 4294967296 := by omega
      have hset := HP.out.adv hA hbl
      clear hpow hacc hRd hTb hA
      by_cases hbig : acc ≤ 2147483647
      · cases hv : Lib.validRune acc with
        | false =>
          have hV : ∀ w2, Calls Tryz.prog 211 #[.int .i32 acc] w2 fun e w' => e = .returned (.bool false) ∧ w' = w2 := fun w2 => by have := validRune_any w2 acc; rw [hv] at this; exact this
          have HNN : Hid (num s i j k p = .bad i) := by unfold Hid; rw [HN.out, hv]; simp
          clear hv HN
          go_wp2_with fail
          refine (hV _).mono ?_
          rintro e w2 ⟨rfl, rfl⟩
          go_wp2_with fail
          refine (Refuse_any _ _ _).mono ?_
          rintro e w3 ⟨rfl, rfl⟩
          go_wp2_with fail
          refine ⟨rfl, ?_⟩
          rw [HNN.out]
          exact ⟨rfl, _, HA.out⟩
        | true =>
          have hV : ∀ w2, Calls Tryz.prog 211 #[.int .i32 acc] w2 fun e w' => e = .returned (.bool true) ∧ w' = w2 := fun w2 => by have := validRune_any w2 acc; rw [hv] at this; exact this
          have hr : (acc : Int) ≤ 1114111 := by simp [Lib.validRune] at hv; omega
          have hC := hset.at' wr (fun _ _ _ => rfl) hset.le acc (by omega) hr
          have eg := hset.en
          cases hpa : p acc with
          | false =>
            rw [hpa] at hC
            have HNN : Hid (num s i j k p = .bad i) := by unfold Hid; rw [HN.out, hv, hpa]; simp
            clear hv HN hpa hset
            go_wp2_with fail
            refine (hV _).mono ?_
            rintro e w2 ⟨rfl, rfl⟩
            go_wp2_with (go_at_fn g; refine hC.mono ?_; rintro e w3 ⟨rfl, hB3⟩)
            refine (Refuse_any _ _ _).mono ?_
            rintro e w4 ⟨rfl, rfl⟩
            go_wp2_with fail
            refine ⟨rfl, ?_⟩
            rw [HNN.out]
            exact ⟨rfl, _, HA.out.then_below hB3⟩
          | true =>
            rw [hpa] at hC
            have HNN : Hid (num s i j k p = .ok acc (j + q)) := by unfold Hid; rw [HN.out, hv, hpa]; simp
            clear hv HN hpa hset
            go_wp2_with fail
            refine (hV _).mono ?_
            rintro e w2 ⟨rfl, rfl⟩
            go_wp2_with (go_at_fn g; refine hC.mono ?_; rintro e w3 ⟨rfl, hB3⟩)
            go_ret
            rw [HNN.out]
            exact ⟨rfl, HA.out.then_below hB3⟩
      · have hwr : IntKind.i32.wrap (acc : Int) = (acc : Int) - 4294967296 := by
          rw [IntKind.wrap_i32]
          omega
        have hV : ∀ w2, Calls Tryz.prog 211 #[.int .i32 ((acc : Int) - 4294967296)] w2 fun e w' => e = .returned (.bool false) ∧ w' = w2 := fun w2 => by
          have := validRune_any w2 ((acc : Int) - 4294967296)
          rw [show Lib.validRune ((acc : Int) - 4294967296) = false by simp [Lib.validRune]; omega] at this
          exact this
        have HNN : Hid (num s i j k p = .bad i) := by
          unfold Hid
          rw [HN.out, show Lib.validRune (acc : Int) = false by simp [Lib.validRune]; omega]; simp
        clear HN
        go_wp2_with fail
        refine (hV _).mono ?_
        rintro e w2 ⟨rfl, rfl⟩
        go_wp2_with fail
        refine (Refuse_any _ _ _).mono ?_
        rintro e w3 ⟨rfl, rfl⟩
        go_wp2_with fail
        refine ⟨rfl, ?_⟩
        rw [HNN.out]
        exact ⟨rfl, _, HA.out⟩
end Go.Proofs.YtnffjoipinhojabGreatDoor

