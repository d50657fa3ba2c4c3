import Derived.Test.YtnffjoipinhojaaGreatDoorRu
set_option linter.unusedSimpArgs false
set_option linter.unusedVariables false
namespace Go.Proofs.YtnffjoipinhojaaGreatDoor
open Go.RowKit

/-- where the reader in block b stands -/
def posOf (w : World) (b : Nat) : Nat := match w.cell? ⟨b, 1, none⟩ with | some (.int _ n) => n.toNat | _ => 0
theorem Rd.pos {w : World} {b i : Nat} {s : ByteArray} (h : Rd w b s i) : posOf w b = i := by unfold posOf; rw [h.c1]; simp

def langR (s : ByteArray) (i : Nat) : R (List UInt8) := match language s i with | .ok _ j => .ok (sub s i j) j | .bad j => .bad j

theorem langTail_step (s : ByteArray) (j : Nat) (h : bt s j = 45) : langTail s j = if run alnum s 8 (j + 1) = 0 then .bad (j + 1) else langTail s (j + 1 + run alnum s 8 (j + 1)) := by
  rw [langTail, dif_pos h]
theorem langTail_end (s : ByteArray) (j : Nat) (h : bt s j ≠ 45) : langTail s j = .ok () j := by
  rw [langTail, dif_neg h]

set_option maxHeartbeats 1000000 in
theorem language_any (w : World) (b i : Nat) (s : ByteArray) (h : Rd w b s i) (hT : Tabs w) (hb4 : 8 ≤ b) :
    Calls Tryz.prog 77 #[.pointer (some ⟨b, 0, none⟩)] w (Out b w str (langR s i)) := by
  obtain ⟨w1, m⟩ := Mk.of w b i s h hT hb4
  have e0 := enters_of Tryz.func191 (by kernel_rfl) rfl
  have M : Hid (Mk w w1 b i s) := m
  clear m h hT
  cases c1 : letter (bt s i) with
  | false =>
    have HL : langR s i = .bad i := by unfold langR language; rw [if_pos ((run_zero (by omega)).2 c1)]
    rw [HL]
    have HS : Hid (Calls Tryz.prog 141 #[.pointer (some ⟨b, 0, none⟩), fnV 131 #[], .int .i64 8] w1 fun e w' => e = stopE 2 i ∧ Adv b i w1 w') :=
      some_bad w1 b i 8 s M.out.rd M.out.tabs _ _ letter 0 0 (set_letter w1) (fun c => letter_lt) c1
    clear c1 HL
    go_enter Tryz.func77, Tryz.ntmps77
    go_wp2_with fail
    refine M.out.call.mono ?_
    rintro e w' ⟨rfl, rfl⟩
    go_wp2_with fail
    refine HS.out.mono ?_
    rintro e w2 ⟨rfl, hA2⟩
    go_wp2_with fail
    exact ⟨rfl, rfl, _, M.out.adv.trans hA2⟩
  | true =>
    have hne : run letter s 8 i ≠ 0 := fun e => by have := (run_zero (p := letter) (s := s) (k := 8) (i := i) (by omega)).1 e; rw [c1] at this; cases this
    have hle := (run_le letter (fun c hc => by have := letter_lt hc; omega) s 8 i).2
    have HS : Hid (Calls Tryz.prog 141 #[.pointer (some ⟨b, 0, none⟩), fnV 131 #[], .int .i64 8] w1 fun e w' => e = .returned (.tuple #[]) ∧ Adv b (i + run letter s 8 i) w1 w') :=
      some_ok w1 b i 8 s M.out.rd M.out.tabs _ _ letter 0 0 (set_letter w1) (fun c => letter_lt) M.out.gb (.inr (Nat.zero_le _)) (by omega) (by omega) c1
    have HL : Hid (language s i = langTail s (i + run letter s 8 i)) := by unfold Hid language; rw [if_neg hne]
    obtain ⟨r, hr⟩ : ∃ r, r = run letter s 8 i := ⟨_, rfl⟩
    rw [← hr] at HS HL hle hne
    clear c1 hr
    go_enter Tryz.func77, Tryz.ntmps77
    go_wp2_with fail
    refine M.out.call.mono ?_
    rintro e w' ⟨rfl, rfl⟩
    go_wp2_with fail
    refine HS.out.mono ?_
    rintro e w2 ⟨rfl, hA2⟩
    go_wp2_with fail
    go_loopw [] (fun wr => ∃ j : Nat, Adv b j w' wr ∧ i ≤ j ∧ j ≤ s.size ∧ language s i = langTail s j) (fun wr => s.size - posOf wr b)
    case atStart => exact ⟨i + r, hA2, by omega, by omega, HL.out⟩
    case round =>
      obtain ⟨j, hA, hij, hjs, hl⟩ := hrel
      have HL2 : Hid (language s i = langTail s j) := hl
      have HA : Hid (Adv b j w' wr) := hA
      have hRd := M.out.rd.adv hA hjs
      have HP : Hid (posOf wr b = j) := hRd.pos
      have hTk := take_any wr b j s 45 hRd (by omega) (by omega)
      clear hl HL HS hA2
      by_cases c2 : bt s j = 45
      · have hj1 := bt_in c2 (by omega)
        rw [if_pos c2] at hTk
        have hd : decide (bt s j = 45) = true := by simpa using c2
        rw [hd] at hTk
        have HT : Hid (Calls Tryz.prog 88 #[.pointer (some ⟨b, 0, none⟩), .int .u8 45] wr fun e w'' => e = .returned (.bool true) ∧ Adv b (j + 1) w' w'') := hTk.mono fun e w'' k => ⟨k.1, HA.out.trans k.2⟩
        have hst := langTail_step s j c2
        have HN : Hid (∀ w3, Adv b (j + 1) w' w3 → Rd (alW w3) b s (j + 1) ∧ Tabs (alW w3) ∧ Adv b (j + 1) w' (alW w3) ∧ b < w3.heap.size) := fun w3 a => by
          have a2 := a.then_below (alW_below w3)
          exact ⟨M.out.rd.adv a2 (by omega), M.out.tabs.adv a2 M.out.gb M.out.rd.lt, a2, Nat.lt_of_lt_of_le M.out.rd.lt a.size⟩
        clear hTk hd c2 hRd hA
        by_cases c3 : run alnum s 8 (j + 1) = 0
        · rw [if_pos c3] at hst
          have HS : Hid (∀ w3, Adv b (j + 1) w' w3 → Calls Tryz.prog 141 #[.pointer (some ⟨b, 0, none⟩), fnV 187 #[.pointer (some ⟨w3.heap.size + 1, 0, none⟩)], .int .i64 8] (alW w3) fun e w'' => e = stopE 2 (j + 1 : Nat) ∧ Adv b (j + 1) w' w'') := fun w3 a => by
            obtain ⟨r1, r2, r3, r4⟩ := HN.out w3 a
            exact (some_bad (alW w3) b (j + 1) 8 s r1 r2 _ _ alnum _ _ (set_alnum w3) (fun c => alnum_lt) ((run_zero (by omega)).1 c3)).mono fun e w' k => ⟨k.1, r3.trans k.2⟩
          have HR : langR s i = .bad (j + 1) := by unfold langR; rw [HL2.out, hst]
          have HRR : Hid (langR s i = .bad (j + 1)) := HR
          clear c3 hst HR
          go_wp2_with fail
          refine HT.out.mono ?_
          rintro e w3 ⟨rfl, hA3⟩
          go_wp2_with fail
          refine (either_any _ _ _ _ _ rfl).mono ?_
          rintro e w4 ⟨rfl, rfl⟩
          go_wp2_with fail
          refine (HS.out _ hA3).mono ?_
          rintro e w5 ⟨rfl, hA5⟩
          go_wp2_with fail
          refine ⟨rfl, ?_⟩
          rw [HRR.out]
          exact ⟨rfl, _, M.out.adv.trans hA5⟩
        · rw [if_neg c3] at hst
          have hp : alnum (bt s (j + 1)) = true := by
            cases hq : alnum (bt s (j + 1)) with
            | true => rfl
            | false => exact absurd ((run_zero (by omega)).2 hq) c3
          have hle2 := (run_le alnum (fun c hc => by have := alnum_lt hc; omega) s 8 (j + 1)).2
          have HS : Hid (∀ w3, Adv b (j + 1) w' w3 → Calls Tryz.prog 141 #[.pointer (some ⟨b, 0, none⟩), fnV 187 #[.pointer (some ⟨w3.heap.size + 1, 0, none⟩)], .int .i64 8] (alW w3) fun e w'' => e = .returned (.tuple #[]) ∧ Adv b (j + 1 + run alnum s 8 (j + 1)) w' w'') := fun w3 a => by
            obtain ⟨r1, r2, r3, r4⟩ := HN.out w3 a
            exact (some_ok (alW w3) b (j + 1) 8 s r1 r2 _ _ alnum _ _ (set_alnum w3) (fun c => alnum_lt) M.out.gb (.inl r4) (by omega) (by omega) hp).mono fun e w' k => ⟨k.1, r3.trans k.2⟩
          have HR : Hid (language s i = langTail s (j + 1 + run alnum s 8 (j + 1))) := by unfold Hid; rw [HL2.out, hst]
          obtain ⟨n, hn⟩ : ∃ n, n = run alnum s 8 (j + 1) := ⟨_, rfl⟩
          rw [← hn] at HS HR hle2 c3
          clear hst hp hn
          go_wp2_with fail
          refine HT.out.mono ?_
          rintro e w3 ⟨rfl, hA3⟩
          go_wp2_with fail
          refine (either_any _ _ _ _ _ rfl).mono ?_
          rintro e w4 ⟨rfl, rfl⟩
          go_wp2_with fail
          refine (HS.out _ hA3).mono ?_
          rintro e w5 ⟨rfl, hA5⟩
          go_wp2_with fail
          go_roundw
          case rel => exact ⟨j + 1 + n, hA5, by omega, by omega, HR.out⟩
          case measure =>
            have := (M.out.rd.adv hA5 (by omega)).pos
            rw [this, HP.out]
            omega
      · rw [if_neg c2] at hTk
        have hd : decide (bt s j = 45) = false := by simpa using c2
        rw [hd] at hTk
        have HT : Hid (Calls Tryz.prog 88 #[.pointer (some ⟨b, 0, none⟩), .int .u8 45] wr fun e w'' => e = .returned (.bool false) ∧ Adv b j w' w'') := hTk.mono fun e w'' k => ⟨k.1, HA.out.trans k.2⟩
        have HR : Hid (langR s i = .ok (sub s i j) j) := by unfold Hid langR; rw [HL2.out, langTail_end s j c2]
        clear hTk hd c2 hRd hA
        go_wp2_with fail
        refine HT.out.mono ?_
        rintro e w3 ⟨rfl, hA3⟩
        go_wp2_with fail
        refine (M.out.since hA3 hij hjs).mono ?_
        rintro e w6 ⟨rfl, hB6⟩
        go_wp2_with fail
        go_ret
        rw [HR.out]
        exact ⟨rfl, M.out.adv.trans (hA3.then_below hB6)⟩
end Go.Proofs.YtnffjoipinhojaaGreatDoor
