import Derived.Test.YtnffjoipinhojaaGreatDoorRs
set_option linter.unusedSimpArgs false
set_option linter.unusedVariables false
namespace Go.Proofs.YtnffjoipinhojaaGreatDoor
open Go.RowKit

theorem asc_yes {p : Int → Bool} (hp : ∀ c, p c = true → 0 ≤ c ∧ c < 128) {s : ByteArray} {j : Nat} (h : p (bt s j) = true) : chr s j = ((bt s j).toNat, 1) ∧ p ((chr s j).1 : Nat) = true := by
  have := hp _ h
  have e := chr_ascii (s := s) (i := j) (by omega)
  refine ⟨e, ?_⟩
  rw [e]
  simp only
  rw [show (((bt s j).toNat : Nat) : Int) = bt s j by omega]
  exact h

theorem asc_no {p : Int → Bool} (hp : ∀ c, p c = true → 0 ≤ c ∧ c < 128) {s : ByteArray} {j : Nat} (h : p (bt s j) = false) : ¬ ((chr s j).2 ≠ 0 ∧ p ((chr s j).1 : Nat) = true) := by
  rintro ⟨h1, h2⟩
  have hc := chr_code h1
  have hl := hp _ h2
  have hr := bt_range s j
  by_cases hb : bt s j < 128
  · have e := chr_ascii hb
    rw [e] at h2
    simp only at h2
    rw [show (((bt s j).toNat : Nat) : Int) = bt s j by omega] at h2
    rw [h2] at h
    cases h
  · have := hc.2.2.1 (by omega)
    omega

theorem Tabs.adv {w w' : World} {b j : Nat} (h : Tabs w) (ha : Adv b j w w') (hb : 8 ≤ b) (hl : b < w.heap.size) : Tabs w' :=
  h.below (B := b) (ha.below (Nat.le_refl _) (by omega)) (by omega) (by omega)

set_option maxHeartbeats 1000000 in
theorem some_ok (w : World) (b i most : Nat) (s : ByteArray) (h : Rd w b s i) (hT : Tabs w) (g : Nat) (lb : Array Value) (p : Int → Bool) (lo hi : Nat) (hp : IsSet g lb p lo hi w)
    (ha : ∀ c, p c = true → 0 ≤ c ∧ c < 128) (hb4 : 8 ≤ b) (hbl : b < lo ∨ hi ≤ b) (hm0 : 1 ≤ most) (hm : most ≤ 1000) (h1 : p (bt s i) = true) :
    Calls Tryz.prog 141 #[.pointer (some ⟨b, 0, none⟩), fnV g lb, .int .i64 most] w fun e w' => e = .returned (.tuple #[]) ∧ Adv b (i + run p s most i) w w' := by
  obtain ⟨e1, e2⟩ := asc_yes ha h1
  have hW := wants_yes w b i s h hT g lb p lo hi hp (by rw [e1]; exact Nat.one_ne_zero) e2
  rw [e1] at hW
  simp only at hW
  have hi0 : i < s.size := bt_lt_size (by have := ha _ h1; omega)
  have H : Hid (Rd w b s i) := h
  have HT : Hid (Tabs w) := hT
  have HP : Hid (IsSet g lb p lo hi w) := hp
  have HW : Hid (Calls Tryz.prog 137 #[.pointer (some ⟨b, 0, none⟩), fnV g lb] w fun e w' => e = .returned (.int .i32 (((bt s i).toNat : Nat) : Int)) ∧ Adv b (i + 1) w w') := hW
  have HR : Hid (run p s most i = 1 + run p s (most - 1) (i + 1)) := by
    obtain ⟨m, rfl⟩ : ∃ m, most = m + 1 := ⟨most - 1, by omega⟩
    simp only [Hid, run, h1, if_true, Nat.add_sub_cancel]
    omega
  have HA : Hid (∀ c, p c = true → 0 ≤ c ∧ c < 128) := ha
  have hbw := h.lt
  clear hW e1 e2 h1 hp hT h ha
  go_enter Tryz.func141, Tryz.ntmps141
  go_wp2_with (go_at_call 137; refine HW.out.mono ?_; rintro e w1 ⟨rfl, hA1⟩)
  go_loopw [13] (fun t wr => ∃ q : Nat, q + 1 ≤ most ∧ t = .int .i64 q ∧ Adv b (i + 1 + q) w wr ∧ i + 1 + q ≤ s.size ∧ run p s most i = 1 + q + run p s (most - 1 - q) (i + 1 + q)) (fun t _ => most - (intOf t).toNat)
  case atStart => exact ⟨0, by omega, rfl, hA1, by omega, by rw [HR.out]; simp⟩
  case round =>
    obtain ⟨q, hq, rfl, hA, hqs, hr⟩ := hrel
    have HQ : Hid (run p s most i = 1 + q + run p s (most - 1 - q) (i + 1 + q)) := hr
    have hRd := H.out.adv hA hqs
    have hTb := HT.out.adv hA hb4 hbw
    have hSet := HP.out.adv hA hbl
    have HAd : Hid (Adv b (i + 1 + q) w wr) := hA
    clear hr hA
    by_cases hlt : q + 1 < most
    · cases hpb : p (bt s (i + 1 + q)) with
      | true =>
        obtain ⟨e1, e2⟩ := asc_yes HA.out hpb
        have hK := takes_yes wr b (i + 1 + q) s hRd hTb g lb p lo hi hSet (by rw [e1]; exact Nat.one_ne_zero) e2
        rw [e1] at hK
        simp only at hK
        have hi1 : i + 1 + q < s.size := bt_lt_size (by have := HA.out _ hpb; omega)
        have HR1 : Hid (run p s (most - 1 - q) (i + 1 + q) = run p s (most - 1 - (q + 1)) (i + 1 + (q + 1)) + 1) := by
          obtain ⟨m, hm1⟩ : ∃ m, most - 1 - q = m + 1 := ⟨most - 1 - q - 1, by omega⟩
          have hm2 : most - 1 - (q + 1) = m := by omega
          rw [hm1, hm2]
          simp only [Hid, run, hpb, if_true]
          rfl
        have HK : Hid (Calls Tryz.prog 192 #[.pointer (some ⟨b, 0, none⟩), fnV g lb] wr fun e w' => e = .returned (.tuple #[.int .i32 (((bt s (i + 1 + q)).toNat : Nat) : Int), .bool true]) ∧ Adv b (i + 1 + q + 1) wr w') := hK
        clear hK e1 e2 hpb hRd hTb hSet
        go_wp2_with (go_at_call 192; refine HK.out.mono ?_; rintro e w2 ⟨rfl, hA2⟩)
        go_roundw
        case rel => exact ⟨q + 1, by omega, by go_num, HAd.out.trans hA2, by omega, by rw [HQ.out, HR1.out]; omega⟩
        case measure => simp [intOf]; omega
      | false =>
        have hK := takes_no wr b (i + 1 + q) s hRd hTb g lb p lo hi hSet (asc_no HA.out hpb)
        have HR1 : Hid (run p s (most - 1 - q) (i + 1 + q) = 0) := by
          obtain ⟨m, hm1⟩ : ∃ m, most - 1 - q = m + 1 := ⟨most - 1 - q - 1, by omega⟩
          rw [hm1]
          simp [Hid, run, hpb]
        have hAN := HAd.out
        clear hpb hTb hSet
        go_wp2_with (go_at_call 192; refine hK.mono ?_; rintro e w2 ⟨rfl, hB2⟩)
        refine bodyPost_ret (results_none rfl _ _ _) rfl ?_
        refine ⟨rfl, ?_⟩
        rw [HQ.out, HR1.out, show i + (1 + q + 0) = i + 1 + q by omega]
        exact hAN.then_below hB2
    · have HR1 : Hid (run p s (most - 1 - q) (i + 1 + q) = 0) := by
        rw [show most - 1 - q = 0 by omega]
        simp [Hid, run]
      clear hRd hTb hSet
      go_wp2
      go_end0
      refine ⟨rfl, ?_⟩
      rw [HQ.out, HR1.out, show i + (1 + q + 0) = i + 1 + q by omega]
      exact HAd.out

theorem some_bad (w : World) (b i most : Nat) (s : ByteArray) (h : Rd w b s i) (hT : Tabs w) (g : Nat) (lb : Array Value) (p : Int → Bool) (lo hi : Nat) (hp : IsSet g lb p lo hi w)
    (ha : ∀ c, p c = true → 0 ≤ c ∧ c < 128) (h1 : p (bt s i) = false) :
    Calls Tryz.prog 141 #[.pointer (some ⟨b, 0, none⟩), fnV g lb, .int .i64 most] w fun e w' => e = stopE 2 i ∧ Adv b i w w' := by
  have hW := wants_no w b i s h hT g lb p lo hi hp (asc_no ha h1)
  clear h1 hp hT h ha
  go_enter Tryz.func141, Tryz.ntmps141
  go_wp2_with (go_at_call 137; refine hW.mono ?_; rintro e w1 ⟨rfl, hA1⟩)
  exact ⟨rfl, rfl, hA1⟩
end Go.Proofs.YtnffjoipinhojaaGreatDoor
