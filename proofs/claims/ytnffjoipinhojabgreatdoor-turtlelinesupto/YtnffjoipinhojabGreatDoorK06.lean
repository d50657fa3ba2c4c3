import Derived.Test.YtnffjoipinhojabGreatDoorK05
set_option linter.unusedSimpArgs false
set_option linter.unusedVariables false
namespace Go.Proofs.YtnffjoipinhojabGreatDoor
open Go.RowKit

def shortS : List UInt8 := [116, 98, 110, 114, 102, 34, 39, 92]
theorem shortS_asc : asc shortS := by unfold asc shortS; decide
theorem nil_asc : asc [] := by unfold asc; decide

theorem short_cases (c : Int) : (∃ n, shortOf c = some n ∧ oneOfP shortS c = true ∧ (c = 116 ∧ n = 9 ∨ c = 98 ∧ n = 8 ∨ c = 110 ∧ n = 10 ∨ c = 114 ∧ n = 13 ∨ c = 102 ∧ n = 12 ∨ c = 34 ∧ n = 34 ∨ c = 39 ∧ n = 39 ∨ c = 92 ∧ n = 92)) ∨ (shortOf c = none ∧ oneOfP shortS c = false) := by
  unfold shortOf oneOfP shortS
  by_cases h1 : c = 116
  · subst h1; exact .inl ⟨9, by decide, by decide, by omega⟩
  by_cases h2 : c = 98
  · subst h2; exact .inl ⟨8, by decide, by decide, by omega⟩
  by_cases h3 : c = 110
  · subst h3; exact .inl ⟨10, by decide, by decide, by omega⟩
  by_cases h4 : c = 114
  · subst h4; exact .inl ⟨13, by decide, by decide, by omega⟩
  by_cases h5 : c = 102
  · subst h5; exact .inl ⟨12, by decide, by decide, by omega⟩
  by_cases h6 : c = 34
  · subst h6; exact .inl ⟨34, by decide, by decide, by omega⟩
  by_cases h7 : c = 39
  · subst h7; exact .inl ⟨39, by decide, by decide, by omega⟩
  by_cases h8 : c = 92
  · subst h8; exact .inl ⟨92, by decide, by decide, by omega⟩
  refine .inr ⟨by simp [h1, h2, h3, h4, h5, h6, h7, h8], ?_⟩
  simp
  omega

theorem oneOfP_asc {l : List UInt8} (hl : asc l) (c : Int) (h : oneOfP l c = true) : 0 ≤ c ∧ c < 128 := by
  unfold oneOfP at h
  rw [List.any_eq_true] at h
  obtain ⟨x, hx, h2⟩ := h
  have := hl x hx
  simp at h2
  omega

set_option maxHeartbeats 2000000 in
/-- the part of escape that all roads share: its start, up to the sign behind the backslash -/
theorem escape_num (w : World) (b i : Nat) (s : ByteArray) (h : Rd w b s i) (hT : Tabs w) (hb4 : 8 ≤ b) (g : Nat) (lb : Array Value) (p : Int → Bool) (lo hi : Nat) (hp : IsSet g lb p lo hi w) (hbl : b < lo ∨ hi ≤ b) (sh : ByteArray)
    (c0 : bt s i = 92) (c1 : bt s (i + 1) = 117 ∨ bt s (i + 1) = 85) :
    Calls Tryz.prog 129 #[.pointer (some ⟨b, 0, none⟩), fnV g lb, .string sh] w (Out b w (fun n : Nat => .int .i32 n) (num s i (i + 2) (if bt s (i + 1) = 117 then 4 else 8) p)) := by
  have hi0 := bt_in c0 (by omega)
  have hi1 : i + 1 < s.size := bt_lt_size (by omega)
  have HW : Hid (Calls Tryz.prog 126 #[.pointer (some ⟨b, 0, none⟩), .int .u8 92] w fun e w' => e = .returned (.tuple #[]) ∧ Adv b (i + 1) w w') := want_ok w b i s 92 h (by omega) (by omega) c0
  have HTk : Hid (∀ w2 c, 0 ≤ c → c < 256 → Adv b (i + 1) w w2 → Calls Tryz.prog 64 #[.pointer (some ⟨b, 0, none⟩), .int .u8 c] w2 fun e w' => e = .returned (.bool (decide (bt s (i + 1) = c))) ∧ Adv b (if bt s (i + 1) = c then i + 2 else i + 1) w w') := fun w2 c h0 h1 a =>
    (take_any w2 b (i + 1) s c (h.adv a (by omega)) h0 h1).mono fun e w' k => ⟨k.1, a.trans k.2⟩
  have HNum : Hid (∀ w3 k, k ≤ 8 → Adv b (i + 2) w w3 → Calls Tryz.prog 181 #[.pointer (some ⟨b, 0, none⟩), .int .i64 i, .int .i64 (k : Nat), fnV g lb] w3 (Out b w3 (fun n : Nat => .int .i32 n) (num s i (i + 2) k p))) := fun w3 k hk a =>
    numbered_any w3 b i (i + 2) k s (h.adv a (by omega)) (hT.adv a hb4 h.lt) hb4 g lb p lo hi (hp.adv a hbl) hbl hk
  have hO : ∀ {k : Nat} {w3 : World} {e : Ending} {w4 : World}, Adv b (i + 2) w w3 → Out b w3 (fun n : Nat => .int .i32 n) (num s i (i + 2) k p) e w4 → Out b w (fun n : Nat => Value.int .i32 n) (num s i (i + 2) k p) e w4 := by
    intro k w3 e w4 a o
    unfold Out at *
    split at o
    · exact ⟨o.1, a.trans o.2⟩
    · exact ⟨o.1, o.2.choose, a.trans o.2.choose_spec⟩
  have HO : Hid (∀ {k : Nat} {w3 : World} {e : Ending} {w4 : World}, Adv b (i + 2) w w3 → Out b w3 (fun n : Nat => .int .i32 n) (num s i (i + 2) k p) e w4 → Out b w (fun n : Nat => Value.int .i32 n) (num s i (i + 2) k p) e w4) := hO
  obtain ⟨d0, d1, d2, d3, d4⟩ := h
  clear hT hp c0 hO
  rcases c1 with c1 | c1
  · rw [if_pos c1]
    have HT1 : Hid (∀ w2, Adv b (i + 1) w w2 → Calls Tryz.prog 64 #[.pointer (some ⟨b, 0, none⟩), .int .u8 117] w2 fun e w' => e = .returned (.bool true) ∧ Adv b (i + 2) w w') := fun w2 a => by
      have := HTk.out w2 117 (by omega) (by omega) a
      simpa only [c1, decide_true, if_true] using this
    obtain ⟨r, hr⟩ : ∃ r, r = num s i (i + 2) 4 p := ⟨_, rfl⟩
    have HN4 := fun w3 a => HNum.out w3 4 (by omega) a
    have HO4 : Hid (∀ {w3 : World} {e : Ending} {w4 : World}, Adv b (i + 2) w w3 → Out b w3 (fun n : Nat => .int .i32 n) (num s i (i + 2) 4 p) e w4 → Out b w (fun n : Nat => Value.int .i32 n) (num s i (i + 2) 4 p) e w4) := fun a o => HO.out a o
    rw [← hr] at HN4 HO4 ⊢
    have HNN : Hid (∀ w3, Adv b (i + 2) w w3 → Calls Tryz.prog 181 #[.pointer (some ⟨b, 0, none⟩), .int .i64 i, .int .i64 4, fnV g lb] w3 (Out b w3 (fun n : Nat => .int .i32 n) r)) := HN4
    clear hr HN4 HNum HO HTk c1
    go_enter Tryz.func129, Tryz.ntmps129
    go_wp2_with fail
    refine HW.out.mono ?_
    rintro e w2 ⟨rfl, hA2⟩
    go_wp2_with fail
    refine (HT1.out _ hA2).mono ?_
    rintro e w3 ⟨rfl, hA3⟩
    go_wp2_with fail
    refine (HNN.out _ hA3).mono ?_
    intro e w4 ho
    cases r with
    | ok n j =>
      obtain ⟨rfl, hA4⟩ := ho
      go_wp2_with fail
      go_ret
      exact ⟨rfl, hA3.trans hA4⟩
    | bad j =>
      obtain ⟨rfl, k, hA4⟩ := ho
      go_wp2_with fail
      exact ⟨rfl, rfl, k, hA3.trans hA4⟩
  · have hne : ¬ (bt s (i + 1) = 117) := by omega
    rw [if_neg hne]
    have HT1 : Hid (∀ w2, Adv b (i + 1) w w2 → Calls Tryz.prog 64 #[.pointer (some ⟨b, 0, none⟩), .int .u8 117] w2 fun e w' => e = .returned (.bool false) ∧ Adv b (i + 1) w w') := fun w2 a => by
      have := HTk.out w2 117 (by omega) (by omega) a
      simpa only [hne, decide_false, if_false] using this
    have HT2 : Hid (∀ w2, Adv b (i + 1) w w2 → Calls Tryz.prog 64 #[.pointer (some ⟨b, 0, none⟩), .int .u8 85] w2 fun e w' => e = .returned (.bool true) ∧ Adv b (i + 2) w w') := fun w2 a => by
      have := HTk.out w2 85 (by omega) (by omega) a
      simpa only [c1, decide_true, if_true] using this
    obtain ⟨r, hr⟩ : ∃ r, r = num s i (i + 2) 8 p := ⟨_, rfl⟩
    have HN4 := fun w3 a => HNum.out w3 8 (by omega) a
    rw [← hr] at HN4 ⊢
    have HNN : Hid (∀ w3, Adv b (i + 2) w w3 → Calls Tryz.prog 181 #[.pointer (some ⟨b, 0, none⟩), .int .i64 i, .int .i64 8, fnV g lb] w3 (Out b w3 (fun n : Nat => .int .i32 n) r)) := HN4
    clear hr HN4 HNum HO HTk c1 hne
    go_enter Tryz.func129, Tryz.ntmps129
    go_wp2_with fail
    refine HW.out.mono ?_
    rintro e w2 ⟨rfl, hA2⟩
    go_wp2_with fail
    refine (HT1.out _ hA2).mono ?_
    rintro e w3 ⟨rfl, hA3⟩
    go_wp2_with fail
    refine (HT2.out _ hA3).mono ?_
    rintro e w4 ⟨rfl, hA4⟩
    go_wp2_with fail
    refine (HNN.out _ hA4).mono ?_
    intro e w5 ho
    cases r with
    | ok n j =>
      obtain ⟨rfl, hA5⟩ := ho
      go_wp2_with fail
      go_ret
      exact ⟨rfl, hA4.trans hA5⟩
    | bad j =>
      obtain ⟨rfl, k, hA5⟩ := ho
      go_wp2_with fail
      exact ⟨rfl, rfl, k, hA4.trans hA5⟩
set_option maxHeartbeats 4000000 in
theorem escape_short (w : World) (b i : Nat) (s : ByteArray) (h : Rd w b s i) (hT : Tabs w) (hb4 : 8 ≤ b) (g : Nat) (lb : Array Value) (l : List UInt8) (hl : asc l) (hz : l.length ≤ 1000)
    (c0 : bt s i = 92) (c1 : bt s (i + 1) ≠ 117) (c2 : bt s (i + 1) ≠ 85) :
    (oneOfP l (bt s (i + 1)) = false → Calls Tryz.prog 129 #[.pointer (some ⟨b, 0, none⟩), fnV g lb, str l] w (Out b w (fun n : Nat => .int .i32 n) (.bad (i + 1))))
    ∧ (l = shortS → ∀ n, shortOf (bt s (i + 1)) = some n → Calls Tryz.prog 129 #[.pointer (some ⟨b, 0, none⟩), fnV g lb, str l] w (Out b w (fun n : Nat => .int .i32 n) (.ok n (i + 2)))) := by
  have hi0 := bt_in c0 (by omega)
  have HW : Hid (Calls Tryz.prog 126 #[.pointer (some ⟨b, 0, none⟩), .int .u8 92] w fun e w' => e = .returned (.tuple #[]) ∧ Adv b (i + 1) w w') := want_ok w b i s 92 h (by omega) (by omega) c0
  have HT1 : Hid (∀ w2, Adv b (i + 1) w w2 → Calls Tryz.prog 64 #[.pointer (some ⟨b, 0, none⟩), .int .u8 117] w2 fun e w' => e = .returned (.bool false) ∧ Adv b (i + 1) w w') := fun w2 a => by
    have := (take_any w2 b (i + 1) s 117 (h.adv a (by omega)) (by omega) (by omega))
    simp only [c1, decide_false, if_false] at this
    exact this.mono fun e w' k => ⟨k.1, a.trans k.2⟩
  have HT2 : Hid (∀ w2, Adv b (i + 1) w w2 → Calls Tryz.prog 64 #[.pointer (some ⟨b, 0, none⟩), .int .u8 85] w2 fun e w' => e = .returned (.bool false) ∧ Adv b (i + 1) w w') := fun w2 a => by
    have := (take_any w2 b (i + 1) s 85 (h.adv a (by omega)) (by omega) (by omega))
    simp only [c2, decide_false, if_false] at this
    exact this.mono fun e w' k => ⟨k.1, a.trans k.2⟩
  have HX : Hid (∀ w3, Adv b (i + 1) w w3 → Rd (oW w3 l) b s (i + 1) ∧ Tabs (oW w3 l) ∧ Adv b (i + 1) w (oW w3 l) ∧ IsSet 175 #[.pointer (some ⟨w3.heap.size, 0, none⟩)] (oneOfP l) w3.heap.size (w3.heap.size + 1) (oW w3 l)) := fun w3 a => by
    have a2 := a.then_below (oW_below w3 l)
    exact ⟨h.adv a2 (by omega), hT.adv a2 hb4 h.lt, a2, set_oW w3 l hl hz⟩
  have hcell := h
  obtain ⟨d0, d1, d2, d3, d4⟩ := hcell
  clear hT c0 c1 c2
  constructor
  · intro hno
    have HY : Hid (∀ w3, Adv b (i + 1) w w3 → Calls Tryz.prog 127 #[.pointer (some ⟨b, 0, none⟩), fnV 175 #[.pointer (some ⟨w3.heap.size, 0, none⟩)]] (oW w3 l) fun e w' => e = stopE 2 (i + 1 : Nat) ∧ Adv b (i + 1) w w') := fun w3 a => by
      obtain ⟨x1, x2, x3, x4⟩ := HX.out w3 a
      exact (wants_no (oW w3 l) b (i + 1) s x1 x2 _ _ _ _ _ x4 (asc_no (oneOfP_asc hl) hno)).mono fun e w' k => ⟨k.1, x3.trans k.2⟩
    clear hno HX h hl
    go_enter Tryz.func129, Tryz.ntmps129
    go_wp2_with fail
    refine HW.out.mono ?_
    rintro e w2 ⟨rfl, hA2⟩
    go_wp2_with fail
    refine (HT1.out _ hA2).mono ?_
    rintro e w3 ⟨rfl, hA3⟩
    go_wp2_with fail
    refine (HT2.out _ hA3).mono ?_
    rintro e w4 ⟨rfl, hA4⟩
    go_wp2_with fail
    refine (oneOf_any _ _).mono ?_
    rintro e w5 ⟨rfl, rfl⟩
    go_wp2_with fail
    refine (HY.out _ hA4).mono ?_
    rintro e w6 ⟨rfl, hA6⟩
    go_wp2_with fail
    exact ⟨rfl, rfl, _, hA6⟩
  · rintro rfl n hn
    have hyes : oneOfP shortS (bt s (i + 1)) = true ∧ (bt s (i + 1) = 116 ∧ n = 9 ∨ bt s (i + 1) = 98 ∧ n = 8 ∨ bt s (i + 1) = 110 ∧ n = 10 ∨ bt s (i + 1) = 114 ∧ n = 13 ∨ bt s (i + 1) = 102 ∧ n = 12 ∨ bt s (i + 1) = 34 ∧ n = 34 ∨ bt s (i + 1) = 39 ∧ n = 39 ∨ bt s (i + 1) = 92 ∧ n = 92) := by
      rcases short_cases (bt s (i + 1)) with ⟨m, h1, h2, h3⟩ | ⟨h1, h2⟩
      · rw [h1] at hn; cases hn; exact ⟨h2, h3⟩
      · rw [h1] at hn; cases hn
    obtain ⟨hy, hcs⟩ := hyes
    obtain ⟨e1, e2⟩ := asc_yes (oneOfP_asc hl) hy
    obtain ⟨c, hc⟩ : ∃ c, c = bt s (i + 1) := ⟨_, rfl⟩
    have hr := oneOfP_asc hl _ hy
    have HY : Hid (∀ w3, Adv b (i + 1) w w3 → Calls Tryz.prog 127 #[.pointer (some ⟨b, 0, none⟩), fnV 175 #[.pointer (some ⟨w3.heap.size, 0, none⟩)]] (oW w3 shortS) fun e w' => e = .returned (.int .i32 c) ∧ Adv b (i + 2) w w') := fun w3 a => by
      obtain ⟨x1, x2, x3, x4⟩ := HX.out w3 a
      have := wants_yes (oW w3 shortS) b (i + 1) s x1 x2 _ _ _ _ _ x4 (by rw [e1]; exact Nat.one_ne_zero) e2
      rw [e1] at this
      simp only at this
      rw [show (((bt s (i + 1)).toNat : Nat) : Int) = bt s (i + 1) by omega, ← hc] at this
      exact this.mono fun e w' k => ⟨k.1, x3.trans k.2⟩
    rw [← hc] at hcs
    clear hy e1 e2 hc hr HX h hl hn hz
    rcases hcs with ⟨rfl, rfl⟩ | ⟨rfl, rfl⟩ | ⟨rfl, rfl⟩ | ⟨rfl, rfl⟩ | ⟨rfl, rfl⟩ | ⟨rfl, rfl⟩ | ⟨rfl, rfl⟩ | ⟨rfl, rfl⟩
    · have hIR : ∀ w2, Calls Tryz.prog 182 #[.string ⟨#[116, 98, 110, 114, 102, 34, 39, 92]⟩, .int .i32 116] w2 fun e w' => e = .returned (.int .i64 0) ∧ w' = w2 := fun w2 => by
        have := indexRune_ascii w2 ⟨#[116, 98, 110, 114, 102, 34, 39, 92]⟩ 116 (by omega) (by omega)
        rw [show Lib.indexByte (⟨#[116, 98, 110, 114, 102, 34, 39, 92]⟩ : ByteArray).data.toList (116 : Int).toNat.toUInt8 = 0 by decide] at this
        exact this
      go_enter Tryz.func129, Tryz.ntmps129
      go_wp2_with fail
      refine HW.out.mono ?_
      rintro e w2 ⟨rfl, hA2⟩
      go_wp2_with fail
      refine (HT1.out _ hA2).mono ?_
      rintro e w3 ⟨rfl, hA3⟩
      go_wp2_with fail
      refine (HT2.out _ hA3).mono ?_
      rintro e w4 ⟨rfl, hA4⟩
      go_wp2_with fail
      refine (oneOf_any _ _).mono ?_
      rintro e w5 ⟨rfl, rfl⟩
      go_wp2_with fail
      refine (HY.out _ hA4).mono ?_
      rintro e w6 ⟨rfl, hA6⟩
      go_wp2_with fail
      refine (hIR _).mono ?_
      rintro e w7 ⟨rfl, rfl⟩
      go_wp2_with fail
      go_ret
      exact ⟨ret_int (by kernel_rfl), hA6⟩
    · have hIR : ∀ w2, Calls Tryz.prog 182 #[.string ⟨#[116, 98, 110, 114, 102, 34, 39, 92]⟩, .int .i32 98] w2 fun e w' => e = .returned (.int .i64 1) ∧ w' = w2 := fun w2 => by
        have := indexRune_ascii w2 ⟨#[116, 98, 110, 114, 102, 34, 39, 92]⟩ 98 (by omega) (by omega)
        rw [show Lib.indexByte (⟨#[116, 98, 110, 114, 102, 34, 39, 92]⟩ : ByteArray).data.toList (98 : Int).toNat.toUInt8 = 1 by decide] at this
        exact this
      go_enter Tryz.func129, Tryz.ntmps129
      go_wp2_with fail
      refine HW.out.mono ?_
      rintro e w2 ⟨rfl, hA2⟩
      go_wp2_with fail
      refine (HT1.out _ hA2).mono ?_
      rintro e w3 ⟨rfl, hA3⟩
      go_wp2_with fail
      refine (HT2.out _ hA3).mono ?_
      rintro e w4 ⟨rfl, hA4⟩
      go_wp2_with fail
      refine (oneOf_any _ _).mono ?_
      rintro e w5 ⟨rfl, rfl⟩
      go_wp2_with fail
      refine (HY.out _ hA4).mono ?_
      rintro e w6 ⟨rfl, hA6⟩
      go_wp2_with fail
      refine (hIR _).mono ?_
      rintro e w7 ⟨rfl, rfl⟩
      go_wp2_with fail
      go_ret
      exact ⟨ret_int (by kernel_rfl), hA6⟩
    · have hIR : ∀ w2, Calls Tryz.prog 182 #[.string ⟨#[116, 98, 110, 114, 102, 34, 39, 92]⟩, .int .i32 110] w2 fun e w' => e = .returned (.int .i64 2) ∧ w' = w2 := fun w2 => by
        have := indexRune_ascii w2 ⟨#[116, 98, 110, 114, 102, 34, 39, 92]⟩ 110 (by omega) (by omega)
        rw [show Lib.indexByte (⟨#[116, 98, 110, 114, 102, 34, 39, 92]⟩ : ByteArray).data.toList (110 : Int).toNat.toUInt8 = 2 by decide] at this
        exact this
      go_enter Tryz.func129, Tryz.ntmps129
      go_wp2_with fail
      refine HW.out.mono ?_
      rintro e w2 ⟨rfl, hA2⟩
      go_wp2_with fail
      refine (HT1.out _ hA2).mono ?_
      rintro e w3 ⟨rfl, hA3⟩
      go_wp2_with fail
      refine (HT2.out _ hA3).mono ?_
      rintro e w4 ⟨rfl, hA4⟩
      go_wp2_with fail
      refine (oneOf_any _ _).mono ?_
      rintro e w5 ⟨rfl, rfl⟩
      go_wp2_with fail
      refine (HY.out _ hA4).mono ?_
      rintro e w6 ⟨rfl, hA6⟩
      go_wp2_with fail
      refine (hIR _).mono ?_
      rintro e w7 ⟨rfl, rfl⟩
      go_wp2_with fail
      go_ret
      exact ⟨ret_int (by kernel_rfl), hA6⟩
    · have hIR : ∀ w2, Calls Tryz.prog 182 #[.string ⟨#[116, 98, 110, 114, 102, 34, 39, 92]⟩, .int .i32 114] w2 fun e w' => e = .returned (.int .i64 3) ∧ w' = w2 := fun w2 => by
        have := indexRune_ascii w2 ⟨#[116, 98, 110, 114, 102, 34, 39, 92]⟩ 114 (by omega) (by omega)
        rw [show Lib.indexByte (⟨#[116, 98, 110, 114, 102, 34, 39, 92]⟩ : ByteArray).data.toList (114 : Int).toNat.toUInt8 = 3 by decide] at this
        exact this
      go_enter Tryz.func129, Tryz.ntmps129
      go_wp2_with fail
      refine HW.out.mono ?_
      rintro e w2 ⟨rfl, hA2⟩
      go_wp2_with fail
      refine (HT1.out _ hA2).mono ?_
      rintro e w3 ⟨rfl, hA3⟩
      go_wp2_with fail
      refine (HT2.out _ hA3).mono ?_
      rintro e w4 ⟨rfl, hA4⟩
      go_wp2_with fail
      refine (oneOf_any _ _).mono ?_
      rintro e w5 ⟨rfl, rfl⟩
      go_wp2_with fail
      refine (HY.out _ hA4).mono ?_
      rintro e w6 ⟨rfl, hA6⟩
      go_wp2_with fail
      refine (hIR _).mono ?_
      rintro e w7 ⟨rfl, rfl⟩
      go_wp2_with fail
      go_ret
      exact ⟨ret_int (by kernel_rfl), hA6⟩
    · have hIR : ∀ w2, Calls Tryz.prog 182 #[.string ⟨#[116, 98, 110, 114, 102, 34, 39, 92]⟩, .int .i32 102] w2 fun e w' => e = .returned (.int .i64 4) ∧ w' = w2 := fun w2 => by
        have := indexRune_ascii w2 ⟨#[116, 98, 110, 114, 102, 34, 39, 92]⟩ 102 (by omega) (by omega)
        rw [show Lib.indexByte (⟨#[116, 98, 110, 114, 102, 34, 39, 92]⟩ : ByteArray).data.toList (102 : Int).toNat.toUInt8 = 4 by decide] at this
        exact this
      go_enter Tryz.func129, Tryz.ntmps129
      go_wp2_with fail
      refine HW.out.mono ?_
      rintro e w2 ⟨rfl, hA2⟩
      go_wp2_with fail
      refine (HT1.out _ hA2).mono ?_
      rintro e w3 ⟨rfl, hA3⟩
      go_wp2_with fail
      refine (HT2.out _ hA3).mono ?_
      rintro e w4 ⟨rfl, hA4⟩
      go_wp2_with fail
      refine (oneOf_any _ _).mono ?_
      rintro e w5 ⟨rfl, rfl⟩
      go_wp2_with fail
      refine (HY.out _ hA4).mono ?_
      rintro e w6 ⟨rfl, hA6⟩
      go_wp2_with fail
      refine (hIR _).mono ?_
      rintro e w7 ⟨rfl, rfl⟩
      go_wp2_with fail
      go_ret
      exact ⟨ret_int (by kernel_rfl), hA6⟩
    · have hIR : ∀ w2, Calls Tryz.prog 182 #[.string ⟨#[116, 98, 110, 114, 102, 34, 39, 92]⟩, .int .i32 34] w2 fun e w' => e = .returned (.int .i64 5) ∧ w' = w2 := fun w2 => by
        have := indexRune_ascii w2 ⟨#[116, 98, 110, 114, 102, 34, 39, 92]⟩ 34 (by omega) (by omega)
        rw [show Lib.indexByte (⟨#[116, 98, 110, 114, 102, 34, 39, 92]⟩ : ByteArray).data.toList (34 : Int).toNat.toUInt8 = 5 by decide] at this
        exact this
      go_enter Tryz.func129, Tryz.ntmps129
      go_wp2_with fail
      refine HW.out.mono ?_
      rintro e w2 ⟨rfl, hA2⟩
      go_wp2_with fail
      refine (HT1.out _ hA2).mono ?_
      rintro e w3 ⟨rfl, hA3⟩
      go_wp2_with fail
      refine (HT2.out _ hA3).mono ?_
      rintro e w4 ⟨rfl, hA4⟩
      go_wp2_with fail
      refine (oneOf_any _ _).mono ?_
      rintro e w5 ⟨rfl, rfl⟩
      go_wp2_with fail
      refine (HY.out _ hA4).mono ?_
      rintro e w6 ⟨rfl, hA6⟩
      go_wp2_with fail
      refine (hIR _).mono ?_
      rintro e w7 ⟨rfl, rfl⟩
      go_wp2_with fail
      go_ret
      exact ⟨ret_int (by kernel_rfl), hA6⟩
    · have hIR : ∀ w2, Calls Tryz.prog 182 #[.string ⟨#[116, 98, 110, 114, 102, 34, 39, 92]⟩, .int .i32 39] w2 fun e w' => e = .returned (.int .i64 6) ∧ w' = w2 := fun w2 => by
        have := indexRune_ascii w2 ⟨#[116, 98, 110, 114, 102, 34, 39, 92]⟩ 39 (by omega) (by omega)
        rw [show Lib.indexByte (⟨#[116, 98, 110, 114, 102, 34, 39, 92]⟩ : ByteArray).data.toList (39 : Int).toNat.toUInt8 = 6 by decide] at this
        exact this
      go_enter Tryz.func129, Tryz.ntmps129
      go_wp2_with fail
      refine HW.out.mono ?_
      rintro e w2 ⟨rfl, hA2⟩
      go_wp2_with fail
      refine (HT1.out _ hA2).mono ?_
      rintro e w3 ⟨rfl, hA3⟩
      go_wp2_with fail
      refine (HT2.out _ hA3).mono ?_
      rintro e w4 ⟨rfl, hA4⟩
      go_wp2_with fail
      refine (oneOf_any _ _).mono ?_
      rintro e w5 ⟨rfl, rfl⟩
      go_wp2_with fail
      refine (HY.out _ hA4).mono ?_
      rintro e w6 ⟨rfl, hA6⟩
      go_wp2_with fail
      refine (hIR _).mono ?_
      rintro e w7 ⟨rfl, rfl⟩
      go_wp2_with fail
      go_ret
      exact ⟨ret_int (by kernel_rfl), hA6⟩
    · have hIR : ∀ w2, Calls Tryz.prog 182 #[.string ⟨#[116, 98, 110, 114, 102, 34, 39, 92]⟩, .int .i32 92] w2 fun e w' => e = .returned (.int .i64 7) ∧ w' = w2 := fun w2 => by
        have := indexRune_ascii w2 ⟨#[116, 98, 110, 114, 102, 34, 39, 92]⟩ 92 (by omega) (by omega)
        rw [show Lib.indexByte (⟨#[116, 98, 110, 114, 102, 34, 39, 92]⟩ : ByteArray).data.toList (92 : Int).toNat.toUInt8 = 7 by decide] at this
        exact this
      go_enter Tryz.func129, Tryz.ntmps129
      go_wp2_with fail
      refine HW.out.mono ?_
      rintro e w2 ⟨rfl, hA2⟩
      go_wp2_with fail
      refine (HT1.out _ hA2).mono ?_
      rintro e w3 ⟨rfl, hA3⟩
      go_wp2_with fail
      refine (HT2.out _ hA3).mono ?_
      rintro e w4 ⟨rfl, hA4⟩
      go_wp2_with fail
      refine (oneOf_any _ _).mono ?_
      rintro e w5 ⟨rfl, rfl⟩
      go_wp2_with fail
      refine (HY.out _ hA4).mono ?_
      rintro e w6 ⟨rfl, hA6⟩
      go_wp2_with fail
      refine (hIR _).mono ?_
      rintro e w7 ⟨rfl, rfl⟩
      go_wp2_with fail
      go_ret
      exact ⟨ret_int (by kernel_rfl), hA6⟩

theorem escape_any (w : World) (b i : Nat) (s : ByteArray) (h : Rd w b s i) (hT : Tabs w) (hb4 : 8 ≤ b) (g : Nat) (lb : Array Value) (p : Int → Bool) (lo hi : Nat) (hp : IsSet g lb p lo hi w) (hbl : b < lo ∨ hi ≤ b) (sh : Bool)
    (c0 : bt s i = 92) :
    Calls Tryz.prog 129 #[.pointer (some ⟨b, 0, none⟩), fnV g lb, str (if sh then shortS else [])] w (Out b w (fun n : Nat => .int .i32 n) (esc s i p sh)) := by
  unfold esc
  by_cases c1 : bt s (i + 1) = 117
  · rw [if_pos c1]
    have := escape_num w b i s h hT hb4 g lb p lo hi hp hbl ⟨(if sh then shortS else []).toArray⟩ c0 (.inl c1)
    rw [if_pos c1] at this
    exact this
  · rw [if_neg c1]
    by_cases c2 : bt s (i + 1) = 85
    · rw [if_pos c2]
      have := escape_num w b i s h hT hb4 g lb p lo hi hp hbl ⟨(if sh then shortS else []).toArray⟩ c0 (.inr c2)
      rw [if_neg c1] at this
      exact this
    · rw [if_neg c2]
      cases sh with
      | true =>
        simp only [if_true]
        have := escape_short w b i s h hT hb4 g lb shortS shortS_asc (by decide) c0 c1 c2
        cases hs : shortOf (bt s (i + 1)) with
        | some n => exact this.2 rfl n hs
        | none =>
          refine this.1 ?_
          rcases short_cases (bt s (i + 1)) with ⟨m, h1, h2, h3⟩ | ⟨h1, h2⟩
          · rw [h1] at hs; cases hs
          · exact h2
      | false =>
        simp only [Bool.false_eq_true, if_false]
        exact (escape_short w b i s h hT hb4 g lb [] nil_asc (by decide) c0 c1 c2).1 rfl
end Go.Proofs.YtnffjoipinhojabGreatDoor

set_option linter.unusedSimpArgs false
set_option linter.unusedVariables false
namespace Go.Proofs.YtnffjoipinhojabGreatDoor
open Go.RowKit

theorem Rd.belowB {w w' : World} {b i B : Nat} {s : ByteArray} (h : Rd w b s i) (a : Below B w w') (hb : b < B) : Rd w' b s i :=
  ⟨(a.cell (p := ⟨b, 0, none⟩) hb).trans h.c0, (a.cell (p := ⟨b, 1, none⟩) hb).trans h.c1, (a.frozen (p := ⟨b, 1, none⟩) hb).trans h.fz, h.le, h.ms⟩

/-- A reader at j, a builder in block B that holds acc, a set: in the world wr, which goes back to w. -/
structure Inv (w wr : World) (b j B : Nat) (s : ByteArray) (acc : List UInt8) (g : Nat) (lb : Array Value) (p : Int → Bool) (lo hi : Nat) : Prop where
  rd : Rd wr b s j
  adv : Adv b j w wr
  tabs : Tabs wr
  bu : Bu B B acc wr
  set : IsSet g lb p lo hi wr
  gb : 8 ≤ b
  bw : b < w.heap.size
  wlo : w.heap.size ≤ lo
  hiB : hi ≤ B
  wB : w.heap.size ≤ B
  len : acc.length ≤ 4 * j
  sz : s.size ≤ 1099511627776

theorem Inv.BwR {w wr : World} {b j B : Nat} {s : ByteArray} {acc : List UInt8} {g : Nat} {lb : Array Value} {p : Int → Bool} {lo hi : Nat} (v : Inv w wr b j B s acc g lb p lo hi) : B < wr.heap.size := v.bu.lt

theorem Inv.advance {w wr : World} {b j B : Nat} {s : ByteArray} {acc : List UInt8} {g : Nat} {lb : Array Value} {p : Int → Bool} {lo hi : Nat} (v : Inv w wr b j B s acc g lb p lo hi) {k : Nat} {w2 : World} (a : Adv b k wr w2) (hjk : j ≤ k) (hk : k ≤ s.size) :
    Inv w w2 b k B s acc g lb p lo hi :=
  ⟨v.rd.adv a hk, v.adv.trans a, v.tabs.adv a v.gb v.rd.lt, v.bu.adv a (Nat.lt_of_lt_of_le v.bw v.wB), v.set.adv a (.inl (Nat.lt_of_lt_of_le v.bw v.wlo)), v.gb, v.bw, v.wlo, v.hiB, v.wB, by have := v.len; omega, v.sz⟩

theorem Inv.wrote {w wr : World} {b j B : Nat} {s : ByteArray} {acc : List UInt8} {g : Nat} {lb : Array Value} {p : Int → Bool} {lo hi : Nat} (v : Inv w wr b j B s acc g lb p lo hi) {acc' : List UInt8} {w2 : World} (a : Below B wr w2) (hb : Bu B B acc' w2) (hl : acc'.length ≤ 4 * j) :
    Inv w w2 b j B s acc' g lb p lo hi :=
  ⟨v.rd.belowB a (Nat.lt_of_lt_of_le v.bw v.wB), Below.trans v.adv (a.mono v.wB), v.tabs.below a (by have := v.gb; have := v.bw; have := v.wB; omega) (by have := v.gb; have := v.bw; have := v.wB; omega), hb, v.set.below a v.hiB, v.gb, v.bw, v.wlo, v.hiB, v.wB, hl, v.sz⟩

theorem body_q {s : ByteArray} {q : Int} {hasP hasE : Int → Bool} {short : Bool} {j : Nat} (h : bt s j = q) : body s q hasP hasE short j = .ok [] (j + 1) := by
  rw [body, if_pos h]
theorem body_bad {s : ByteArray} {q : Int} {hasP hasE : Int → Bool} {short : Bool} {j k : Nat} (h : bt s j ≠ q) (ho : one s j hasP hasE short = .bad k) : body s q hasP hasE short j = .bad k := by
  rw [body, if_neg h]
  split
  · rename_i x hx; rw [hx] at ho; cases ho; rfl
  · rename_i x y hx; rw [hx] at ho; cases ho
theorem body_ok {s : ByteArray} {q : Int} {hasP hasE : Int → Bool} {short : Bool} {j c k : Nat} (h : bt s j ≠ q) (ho : one s j hasP hasE short = .ok c k) : body s q hasP hasE short j = (body s q hasP hasE short k).pre (Lib.encodeRune c) := by
  rw [body, if_neg h]
  split
  · rename_i x hx; rw [hx] at ho; cases ho
  · rename_i x y hx; rw [hx] at ho; cases ho; rfl
theorem pre_pre (r : R (List UInt8)) (l m : List UInt8) : (r.pre m).pre l = r.pre (l ++ m) := by
  cases r <;> simp [R.pre]

theorem enc_len (r : Int) : (Lib.encodeRune r).length ≤ 4 := by
  unfold Lib.encodeRune
  rw [List.length_map]
  exact (Lib.encodeRuneZ_length r).2

theorem num_max {s : ByteArray} {i j k : Nat} {has : Int → Bool} {c m : Nat} (h : num s i j k has = .ok c m) : c ≤ 1114111 := by
  unfold num at h
  split at h
  · cases h
  · split at h
    · rename_i hv
      cases h
      simp [Lib.validRune] at hv
      omega
    · cases h

theorem esc_max {s : ByteArray} {i : Nat} {has : Int → Bool} {sh : Bool} {c m : Nat} (h : esc s i has sh = .ok c m) : c ≤ 1114111 := by
  unfold esc at h
  split at h
  · exact num_max h
  · split at h
    · exact num_max h
    · split at h
      · split at h
        · rename_i x hx
          cases h
          rcases short_cases (bt s (i + 1)) with ⟨n, h1, _, h3⟩ | ⟨h1, _⟩
          · rw [h1] at hx; cases hx; omega
          · rw [h1] at hx; cases hx
        · cases h
      · cases h

def plainS : List UInt8 := [10, 13, 34, 92]
theorem plainS_asc : asc plainS := by unfold asc plainS; decide
theorem plain_eq (c : Int) : (!oneOfP plainS c) = plainQ c := by
  unfold plainQ oneOfP plainS
  congr 1
  rw [Bool.eq_iff_iff]
  simp
  omega

/-- not(oneOf(l)), as it stands behind its making -/
def noW (u : World) (l : List UInt8) : World := (oW u l).alloc (.cells #[fnV 175 #[.pointer (some ⟨u.heap.size, 0, none⟩)]] 182)
theorem noW_size (u : World) (l : List UInt8) : (noW u l).heap.size = u.heap.size + 2 := by simp [noW, oW]
theorem noW_below (u : World) (l : List UInt8) : Below u.heap.size u (noW u l) := (oW_below u l).alloc (by simp [oW]) _
theorem set_noW (u : World) (l : List UInt8) (hl : asc l) (hz : l.length ≤ 1000) : IsSet 177 #[.pointer (some ⟨u.heap.size + 1, 0, none⟩)] (fun c => !oneOfP l c) u.heap.size (u.heap.size + 2) (noW u l) := by
  have hs := set_oW u l hl hz
  have hs2 : IsSet 175 #[.pointer (some ⟨u.heap.size, 0, none⟩)] (oneOfP l) u.heap.size (u.heap.size + 1) (noW u l) :=
    hs.below (B := u.heap.size + 1) ((Below.refl _ _).alloc (by simp [oW]) _) (Nat.le_refl _)
  refine set_not (noW u l) (u.heap.size + 1) _ _ _ _ _ hs2 (by omega) (by omega) ?_
  unfold noW
  rw [World.cell?_alloc_at _ _ _ _ (by simp [oW])]
  rfl

def qW (w : World) : World := (noW w plainS).alloc (.cells #[.pointer none, .slice none 0 0] 59)

theorem inv_quoted (w : World) (b i : Nat) (s : ByteArray) (h : Rd w b s i) (hT : Tabs w) (hb4 : 8 ≤ b) (hsz : s.size ≤ 1099511627776) :
    Inv w (qW w) b i (w.heap.size + 2) s [] 177 #[.pointer (some ⟨w.heap.size + 1, 0, none⟩)] plainQ w.heap.size (w.heap.size + 2) := by
  have hB : Below w.heap.size w (qW w) := (noW_below w plainS).alloc (by simp [noW, oW]; omega) _
  have hbw := h.lt
  have hbu := Bu.fresh (noW w plainS)
  rw [noW_size] at hbu
  have hs := set_noW w plainS plainS_asc (by decide)
  have hs2 := hs.below (B := w.heap.size + 2) (w := qW w) ((Below.refl _ _).alloc (by simp [noW, oW]) _) (Nat.le_refl _)
  rw [show (fun c => !oneOfP plainS c) = plainQ from funext plain_eq] at hs2
  exact ⟨h.below hB, h.stay hB, hT.below hB (by omega) (by omega), hbu, hs2, hb4, hbw, Nat.le_refl _, Nat.le_refl _, by omega, by simp, hsz⟩

set_option maxHeartbeats 4000000 in
theorem quoted_any (w : World) (b i : Nat) (s : ByteArray) (h : Rd w b s i) (hT : Tabs w) (hb4 : 8 ≤ b) (hsz : s.size ≤ 1099511627776) :
    Calls Tryz.prog 156 #[.pointer (some ⟨b, 0, none⟩)] w (Out b w str (quoted s i)) := by
  have V0 : Hid (Inv w (qW w) b i (w.heap.size + 2) s [] 177 #[.pointer (some ⟨w.heap.size + 1, 0, none⟩)] plainQ w.heap.size (w.heap.size + 2)) := inv_quoted w b i s h hT hb4 hsz
  clear h hT
  unfold quoted
  by_cases c1 : bt s i = 34
  · rw [if_neg (by simp [c1])]
    have hi1 := bt_in c1 (by omega)
    have HW : Hid (Calls Tryz.prog 126 #[.pointer (some ⟨b, 0, none⟩), .int .u8 34] (qW w) fun e w' => e = .returned (.tuple #[]) ∧ Adv b (i + 1) (qW w) w') := want_ok (qW w) b i s 34 V0.out.rd (by omega) (by omega) c1
    clear c1
    go_enter Tryz.func156, Tryz.ntmps156
    go_wp2_with fail
    refine (oneOf_any _ _).mono ?_
    rintro e w1 ⟨rfl, rfl⟩
    go_wp2_with fail
    refine (not_any _ _ _).mono ?_
    rintro e w2 ⟨rfl, rfl⟩
    go_wp2_with fail
    refine HW.out.mono ?_
    rintro e w3 ⟨rfl, hA3⟩
    have V1 : Hid (Inv w w3 b (i + 1) (w.heap.size + 1 + 1) s [] 177 #[.pointer (some ⟨w.heap.size + 1, 0, none⟩)] plainQ w.heap.size (w.heap.size + 2)) := V0.out.advance hA3 (by omega) (by omega)
    clear HW V0 hA3
    go_wp2_with fail
    go_loopw [] (fun wr => ∃ (j : Nat) (acc : List UInt8), Inv w wr b j (w.heap.size + 1 + 1) s acc 177 #[.pointer (some ⟨w.heap.size + 1, 0, none⟩)] plainQ w.heap.size (w.heap.size + 2) ∧ body s 34 plainQ allc true (i + 1) = (body s 34 plainQ allc true j).pre acc) (fun wr => s.size - posOf wr b)
    case atStart => exact ⟨i + 1, [], V1.out, by cases body s 34 plainQ allc true (i + 1) <;> simp [R.pre]⟩
    case round =>
      obtain ⟨j, acc, hv, hbd⟩ := hrel
      have V : Hid (Inv w wr b j (w.heap.size + 1 + 1) s acc 177 #[.pointer (some ⟨w.heap.size + 1, 0, none⟩)] plainQ w.heap.size (w.heap.size + 2)) := hv
      have HB : Hid (body s 34 plainQ allc true (i + 1) = (body s 34 plainQ allc true j).pre acc) := hbd
      have HP : Hid (posOf wr b = j) := hv.rd.pos
      have hjs := hv.rd.le
      have hTk := take_any wr b j s 34 hv.rd (by omega) (by omega)
      clear hv hbd V1
      by_cases c1 : bt s j = 34
      · have hj1 := bt_in c1 (by omega)
        simp only [c1, decide_true, if_true] at hTk
        have HK : Hid (Calls Tryz.prog 64 #[.pointer (some ⟨b, 0, none⟩), .int .u8 34] wr fun e w' => e = .returned (.bool true) ∧ Adv b (j + 1) wr w') := hTk
        have HR : Hid (body s 34 plainQ allc true (i + 1) = .ok acc (j + 1)) := by unfold Hid; rw [HB.out, body_q c1]; simp [R.pre]
        clear hTk c1
        go_wp2_with fail
        refine HK.out.mono ?_
        rintro e w4 ⟨rfl, hA4⟩
        have V4 := V.out.advance hA4 (by omega) (by omega)
        have HV4 : Hid (Inv w w4 b (j + 1) (w.heap.size + 1 + 1) s acc 177 #[.pointer (some ⟨w.heap.size + 1, 0, none⟩)] plainQ w.heap.size (w.heap.size + 2)) := V4
        clear V4 hA4
        go_wp2_with fail
        refine (bstring_any _ (w.heap.size + 1 + 1) (w.heap.size + 1 + 1) acc HV4.out.bu (Nat.le_of_lt HV4.out.BwR)).mono ?_
        rintro e w5 ⟨rfl, hB5⟩
        go_wp2_with fail
        go_ret
        rw [HR.out]
        exact ⟨rfl, Below.trans HV4.out.adv (hB5.mono (by omega))⟩
      · have hd : decide (bt s j = 34) = false := by simpa using c1
        rw [if_neg c1, hd] at hTk
        have HK : Hid (Calls Tryz.prog 64 #[.pointer (some ⟨b, 0, none⟩), .int .u8 34] wr fun e w' => e = .returned (.bool false) ∧ Inv w w' b j (w.heap.size + 1 + 1) s acc 177 #[.pointer (some ⟨w.heap.size + 1, 0, none⟩)] plainQ w.heap.size (w.heap.size + 2)) := hTk.mono fun e w' k => ⟨k.1, V.out.advance k.2 (Nat.le_refl _) hjs⟩
        have HSe : Hid (∀ w', Inv w w' b j (w.heap.size + 1 + 1) s acc 177 #[.pointer (some ⟨w.heap.size + 1, 0, none⟩)] plainQ w.heap.size (w.heap.size + 2) → Calls Tryz.prog 107 #[.pointer (some ⟨b, 0, none⟩), .int .u8 92] w' fun e w'' => e = .returned (.bool (decide (bt s j = 92))) ∧ Inv w w'' b j (w.heap.size + 1 + 1) s acc 177 #[.pointer (some ⟨w.heap.size + 1, 0, none⟩)] plainQ w.heap.size (w.heap.size + 2)) := fun w' v =>
          (sees_any w' b j s 92 v.rd (by omega) (by omega)).mono fun e w'' k => ⟨k.1, by obtain ⟨_, n, rfl⟩ := k; exact v.advance (v.rd.stayN n) (Nat.le_refl _) hjs⟩
        have HWr : Hid (∀ (w' : World) (c k : Nat), Inv w w' b k (w.heap.size + 1 + 1) s acc 177 #[.pointer (some ⟨w.heap.size + 1, 0, none⟩)] plainQ w.heap.size (w.heap.size + 2) → c ≤ 1114111 → j < k → Calls Tryz.prog 128 #[.pointer (some ⟨w.heap.size + 1 + 1, 0, none⟩), .int .i32 c] w' fun e w'' => (∃ n, e = .returned (.tuple #[.int .i64 n, .nilIface])) ∧ Inv w w'' b k (w.heap.size + 1 + 1) s (acc ++ Lib.encodeRune c) 177 #[.pointer (some ⟨w.heap.size + 1, 0, none⟩)] plainQ w.heap.size (w.heap.size + 2)) := fun w' c k v hc hjk => by
          have hl := V.out.len
          have hz := v.sz
          have hk := v.rd.le
          have he := enc_len (c : Int)
          refine (wrune_any w' (w.heap.size + 1 + 1) (w.heap.size + 1 + 1) acc c v.bu (by omega) (by omega) (by omega) (Nat.le_of_lt v.BwR)).mono ?_
          rintro e w'' ⟨h1, h2, h3⟩
          exact ⟨h1, v.wrote h3 h2 (by simp; omega)⟩
        by_cases c2 : bt s j = 92
        · have hone : one s j plainQ allc true = esc s j allc true := by unfold one; rw [if_pos c2]
          have hE : ∀ w', Inv w w' b j (w.heap.size + 1 + 1) s acc 177 #[.pointer (some ⟨w.heap.size + 1, 0, none⟩)] plainQ w.heap.size (w.heap.size + 2) → Calls Tryz.prog 129 #[.pointer (some ⟨b, 0, none⟩), fnV 197 #[], .string ⟨#[116, 98, 110, 114, 102, 34, 39, 92]⟩] w' (Out b w' (fun n : Nat => .int .i32 n) (esc s j allc true)) := fun w' v =>
            escape_any w' b j s v.rd v.tabs v.gb 197 #[] allc 0 0 (set_all w') (.inr (Nat.zero_le _)) true c2
          simp only [c2, decide_true] at HSe
          cases hes : esc s j allc true with
          | bad k =>
            rw [hes] at hE hone
            have HE : Hid (∀ w', Inv w w' b j (w.heap.size + 1 + 1) s acc 177 #[.pointer (some ⟨w.heap.size + 1, 0, none⟩)] plainQ w.heap.size (w.heap.size + 2) → Calls Tryz.prog 129 #[.pointer (some ⟨b, 0, none⟩), fnV 197 #[], .string ⟨#[116, 98, 110, 114, 102, 34, 39, 92]⟩] w' (Out b w' (fun n : Nat => .int .i32 n) (.bad k))) := hE
            have HR : Hid (body s 34 plainQ allc true (i + 1) = .bad k) := by unfold Hid; rw [HB.out, body_bad c1 hone]; rfl
            clear hTk c1 hd c2 hes hE hone HWr
            go_wp2_with fail
            refine HK.out.mono ?_
            rintro e w4 ⟨rfl, v4⟩
            go_wp2_with fail
            refine (HSe.out _ v4).mono ?_
            rintro e w5 ⟨rfl, v5⟩
            go_wp2_with fail
            refine (HE.out _ v5).mono ?_
            rintro e w6 ⟨rfl, m, hA6⟩
            go_wp2_with fail
            refine ⟨rfl, ?_⟩
            rw [HR.out]
            exact ⟨rfl, m, v5.adv.trans hA6⟩
          | ok c k =>
            rw [hes] at hE hone
            have hjk := one_lt hone
            have hcm : c ≤ 1114111 := esc_max hes
            have HE : Hid (∀ w', Inv w w' b j (w.heap.size + 1 + 1) s acc 177 #[.pointer (some ⟨w.heap.size + 1, 0, none⟩)] plainQ w.heap.size (w.heap.size + 2) → Calls Tryz.prog 129 #[.pointer (some ⟨b, 0, none⟩), fnV 197 #[], .string ⟨#[116, 98, 110, 114, 102, 34, 39, 92]⟩] w' (Out b w' (fun n : Nat => .int .i32 n) (.ok c k))) := hE
            have HR : Hid (body s 34 plainQ allc true (i + 1) = (body s 34 plainQ allc true k).pre (acc ++ Lib.encodeRune c)) := by unfold Hid; rw [HB.out, body_ok c1 hone, pre_pre]
            clear hTk c1 hd c2 hes hE hone
            go_wp2_with fail
            refine HK.out.mono ?_
            rintro e w4 ⟨rfl, v4⟩
            go_wp2_with fail
            refine (HSe.out _ v4).mono ?_
            rintro e w5 ⟨rfl, v5⟩
            go_wp2_with fail
            refine (HE.out _ v5).mono ?_
            rintro e w6 ⟨rfl, hA6⟩
            have v6 := v5.advance hA6 (by omega) hjk.2
            go_wp2_with fail
            refine (HWr.out _ c k v6 hcm hjk.1).mono ?_
            rintro e w7 ⟨⟨n, rfl⟩, v7⟩
            go_wp2_with fail
            go_roundw
            case rel => exact ⟨k, _, v7, HR.out⟩
            case measure => rw [v7.rd.pos, HP.out]; omega
        · have hd2 : decide (bt s j = 92) = false := by simpa using c2
          rw [hd2] at HSe
          by_cases c3 : (chr s j).2 ≠ 0 ∧ plainQ (chr s j).1 = true
          · have hone : one s j plainQ allc true = .ok (chr s j).1 (j + (chr s j).2) := by unfold one; rw [if_neg c2, if_pos c3]
            have hjk := one_lt hone
            have hcm := (chr_code c3.1).2.1
            have HE : Hid (∀ w', Inv w w' b j (w.heap.size + 1 + 1) s acc 177 #[.pointer (some ⟨w.heap.size + 1, 0, none⟩)] plainQ w.heap.size (w.heap.size + 2) → Calls Tryz.prog 127 #[.pointer (some ⟨b, 0, none⟩), fnV 177 #[.pointer (some ⟨w.heap.size + 1, 0, none⟩)]] w' fun e w'' => e = .returned (.int .i32 (chr s j).1) ∧ Adv b (j + (chr s j).2) w' w'') := fun w' v =>
              wants_yes w' b j s v.rd v.tabs _ _ _ _ _ v.set c3.1 c3.2
            have HR : Hid (body s 34 plainQ allc true (i + 1) = (body s 34 plainQ allc true (j + (chr s j).2)).pre (acc ++ Lib.encodeRune (chr s j).1)) := by unfold Hid; rw [HB.out, body_ok c1 hone, pre_pre]
            obtain ⟨c, n, ecn⟩ : ∃ c n, chr s j = (c, n) := ⟨_, _, rfl⟩
            simp only [ecn] at *
            clear hTk c1 hd c2 hd2 c3 hone ecn
            go_wp2_with fail
            refine HK.out.mono ?_
            rintro e w4 ⟨rfl, v4⟩
            go_wp2_with fail
            refine (HSe.out _ v4).mono ?_
            rintro e w5 ⟨rfl, v5⟩
            go_wp2_with fail
            refine (HE.out _ v5).mono ?_
            rintro e w6 ⟨rfl, hA6⟩
            have v6 := v5.advance hA6 (by omega) hjk.2
            go_wp2_with fail
            refine (HWr.out _ c (j + n) v6 hcm hjk.1).mono ?_
            rintro e w7 ⟨⟨n7, rfl⟩, v7⟩
            go_wp2_with fail
            go_roundw
            case rel => exact ⟨j + n, _, v7, HR.out⟩
            case measure => rw [v7.rd.pos, HP.out]; omega
          · have hone : one s j plainQ allc true = .bad j := by unfold one; rw [if_neg c2, if_neg c3]
            have HE : Hid (∀ w', Inv w w' b j (w.heap.size + 1 + 1) s acc 177 #[.pointer (some ⟨w.heap.size + 1, 0, none⟩)] plainQ w.heap.size (w.heap.size + 2) → Calls Tryz.prog 127 #[.pointer (some ⟨b, 0, none⟩), fnV 177 #[.pointer (some ⟨w.heap.size + 1, 0, none⟩)]] w' fun e w'' => e = stopE 2 j ∧ Adv b j w' w'') := fun w' v =>
              wants_no w' b j s v.rd v.tabs _ _ _ _ _ v.set c3
            have HR : Hid (body s 34 plainQ allc true (i + 1) = .bad j) := by unfold Hid; rw [HB.out, body_bad c1 hone]; rfl
            clear hTk c1 hd c2 hd2 c3 hone HWr
            go_wp2_with fail
            refine HK.out.mono ?_
            rintro e w4 ⟨rfl, v4⟩
            go_wp2_with fail
            refine (HSe.out _ v4).mono ?_
            rintro e w5 ⟨rfl, v5⟩
            go_wp2_with fail
            refine (HE.out _ v5).mono ?_
            rintro e w6 ⟨rfl, hA6⟩
            go_wp2_with fail
            refine ⟨rfl, ?_⟩
            rw [HR.out]
            exact ⟨rfl, j, v5.adv.trans hA6⟩
  · rw [if_pos c1]
    have HW : Hid (Calls Tryz.prog 126 #[.pointer (some ⟨b, 0, none⟩), .int .u8 34] (qW w) fun e w' => e = stopE 2 i ∧ Adv b i (qW w) w') := want_bad (qW w) b i s 34 V0.out.rd (by omega) (by omega) c1
    clear c1
    go_enter Tryz.func156, Tryz.ntmps156
    go_wp2_with fail
    refine (oneOf_any _ _).mono ?_
    rintro e w1 ⟨rfl, rfl⟩
    go_wp2_with fail
    refine (not_any _ _ _).mono ?_
    rintro e w2 ⟨rfl, rfl⟩
    go_wp2_with fail
    refine HW.out.mono ?_
    rintro e w3 ⟨rfl, hA3⟩
    go_wp2_with fail
    exact ⟨rfl, rfl, i, V0.out.adv.trans hA3⟩
end Go.Proofs.YtnffjoipinhojabGreatDoor

