import Derived.Test.YtnffjoipinhojaaGreatDoorRw
set_option linter.unusedSimpArgs false
set_option linter.unusedVariables false
namespace Go.Proofs.YtnffjoipinhojaaGreatDoor
open Go.RowKit

def shortS : List UInt8 := [116, 98, 110, 114, 102, 34, 39, 92]
theorem shortS_asc : asc shortS := by unfold asc shortS; decide
theorem nil_asc : asc [] := by unfold asc; decide

theorem short_cases (c : Int) : (∃ n, shortOf c = some n ∧ oneOfP shortS c = true ∧ (c = 116 ∧ n = 9 ∨ c = 98 ∧ n = 8 ∨ c = 110 ∧ n = 10 ∨ c = 114 ∧ n = 13 ∨ c = 102 ∧ n = 12 ∨ c = 34 ∧ n = 34 ∨ c = 39 ∧ n = 39 ∨ c = 92 ∧ n = 92)) ∨ (shortOf c = none ∧ oneOfP shortS c = false) := by
  unfold shortOf oneOfP shortS
  by_cases h1 : c = 116
  · subst h1; exact .inl ⟨9, by decide, by decide, by omega⟩
  by_cases h2 : c = 98
  · subst h2; exact .inl ⟨8, by decide, by decide, by omega⟩
  by_cases h3 : c = 110
  · subst h3; exact .inl ⟨10, by decide, by decide, by omega⟩
  by_cases h4 : c = 114
  · subst h4; exact .inl ⟨13, by decide, by decide, by omega⟩
  by_cases h5 : c = 102
  · subst h5; exact .inl ⟨12, by decide, by decide, by omega⟩
  by_cases h6 : c = 34
  · subst h6; exact .inl ⟨34, by decide, by decide, by omega⟩
  by_cases h7 : c = 39
  · subst h7; exact .inl ⟨39, by decide, by decide, by omega⟩
  by_cases h8 : c = 92
  · subst h8; exact .inl ⟨92, by decide, by decide, by omega⟩
  refine .inr ⟨by simp [h1, h2, h3, h4, h5, h6, h7, h8], ?_⟩
  simp
  omega

theorem oneOfP_asc {l : List UInt8} (hl : asc l) (c : Int) (h : oneOfP l c = true) : 0 ≤ c ∧ c < 128 := by
  unfold oneOfP at h
  rw [List.any_eq_true] at h
  obtain ⟨x, hx, h2⟩ := h
  have := hl x hx
  simp at h2
  omega

set_option maxHeartbeats 2000000 in
/-- the part of escape that all roads share: its start, up to the sign behind the backslash -/
theorem escape_num (w : World) (b i : Nat) (s : ByteArray) (h : Rd w b s i) (hT : Tabs w) (hb4 : 8 ≤ b) (g : Nat) (lb : Array Value) (p : Int → Bool) (lo hi : Nat) (hp : IsSet g lb p lo hi w) (hbl : b < lo ∨ hi ≤ b) (sh : ByteArray)
    (c0 : bt s i = 92) (c1 : bt s (i + 1) = 117 ∨ bt s (i + 1) = 85) :
    Calls Tryz.prog 139 #[.pointer (some ⟨b, 0, none⟩), fnV g lb, .string sh] w (Out b w (fun n : Nat => .int .i32 n) (num s i (i + 2) (if bt s (i + 1) = 117 then 4 else 8) p)) := by
  have hi0 := bt_in c0 (by omega)
  have hi1 : i + 1 < s.size := bt_lt_size (by omega)
  have HW : Hid (Calls Tryz.prog 89 #[.pointer (some ⟨b, 0, none⟩), .int .u8 92] w fun e w' => e = .returned (.tuple #[]) ∧ Adv b (i + 1) w w') := want_ok w b i s 92 h (by omega) (by omega) c0
  have HTk : Hid (∀ w2 c, 0 ≤ c → c < 256 → Adv b (i + 1) w w2 → Calls Tryz.prog 88 #[.pointer (some ⟨b, 0, none⟩), .int .u8 c] w2 fun e w' => e = .returned (.bool (decide (bt s (i + 1) = c))) ∧ Adv b (if bt s (i + 1) = c then i + 2 else i + 1) w w') := fun w2 c h0 h1 a =>
    (take_any w2 b (i + 1) s c (h.adv a (by omega)) h0 h1).mono fun e w' k => ⟨k.1, a.trans k.2⟩
  have HNum : Hid (∀ w3 k, k ≤ 8 → Adv b (i + 2) w w3 → Calls Tryz.prog 194 #[.pointer (some ⟨b, 0, none⟩), .int .i64 i, .int .i64 (k : Nat), fnV g lb] w3 (Out b w3 (fun n : Nat => .int .i32 n) (num s i (i + 2) k p))) := fun w3 k hk a =>
    numbered_any w3 b i (i + 2) k s (h.adv a (by omega)) (hT.adv a hb4 h.lt) hb4 g lb p lo hi (hp.adv a hbl) hbl hk
  have hO : ∀ {k : Nat} {w3 : World} {e : Ending} {w4 : World}, Adv b (i + 2) w w3 → Out b w3 (fun n : Nat => .int .i32 n) (num s i (i + 2) k p) e w4 → Out b w (fun n : Nat => Value.int .i32 n) (num s i (i + 2) k p) e w4 := by
    intro k w3 e w4 a o
    unfold Out at *
    split at o
    · exact ⟨o.1, a.trans o.2⟩
    · exact ⟨o.1, o.2.choose, a.trans o.2.choose_spec⟩
  have HO : Hid (∀ {k : Nat} {w3 : World} {e : Ending} {w4 : World}, Adv b (i + 2) w w3 → Out b w3 (fun n : Nat => .int .i32 n) (num s i (i + 2) k p) e w4 → Out b w (fun n : Nat => Value.int .i32 n) (num s i (i + 2) k p) e w4) := hO
  obtain ⟨d0, d1, d2, d3, d4⟩ := h
  clear hT hp c0 hO
  rcases c1 with c1 | c1
  · rw [if_pos c1]
    have HT1 : Hid (∀ w2, Adv b (i + 1) w w2 → Calls Tryz.prog 88 #[.pointer (some ⟨b, 0, none⟩), .int .u8 117] w2 fun e w' => e = .returned (.bool true) ∧ Adv b (i + 2) w w') := fun w2 a => by
      have := HTk.out w2 117 (by omega) (by omega) a
      simpa only [c1, decide_true, if_true] using this
    obtain ⟨r, hr⟩ : ∃ r, r = num s i (i + 2) 4 p := ⟨_, rfl⟩
    have HN4 := fun w3 a => HNum.out w3 4 (by omega) a
    have HO4 : Hid (∀ {w3 : World} {e : Ending} {w4 : World}, Adv b (i + 2) w w3 → Out b w3 (fun n : Nat => .int .i32 n) (num s i (i + 2) 4 p) e w4 → Out b w (fun n : Nat => Value.int .i32 n) (num s i (i + 2) 4 p) e w4) := fun a o => HO.out a o
    rw [← hr] at HN4 HO4 ⊢
    have HNN : Hid (∀ w3, Adv b (i + 2) w w3 → Calls Tryz.prog 194 #[.pointer (some ⟨b, 0, none⟩), .int .i64 i, .int .i64 4, fnV g lb] w3 (Out b w3 (fun n : Nat => .int .i32 n) r)) := HN4
    clear hr HN4 HNum HO HTk c1
    go_enter Tryz.func139, Tryz.ntmps139
    go_wp2_with fail
    refine HW.out.mono ?_
    rintro e w2 ⟨rfl, hA2⟩
    go_wp2_with fail
    refine (HT1.out _ hA2).mono ?_
    rintro e w3 ⟨rfl, hA3⟩
    go_wp2_with fail
    refine (HNN.out _ hA3).mono ?_
    intro e w4 ho
    cases r with
    | ok n j =>
      obtain ⟨rfl, hA4⟩ := ho
      go_wp2_with fail
      go_ret
      exact ⟨rfl, hA3.trans hA4⟩
    | bad j =>
      obtain ⟨rfl, k, hA4⟩ := ho
      go_wp2_with fail
      exact ⟨rfl, rfl, k, hA3.trans hA4⟩
  · have hne : ¬ (bt s (i + 1) = 117) := by omega
    rw [if_neg hne]
    have HT1 : Hid (∀ w2, Adv b (i + 1) w w2 → Calls Tryz.prog 88 #[.pointer (some ⟨b, 0, none⟩), .int .u8 117] w2 fun e w' => e = .returned (.bool false) ∧ Adv b (i + 1) w w') := fun w2 a => by
      have := HTk.out w2 117 (by omega) (by omega) a
      simpa only [hne, decide_false, if_false] using this
    have HT2 : Hid (∀ w2, Adv b (i + 1) w w2 → Calls Tryz.prog 88 #[.pointer (some ⟨b, 0, none⟩), .int .u8 85] w2 fun e w' => e = .returned (.bool true) ∧ Adv b (i + 2) w w') := fun w2 a => by
      have := HTk.out w2 85 (by omega) (by omega) a
      simpa only [c1, decide_true, if_true] using this
    obtain ⟨r, hr⟩ : ∃ r, r = num s i (i + 2) 8 p := ⟨_, rfl⟩
    have HN4 := fun w3 a => HNum.out w3 8 (by omega) a
    rw [← hr] at HN4 ⊢
    have HNN : Hid (∀ w3, Adv b (i + 2) w w3 → Calls Tryz.prog 194 #[.pointer (some ⟨b, 0, none⟩), .int .i64 i, .int .i64 8, fnV g lb] w3 (Out b w3 (fun n : Nat => .int .i32 n) r)) := HN4
    clear hr HN4 HNum HO HTk c1 hne
    go_enter Tryz.func139, Tryz.ntmps139
    go_wp2_with fail
    refine HW.out.mono ?_
    rintro e w2 ⟨rfl, hA2⟩
    go_wp2_with fail
    refine (HT1.out _ hA2).mono ?_
    rintro e w3 ⟨rfl, hA3⟩
    go_wp2_with fail
    refine (HT2.out _ hA3).mono ?_
    rintro e w4 ⟨rfl, hA4⟩
    go_wp2_with fail
    refine (HNN.out _ hA4).mono ?_
    intro e w5 ho
    cases r with
    | ok n j =>
      obtain ⟨rfl, hA5⟩ := ho
      go_wp2_with fail
      go_ret
      exact ⟨rfl, hA4.trans hA5⟩
    | bad j =>
      obtain ⟨rfl, k, hA5⟩ := ho
      go_wp2_with fail
      exact ⟨rfl, rfl, k, hA4.trans hA5⟩
set_option maxHeartbeats 4000000 in
theorem escape_short (w : World) (b i : Nat) (s : ByteArray) (h : Rd w b s i) (hT : Tabs w) (hb4 : 8 ≤ b) (g : Nat) (lb : Array Value) (l : List UInt8) (hl : asc l) (hz : l.length ≤ 1000)
    (c0 : bt s i = 92) (c1 : bt s (i + 1) ≠ 117) (c2 : bt s (i + 1) ≠ 85) :
    (oneOfP l (bt s (i + 1)) = false → Calls Tryz.prog 139 #[.pointer (some ⟨b, 0, none⟩), fnV g lb, str l] w (Out b w (fun n : Nat => .int .i32 n) (.bad (i + 1))))
    ∧ (l = shortS → ∀ n, shortOf (bt s (i + 1)) = some n → Calls Tryz.prog 139 #[.pointer (some ⟨b, 0, none⟩), fnV g lb, str l] w (Out b w (fun n : Nat => .int .i32 n) (.ok n (i + 2)))) := by
  have hi0 := bt_in c0 (by omega)
  have HW : Hid (Calls Tryz.prog 89 #[.pointer (some ⟨b, 0, none⟩), .int .u8 92] w fun e w' => e = .returned (.tuple #[]) ∧ Adv b (i + 1) w w') := want_ok w b i s 92 h (by omega) (by omega) c0
  have HT1 : Hid (∀ w2, Adv b (i + 1) w w2 → Calls Tryz.prog 88 #[.pointer (some ⟨b, 0, none⟩), .int .u8 117] w2 fun e w' => e = .returned (.bool false) ∧ Adv b (i + 1) w w') := fun w2 a => by
    have := (take_any w2 b (i + 1) s 117 (h.adv a (by omega)) (by omega) (by omega))
    simp only [c1, decide_false, if_false] at this
    exact this.mono fun e w' k => ⟨k.1, a.trans k.2⟩
  have HT2 : Hid (∀ w2, Adv b (i + 1) w w2 → Calls Tryz.prog 88 #[.pointer (some ⟨b, 0, none⟩), .int .u8 85] w2 fun e w' => e = .returned (.bool false) ∧ Adv b (i + 1) w w') := fun w2 a => by
    have := (take_any w2 b (i + 1) s 85 (h.adv a (by omega)) (by omega) (by omega))
    simp only [c2, decide_false, if_false] at this
    exact this.mono fun e w' k => ⟨k.1, a.trans k.2⟩
  have HX : Hid (∀ w3, Adv b (i + 1) w w3 → Rd (oW w3 l) b s (i + 1) ∧ Tabs (oW w3 l) ∧ Adv b (i + 1) w (oW w3 l) ∧ IsSet 188 #[.pointer (some ⟨w3.heap.size, 0, none⟩)] (oneOfP l) w3.heap.size (w3.heap.size + 1) (oW w3 l)) := fun w3 a => by
    have a2 := a.then_below (oW_below w3 l)
    exact ⟨h.adv a2 (by omega), hT.adv a2 hb4 h.lt, a2, set_oW w3 l hl hz⟩
  have hcell := h
  obtain ⟨d0, d1, d2, d3, d4⟩ := hcell
  clear hT c0 c1 c2
  constructor
  · intro hno
    have HY : Hid (∀ w3, Adv b (i + 1) w w3 → Calls Tryz.prog 137 #[.pointer (some ⟨b, 0, none⟩), fnV 188 #[.pointer (some ⟨w3.heap.size, 0, none⟩)]] (oW w3 l) fun e w' => e = stopE 2 (i + 1 : Nat) ∧ Adv b (i + 1) w w') := fun w3 a => by
      obtain ⟨x1, x2, x3, x4⟩ := HX.out w3 a
      exact (wants_no (oW w3 l) b (i + 1) s x1 x2 _ _ _ _ _ x4 (asc_no (oneOfP_asc hl) hno)).mono fun e w' k => ⟨k.1, x3.trans k.2⟩
    clear hno HX h hl
    go_enter Tryz.func139, Tryz.ntmps139
    go_wp2_with fail
    refine HW.out.mono ?_
    rintro e w2 ⟨rfl, hA2⟩
    go_wp2_with fail
    refine (HT1.out _ hA2).mono ?_
    rintro e w3 ⟨rfl, hA3⟩
    go_wp2_with fail
    refine (HT2.out _ hA3).mono ?_
    rintro e w4 ⟨rfl, hA4⟩
    go_wp2_with fail
    refine (oneOf_any _ _).mono ?_
    rintro e w5 ⟨rfl, rfl⟩
    go_wp2_with fail
    refine (HY.out _ hA4).mono ?_
    rintro e w6 ⟨rfl, hA6⟩
    go_wp2_with fail
    exact ⟨rfl, rfl, _, hA6⟩
  · rintro rfl n hn
    have hyes : oneOfP shortS (bt s (i + 1)) = true ∧ (bt s (i + 1) = 116 ∧ n = 9 ∨ bt s (i + 1) = 98 ∧ n = 8 ∨ bt s (i + 1) = 110 ∧ n = 10 ∨ bt s (i + 1) = 114 ∧ n = 13 ∨ bt s (i + 1) = 102 ∧ n = 12 ∨ bt s (i + 1) = 34 ∧ n = 34 ∨ bt s (i + 1) = 39 ∧ n = 39 ∨ bt s (i + 1) = 92 ∧ n = 92) := by
      rcases short_cases (bt s (i + 1)) with ⟨m, h1, h2, h3⟩ | ⟨h1, h2⟩
      · rw [h1] at hn; cases hn; exact ⟨h2, h3⟩
      · rw [h1] at hn; cases hn
    obtain ⟨hy, hcs⟩ := hyes
    obtain ⟨e1, e2⟩ := asc_yes (oneOfP_asc hl) hy
    obtain ⟨c, hc⟩ : ∃ c, c = bt s (i + 1) := ⟨_, rfl⟩
    have hr := oneOfP_asc hl _ hy
    have HY : Hid (∀ w3, Adv b (i + 1) w w3 → Calls Tryz.prog 137 #[.pointer (some ⟨b, 0, none⟩), fnV 188 #[.pointer (some ⟨w3.heap.size, 0, none⟩)]] (oW w3 shortS) fun e w' => e = .returned (.int .i32 c) ∧ Adv b (i + 2) w w') := fun w3 a => by
      obtain ⟨x1, x2, x3, x4⟩ := HX.out w3 a
      have := wants_yes (oW w3 shortS) b (i + 1) s x1 x2 _ _ _ _ _ x4 (by rw [e1]; exact Nat.one_ne_zero) e2
      rw [e1] at this
      simp only at this
      rw [show (((bt s (i + 1)).toNat : Nat) : Int) = bt s (i + 1) by omega, ← hc] at this
      exact this.mono fun e w' k => ⟨k.1, x3.trans k.2⟩
    rw [← hc] at hcs
    clear hy e1 e2 hc hr HX h hl hn hz
    rcases hcs with ⟨rfl, rfl⟩ | ⟨rfl, rfl⟩ | ⟨rfl, rfl⟩ | ⟨rfl, rfl⟩ | ⟨rfl, rfl⟩ | ⟨rfl, rfl⟩ | ⟨rfl, rfl⟩ | ⟨rfl, rfl⟩
    · have hIR : ∀ w2, Calls Tryz.prog 195 #[.string ⟨#[116, 98, 110, 114, 102, 34, 39, 92]⟩, .int .i32 116] w2 fun e w' => e = .returned (.int .i64 0) ∧ w' = w2 := fun w2 => by
        have := indexRune_ascii w2 ⟨#[116, 98, 110, 114, 102, 34, 39, 92]⟩ 116 (by omega) (by omega)
        rw [show Lib.indexByte (⟨#[116, 98, 110, 114, 102, 34, 39, 92]⟩ : ByteArray).data.toList (116 : Int).toNat.toUInt8 = 0 by decide] at this
        exact this
      go_enter Tryz.func139, Tryz.ntmps139
      go_wp2_with fail
      refine HW.out.mono ?_
      rintro e w2 ⟨rfl, hA2⟩
      go_wp2_with fail
      refine (HT1.out _ hA2).mono ?_
      rintro e w3 ⟨rfl, hA3⟩
      go_wp2_with fail
      refine (HT2.out _ hA3).mono ?_
      rintro e w4 ⟨rfl, hA4⟩
      go_wp2_with fail
      refine (oneOf_any _ _).mono ?_
      rintro e w5 ⟨rfl, rfl⟩
      go_wp2_with fail
      refine (HY.out _ hA4).mono ?_
      rintro e w6 ⟨rfl, hA6⟩
      go_wp2_with fail
      refine (hIR _).mono ?_
      rintro e w7 ⟨rfl, rfl⟩
      go_wp2_with fail
      go_ret
      exact ⟨ret_int (by kernel_rfl), hA6⟩
    · have hIR : ∀ w2, Calls Tryz.prog 195 #[.string ⟨#[116, 98, 110, 114, 102, 34, 39, 92]⟩, .int .i32 98] w2 fun e w' => e = .returned (.int .i64 1) ∧ w' = w2 := fun w2 => by
        have := indexRune_ascii w2 ⟨#[116, 98, 110, 114, 102, 34, 39, 92]⟩ 98 (by omega) (by omega)
        rw [show Lib.indexByte (⟨#[116, 98, 110, 114, 102, 34, 39, 92]⟩ : ByteArray).data.toList (98 : Int).toNat.toUInt8 = 1 by decide] at this
        exact this
      go_enter Tryz.func139, Tryz.ntmps139
      go_wp2_with fail
      refine HW.out.mono ?_
      rintro e w2 ⟨rfl, hA2⟩
      go_wp2_with fail
      refine (HT1.out _ hA2).mono ?_
      rintro e w3 ⟨rfl, hA3⟩
      go_wp2_with fail
      refine (HT2.out _ hA3).mono ?_
      rintro e w4 ⟨rfl, hA4⟩
      go_wp2_with fail
      refine (oneOf_any _ _).mono ?_
      rintro e w5 ⟨rfl, rfl⟩
      go_wp2_with fail
      refine (HY.out _ hA4).mono ?_
      rintro e w6 ⟨rfl, hA6⟩
      go_wp2_with fail
      refine (hIR _).mono ?_
      rintro e w7 ⟨rfl, rfl⟩
      go_wp2_with fail
      go_ret
      exact ⟨ret_int (by kernel_rfl), hA6⟩
    · have hIR : ∀ w2, Calls Tryz.prog 195 #[.string ⟨#[116, 98, 110, 114, 102, 34, 39, 92]⟩, .int .i32 110] w2 fun e w' => e = .returned (.int .i64 2) ∧ w' = w2 := fun w2 => by
        have := indexRune_ascii w2 ⟨#[116, 98, 110, 114, 102, 34, 39, 92]⟩ 110 (by omega) (by omega)
        rw [show Lib.indexByte (⟨#[116, 98, 110, 114, 102, 34, 39, 92]⟩ : ByteArray).data.toList (110 : Int).toNat.toUInt8 = 2 by decide] at this
        exact this
      go_enter Tryz.func139, Tryz.ntmps139
      go_wp2_with fail
      refine HW.out.mono ?_
      rintro e w2 ⟨rfl, hA2⟩
      go_wp2_with fail
      refine (HT1.out _ hA2).mono ?_
      rintro e w3 ⟨rfl, hA3⟩
      go_wp2_with fail
      refine (HT2.out _ hA3).mono ?_
      rintro e w4 ⟨rfl, hA4⟩
      go_wp2_with fail
      refine (oneOf_any _ _).mono ?_
      rintro e w5 ⟨rfl, rfl⟩
      go_wp2_with fail
      refine (HY.out _ hA4).mono ?_
      rintro e w6 ⟨rfl, hA6⟩
      go_wp2_with fail
      refine (hIR _).mono ?_
      rintro e w7 ⟨rfl, rfl⟩
      go_wp2_with fail
      go_ret
      exact ⟨ret_int (by kernel_rfl), hA6⟩
    · have hIR : ∀ w2, Calls Tryz.prog 195 #[.string ⟨#[116, 98, 110, 114, 102, 34, 39, 92]⟩, .int .i32 114] w2 fun e w' => e = .returned (.int .i64 3) ∧ w' = w2 := fun w2 => by
        have := indexRune_ascii w2 ⟨#[116, 98, 110, 114, 102, 34, 39, 92]⟩ 114 (by omega) (by omega)
        rw [show Lib.indexByte (⟨#[116, 98, 110, 114, 102, 34, 39, 92]⟩ : ByteArray).data.toList (114 : Int).toNat.toUInt8 = 3 by decide] at this
        exact this
      go_enter Tryz.func139, Tryz.ntmps139
      go_wp2_with fail
      refine HW.out.mono ?_
      rintro e w2 ⟨rfl, hA2⟩
      go_wp2_with fail
      refine (HT1.out _ hA2).mono ?_
      rintro e w3 ⟨rfl, hA3⟩
      go_wp2_with fail
      refine (HT2.out _ hA3).mono ?_
      rintro e w4 ⟨rfl, hA4⟩
      go_wp2_with fail
      refine (oneOf_any _ _).mono ?_
      rintro e w5 ⟨rfl, rfl⟩
      go_wp2_with fail
      refine (HY.out _ hA4).mono ?_
      rintro e w6 ⟨rfl, hA6⟩
      go_wp2_with fail
      refine (hIR _).mono ?_
      rintro e w7 ⟨rfl, rfl⟩
      go_wp2_with fail
      go_ret
      exact ⟨ret_int (by kernel_rfl), hA6⟩
    · have hIR : ∀ w2, Calls Tryz.prog 195 #[.string ⟨#[116, 98, 110, 114, 102, 34, 39, 92]⟩, .int .i32 102] w2 fun e w' => e = .returned (.int .i64 4) ∧ w' = w2 := fun w2 => by
        have := indexRune_ascii w2 ⟨#[116, 98, 110, 114, 102, 34, 39, 92]⟩ 102 (by omega) (by omega)
        rw [show Lib.indexByte (⟨#[116, 98, 110, 114, 102, 34, 39, 92]⟩ : ByteArray).data.toList (102 : Int).toNat.toUInt8 = 4 by decide] at this
        exact this
      go_enter Tryz.func139, Tryz.ntmps139
      go_wp2_with fail
      refine HW.out.mono ?_
      rintro e w2 ⟨rfl, hA2⟩
      go_wp2_with fail
      refine (HT1.out _ hA2).mono ?_
      rintro e w3 ⟨rfl, hA3⟩
      go_wp2_with fail
      refine (HT2.out _ hA3).mono ?_
      rintro e w4 ⟨rfl, hA4⟩
      go_wp2_with fail
      refine (oneOf_any _ _).mono ?_
      rintro e w5 ⟨rfl, rfl⟩
      go_wp2_with fail
      refine (HY.out _ hA4).mono ?_
      rintro e w6 ⟨rfl, hA6⟩
      go_wp2_with fail
      refine (hIR _).mono ?_
      rintro e w7 ⟨rfl, rfl⟩
      go_wp2_with fail
      go_ret
      exact ⟨ret_int (by kernel_rfl), hA6⟩
    · have hIR : ∀ w2, Calls Tryz.prog 195 #[.string ⟨#[116, 98, 110, 114, 102, 34, 39, 92]⟩, .int .i32 34] w2 fun e w' => e = .returned (.int .i64 5) ∧ w' = w2 := fun w2 => by
        have := indexRune_ascii w2 ⟨#[116, 98, 110, 114, 102, 34, 39, 92]⟩ 34 (by omega) (by omega)
        rw [show Lib.indexByte (⟨#[116, 98, 110, 114, 102, 34, 39, 92]⟩ : ByteArray).data.toList (34 : Int).toNat.toUInt8 = 5 by decide] at this
        exact this
      go_enter Tryz.func139, Tryz.ntmps139
      go_wp2_with fail
      refine HW.out.mono ?_
      rintro e w2 ⟨rfl, hA2⟩
      go_wp2_with fail
      refine (HT1.out _ hA2).mono ?_
      rintro e w3 ⟨rfl, hA3⟩
      go_wp2_with fail
      refine (HT2.out _ hA3).mono ?_
      rintro e w4 ⟨rfl, hA4⟩
      go_wp2_with fail
      refine (oneOf_any _ _).mono ?_
      rintro e w5 ⟨rfl, rfl⟩
      go_wp2_with fail
      refine (HY.out _ hA4).mono ?_
      rintro e w6 ⟨rfl, hA6⟩
      go_wp2_with fail
      refine (hIR _).mono ?_
      rintro e w7 ⟨rfl, rfl⟩
      go_wp2_with fail
      go_ret
      exact ⟨ret_int (by kernel_rfl), hA6⟩
    · have hIR : ∀ w2, Calls Tryz.prog 195 #[.string ⟨#[116, 98, 110, 114, 102, 34, 39, 92]⟩, .int .i32 39] w2 fun e w' => e = .returned (.int .i64 6) ∧ w' = w2 := fun w2 => by
        have := indexRune_ascii w2 ⟨#[116, 98, 110, 114, 102, 34, 39, 92]⟩ 39 (by omega) (by omega)
        rw [show Lib.indexByte (⟨#[116, 98, 110, 114, 102, 34, 39, 92]⟩ : ByteArray).data.toList (39 : Int).toNat.toUInt8 = 6 by decide] at this
        exact this
      go_enter Tryz.func139, Tryz.ntmps139
      go_wp2_with fail
      refine HW.out.mono ?_
      rintro e w2 ⟨rfl, hA2⟩
      go_wp2_with fail
      refine (HT1.out _ hA2).mono ?_
      rintro e w3 ⟨rfl, hA3⟩
      go_wp2_with fail
      refine (HT2.out _ hA3).mono ?_
      rintro e w4 ⟨rfl, hA4⟩
      go_wp2_with fail
      refine (oneOf_any _ _).mono ?_
      rintro e w5 ⟨rfl, rfl⟩
      go_wp2_with fail
      refine (HY.out _ hA4).mono ?_
      rintro e w6 ⟨rfl, hA6⟩
      go_wp2_with fail
      refine (hIR _).mono ?_
      rintro e w7 ⟨rfl, rfl⟩
      go_wp2_with fail
      go_ret
      exact ⟨ret_int (by kernel_rfl), hA6⟩
    · have hIR : ∀ w2, Calls Tryz.prog 195 #[.string ⟨#[116, 98, 110, 114, 102, 34, 39, 92]⟩, .int .i32 92] w2 fun e w' => e = .returned (.int .i64 7) ∧ w' = w2 := fun w2 => by
        have := indexRune_ascii w2 ⟨#[116, 98, 110, 114, 102, 34, 39, 92]⟩ 92 (by omega) (by omega)
        rw [show Lib.indexByte (⟨#[116, 98, 110, 114, 102, 34, 39, 92]⟩ : ByteArray).data.toList (92 : Int).toNat.toUInt8 = 7 by decide] at this
        exact this
      go_enter Tryz.func139, Tryz.ntmps139
      go_wp2_with fail
      refine HW.out.mono ?_
      rintro e w2 ⟨rfl, hA2⟩
      go_wp2_with fail
      refine (HT1.out _ hA2).mono ?_
      rintro e w3 ⟨rfl, hA3⟩
      go_wp2_with fail
      refine (HT2.out _ hA3).mono ?_
      rintro e w4 ⟨rfl, hA4⟩
      go_wp2_with fail
      refine (oneOf_any _ _).mono ?_
      rintro e w5 ⟨rfl, rfl⟩
      go_wp2_with fail
      refine (HY.out _ hA4).mono ?_
      rintro e w6 ⟨rfl, hA6⟩
      go_wp2_with fail
      refine (hIR _).mono ?_
      rintro e w7 ⟨rfl, rfl⟩
      go_wp2_with fail
      go_ret
      exact ⟨ret_int (by kernel_rfl), hA6⟩

theorem escape_any (w : World) (b i : Nat) (s : ByteArray) (h : Rd w b s i) (hT : Tabs w) (hb4 : 8 ≤ b) (g : Nat) (lb : Array Value) (p : Int → Bool) (lo hi : Nat) (hp : IsSet g lb p lo hi w) (hbl : b < lo ∨ hi ≤ b) (sh : Bool)
    (c0 : bt s i = 92) :
    Calls Tryz.prog 139 #[.pointer (some ⟨b, 0, none⟩), fnV g lb, str (if sh then shortS else [])] w (Out b w (fun n : Nat => .int .i32 n) (esc s i p sh)) := by
  unfold esc
  by_cases c1 : bt s (i + 1) = 117
  · rw [if_pos c1]
    have := escape_num w b i s h hT hb4 g lb p lo hi hp hbl ⟨(if sh then shortS else []).toArray⟩ c0 (.inl c1)
    rw [if_pos c1] at this
    exact this
  · rw [if_neg c1]
    by_cases c2 : bt s (i + 1) = 85
    · rw [if_pos c2]
      have := escape_num w b i s h hT hb4 g lb p lo hi hp hbl ⟨(if sh then shortS else []).toArray⟩ c0 (.inr c2)
      rw [if_neg c1] at this
      exact this
    · rw [if_neg c2]
      cases sh with
      | true =>
        simp only [if_true]
        have := escape_short w b i s h hT hb4 g lb shortS shortS_asc (by decide) c0 c1 c2
        cases hs : shortOf (bt s (i + 1)) with
        | some n => exact this.2 rfl n hs
        | none =>
          refine this.1 ?_
          rcases short_cases (bt s (i + 1)) with ⟨m, h1, h2, h3⟩ | ⟨h1, h2⟩
          · rw [h1] at hs; cases hs
          · exact h2
      | false =>
        simp only [Bool.false_eq_true, if_false]
        exact (escape_short w b i s h hT hb4 g lb [] nil_asc (by decide) c0 c1 c2).1 rfl
end Go.Proofs.YtnffjoipinhojaaGreatDoor
