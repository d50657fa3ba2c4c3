import Derived.Test.YtnffjoipinhojaaDoorFd
namespace Go.Proofs.YtnffjoipinhojaaDoor
open Go.RowKit

theorem new_row_err (s : ByteArray) (c n : Int) (w : World) (hg : Handle w) (hs : s.size ≤ 140737488351232) (hc : c ≤ 9223372036854775807) (h : UnErr s.data.toList 1 c n) :
    Calls Tryd.prog 17 #[.string s, .int .i64 c] w fun x w' => x = .returned (.tuple #[.pointer none, .int .i64 n]) ∧ Below w.heap.size w w' := by
  refine new_row_no s c n w hg ?_
  rcases h with ⟨h1, _⟩ | ⟨_, _, h3, rfl⟩ | ⟨_, _, h3, h4, rfl⟩
  · omega
  · exact cp_neg s 1 c w (by omega) (by omega) h3
  · obtain ⟨cn, rfl⟩ := Int.eq_ofNat_of_zero_le h3
    rw [Int.toNat_natCast] at h4
    refine (cp_any s 1 cn w (by omega) (by omega) (by omega) (by omega)).mono ?_
    rintro e w' ⟨ha, rfl⟩
    rcases ha with ⟨hk, _⟩ | ⟨_, rfl⟩
    · exact absurd hk h4
    · exact ⟨rfl, rfl⟩

theorem new_row_good (s : ByteArray) (c : Int) (w : World) (hs : s.size ≤ 140737488351232) (h : UnOk s.data.toList 1 c) :
    Calls Tryd.prog 17 #[.string s, .int .i64 c] w fun x w' => (∃ b, x = .returned (.tuple #[.pointer (some ⟨b, 0, none⟩), .int .i64 0]) ∧ RowAt w' b (Plain.val s.data.toList) c.toNat ((s.size + 7) / 8)) ∧ Below w.heap.size w w' := by
  obtain ⟨_, _, h3, h4⟩ := h
  obtain ⟨cn, rfl⟩ := Int.eq_ofNat_of_zero_le h3
  rw [Int.toNat_natCast] at *
  exact new_row_ok s cn w hs h4

theorem five_ok : UnOk (⟨#[5]⟩ : ByteArray).data.toList 1 3 := by
  refine ⟨by omega, by omega, by omega, ?_⟩
  unfold Fit
  decide
theorem five_find (F : Int) (h : FindOf (Plain.val (⟨#[5]⟩ : ByteArray).data.toList) (3 : Int).toNat 2 F) : F = 2 := by
  have e : Plain.val (⟨#[5]⟩ : ByteArray).data.toList = 5 := rfl
  rw [e] at h
  rcases h with ⟨h1, _⟩ | ⟨_, _, i, rfl, h2, h3, h4⟩
  · have e2 : OnesOf 5 (3 : Int).toNat (((3 : Int).toNat : Nat) : Int) = 2 := by decide
    rw [e2] at h1
    omega
  · have h2 : i < 3 := h2
    match i, h2 with
    | 0, _ => simp [Plain.pop] at h3
    | 1, _ => simp at h4
    | 2, _ => rfl

theorem get_val {w : World} {b V c n : Nat} {i : Int} {v : Bool} (h : RowAt w b V c n) (hv : Hid (Bit V c i = v)) : Calls Tryd.prog 19 #[.pointer (some ⟨b, 0, none⟩), .int .i64 i] w fun x w' => x = .returned (.bool v) ∧ w' = w := by
  rw [← hv.out]
  exact get_row i h
theorem ones_val {w : World} {b V c n : Nat} {i z : Int} (h : RowAt w b V c n) (hz : Hid (((OnesOf V c i : Nat) : Int) = z)) : Calls Tryd.prog 20 #[.pointer (some ⟨b, 0, none⟩), .int .i64 i] w fun x w' => x = .returned (.int .i64 z) ∧ ∃ m, w' = w.drewN m := by
  rw [← hz.out]
  exact ones_row i h
theorem RowAt.drewN {w : World} {b V c n : Nat} (h : RowAt w b V c n) (m : Nat) : RowAt (w.drewN m) b V c n := h.below (below_drewN (Below.refl _ _) m)
theorem Tab.drewN {w : World} (h : Tab w) (m : Nat) : Tab (w.drewN m) := h.below (below_drewN (Below.refl _ _) m)

theorem bit_true {V c : Nat} {i : Int} (h : Bit V c i = true) : ∃ q : Nat, i = (q : Int) ∧ q < c ∧ V / 2 ^ q % 2 = 1 := by
  simp only [Bit, Bool.and_eq_true, decide_eq_true_eq, beq_iff_eq] at h
  obtain ⟨⟨h1, h2⟩, h3⟩ := h
  obtain ⟨q, rfl⟩ := Int.eq_ofNat_of_zero_le h1
  exact ⟨q, rfl, by omega, by simpa using h3⟩
theorem ones_nat (V c q : Nat) (h : q ≤ c) : OnesOf V c (q : Int) = Plain.pop V q := by
  rw [OnesOf, Int.toNat_natCast, Nat.min_eq_left h]

/-- Find's answer is told by the bit. -/
theorem find_back {V c : Nat} {i z F : Int} (hb : Bit V c i = true) (hz : ((OnesOf V c i : Nat) : Int) = z) (h : FindOf V c (z + 1) F) : F = i := by
  obtain ⟨q, rfl, hq, hbit⟩ := bit_true hb
  rw [ones_nat V c q (by omega)] at hz
  rcases h with ⟨h1, _⟩ | ⟨_, _, t, rfl, _, h3, h4⟩
  · rw [ones_nat V c c (Nat.le_refl _)] at h1
    have := Plain.pop_succ V q
    have := Plain.pop_mono V (q + 1) c hq
    omega
  · rw [Plain.nth_uniq V t q (Plain.pop V q) (by omega) h4 rfl hbit]

theorem OnesOf_le (V c : Nat) (i : Int) : OnesOf V c i ≤ c := Nat.le_trans (Plain.pop_le _ _) (by omega)

set_option maxHeartbeats 1600000 in
set_option maxRecDepth 20000 in
theorem ranks_walk (s : ByteArray) (c i k : Int) (w : World) (hg : Handle w) (hT : Tab w) (hs : s.size ≤ 140737488351232) (hc : c ≤ 9223372036854775807) (hk : k ≤ 9223372036854775807) :
    Calls Tryd.prog 6 #[.string s, .int .i64 c, .int .i64 i, .int .i64 k] w fun e w' => e = .returned (.bool true) ∧ Below w.heap.size w w' := by
  have HG : Hid (Handle w) := hg
  have HT : Hid (Tab w) := hT
  clear hg hT
  go_enter Tryd.func6, Tryd.ntmps6
  go_wp2_with fail
  refine (new_row_good ⟨#[5]⟩ 3 w (by decide) five_ok).mono ?_
  rintro e w1 ⟨⟨b1, rfl, hr1⟩, hb1⟩
  have HR1 : Hid (RowAt w1 b1 (Plain.val (⟨#[5]⟩ : ByteArray).data.toList) (3 : Int).toNat (((⟨#[5]⟩ : ByteArray).size + 7) / 8)) := hr1
  have HB1 : Hid (Below w.heap.size w w1) := hb1
  clear hr1 hb1
  go_wp2_with (go_at_call 8; refine (num_any _ _).mono ?_; rintro e w' ⟨rfl, rfl⟩)
  refine (find_row 2 (by omega) HR1.out (HT.out.below HB1.out)).mono ?_
  rintro e w2 ⟨⟨F0, rfl, hF0⟩, hb2⟩
  obtain rfl := five_find F0 hF0
  have HB2 : Hid (Below w.heap.size w w2) := HB1.out.trans (hb2.mono HB1.out.size)
  clear hF0 hb2 HR1 HB1
  go_wp2_with fail
  rcases un_cases s.data.toList 1 c with hok | ⟨n, herr⟩
  · refine (new_row_good s c w2 hs hok).mono ?_
    rintro e w3 ⟨⟨b, rfl, hr⟩, hb3⟩
    generalize Plain.val s.data.toList = V at hr
    generalize c.toNat = C at hr
    generalize (s.size + 7) / 8 = n at hr
    have HR3 : Hid (RowAt w3 b V C n) := hr
    have HB3 : Hid (Below w.heap.size w w3) := HB2.out.trans (hb3.mono HB2.out.size)
    clear hok hr hb3 HB2
    go_wp2_with fail
    refine (find_row k hk HR3.out (HT.out.below HB3.out)).mono ?_
    rintro e w4 ⟨⟨F, rfl, hF⟩, hb4⟩
    have HRX : Hid (RowAt w4 b V C n) := HR3.out.below hb4
    have HBX : Hid (Below w.heap.size w w4) := HB3.out.trans (hb4.mono HB3.out.size)
    have HTX : Hid (Tab w4) := HT.out.below HBX.out
    clear hb4 HR3 HB3 HT HG
    rcases hF with ⟨h1, rfl⟩ | ⟨h1, h2, q, rfl, hq, hp, hbit⟩
    · by_cases hk1 : k < 1
      · clear h1
        cases hgb : Bit V C i
        · have HGB : Hid (Bit V C i = false) := hgb
          clear hgb
          try go_wp2_with fail
          refine (get_val HRX.out HGB).mono ?_
          rintro e wg ⟨rfl, rfl⟩
          go_wp2_with fail
          go_ret
          exact ⟨rfl, HBX.out⟩
        · have HGB : Hid (Bit V C i = true) := hgb
          obtain ⟨z, hz⟩ : ∃ z : Int, ((OnesOf V C i : Nat) : Int) = z := ⟨_, rfl⟩
          have HZ : Hid (((OnesOf V C i : Nat) : Int) = z) := hz
          have hz0 : 0 ≤ z := by rw [← hz]; omega
          have hzc : z ≤ 1125899906842624000 := by have := OnesOf_le V C i; have := HRX.out.fit; have := HRX.out.lim; omega
          clear hgb hz
          try go_wp2_with fail
          refine (get_val HRX.out HGB).mono ?_
          rintro e wg ⟨rfl, rfl⟩
          go_wp2_with fail
          refine (ones_val HRX.out HZ).mono ?_
          rintro e wh ⟨rfl, m9, rfl⟩
          go_wp2_with fail
          refine (find_row (z + 1) (by omega) (HRX.out.drewN m9) (HTX.out.drewN m9)).mono ?_
          rintro e w9 ⟨⟨F9, rfl, hF9⟩, hb9⟩
          obtain rfl := find_back HGB.out HZ.out hF9
          have HB9 : Hid (Below w.heap.size w w9) := (below_drewN HBX.out m9).trans (hb9.mono (below_drewN HBX.out m9).size)
          clear hF9 hb9
          go_wp2_with fail
          go_ret
          exact ⟨rfl, HB9.out⟩
      · obtain ⟨z1, hz1⟩ : ∃ z : Int, ((OnesOf V C (C : Int) : Nat) : Int) = z := ⟨_, rfl⟩
        have HZ1 : Hid (((OnesOf V C (C : Int) : Nat) : Int) = z1) := hz1
        have hkz : ¬ k ≤ z1 := by rw [← hz1]; omega
        clear hz1 h1
        go_wp2_with (first | (go_at_call 18; refine (len_row HRX.out).mono ?_; rintro e w' ⟨rfl, rfl⟩) | (go_at_call 20; refine (ones_val HRX.out HZ1).mono ?_; rintro e w' ⟨rfl, m5, rfl⟩))
        have HRY : Hid (RowAt (w'.drewN m5) b V C n) := HRX.out.drewN m5
        have HTY : Hid (Tab (w'.drewN m5)) := HTX.out.drewN m5
        have HBY : Hid (Below w.heap.size w (w'.drewN m5)) := below_drewN HBX.out m5
        generalize w'.drewN m5 = w5 at HRY HTY HBY ⊢
        clear HRX HTX HBX HZ1 hkz
        cases hgb : Bit V C i
        · have HGB : Hid (Bit V C i = false) := hgb
          clear hgb
          try go_wp2_with fail
          refine (get_val HRY.out HGB).mono ?_
          rintro e wg ⟨rfl, rfl⟩
          go_wp2_with fail
          go_ret
          exact ⟨rfl, HBY.out⟩
        · have HGB : Hid (Bit V C i = true) := hgb
          obtain ⟨z, hz⟩ : ∃ z : Int, ((OnesOf V C i : Nat) : Int) = z := ⟨_, rfl⟩
          have HZ : Hid (((OnesOf V C i : Nat) : Int) = z) := hz
          have hz0 : 0 ≤ z := by rw [← hz]; omega
          have hzc : z ≤ 1125899906842624000 := by have := OnesOf_le V C i; have := HRY.out.fit; have := HRY.out.lim; omega
          clear hgb hz
          try go_wp2_with fail
          refine (get_val HRY.out HGB).mono ?_
          rintro e wg ⟨rfl, rfl⟩
          go_wp2_with fail
          refine (ones_val HRY.out HZ).mono ?_
          rintro e wh ⟨rfl, m9, rfl⟩
          go_wp2_with fail
          refine (find_row (z + 1) (by omega) (HRY.out.drewN m9) (HTY.out.drewN m9)).mono ?_
          rintro e w9 ⟨⟨F9, rfl, hF9⟩, hb9⟩
          obtain rfl := find_back HGB.out HZ.out hF9
          have HB9 : Hid (Below w.heap.size w w9) := (below_drewN HBY.out m9).trans (hb9.mono (below_drewN HBY.out m9).size)
          clear hF9 hb9
          go_wp2_with fail
          go_ret
          exact ⟨rfl, HB9.out⟩
    · have HBQ : Hid (Bit V C (q : Int) = true) := by
        have hq2 : (q : Int) < (C : Int) := by omega
        have hq0 : (0 : Int) ≤ (q : Int) := by omega
        simp [Hid, Bit, hq2, hq0, hbit]
      have HQ1 : Hid (((OnesOf V C (q : Int) : Nat) : Int) = k - 1) := by
        simp only [Hid]
        rw [ones_nat V C q (by omega)]
        exact hp
      have HQ2 : Hid (((OnesOf V C ((q : Int) + 1) : Nat) : Int) = k) := by
        have e := ones_nat V C (q + 1) (by omega)
        have e2 := Plain.pop_succ V q
        rw [Int.natCast_succ] at e
        simp only [Hid]
        rw [e]
        omega
      have hqb : (q : Int) ≤ 1125899906842624000 := by have := HRX.out.fit; have := HRX.out.lim; omega
      have hq0 : ¬ (q : Int) < 0 := by omega
      clear h2 hp hbit hq
      go_wp2_with fail
      refine (get_val HRX.out HBQ).mono ?_
      rintro e w5 ⟨rfl, rfl⟩
      go_wp2_with fail
      refine (ones_val HRX.out HQ1).mono ?_
      rintro e w6 ⟨rfl, m5, rfl⟩
      have HRY : Hid (RowAt (w5.drewN m5) b V C n) := HRX.out.drewN m5
      have HTY : Hid (Tab (w5.drewN m5)) := HTX.out.drewN m5
      have HBY : Hid (Below w.heap.size w (w5.drewN m5)) := below_drewN HBX.out m5
      generalize w5.drewN m5 = w7 at HRY HTY HBY ⊢
      clear HRX HTX HBX HQ1
      go_wp2_with fail
      refine (ones_val HRY.out HQ2).mono ?_
      rintro e w8 ⟨rfl, m6, rfl⟩
      have HRX : Hid (RowAt (w7.drewN m6) b V C n) := HRY.out.drewN m6
      have HTX : Hid (Tab (w7.drewN m6)) := HTY.out.drewN m6
      have HBX : Hid (Below w.heap.size w (w7.drewN m6)) := below_drewN HBY.out m6
      generalize w7.drewN m6 = wz at HRX HTX HBX ⊢
      clear HRY HTY HBY HQ2 HBQ
      go_wp2_with fail
      cases hgb : Bit V C i
      · have HGB : Hid (Bit V C i = false) := hgb
        clear hgb
        try go_wp2_with fail
        refine (get_val HRX.out HGB).mono ?_
        rintro e wg ⟨rfl, rfl⟩
        go_wp2_with fail
        go_ret
        exact ⟨rfl, HBX.out⟩
      · have HGB : Hid (Bit V C i = true) := hgb
        obtain ⟨z, hz⟩ : ∃ z : Int, ((OnesOf V C i : Nat) : Int) = z := ⟨_, rfl⟩
        have HZ : Hid (((OnesOf V C i : Nat) : Int) = z) := hz
        have hz0 : 0 ≤ z := by rw [← hz]; omega
        have hzc : z ≤ 1125899906842624000 := by have := OnesOf_le V C i; have := HRX.out.fit; have := HRX.out.lim; omega
        clear hgb hz
        try go_wp2_with fail
        refine (get_val HRX.out HGB).mono ?_
        rintro e wg ⟨rfl, rfl⟩
        go_wp2_with fail
        refine (ones_val HRX.out HZ).mono ?_
        rintro e wh ⟨rfl, m9, rfl⟩
        go_wp2_with fail
        refine (find_row (z + 1) (by omega) (HRX.out.drewN m9) (HTX.out.drewN m9)).mono ?_
        rintro e w9 ⟨⟨F9, rfl, hF9⟩, hb9⟩
        obtain rfl := find_back HGB.out HZ.out hF9
        have HB9 : Hid (Below w.heap.size w w9) := (below_drewN HBX.out m9).trans (hb9.mono (below_drewN HBX.out m9).size)
        clear hF9 hb9
        go_wp2_with fail
        go_ret
        exact ⟨rfl, HB9.out⟩
  · refine (new_row_err s c n w2 (HG.out.below HB2.out) hs hc herr).mono ?_
    rintro e w3 ⟨rfl, hb3⟩
    have HB3 : Hid (Below w.heap.size w w3) := HB2.out.trans (hb3.mono HB2.out.size)
    clear herr hb3
    go_wp2_with fail
    go_ret
    exact ⟨rfl, HB3.out⟩
end Go.Proofs.YtnffjoipinhojaaDoor
