import Derived.Test.YtnffjoipinhojabGreatDoorK13
set_option linter.unusedSimpArgs false
set_option linter.unusedVariables false
namespace Go.Proofs.YtnffjoipinhojabGreatDoor
open Go.RowKit
namespace Tu

theorem sees_asc {p : Int → Bool} (hp : ∀ c, p c = true → 0 ≤ c ∧ c < 128) (s : ByteArray) (j : Nat) : (decide ((chr s j).2 ≠ 0) && p ((chr s j).1 : Nat)) = p (bt s j) := by
  cases h : p (bt s j) with
  | true =>
    obtain ⟨e1, e2⟩ := asc_yes hp h
    rw [e2, e1]
    simp
  | false =>
    have := asc_no hp h
    rw [Bool.eq_false_iff]
    intro hq
    rw [Bool.and_eq_true, decide_eq_true_iff] at hq
    exact this hq

theorem seesAsc_any (w : World) (b i : Nat) (s : ByteArray) (h : Rd w b s i) (hT : Tabs w) (g : Nat) (lb : Array Value) (p : Int → Bool) (lo hi : Nat) (hp : IsSet g lb p lo hi w) (ha : ∀ c, p c = true → 0 ≤ c ∧ c < 128) :
    Calls Tryz.prog 158 #[.pointer (some ⟨b, 0, none⟩), fnV g lb] w fun e w' => e = .returned (.bool (p (bt s i))) ∧ Below w.heap.size w w' := by
  have := seesOf_any w b i s h hT g lb p lo hi hp
  rw [sees_asc ha] at this
  exact this

theorem adv_two {w w2 : World} {b e : Nat} {s : ByteArray} (hb : b < w.heap.size) (h0 : w.cell? ⟨b, 0, none⟩ = some (.string s)) (hB : Below w.heap.size w w2) :
    Adv b e w ((w2.setCell ⟨b, 0, none⟩ (.string s)).setCell ⟨b, 1, none⟩ (.int .i64 e)) := by
  have hc : w2.cell? ⟨b, 0, none⟩ = some (.string s) := (hB.cell (p := ⟨b, 0, none⟩) hb).trans h0
  refine ⟨hB.os, hB.tape, hB.output, by simpa using hB.size, fun k hk => ?_⟩
  have hk' : k < w.heap.size := by simpa using hk
  rw [setCell_cong (setCell_same hc k), setCell_cong (hB.block k hk')]

def prefB : ByteArray := ⟨#[112, 114, 101, 102, 105, 120]⟩

set_option maxHeartbeats 1000000 in
/-- behind an @ at i -/
theorem behindAt_any (w : World) (b i : Nat) (s : ByteArray) (h : Rd w b s (i + 1)) (hf0 : w.frozen? ⟨b, 0, none⟩ = false) (hT : Tabs w) (hb4 : 8 ≤ b) (hsz : s.size ≤ 1099511627776) (beh : Bool) :
    Calls Tryz.prog 157 #[.pointer (some ⟨b, 0, none⟩), .int .i64 i, .bool beh] w (SOut b w i (behAt s i beh)) := by
  have hle := h.le
  have hbw := h.lt
  obtain ⟨w1, hw1⟩ : ∃ w1, w1 = w.alloc (.cells #[.string s, .int .i64 (i + 1 : Nat)] 74) := ⟨_, rfl⟩
  have HW : Hid (w.alloc (.cells #[.string s, .int .i64 ((i : Int) + 1)] 74) = w1) := hw1.symm
  have hB1 : Below w.heap.size w w1 := by rw [hw1]; exact (Below.refl _ w).alloc (Nat.le_refl _) _
  have hh : w1.heap[w.heap.size]? = some (.cells #[.string s, .int .i64 (i + 1 : Nat)] 74 (0, 0)) := by rw [hw1]; exact heap_new _ _
  have hR1 : Rd w1 b s (i + 1) := h.below hB1
  have hT1 : Tabs w1 := hT.below hB1 (by omega) (by omega)
  have hs1 : w1.heap.size = w.heap.size + 1 := by rw [hw1]; simp
  have hRA : Rd w1 w.heap.size s (i + 1) := ⟨by rw [Lib.cell_of_heap hh]; rfl, by rw [Lib.cell_of_heap hh]; rfl, Lib.frozen_of_heap hh 1, hle, by omega⟩
  have hge := runU_ge inLang s (i + 1)
  have hrs := runU_sz inLang hle
  obtain ⟨q, hq⟩ : ∃ q, q = runU inLang s (i + 1) := ⟨_, rfl⟩
  obtain ⟨V, hV⟩ : ∃ V : ByteArray, V = ⟨(sub s (i + 1) q).toArray⟩ := ⟨_, rfl⟩
  rw [← hq] at hge hrs
  have HRun : Hid (Calls Tryz.prog 153 #[.pointer (some ⟨w.heap.size, 0, none⟩), fnV 198 #[]] w1 fun e w' => e = .returned (.string V) ∧ Below w.heap.size w w' ∧ w'.cell? ⟨w.heap.size, 0, none⟩ = some (.string s) ∧ w'.cell? ⟨w.heap.size, 1, none⟩ = some (.int .i64 q) ∧ Adv b (i + 1) w w') := by
    rw [hV, hq]
    refine (run_any w1 w.heap.size (i + 1) s hRA hT1 _ _ inLang 0 0 (setInLang w1) (fun c => inLang_lt) (by omega) (Or.inr (Nat.zero_le _))).mono ?_
    rintro e w' ⟨rfl, a⟩
    have hB' : Below w.heap.size w w' := hB1.trans (a.below (Nat.le_refl _) (by omega))
    have r := hRA.adv a (by rw [← hq]; exact hrs)
    exact ⟨rfl, hB', r.c0, r.c1, h.stay hB'⟩
  have HSe : Hid (∀ w2, Adv b (i + 1) w w2 → Calls Tryz.prog 158 #[.pointer (some ⟨b, 0, none⟩), fnV 116 #[]] w2 fun e w' => e = .returned (.bool (letter (bt s (i + 1)))) ∧ Adv b (i + 1) w w') := fun w2 a =>
    (seesAsc_any w2 b (i + 1) s (h.adv a hle) (hT.adv a hb4 hbw) _ _ letter 0 0 (set_letter w2) (fun c => letter_lt)).mono fun e w' k => ⟨k.1, a.then_below k.2⟩
  have HLg : Hid (∀ w2, Adv b (i + 1) w w2 → Calls Tryz.prog 199 #[.pointer (some ⟨b, 0, none⟩)] w2 (Out b w2 str (langR s (i + 1)))) := fun w2 a => language_any w2 b (i + 1) s (h.adv a hle) (hT.adv a hb4 hbw) hb4
  have HAw : Hid (Adv b (i + 1) w w1) := h.stay hB1
  have HTwo : Hid (∀ w2 (e : Nat), Below w.heap.size w w2 → Adv b e w ((w2.setCell ⟨b, 0, none⟩ (.string s)).setCell ⟨b, 1, none⟩ (.int .i64 e))) := fun w2 e hB => adv_two hbw h.c0 hB
  have HCb : Hid (∀ w2, Below w.heap.size w w2 → w2.cell? ⟨b, 0, none⟩ = some (.string s) ∧ w2.cell? ⟨b, 1, none⟩ = some (.int .i64 (i + 1 : Nat)) ∧ w2.frozen? ⟨b, 1, none⟩ = false ∧ w2.frozen? ⟨b, 0, none⟩ = false) := fun w2 hB => ⟨(hB.cell (p := ⟨b, 0, none⟩) hbw).trans h.c0, (hB.cell (p := ⟨b, 1, none⟩) hbw).trans h.c1, (hB.frozen (p := ⟨b, 1, none⟩) hbw).trans h.fz, (hB.frozen (p := ⟨b, 0, none⟩) hbw).trans hf0⟩
  have hVl : V.toList = sub s (i + 1) q := by rw [hV]; exact str_toList _
  have hcell := HCb.out w (Below.refl _ _)
  have HBel : Hid (Below w.heap.size w w1) := hB1
  obtain ⟨c0, c1, f1, f0⟩ := hcell
  by_cases hc : beh = false ∧ sub s (i + 1) q = prefixB
  · obtain ⟨rfl, hp⟩ := hc
    have HE : Hid (behAt s i false = (.pre, q)) := by unfold Hid behAt; rw [← hq, if_pos ⟨rfl, hp⟩]
    have hVp : V = ⟨#[112, 114, 101, 102, 105, 120]⟩ := by rw [hV, hp]; rfl
    rw [HE.out]
    subst hVp
    clear hVl hV hp hq h hT hR1 hT1 hRA hh hw1 HE
    go_enter Tryz.func157, Tryz.ntmps157
    go_wp2_with fail
    rw [HW.out]
    refine HRun.out.mono ?_
    rintro e w2 ⟨rfl, hB2, k0, k1, hA2⟩
    obtain ⟨d0, d1, g1, g0⟩ := HCb.out w2 hB2
    go_wp2
    go_ret
    exact ⟨rfl, HTwo.out w2 q hB2⟩
  · have hbeh : beh = true ∨ (beh = false ∧ (V.toList == [112, 114, 101, 102, 105, 120]) = false) := by
      cases beh with
      | true => exact Or.inl rfl
      | false =>
        refine Or.inr ⟨rfl, ?_⟩
        rw [beq_eq_false_iff_ne, hVl]
        intro e
        exact hc ⟨rfl, e⟩
    cases hl : letter (bt s (i + 1)) with
    | false =>
      have HE : Hid (behAt s i beh = (.brk 2 i, i)) := by unfold Hid behAt; rw [← hq, if_neg hc, if_pos hl]
      rw [hl] at HSe
      rw [HE.out]
      clear hVl hV hc hq h hT hR1 hT1 hRA hh hw1 HE hl HLg
      rcases hbeh with rfl | ⟨rfl, hne⟩
      · go_enter Tryz.func157, Tryz.ntmps157
        go_wp2_with fail
        rw [HW.out]
        refine (HSe.out _ HAw.out).mono ?_
        rintro e w2 ⟨rfl, hA2⟩
        go_wp2_with fail
        refine (start_any _ _).mono ?_
        rintro e w4 ⟨rfl, rfl⟩
        go_wp2_with fail
        refine (Refuse_any _ _ _).mono ?_
        rintro e w5 ⟨rfl, rfl⟩
        exact ⟨rfl, rfl, _, Nat.le_refl _, hA2⟩
      · go_enter Tryz.func157, Tryz.ntmps157
        go_wp2_with fail
        rw [HW.out]
        refine HRun.out.mono ?_
        rintro e w2 ⟨rfl, hB2, k0, k1, hA2⟩
        go_wp2_with fail
        refine (HSe.out _ hA2).mono ?_
        rintro e w3 ⟨rfl, hA3⟩
        go_wp2_with fail
        refine (start_any _ _).mono ?_
        rintro e w4 ⟨rfl, rfl⟩
        go_wp2_with fail
        refine (Refuse_any _ _ _).mono ?_
        rintro e w5 ⟨rfl, rfl⟩
        exact ⟨rfl, rfl, _, Nat.le_refl _, hA3⟩
    | true =>
      rw [hl] at HSe
      cases hg : language s (i + 1) with
      | bad j =>
        have HE : Hid (behAt s i beh = (.brk 2 j, i)) := by unfold Hid behAt; rw [← hq, if_neg hc, if_neg (by rw [hl]; simp), hg]
        have HL2 : Hid (∀ w2, Adv b (i + 1) w w2 → Calls Tryz.prog 199 #[.pointer (some ⟨b, 0, none⟩)] w2 fun e w' => e = stopE 2 j ∧ ∃ k, Adv b k w w') := fun w2 a => by
          have := HLg.out w2 a
          unfold langR at this
          rw [hg] at this
          exact this.mono fun e w' k => ⟨k.1, k.2.imp fun x y => a.trans y⟩
        rw [HE.out]
        clear hVl hV hc hq h hT hR1 hT1 hRA hh hw1 HE hl HLg hg
        rcases hbeh with rfl | ⟨rfl, hne⟩
        · go_enter Tryz.func157, Tryz.ntmps157
          go_wp2_with fail
          rw [HW.out]
          refine (HSe.out _ HAw.out).mono ?_
          rintro e w2 ⟨rfl, hA2⟩
          go_wp2_with fail
          refine (HL2.out _ hA2).mono ?_
          rintro e w4 ⟨rfl, k, hA4⟩
          exact ⟨rfl, rfl, _, Nat.le_refl _, hA4⟩
        · go_enter Tryz.func157, Tryz.ntmps157
          go_wp2_with fail
          rw [HW.out]
          refine HRun.out.mono ?_
          rintro e w2 ⟨rfl, hB2, k0, k1, hA2⟩
          go_wp2_with fail
          refine (HSe.out _ hA2).mono ?_
          rintro e w3 ⟨rfl, hA3⟩
          go_wp2_with fail
          refine (HL2.out _ hA3).mono ?_
          rintro e w4 ⟨rfl, k, hA4⟩
          exact ⟨rfl, rfl, _, Nat.le_refl _, hA4⟩
      | ok u k =>
        have HE : Hid (behAt s i beh = (.lan (sub s (i + 1) k), k)) := by unfold Hid behAt; rw [← hq, if_neg hc, if_neg (by rw [hl]; simp), hg]
        have HL2 : Hid (∀ w2, Adv b (i + 1) w w2 → Calls Tryz.prog 199 #[.pointer (some ⟨b, 0, none⟩)] w2 fun e w' => e = .returned (str (sub s (i + 1) k)) ∧ Adv b k w w') := fun w2 a => by
          have := HLg.out w2 a
          unfold langR at this
          rw [hg] at this
          exact this.mono fun e w' k => ⟨k.1, a.trans k.2⟩
        rw [HE.out]
        clear hVl hV hc hq h hT hR1 hT1 hRA hh hw1 HE hl HLg hg
        rcases hbeh with rfl | ⟨rfl, hne⟩
        · go_enter Tryz.func157, Tryz.ntmps157
          go_wp2_with fail
          rw [HW.out]
          refine (HSe.out _ HAw.out).mono ?_
          rintro e w2 ⟨rfl, hA2⟩
          go_wp2_with fail
          refine (HL2.out _ hA2).mono ?_
          rintro e w4 ⟨rfl, hA4⟩
          go_wp2
          go_ret
          exact ⟨rfl, hA4⟩
        · go_enter Tryz.func157, Tryz.ntmps157
          go_wp2_with fail
          rw [HW.out]
          refine HRun.out.mono ?_
          rintro e w2 ⟨rfl, hB2, k0, k1, hA2⟩
          go_wp2_with fail
          refine (HSe.out _ hA2).mono ?_
          rintro e w3 ⟨rfl, hA3⟩
          go_wp2_with fail
          refine (HL2.out _ hA3).mono ?_
          rintro e w4 ⟨rfl, hA4⟩
          go_wp2
          go_ret
          exact ⟨rfl, hA4⟩

end Tu
end Go.Proofs.YtnffjoipinhojabGreatDoor

set_option linter.unusedSimpArgs false
set_option linter.unusedVariables false
namespace Go.Proofs.YtnffjoipinhojabGreatDoor
open Go.RowKit
namespace Tu

/-- a test of the reader's that leaves it where it stands -/
abbrev Asks (b i : Nat) (w : World) (f : Nat) (args : Array Value) (v : Bool) : Prop := ∀ w2, Adv b i w w2 → Calls Tryz.prog f args w2 fun e w' => e = .returned (.bool v) ∧ Adv b i w w'

theorem asks_ended {w : World} {b i : Nat} {s : ByteArray} (h : Rd w b s i) {v : Bool} (hv : decide (i = s.size) = v) : Asks b i w 110 #[.pointer (some ⟨b, 0, none⟩)] v := fun w2 a => by
  rw [← hv]
  exact (ended_any w2 b i s (h.adv a h.le)).mono fun e w' k => ⟨k.1, by obtain ⟨n, rfl⟩ := k.2; exact a.trans ((h.adv a h.le).stayN n)⟩
theorem asks_sees {w : World} {b i : Nat} {s : ByteArray} (h : Rd w b s i) (c : Int) (h0 : 0 ≤ c) (h1 : c < 256) {v : Bool} (hv : decide (bt s i = c) = v) : Asks b i w 107 #[.pointer (some ⟨b, 0, none⟩), .int .u8 c] v := fun w2 a => by
  rw [← hv]
  exact (sees_any w2 b i s c (h.adv a h.le) h0 h1).mono fun e w' k => ⟨k.1, by obtain ⟨n, rfl⟩ := k.2; exact a.trans ((h.adv a h.le).stayN n)⟩
theorem asks_take {w : World} {b i : Nat} {s : ByteArray} (h : Rd w b s i) (c : Int) (h0 : 0 ≤ c) (h1 : c < 256) (hv : bt s i ≠ c) : Asks b i w 64 #[.pointer (some ⟨b, 0, none⟩), .int .u8 c] false := fun w2 a => by
  have := take_any w2 b i s c (h.adv a h.le) h0 h1
  rw [if_neg hv, decide_eq_false hv] at this
  exact this.mono fun e w' k => ⟨k.1, a.trans k.2⟩
theorem asks_of {w : World} {b i : Nat} {s : ByteArray} (h : Rd w b s i) (hT : Tabs w) (hb4 : 8 ≤ b) (g : Nat) (p : Int → Bool) (hp : ∀ w2, IsSet g #[] p 0 0 w2) (ha : ∀ c, p c = true → 0 ≤ c ∧ c < 128) {v : Bool} (hv : p (bt s i) = v) : Asks b i w 158 #[.pointer (some ⟨b, 0, none⟩), fnV g #[]] v := fun w2 a => by
  rw [← hv]
  exact (seesAsc_any w2 b i s (h.adv a h.le) (hT.adv a hb4 h.lt) _ _ p 0 0 (hp w2) ha).mono fun e w' k => ⟨k.1, a.then_below k.2⟩

/-- a reading of a sign from where the reader stands -/
theorem sout_on {b i : Nat} {w w2 : World} {p : Nat} {r : Sg × Nat} {e : Ending} {w' : World} (a : Adv b i w w2) (h : SOut b w2 p r e w') : SOut b w p r e w' := by
  unfold SOut at h ⊢
  split at h
  · rename_i n j hr
    exact ⟨h.1, h.2.imp fun k x => ⟨x.1, a.trans x.2⟩⟩
  · exact ⟨h.1, a.trans h.2⟩

theorem sout_R {b i : Nat} {w : World} {f : List UInt8 → Sg} {r : R (List UInt8)} (hf : ∀ l, (f l).isBrk = false) {e : Ending} {w' : World} (h : SOut b w i (ofR f i r) e w') : True := trivial

set_option maxHeartbeats 1000000 in
theorem sign_fin (w : World) (b i : Nat) (s : ByteArray) (h : Rd w b s i) (hf0 : w.frozen? ⟨b, 0, none⟩ = false) (hT : Tabs w) (hb4 : 8 ≤ b) (hsz : s.size ≤ 1099511627776) (beh : Bool) (hc : bt s i = 256) :
    Calls Tryz.prog 92 #[.pointer (some ⟨b, 0, none⟩), .int .i64 i, .bool beh] w (SOut b w i (sign s i beh)) := by
  have hle := h.le
  have hbw := h.lt
  have HA0 : Hid (Adv b i w w) := h.stayN 0
  have hsz2 : i = s.size := by
    rcases Nat.lt_or_ge i s.size with x | x
    · have := bt_lt x; have := s[i].toNat_lt; omega
    · omega
  have HT0 : Hid (Asks b i w 110 #[.pointer (some ⟨b, 0, none⟩)] true) := asks_ended h (by simp; omega)
  have HE : Hid (sign s i beh = (.fin, i)) := by unfold Hid sign; rw [if_pos hc]
  rw [HE.out]
  clear HE hc hsz2 h hT
  go_enter Tryz.func92, Tryz.ntmps92
  go_wp2_with fail
  refine (HT0.out _ HA0.out).mono ?_
  rintro e w1 ⟨rfl, hA1⟩
  go_wp2
  go_ret
  exact ⟨rfl, hA1⟩

set_option maxHeartbeats 1000000 in
theorem sign_iri_ok (w : World) (b i : Nat) (s : ByteArray) (h : Rd w b s i) (hf0 : w.frozen? ⟨b, 0, none⟩ = false) (hT : Tabs w) (hb4 : 8 ≤ b) (hsz : s.size ≤ 1099511627776) (beh : Bool) (hc : bt s i = 60) (l : List UInt8) (k : Nat) (hr : Go.Proofs.YtnffjoipinhojabGreatDoor.iri s i = .ok l k) :
    Calls Tryz.prog 92 #[.pointer (some ⟨b, 0, none⟩), .int .i64 i, .bool beh] w (SOut b w i (sign s i beh)) := by
  have hle := h.le
  have hbw := h.lt
  have HA0 : Hid (Adv b i w w) := h.stayN 0
  have hin := bt_in hc (by omega)
  have HT0 : Hid (Asks b i w 110 #[.pointer (some ⟨b, 0, none⟩)] false) := asks_ended h (by simp; omega)
  have HT1 : Hid (Asks b i w 107 #[.pointer (some ⟨b, 0, none⟩), .int .u8 60] true) := asks_sees h 60 (by omega) (by omega) (by simp; omega)
  have HC : Hid (∀ w2, Adv b i w w2 → Calls Tryz.prog 71 #[.pointer (some ⟨b, 0, none⟩)] w2 fun e w' => e = .returned (str l) ∧ Adv b k w w') := fun w2 a => by
    have := iri_any w2 b i s (h.adv a hle) (hT.adv a hb4 hbw) hb4 hsz
    rw [hr] at this
    exact this.mono fun e w' x => ⟨x.1, a.trans x.2⟩
  have HE : Hid (sign s i beh = (.iri l, k)) := by
    unfold Hid sign
    rw [if_neg (by omega), if_pos hc]
    rw [hr]
    rfl
  rw [HE.out]
  clear HE hc hr h hT
  go_enter Tryz.func92, Tryz.ntmps92
  go_wp2_with fail
  refine (HT0.out _ HA0.out).mono ?_
  rintro e w1 ⟨rfl, hA1⟩
  go_wp2_with fail
  refine (HT1.out _ hA1).mono ?_
  rintro e w2 ⟨rfl, hA2⟩
  go_wp2_with fail
  refine (HC.out _ hA2).mono ?_
  rintro e wz ⟨rfl, hAz⟩
  go_wp2
  go_ret
  exact ⟨rfl, hAz⟩

set_option maxHeartbeats 1000000 in
theorem sign_iri_bad (w : World) (b i : Nat) (s : ByteArray) (h : Rd w b s i) (hf0 : w.frozen? ⟨b, 0, none⟩ = false) (hT : Tabs w) (hb4 : 8 ≤ b) (hsz : s.size ≤ 1099511627776) (beh : Bool) (hc : bt s i = 60) (k : Nat) (hr : Go.Proofs.YtnffjoipinhojabGreatDoor.iri s i = .bad k) :
    Calls Tryz.prog 92 #[.pointer (some ⟨b, 0, none⟩), .int .i64 i, .bool beh] w (SOut b w i (sign s i beh)) := by
  have hle := h.le
  have hbw := h.lt
  have HA0 : Hid (Adv b i w w) := h.stayN 0
  have hin := bt_in hc (by omega)
  have HT0 : Hid (Asks b i w 110 #[.pointer (some ⟨b, 0, none⟩)] false) := asks_ended h (by simp; omega)
  have HT1 : Hid (Asks b i w 107 #[.pointer (some ⟨b, 0, none⟩), .int .u8 60] true) := asks_sees h 60 (by omega) (by omega) (by simp; omega)
  have HC : Hid (∀ w2, Adv b i w w2 → Calls Tryz.prog 71 #[.pointer (some ⟨b, 0, none⟩)] w2 fun e w' => e = stopE 2 k ∧ ∃ j, Adv b j w w') := fun w2 a => by
    have := iri_any w2 b i s (h.adv a hle) (hT.adv a hb4 hbw) hb4 hsz
    rw [hr] at this
    exact this.mono fun e w' x => ⟨x.1, x.2.imp fun j y => a.trans y⟩
  have HE : Hid (sign s i beh = (.brk 2 k, i)) := by
    unfold Hid sign
    rw [if_neg (by omega), if_pos hc]
    rw [hr]
    rfl
  rw [HE.out]
  clear HE hc hr h hT
  go_enter Tryz.func92, Tryz.ntmps92
  go_wp2_with fail
  refine (HT0.out _ HA0.out).mono ?_
  rintro e w1 ⟨rfl, hA1⟩
  go_wp2_with fail
  refine (HT1.out _ hA1).mono ?_
  rintro e w2 ⟨rfl, hA2⟩
  go_wp2_with fail
  refine (HC.out _ hA2).mono ?_
  rintro e wz ⟨rfl, j, hAz⟩
  exact ⟨rfl, rfl, j, Nat.le_refl _, hAz⟩

set_option maxHeartbeats 1000000 in
theorem sign_blk_ok (w : World) (b i : Nat) (s : ByteArray) (h : Rd w b s i) (hf0 : w.frozen? ⟨b, 0, none⟩ = false) (hT : Tabs w) (hb4 : 8 ≤ b) (hsz : s.size ≤ 1099511627776) (beh : Bool) (hc : bt s i = 95) (l : List UInt8) (k : Nat) (hr : Go.Proofs.YtnffjoipinhojabGreatDoor.blank s i = .ok l k) :
    Calls Tryz.prog 92 #[.pointer (some ⟨b, 0, none⟩), .int .i64 i, .bool beh] w (SOut b w i (sign s i beh)) := by
  have hle := h.le
  have hbw := h.lt
  have HA0 : Hid (Adv b i w w) := h.stayN 0
  have hin := bt_in hc (by omega)
  have HT0 : Hid (Asks b i w 110 #[.pointer (some ⟨b, 0, none⟩)] false) := asks_ended h (by simp; omega)
  have HT1 : Hid (Asks b i w 107 #[.pointer (some ⟨b, 0, none⟩), .int .u8 60] false) := asks_sees h 60 (by omega) (by omega) (by simp; omega)
  have HT2 : Hid (Asks b i w 107 #[.pointer (some ⟨b, 0, none⟩), .int .u8 95] true) := asks_sees h 95 (by omega) (by omega) (by simp; omega)
  have HC : Hid (∀ w2, Adv b i w w2 → Calls Tryz.prog 155 #[.pointer (some ⟨b, 0, none⟩)] w2 fun e w' => e = .returned (str l) ∧ Adv b k w w') := fun w2 a => by
    have := blank_any w2 b i s (h.adv a hle) (hT.adv a hb4 hbw) hb4
    rw [hr] at this
    exact this.mono fun e w' x => ⟨x.1, a.trans x.2⟩
  have HE : Hid (sign s i beh = (.blk l, k)) := by
    unfold Hid sign
    rw [if_neg (by omega), if_neg (by omega), if_pos hc]
    rw [hr]
    rfl
  rw [HE.out]
  clear HE hc hr h hT
  go_enter Tryz.func92, Tryz.ntmps92
  go_wp2_with fail
  refine (HT0.out _ HA0.out).mono ?_
  rintro e w1 ⟨rfl, hA1⟩
  go_wp2_with fail
  refine (HT1.out _ hA1).mono ?_
  rintro e w2 ⟨rfl, hA2⟩
  go_wp2_with fail
  refine (HT2.out _ hA2).mono ?_
  rintro e w3 ⟨rfl, hA3⟩
  go_wp2_with fail
  refine (HC.out _ hA3).mono ?_
  rintro e wz ⟨rfl, hAz⟩
  go_wp2
  go_ret
  exact ⟨rfl, hAz⟩

set_option maxHeartbeats 1000000 in
theorem sign_blk_bad (w : World) (b i : Nat) (s : ByteArray) (h : Rd w b s i) (hf0 : w.frozen? ⟨b, 0, none⟩ = false) (hT : Tabs w) (hb4 : 8 ≤ b) (hsz : s.size ≤ 1099511627776) (beh : Bool) (hc : bt s i = 95) (k : Nat) (hr : Go.Proofs.YtnffjoipinhojabGreatDoor.blank s i = .bad k) :
    Calls Tryz.prog 92 #[.pointer (some ⟨b, 0, none⟩), .int .i64 i, .bool beh] w (SOut b w i (sign s i beh)) := by
  have hle := h.le
  have hbw := h.lt
  have HA0 : Hid (Adv b i w w) := h.stayN 0
  have hin := bt_in hc (by omega)
  have HT0 : Hid (Asks b i w 110 #[.pointer (some ⟨b, 0, none⟩)] false) := asks_ended h (by simp; omega)
  have HT1 : Hid (Asks b i w 107 #[.pointer (some ⟨b, 0, none⟩), .int .u8 60] false) := asks_sees h 60 (by omega) (by omega) (by simp; omega)
  have HT2 : Hid (Asks b i w 107 #[.pointer (some ⟨b, 0, none⟩), .int .u8 95] true) := asks_sees h 95 (by omega) (by omega) (by simp; omega)
  have HC : Hid (∀ w2, Adv b i w w2 → Calls Tryz.prog 155 #[.pointer (some ⟨b, 0, none⟩)] w2 fun e w' => e = stopE 2 k ∧ ∃ j, Adv b j w w') := fun w2 a => by
    have := blank_any w2 b i s (h.adv a hle) (hT.adv a hb4 hbw) hb4
    rw [hr] at this
    exact this.mono fun e w' x => ⟨x.1, x.2.imp fun j y => a.trans y⟩
  have HE : Hid (sign s i beh = (.brk 2 k, i)) := by
    unfold Hid sign
    rw [if_neg (by omega), if_neg (by omega), if_pos hc]
    rw [hr]
    rfl
  rw [HE.out]
  clear HE hc hr h hT
  go_enter Tryz.func92, Tryz.ntmps92
  go_wp2_with fail
  refine (HT0.out _ HA0.out).mono ?_
  rintro e w1 ⟨rfl, hA1⟩
  go_wp2_with fail
  refine (HT1.out _ hA1).mono ?_
  rintro e w2 ⟨rfl, hA2⟩
  go_wp2_with fail
  refine (HT2.out _ hA2).mono ?_
  rintro e w3 ⟨rfl, hA3⟩
  go_wp2_with fail
  refine (HC.out _ hA3).mono ?_
  rintro e wz ⟨rfl, j, hAz⟩
  exact ⟨rfl, rfl, j, Nat.le_refl _, hAz⟩

set_option maxHeartbeats 1000000 in
theorem sign_str_ok (w : World) (b i : Nat) (s : ByteArray) (h : Rd w b s i) (hf0 : w.frozen? ⟨b, 0, none⟩ = false) (hT : Tabs w) (hb4 : 8 ≤ b) (hsz : s.size ≤ 1099511627776) (beh : Bool) (hc : bt s i = 34) (l : List UInt8) (k : Nat) (hr : Go.Proofs.YtnffjoipinhojabGreatDoor.quoted s i = .ok l k) :
    Calls Tryz.prog 92 #[.pointer (some ⟨b, 0, none⟩), .int .i64 i, .bool beh] w (SOut b w i (sign s i beh)) := by
  have hle := h.le
  have hbw := h.lt
  have HA0 : Hid (Adv b i w w) := h.stayN 0
  have hin := bt_in hc (by omega)
  have HT0 : Hid (Asks b i w 110 #[.pointer (some ⟨b, 0, none⟩)] false) := asks_ended h (by simp; omega)
  have HT1 : Hid (Asks b i w 107 #[.pointer (some ⟨b, 0, none⟩), .int .u8 60] false) := asks_sees h 60 (by omega) (by omega) (by simp; omega)
  have HT2 : Hid (Asks b i w 107 #[.pointer (some ⟨b, 0, none⟩), .int .u8 95] false) := asks_sees h 95 (by omega) (by omega) (by simp; omega)
  have HT3 : Hid (Asks b i w 107 #[.pointer (some ⟨b, 0, none⟩), .int .u8 34] true) := asks_sees h 34 (by omega) (by omega) (by simp; omega)
  have HC : Hid (∀ w2, Adv b i w w2 → Calls Tryz.prog 156 #[.pointer (some ⟨b, 0, none⟩)] w2 fun e w' => e = .returned (str l) ∧ Adv b k w w') := fun w2 a => by
    have := quoted_any w2 b i s (h.adv a hle) (hT.adv a hb4 hbw) hb4 hsz
    rw [hr] at this
    exact this.mono fun e w' x => ⟨x.1, a.trans x.2⟩
  have HE : Hid (sign s i beh = (.str l, k)) := by
    unfold Hid sign
    rw [if_neg (by omega), if_neg (by omega), if_neg (by omega), if_pos hc]
    rw [hr]
    rfl
  rw [HE.out]
  clear HE hc hr h hT
  go_enter Tryz.func92, Tryz.ntmps92
  go_wp2_with fail
  refine (HT0.out _ HA0.out).mono ?_
  rintro e w1 ⟨rfl, hA1⟩
  go_wp2_with fail
  refine (HT1.out _ hA1).mono ?_
  rintro e w2 ⟨rfl, hA2⟩
  go_wp2_with fail
  refine (HT2.out _ hA2).mono ?_
  rintro e w3 ⟨rfl, hA3⟩
  go_wp2_with fail
  refine (HT3.out _ hA3).mono ?_
  rintro e w4 ⟨rfl, hA4⟩
  go_wp2_with fail
  refine (HC.out _ hA4).mono ?_
  rintro e wz ⟨rfl, hAz⟩
  go_wp2
  go_ret
  exact ⟨rfl, hAz⟩

set_option maxHeartbeats 1000000 in
theorem sign_str_bad (w : World) (b i : Nat) (s : ByteArray) (h : Rd w b s i) (hf0 : w.frozen? ⟨b, 0, none⟩ = false) (hT : Tabs w) (hb4 : 8 ≤ b) (hsz : s.size ≤ 1099511627776) (beh : Bool) (hc : bt s i = 34) (k : Nat) (hr : Go.Proofs.YtnffjoipinhojabGreatDoor.quoted s i = .bad k) :
    Calls Tryz.prog 92 #[.pointer (some ⟨b, 0, none⟩), .int .i64 i, .bool beh] w (SOut b w i (sign s i beh)) := by
  have hle := h.le
  have hbw := h.lt
  have HA0 : Hid (Adv b i w w) := h.stayN 0
  have hin := bt_in hc (by omega)
  have HT0 : Hid (Asks b i w 110 #[.pointer (some ⟨b, 0, none⟩)] false) := asks_ended h (by simp; omega)
  have HT1 : Hid (Asks b i w 107 #[.pointer (some ⟨b, 0, none⟩), .int .u8 60] false) := asks_sees h 60 (by omega) (by omega) (by simp; omega)
  have HT2 : Hid (Asks b i w 107 #[.pointer (some ⟨b, 0, none⟩), .int .u8 95] false) := asks_sees h 95 (by omega) (by omega) (by simp; omega)
  have HT3 : Hid (Asks b i w 107 #[.pointer (some ⟨b, 0, none⟩), .int .u8 34] true) := asks_sees h 34 (by omega) (by omega) (by simp; omega)
  have HC : Hid (∀ w2, Adv b i w w2 → Calls Tryz.prog 156 #[.pointer (some ⟨b, 0, none⟩)] w2 fun e w' => e = stopE 2 k ∧ ∃ j, Adv b j w w') := fun w2 a => by
    have := quoted_any w2 b i s (h.adv a hle) (hT.adv a hb4 hbw) hb4 hsz
    rw [hr] at this
    exact this.mono fun e w' x => ⟨x.1, x.2.imp fun j y => a.trans y⟩
  have HE : Hid (sign s i beh = (.brk 2 k, i)) := by
    unfold Hid sign
    rw [if_neg (by omega), if_neg (by omega), if_neg (by omega), if_pos hc]
    rw [hr]
    rfl
  rw [HE.out]
  clear HE hc hr h hT
  go_enter Tryz.func92, Tryz.ntmps92
  go_wp2_with fail
  refine (HT0.out _ HA0.out).mono ?_
  rintro e w1 ⟨rfl, hA1⟩
  go_wp2_with fail
  refine (HT1.out _ hA1).mono ?_
  rintro e w2 ⟨rfl, hA2⟩
  go_wp2_with fail
  refine (HT2.out _ hA2).mono ?_
  rintro e w3 ⟨rfl, hA3⟩
  go_wp2_with fail
  refine (HT3.out _ hA3).mono ?_
  rintro e w4 ⟨rfl, hA4⟩
  go_wp2_with fail
  refine (HC.out _ hA4).mono ?_
  rintro e wz ⟨rfl, j, hAz⟩
  exact ⟨rfl, rfl, j, Nat.le_refl _, hAz⟩

set_option maxHeartbeats 1000000 in
theorem sign_knd_ok (w : World) (b i : Nat) (s : ByteArray) (h : Rd w b s i) (hf0 : w.frozen? ⟨b, 0, none⟩ = false) (hT : Tabs w) (hb4 : 8 ≤ b) (hsz : s.size ≤ 1099511627776) (beh : Bool) (hc : bt s i = 94) (hd : bt s (i + 1) = 94) :
    Calls Tryz.prog 92 #[.pointer (some ⟨b, 0, none⟩), .int .i64 i, .bool beh] w (SOut b w i (sign s i beh)) := by
  have hle := h.le
  have hbw := h.lt
  have HA0 : Hid (Adv b i w w) := h.stayN 0
  have hin := bt_in hc (by omega)
  have HT0 : Hid (Asks b i w 110 #[.pointer (some ⟨b, 0, none⟩)] false) := asks_ended h (by simp; omega)
  have HT1 : Hid (Asks b i w 107 #[.pointer (some ⟨b, 0, none⟩), .int .u8 60] false) := asks_sees h 60 (by omega) (by omega) (by simp; omega)
  have HT2 : Hid (Asks b i w 107 #[.pointer (some ⟨b, 0, none⟩), .int .u8 95] false) := asks_sees h 95 (by omega) (by omega) (by simp; omega)
  have HT3 : Hid (Asks b i w 107 #[.pointer (some ⟨b, 0, none⟩), .int .u8 34] false) := asks_sees h 34 (by omega) (by omega) (by simp; omega)
  have HTk : Hid (∀ w2, Adv b i w w2 → Calls Tryz.prog 64 #[.pointer (some ⟨b, 0, none⟩), .int .u8 94] w2 fun e w' => e = .returned (.bool true) ∧ Adv b (i + 1) w w') := fun w2 a => by
    have := take_any w2 b i s 94 (h.adv a hle) (by omega) (by omega)
    rw [if_pos hc, decide_eq_true hc] at this
    exact this.mono fun e w' x => ⟨x.1, a.trans x.2⟩
  have HC : Hid (∀ w2, Adv b (i + 1) w w2 → Calls Tryz.prog 126 #[.pointer (some ⟨b, 0, none⟩), .int .u8 94] w2 fun e w' => e = .returned (.tuple #[]) ∧ Adv b (i + 2) w w') := fun w2 a =>
    (want_ok w2 b (i + 1) s 94 (h.adv a (by omega)) (by omega) (by omega) hd).mono fun e w' x => ⟨x.1, a.trans x.2⟩
  have HE : Hid (sign s i beh = (.knd, i + 2)) := by
    unfold Hid sign
    rw [if_neg (by omega), if_neg (by omega), if_neg (by omega), if_neg (by omega), if_pos hc, if_pos hd]
  rw [HE.out]
  clear HE hc hd h hT
  go_enter Tryz.func92, Tryz.ntmps92
  go_wp2_with fail
  refine (HT0.out _ HA0.out).mono ?_
  rintro e w1 ⟨rfl, hA1⟩
  go_wp2_with fail
  refine (HT1.out _ hA1).mono ?_
  rintro e w2 ⟨rfl, hA2⟩
  go_wp2_with fail
  refine (HT2.out _ hA2).mono ?_
  rintro e w3 ⟨rfl, hA3⟩
  go_wp2_with fail
  refine (HT3.out _ hA3).mono ?_
  rintro e w4 ⟨rfl, hA4⟩
  go_wp2_with fail
  refine (HTk.out _ hA4).mono ?_
  rintro e w5 ⟨rfl, hA5⟩
  go_wp2_with fail
  refine (HC.out _ hA5).mono ?_
  rintro e wz ⟨rfl, hAz⟩
  go_wp2
  go_ret
  exact ⟨rfl, hAz⟩

set_option maxHeartbeats 1000000 in
theorem sign_knd_bad (w : World) (b i : Nat) (s : ByteArray) (h : Rd w b s i) (hf0 : w.frozen? ⟨b, 0, none⟩ = false) (hT : Tabs w) (hb4 : 8 ≤ b) (hsz : s.size ≤ 1099511627776) (beh : Bool) (hc : bt s i = 94) (hd : bt s (i + 1) ≠ 94) :
    Calls Tryz.prog 92 #[.pointer (some ⟨b, 0, none⟩), .int .i64 i, .bool beh] w (SOut b w i (sign s i beh)) := by
  have hle := h.le
  have hbw := h.lt
  have HA0 : Hid (Adv b i w w) := h.stayN 0
  have hin := bt_in hc (by omega)
  have HT0 : Hid (Asks b i w 110 #[.pointer (some ⟨b, 0, none⟩)] false) := asks_ended h (by simp; omega)
  have HT1 : Hid (Asks b i w 107 #[.pointer (some ⟨b, 0, none⟩), .int .u8 60] false) := asks_sees h 60 (by omega) (by omega) (by simp; omega)
  have HT2 : Hid (Asks b i w 107 #[.pointer (some ⟨b, 0, none⟩), .int .u8 95] false) := asks_sees h 95 (by omega) (by omega) (by simp; omega)
  have HT3 : Hid (Asks b i w 107 #[.pointer (some ⟨b, 0, none⟩), .int .u8 34] false) := asks_sees h 34 (by omega) (by omega) (by simp; omega)
  have HTk : Hid (∀ w2, Adv b i w w2 → Calls Tryz.prog 64 #[.pointer (some ⟨b, 0, none⟩), .int .u8 94] w2 fun e w' => e = .returned (.bool true) ∧ Adv b (i + 1) w w') := fun w2 a => by
    have := take_any w2 b i s 94 (h.adv a hle) (by omega) (by omega)
    rw [if_pos hc, decide_eq_true hc] at this
    exact this.mono fun e w' x => ⟨x.1, a.trans x.2⟩
  have HC : Hid (∀ w2, Adv b (i + 1) w w2 → Calls Tryz.prog 126 #[.pointer (some ⟨b, 0, none⟩), .int .u8 94] w2 fun e w' => e = stopE 2 (i + 1 : Nat) ∧ Adv b (i + 1) w w') := fun w2 a =>
    (want_bad w2 b (i + 1) s 94 (h.adv a (by omega)) (by omega) (by omega) hd).mono fun e w' x => ⟨x.1, a.trans x.2⟩
  have HE : Hid (sign s i beh = (.brk 2 (i + 1), i)) := by
    unfold Hid sign
    rw [if_neg (by omega), if_neg (by omega), if_neg (by omega), if_neg (by omega), if_pos hc, if_neg hd]
  rw [HE.out]
  clear HE hc hd h hT
  go_enter Tryz.func92, Tryz.ntmps92
  go_wp2_with fail
  refine (HT0.out _ HA0.out).mono ?_
  rintro e w1 ⟨rfl, hA1⟩
  go_wp2_with fail
  refine (HT1.out _ hA1).mono ?_
  rintro e w2 ⟨rfl, hA2⟩
  go_wp2_with fail
  refine (HT2.out _ hA2).mono ?_
  rintro e w3 ⟨rfl, hA3⟩
  go_wp2_with fail
  refine (HT3.out _ hA3).mono ?_
  rintro e w4 ⟨rfl, hA4⟩
  go_wp2_with fail
  refine (HTk.out _ hA4).mono ?_
  rintro e w5 ⟨rfl, hA5⟩
  go_wp2_with fail
  refine (HC.out _ hA5).mono ?_
  rintro e wz ⟨rfl, hAz⟩
  exact ⟨rfl, rfl, _, Nat.le_refl _, hAz⟩

set_option maxHeartbeats 1000000 in
theorem sign_at_ok (w : World) (b i : Nat) (s : ByteArray) (h : Rd w b s i) (hf0 : w.frozen? ⟨b, 0, none⟩ = false) (hT : Tabs w) (hb4 : 8 ≤ b) (hsz : s.size ≤ 1099511627776) (beh : Bool) (hc : bt s i = 64) (sg : Sg) (k : Nat) (hr : behAt s i beh = (sg, k)) (hb : sg.isBrk = false) :
    Calls Tryz.prog 92 #[.pointer (some ⟨b, 0, none⟩), .int .i64 i, .bool beh] w (SOut b w i (sign s i beh)) := by
  have hle := h.le
  have hbw := h.lt
  have HA0 : Hid (Adv b i w w) := h.stayN 0
  have hin := bt_in hc (by omega)
  have HT0 : Hid (Asks b i w 110 #[.pointer (some ⟨b, 0, none⟩)] false) := asks_ended h (by simp; omega)
  have HT1 : Hid (Asks b i w 107 #[.pointer (some ⟨b, 0, none⟩), .int .u8 60] false) := asks_sees h 60 (by omega) (by omega) (by simp; omega)
  have HT2 : Hid (Asks b i w 107 #[.pointer (some ⟨b, 0, none⟩), .int .u8 95] false) := asks_sees h 95 (by omega) (by omega) (by simp; omega)
  have HT3 : Hid (Asks b i w 107 #[.pointer (some ⟨b, 0, none⟩), .int .u8 34] false) := asks_sees h 34 (by omega) (by omega) (by simp; omega)
  have HT4 : Hid (Asks b i w 64 #[.pointer (some ⟨b, 0, none⟩), .int .u8 94] false) := asks_take h 94 (by omega) (by omega) (by omega)
  have HTk : Hid (∀ w2, Adv b i w w2 → Calls Tryz.prog 64 #[.pointer (some ⟨b, 0, none⟩), .int .u8 64] w2 fun e w' => e = .returned (.bool true) ∧ Adv b (i + 1) w w') := fun w2 a => by
    have := take_any w2 b i s 64 (h.adv a hle) (by omega) (by omega)
    rw [if_pos hc, decide_eq_true hc] at this
    exact this.mono fun e w' x => ⟨x.1, a.trans x.2⟩
  have HE0 : sign s i beh = behAt s i beh := by
    unfold sign
    rw [if_neg (by omega), if_neg (by omega), if_neg (by omega), if_neg (by omega), if_neg (by omega), if_pos hc]
  have HC : Hid (∀ w2, Adv b (i + 1) w w2 → Calls Tryz.prog 157 #[.pointer (some ⟨b, 0, none⟩), .int .i64 i, .bool beh] w2 fun e w' => e = .returned (tokV sg i) ∧ Adv b k w w') := fun w2 a => by
    have := behindAt_any w2 b i s (h.adv a (by omega)) ((a.frozen hbw).trans hf0) (hT.adv a hb4 hbw) hb4 hsz beh
    rw [hr] at this
    refine this.mono fun e w' x => ?_
    cases sg <;> first | (cases hb; done) | exact ⟨x.1, a.trans x.2⟩
  have HF : Hid (∀ e w', e = .returned (tokV sg i) → Adv b k w w' → SOut b w i (sg, k) e w') := fun e w' he ha => by
    cases sg <;> first | (cases hb; done) | exact ⟨he, ha⟩
  have HE : Hid (sign s i beh = (sg, k)) := HE0.trans hr
  rw [HE.out]
  clear HE hc h hT hr hb HE0
  go_enter Tryz.func92, Tryz.ntmps92
  go_wp2_with fail
  refine (HT0.out _ HA0.out).mono ?_
  rintro e w1 ⟨rfl, hA1⟩
  go_wp2_with fail
  refine (HT1.out _ hA1).mono ?_
  rintro e w2 ⟨rfl, hA2⟩
  go_wp2_with fail
  refine (HT2.out _ hA2).mono ?_
  rintro e w3 ⟨rfl, hA3⟩
  go_wp2_with fail
  refine (HT3.out _ hA3).mono ?_
  rintro e w4 ⟨rfl, hA4⟩
  go_wp2_with fail
  refine (HT4.out _ hA4).mono ?_
  rintro e w5 ⟨rfl, hA5⟩
  go_wp2_with fail
  refine (HTk.out _ hA5).mono ?_
  rintro e w6 ⟨rfl, hA6⟩
  go_wp2_with fail
  refine (HC.out _ hA6).mono ?_
  rintro e wz ⟨rfl, hAz⟩
  go_wp2
  go_ret
  exact HF.out _ _ rfl hAz

set_option maxHeartbeats 1000000 in
theorem sign_at_bad (w : World) (b i : Nat) (s : ByteArray) (h : Rd w b s i) (hf0 : w.frozen? ⟨b, 0, none⟩ = false) (hT : Tabs w) (hb4 : 8 ≤ b) (hsz : s.size ≤ 1099511627776) (beh : Bool) (hc : bt s i = 64) (n : Int) (j k : Nat) (hr : behAt s i beh = (.brk n j, k)) :
    Calls Tryz.prog 92 #[.pointer (some ⟨b, 0, none⟩), .int .i64 i, .bool beh] w (SOut b w i (sign s i beh)) := by
  have hle := h.le
  have hbw := h.lt
  have HA0 : Hid (Adv b i w w) := h.stayN 0
  have hin := bt_in hc (by omega)
  have HT0 : Hid (Asks b i w 110 #[.pointer (some ⟨b, 0, none⟩)] false) := asks_ended h (by simp; omega)
  have HT1 : Hid (Asks b i w 107 #[.pointer (some ⟨b, 0, none⟩), .int .u8 60] false) := asks_sees h 60 (by omega) (by omega) (by simp; omega)
  have HT2 : Hid (Asks b i w 107 #[.pointer (some ⟨b, 0, none⟩), .int .u8 95] false) := asks_sees h 95 (by omega) (by omega) (by simp; omega)
  have HT3 : Hid (Asks b i w 107 #[.pointer (some ⟨b, 0, none⟩), .int .u8 34] false) := asks_sees h 34 (by omega) (by omega) (by simp; omega)
  have HT4 : Hid (Asks b i w 64 #[.pointer (some ⟨b, 0, none⟩), .int .u8 94] false) := asks_take h 94 (by omega) (by omega) (by omega)
  have HTk : Hid (∀ w2, Adv b i w w2 → Calls Tryz.prog 64 #[.pointer (some ⟨b, 0, none⟩), .int .u8 64] w2 fun e w' => e = .returned (.bool true) ∧ Adv b (i + 1) w w') := fun w2 a => by
    have := take_any w2 b i s 64 (h.adv a hle) (by omega) (by omega)
    rw [if_pos hc, decide_eq_true hc] at this
    exact this.mono fun e w' x => ⟨x.1, a.trans x.2⟩
  have HE0 : sign s i beh = behAt s i beh := by
    unfold sign
    rw [if_neg (by omega), if_neg (by omega), if_neg (by omega), if_neg (by omega), if_neg (by omega), if_pos hc]
  have HC : Hid (∀ w2, Adv b (i + 1) w w2 → Calls Tryz.prog 157 #[.pointer (some ⟨b, 0, none⟩), .int .i64 i, .bool beh] w2 fun e w' => e = stopE n j ∧ ∃ m, Adv b m w w') := fun w2 a => by
    have := behindAt_any w2 b i s (h.adv a (by omega)) ((a.frozen hbw).trans hf0) (hT.adv a hb4 hbw) hb4 hsz beh
    rw [hr] at this
    exact this.mono fun e w' x => ⟨x.1, x.2.imp fun m y => a.trans y.2⟩
  have HE : Hid (sign s i beh = (.brk n j, k)) := HE0.trans hr
  rw [HE.out]
  clear HE hc h hT hr HE0
  go_enter Tryz.func92, Tryz.ntmps92
  go_wp2_with fail
  refine (HT0.out _ HA0.out).mono ?_
  rintro e w1 ⟨rfl, hA1⟩
  go_wp2_with fail
  refine (HT1.out _ hA1).mono ?_
  rintro e w2 ⟨rfl, hA2⟩
  go_wp2_with fail
  refine (HT2.out _ hA2).mono ?_
  rintro e w3 ⟨rfl, hA3⟩
  go_wp2_with fail
  refine (HT3.out _ hA3).mono ?_
  rintro e w4 ⟨rfl, hA4⟩
  go_wp2_with fail
  refine (HT4.out _ hA4).mono ?_
  rintro e w5 ⟨rfl, hA5⟩
  go_wp2_with fail
  refine (HTk.out _ hA5).mono ?_
  rintro e w6 ⟨rfl, hA6⟩
  go_wp2_with fail
  refine (HC.out _ hA6).mono ?_
  rintro e wz ⟨rfl, m, hAz⟩
  exact ⟨rfl, rfl, m, Nat.le_refl _, hAz⟩

set_option maxHeartbeats 1000000 in
theorem sign_num1_ok (w : World) (b i : Nat) (s : ByteArray) (h : Rd w b s i) (hf0 : w.frozen? ⟨b, 0, none⟩ = false) (hT : Tabs w) (hb4 : 8 ≤ b) (hsz : s.size ≤ 1099511627776) (beh : Bool) (hi : i < s.size) (hn : bt s i ≠ 256 ∧ bt s i ≠ 60 ∧ bt s i ≠ 95 ∧ bt s i ≠ 34 ∧ bt s i ≠ 94 ∧ bt s i ≠ 64) (hc : bt s i = 45) (sg : Sg) (k : Nat) (hr : number s i = (sg, k)) (hb : sg.isBrk = false) :
    Calls Tryz.prog 92 #[.pointer (some ⟨b, 0, none⟩), .int .i64 i, .bool beh] w (SOut b w i (sign s i beh)) := by
  have hle := h.le
  have hbw := h.lt
  have HA0 : Hid (Adv b i w w) := h.stayN 0
  have HT0 : Hid (Asks b i w 110 #[.pointer (some ⟨b, 0, none⟩)] false) := asks_ended h (by simp; omega)
  have HT1 : Hid (Asks b i w 107 #[.pointer (some ⟨b, 0, none⟩), .int .u8 60] false) := asks_sees h 60 (by omega) (by omega) (by simp; omega)
  have HT2 : Hid (Asks b i w 107 #[.pointer (some ⟨b, 0, none⟩), .int .u8 95] false) := asks_sees h 95 (by omega) (by omega) (by simp; omega)
  have HT3 : Hid (Asks b i w 107 #[.pointer (some ⟨b, 0, none⟩), .int .u8 34] false) := asks_sees h 34 (by omega) (by omega) (by simp; omega)
  have HT4 : Hid (Asks b i w 64 #[.pointer (some ⟨b, 0, none⟩), .int .u8 94] false) := asks_take h 94 (by omega) (by omega) (by omega)
  have HT5 : Hid (Asks b i w 64 #[.pointer (some ⟨b, 0, none⟩), .int .u8 64] false) := asks_take h 64 (by omega) (by omega) (by omega)
  have HT6a : Hid (Asks b i w 107 #[.pointer (some ⟨b, 0, none⟩), .int .u8 45] true) := asks_sees h 45 (by omega) (by omega) (by simp; omega)
  have HE0 : sign s i beh = number s i := by
    unfold sign
    rw [if_neg (by omega), if_neg (by omega), if_neg (by omega), if_neg (by omega), if_neg (by omega), if_neg (by omega), if_pos (Or.inl hc)]
  have HC : Hid (∀ w2, Adv b i w w2 → Calls Tryz.prog 159 #[.pointer (some ⟨b, 0, none⟩), .int .i64 i] w2 fun e w' => e = .returned (tokV sg i) ∧ Adv b k w w') := fun w2 a => by
    have := number_any w2 b i i s (h.adv a hle) (hT.adv a hb4 hbw) hb4 hi hsz
    rw [hr] at this
    refine this.mono fun e w' x => ?_
    cases sg <;> first | (cases hb; done) | exact ⟨x.1, a.trans x.2⟩
  have HF : Hid (∀ e w', e = .returned (tokV sg i) → Adv b k w w' → SOut b w i (sg, k) e w') := fun e w' he ha => by
    cases sg <;> first | (cases hb; done) | exact ⟨he, ha⟩
  have HE : Hid (sign s i beh = (sg, k)) := HE0.trans hr
  rw [HE.out]
  clear HE hc hn h hT hr hb HE0
  go_enter Tryz.func92, Tryz.ntmps92
  go_wp2_with fail
  refine (HT0.out _ HA0.out).mono ?_
  rintro e w1 ⟨rfl, hA1⟩
  go_wp2_with fail
  refine (HT1.out _ hA1).mono ?_
  rintro e w2 ⟨rfl, hA2⟩
  go_wp2_with fail
  refine (HT2.out _ hA2).mono ?_
  rintro e w3 ⟨rfl, hA3⟩
  go_wp2_with fail
  refine (HT3.out _ hA3).mono ?_
  rintro e w4 ⟨rfl, hA4⟩
  go_wp2_with fail
  refine (HT4.out _ hA4).mono ?_
  rintro e w5 ⟨rfl, hA5⟩
  go_wp2_with fail
  refine (HT5.out _ hA5).mono ?_
  rintro e w6 ⟨rfl, hA6⟩
  go_wp2_with fail
  refine (HT6a.out _ hA6).mono ?_
  rintro e w7 ⟨rfl, hA7⟩
  go_wp2_with fail
  refine (HC.out _ hA7).mono ?_
  rintro e wz ⟨rfl, hAz⟩
  go_wp2
  go_ret
  exact HF.out _ _ rfl hAz

set_option maxHeartbeats 1000000 in
theorem sign_num1_bad (w : World) (b i : Nat) (s : ByteArray) (h : Rd w b s i) (hf0 : w.frozen? ⟨b, 0, none⟩ = false) (hT : Tabs w) (hb4 : 8 ≤ b) (hsz : s.size ≤ 1099511627776) (beh : Bool) (hi : i < s.size) (hn : bt s i ≠ 256 ∧ bt s i ≠ 60 ∧ bt s i ≠ 95 ∧ bt s i ≠ 34 ∧ bt s i ≠ 94 ∧ bt s i ≠ 64) (hc : bt s i = 45) (n : Int) (j k : Nat) (hr : number s i = (.brk n j, k)) :
    Calls Tryz.prog 92 #[.pointer (some ⟨b, 0, none⟩), .int .i64 i, .bool beh] w (SOut b w i (sign s i beh)) := by
  have hle := h.le
  have hbw := h.lt
  have HA0 : Hid (Adv b i w w) := h.stayN 0
  have HT0 : Hid (Asks b i w 110 #[.pointer (some ⟨b, 0, none⟩)] false) := asks_ended h (by simp; omega)
  have HT1 : Hid (Asks b i w 107 #[.pointer (some ⟨b, 0, none⟩), .int .u8 60] false) := asks_sees h 60 (by omega) (by omega) (by simp; omega)
  have HT2 : Hid (Asks b i w 107 #[.pointer (some ⟨b, 0, none⟩), .int .u8 95] false) := asks_sees h 95 (by omega) (by omega) (by simp; omega)
  have HT3 : Hid (Asks b i w 107 #[.pointer (some ⟨b, 0, none⟩), .int .u8 34] false) := asks_sees h 34 (by omega) (by omega) (by simp; omega)
  have HT4 : Hid (Asks b i w 64 #[.pointer (some ⟨b, 0, none⟩), .int .u8 94] false) := asks_take h 94 (by omega) (by omega) (by omega)
  have HT5 : Hid (Asks b i w 64 #[.pointer (some ⟨b, 0, none⟩), .int .u8 64] false) := asks_take h 64 (by omega) (by omega) (by omega)
  have HT6a : Hid (Asks b i w 107 #[.pointer (some ⟨b, 0, none⟩), .int .u8 45] true) := asks_sees h 45 (by omega) (by omega) (by simp; omega)
  have HE0 : sign s i beh = number s i := by
    unfold sign
    rw [if_neg (by omega), if_neg (by omega), if_neg (by omega), if_neg (by omega), if_neg (by omega), if_neg (by omega), if_pos (Or.inl hc)]
  have HC : Hid (∀ w2, Adv b i w w2 → Calls Tryz.prog 159 #[.pointer (some ⟨b, 0, none⟩), .int .i64 i] w2 fun e w' => e = stopE n j ∧ ∃ m, Adv b m w w') := fun w2 a => by
    have := number_any w2 b i i s (h.adv a hle) (hT.adv a hb4 hbw) hb4 hi hsz
    rw [hr] at this
    exact this.mono fun e w' x => ⟨x.1, x.2.imp fun m y => a.trans y.2⟩
  have HE : Hid (sign s i beh = (.brk n j, k)) := HE0.trans hr
  rw [HE.out]
  clear HE hc hn h hT hr HE0
  go_enter Tryz.func92, Tryz.ntmps92
  go_wp2_with fail
  refine (HT0.out _ HA0.out).mono ?_
  rintro e w1 ⟨rfl, hA1⟩
  go_wp2_with fail
  refine (HT1.out _ hA1).mono ?_
  rintro e w2 ⟨rfl, hA2⟩
  go_wp2_with fail
  refine (HT2.out _ hA2).mono ?_
  rintro e w3 ⟨rfl, hA3⟩
  go_wp2_with fail
  refine (HT3.out _ hA3).mono ?_
  rintro e w4 ⟨rfl, hA4⟩
  go_wp2_with fail
  refine (HT4.out _ hA4).mono ?_
  rintro e w5 ⟨rfl, hA5⟩
  go_wp2_with fail
  refine (HT5.out _ hA5).mono ?_
  rintro e w6 ⟨rfl, hA6⟩
  go_wp2_with fail
  refine (HT6a.out _ hA6).mono ?_
  rintro e w7 ⟨rfl, hA7⟩
  go_wp2_with fail
  refine (HC.out _ hA7).mono ?_
  rintro e wz ⟨rfl, m, hAz⟩
  exact ⟨rfl, rfl, m, Nat.le_refl _, hAz⟩

set_option maxHeartbeats 1000000 in
theorem sign_num2_ok (w : World) (b i : Nat) (s : ByteArray) (h : Rd w b s i) (hf0 : w.frozen? ⟨b, 0, none⟩ = false) (hT : Tabs w) (hb4 : 8 ≤ b) (hsz : s.size ≤ 1099511627776) (beh : Bool) (hi : i < s.size) (hn : bt s i ≠ 256 ∧ bt s i ≠ 60 ∧ bt s i ≠ 95 ∧ bt s i ≠ 34 ∧ bt s i ≠ 94 ∧ bt s i ≠ 64) (hm : bt s i ≠ 45) (hdg : digit (bt s i) = true) (sg : Sg) (k : Nat) (hr : number s i = (sg, k)) (hb : sg.isBrk = false) :
    Calls Tryz.prog 92 #[.pointer (some ⟨b, 0, none⟩), .int .i64 i, .bool beh] w (SOut b w i (sign s i beh)) := by
  have hle := h.le
  have hbw := h.lt
  have HA0 : Hid (Adv b i w w) := h.stayN 0
  have HT0 : Hid (Asks b i w 110 #[.pointer (some ⟨b, 0, none⟩)] false) := asks_ended h (by simp; omega)
  have HT1 : Hid (Asks b i w 107 #[.pointer (some ⟨b, 0, none⟩), .int .u8 60] false) := asks_sees h 60 (by omega) (by omega) (by simp; omega)
  have HT2 : Hid (Asks b i w 107 #[.pointer (some ⟨b, 0, none⟩), .int .u8 95] false) := asks_sees h 95 (by omega) (by omega) (by simp; omega)
  have HT3 : Hid (Asks b i w 107 #[.pointer (some ⟨b, 0, none⟩), .int .u8 34] false) := asks_sees h 34 (by omega) (by omega) (by simp; omega)
  have HT4 : Hid (Asks b i w 64 #[.pointer (some ⟨b, 0, none⟩), .int .u8 94] false) := asks_take h 94 (by omega) (by omega) (by omega)
  have HT5 : Hid (Asks b i w 64 #[.pointer (some ⟨b, 0, none⟩), .int .u8 64] false) := asks_take h 64 (by omega) (by omega) (by omega)
  have HT6a : Hid (Asks b i w 107 #[.pointer (some ⟨b, 0, none⟩), .int .u8 45] false) := asks_sees h 45 (by omega) (by omega) (by simp; omega)
  have HT6b : Hid (Asks b i w 158 #[.pointer (some ⟨b, 0, none⟩), fnV 121 #[]] true) := asks_of h hT hb4 121 digit (fun w2 => set_digit w2) (fun c => digit_lt) hdg
  have HE0 : sign s i beh = number s i := by
    unfold sign
    rw [if_neg (by omega), if_neg (by omega), if_neg (by omega), if_neg (by omega), if_neg (by omega), if_neg (by omega), if_pos (Or.inr hdg)]
  have HC : Hid (∀ w2, Adv b i w w2 → Calls Tryz.prog 159 #[.pointer (some ⟨b, 0, none⟩), .int .i64 i] w2 fun e w' => e = .returned (tokV sg i) ∧ Adv b k w w') := fun w2 a => by
    have := number_any w2 b i i s (h.adv a hle) (hT.adv a hb4 hbw) hb4 hi hsz
    rw [hr] at this
    refine this.mono fun e w' x => ?_
    cases sg <;> first | (cases hb; done) | exact ⟨x.1, a.trans x.2⟩
  have HF : Hid (∀ e w', e = .returned (tokV sg i) → Adv b k w w' → SOut b w i (sg, k) e w') := fun e w' he ha => by
    cases sg <;> first | (cases hb; done) | exact ⟨he, ha⟩
  have HE : Hid (sign s i beh = (sg, k)) := HE0.trans hr
  rw [HE.out]
  clear HE hdg hm hn h hT hr hb HE0
  go_enter Tryz.func92, Tryz.ntmps92
  go_wp2_with fail
  refine (HT0.out _ HA0.out).mono ?_
  rintro e w1 ⟨rfl, hA1⟩
  go_wp2_with fail
  refine (HT1.out _ hA1).mono ?_
  rintro e w2 ⟨rfl, hA2⟩
  go_wp2_with fail
  refine (HT2.out _ hA2).mono ?_
  rintro e w3 ⟨rfl, hA3⟩
  go_wp2_with fail
  refine (HT3.out _ hA3).mono ?_
  rintro e w4 ⟨rfl, hA4⟩
  go_wp2_with fail
  refine (HT4.out _ hA4).mono ?_
  rintro e w5 ⟨rfl, hA5⟩
  go_wp2_with fail
  refine (HT5.out _ hA5).mono ?_
  rintro e w6 ⟨rfl, hA6⟩
  go_wp2_with fail
  refine (HT6a.out _ hA6).mono ?_
  rintro e w7 ⟨rfl, hA7⟩
  go_wp2_with fail
  refine (HT6b.out _ hA7).mono ?_
  rintro e w8 ⟨rfl, hA8⟩
  go_wp2_with fail
  refine (HC.out _ hA8).mono ?_
  rintro e wz ⟨rfl, hAz⟩
  go_wp2
  go_ret
  exact HF.out _ _ rfl hAz

set_option maxHeartbeats 1000000 in
theorem sign_num2_bad (w : World) (b i : Nat) (s : ByteArray) (h : Rd w b s i) (hf0 : w.frozen? ⟨b, 0, none⟩ = false) (hT : Tabs w) (hb4 : 8 ≤ b) (hsz : s.size ≤ 1099511627776) (beh : Bool) (hi : i < s.size) (hn : bt s i ≠ 256 ∧ bt s i ≠ 60 ∧ bt s i ≠ 95 ∧ bt s i ≠ 34 ∧ bt s i ≠ 94 ∧ bt s i ≠ 64) (hm : bt s i ≠ 45) (hdg : digit (bt s i) = true) (n : Int) (j k : Nat) (hr : number s i = (.brk n j, k)) :
    Calls Tryz.prog 92 #[.pointer (some ⟨b, 0, none⟩), .int .i64 i, .bool beh] w (SOut b w i (sign s i beh)) := by
  have hle := h.le
  have hbw := h.lt
  have HA0 : Hid (Adv b i w w) := h.stayN 0
  have HT0 : Hid (Asks b i w 110 #[.pointer (some ⟨b, 0, none⟩)] false) := asks_ended h (by simp; omega)
  have HT1 : Hid (Asks b i w 107 #[.pointer (some ⟨b, 0, none⟩), .int .u8 60] false) := asks_sees h 60 (by omega) (by omega) (by simp; omega)
  have HT2 : Hid (Asks b i w 107 #[.pointer (some ⟨b, 0, none⟩), .int .u8 95] false) := asks_sees h 95 (by omega) (by omega) (by simp; omega)
  have HT3 : Hid (Asks b i w 107 #[.pointer (some ⟨b, 0, none⟩), .int .u8 34] false) := asks_sees h 34 (by omega) (by omega) (by simp; omega)
  have HT4 : Hid (Asks b i w 64 #[.pointer (some ⟨b, 0, none⟩), .int .u8 94] false) := asks_take h 94 (by omega) (by omega) (by omega)
  have HT5 : Hid (Asks b i w 64 #[.pointer (some ⟨b, 0, none⟩), .int .u8 64] false) := asks_take h 64 (by omega) (by omega) (by omega)
  have HT6a : Hid (Asks b i w 107 #[.pointer (some ⟨b, 0, none⟩), .int .u8 45] false) := asks_sees h 45 (by omega) (by omega) (by simp; omega)
  have HT6b : Hid (Asks b i w 158 #[.pointer (some ⟨b, 0, none⟩), fnV 121 #[]] true) := asks_of h hT hb4 121 digit (fun w2 => set_digit w2) (fun c => digit_lt) hdg
  have HE0 : sign s i beh = number s i := by
    unfold sign
    rw [if_neg (by omega), if_neg (by omega), if_neg (by omega), if_neg (by omega), if_neg (by omega), if_neg (by omega), if_pos (Or.inr hdg)]
  have HC : Hid (∀ w2, Adv b i w w2 → Calls Tryz.prog 159 #[.pointer (some ⟨b, 0, none⟩), .int .i64 i] w2 fun e w' => e = stopE n j ∧ ∃ m, Adv b m w w') := fun w2 a => by
    have := number_any w2 b i i s (h.adv a hle) (hT.adv a hb4 hbw) hb4 hi hsz
    rw [hr] at this
    exact this.mono fun e w' x => ⟨x.1, x.2.imp fun m y => a.trans y.2⟩
  have HE : Hid (sign s i beh = (.brk n j, k)) := HE0.trans hr
  rw [HE.out]
  clear HE hdg hm hn h hT hr HE0
  go_enter Tryz.func92, Tryz.ntmps92
  go_wp2_with fail
  refine (HT0.out _ HA0.out).mono ?_
  rintro e w1 ⟨rfl, hA1⟩
  go_wp2_with fail
  refine (HT1.out _ hA1).mono ?_
  rintro e w2 ⟨rfl, hA2⟩
  go_wp2_with fail
  refine (HT2.out _ hA2).mono ?_
  rintro e w3 ⟨rfl, hA3⟩
  go_wp2_with fail
  refine (HT3.out _ hA3).mono ?_
  rintro e w4 ⟨rfl, hA4⟩
  go_wp2_with fail
  refine (HT4.out _ hA4).mono ?_
  rintro e w5 ⟨rfl, hA5⟩
  go_wp2_with fail
  refine (HT5.out _ hA5).mono ?_
  rintro e w6 ⟨rfl, hA6⟩
  go_wp2_with fail
  refine (HT6a.out _ hA6).mono ?_
  rintro e w7 ⟨rfl, hA7⟩
  go_wp2_with fail
  refine (HT6b.out _ hA7).mono ?_
  rintro e w8 ⟨rfl, hA8⟩
  go_wp2_with fail
  refine (HC.out _ hA8).mono ?_
  rintro e wz ⟨rfl, m, hAz⟩
  exact ⟨rfl, rfl, m, Nat.le_refl _, hAz⟩

set_option maxHeartbeats 1000000 in
theorem sign_wrd1_ok (w : World) (b i : Nat) (s : ByteArray) (h : Rd w b s i) (hf0 : w.frozen? ⟨b, 0, none⟩ = false) (hT : Tabs w) (hb4 : 8 ≤ b) (hsz : s.size ≤ 1099511627776) (beh : Bool) (hi : i < s.size) (hn : bt s i ≠ 256 ∧ bt s i ≠ 60 ∧ bt s i ≠ 95 ∧ bt s i ≠ 34 ∧ bt s i ≠ 94 ∧ bt s i ≠ 64) (hm : bt s i ≠ 45) (hdg : digit (bt s i) = false) (hc : bt s i = 58) (sg : Sg) (k : Nat) (hr : word s i = (sg, k)) (hb : sg.isBrk = false) :
    Calls Tryz.prog 92 #[.pointer (some ⟨b, 0, none⟩), .int .i64 i, .bool beh] w (SOut b w i (sign s i beh)) := by
  have hle := h.le
  have hbw := h.lt
  have HA0 : Hid (Adv b i w w) := h.stayN 0
  have HT0 : Hid (Asks b i w 110 #[.pointer (some ⟨b, 0, none⟩)] false) := asks_ended h (by simp; omega)
  have HT1 : Hid (Asks b i w 107 #[.pointer (some ⟨b, 0, none⟩), .int .u8 60] false) := asks_sees h 60 (by omega) (by omega) (by simp; omega)
  have HT2 : Hid (Asks b i w 107 #[.pointer (some ⟨b, 0, none⟩), .int .u8 95] false) := asks_sees h 95 (by omega) (by omega) (by simp; omega)
  have HT3 : Hid (Asks b i w 107 #[.pointer (some ⟨b, 0, none⟩), .int .u8 34] false) := asks_sees h 34 (by omega) (by omega) (by simp; omega)
  have HT4 : Hid (Asks b i w 64 #[.pointer (some ⟨b, 0, none⟩), .int .u8 94] false) := asks_take h 94 (by omega) (by omega) (by omega)
  have HT5 : Hid (Asks b i w 64 #[.pointer (some ⟨b, 0, none⟩), .int .u8 64] false) := asks_take h 64 (by omega) (by omega) (by omega)
  have HT6a : Hid (Asks b i w 107 #[.pointer (some ⟨b, 0, none⟩), .int .u8 45] false) := asks_sees h 45 (by omega) (by omega) (by simp; omega)
  have HT6b : Hid (Asks b i w 158 #[.pointer (some ⟨b, 0, none⟩), fnV 121 #[]] false) := asks_of h hT hb4 121 digit (fun w2 => set_digit w2) (fun c => digit_lt) hdg
  have HT7a : Hid (Asks b i w 107 #[.pointer (some ⟨b, 0, none⟩), .int .u8 58] true) := asks_sees h 58 (by omega) (by omega) (by simp; omega)
  have HE0 : sign s i beh = word s i := by
    unfold sign
    rw [if_neg (by omega), if_neg (by omega), if_neg (by omega), if_neg (by omega), if_neg (by omega), if_neg (by omega), if_neg (by rw [hdg]; simp; omega), if_pos (Or.inl hc)]
  have HC : Hid (∀ w2, Adv b i w w2 → Calls Tryz.prog 160 #[.pointer (some ⟨b, 0, none⟩), .int .i64 i] w2 fun e w' => e = .returned (tokV sg i) ∧ Adv b k w w') := fun w2 a => by
    have := word_any w2 b i i s (h.adv a hle) (hT.adv a hb4 hbw) hb4 hi hsz
    rw [hr] at this
    refine this.mono fun e w' x => ?_
    cases sg <;> first | (cases hb; done) | exact ⟨x.1, a.trans x.2⟩
  have HF : Hid (∀ e w', e = .returned (tokV sg i) → Adv b k w w' → SOut b w i (sg, k) e w') := fun e w' he ha => by
    cases sg <;> first | (cases hb; done) | exact ⟨he, ha⟩
  have HE : Hid (sign s i beh = (sg, k)) := HE0.trans hr
  rw [HE.out]
  clear HE hc hdg hm hn h hT hr hb HE0
  go_enter Tryz.func92, Tryz.ntmps92
  go_wp2_with fail
  refine (HT0.out _ HA0.out).mono ?_
  rintro e w1 ⟨rfl, hA1⟩
  go_wp2_with fail
  refine (HT1.out _ hA1).mono ?_
  rintro e w2 ⟨rfl, hA2⟩
  go_wp2_with fail
  refine (HT2.out _ hA2).mono ?_
  rintro e w3 ⟨rfl, hA3⟩
  go_wp2_with fail
  refine (HT3.out _ hA3).mono ?_
  rintro e w4 ⟨rfl, hA4⟩
  go_wp2_with fail
  refine (HT4.out _ hA4).mono ?_
  rintro e w5 ⟨rfl, hA5⟩
  go_wp2_with fail
  refine (HT5.out _ hA5).mono ?_
  rintro e w6 ⟨rfl, hA6⟩
  go_wp2_with fail
  refine (HT6a.out _ hA6).mono ?_
  rintro e w7 ⟨rfl, hA7⟩
  go_wp2_with fail
  refine (HT6b.out _ hA7).mono ?_
  rintro e w8 ⟨rfl, hA8⟩
  go_wp2_with fail
  refine (HT7a.out _ hA8).mono ?_
  rintro e w9 ⟨rfl, hA9⟩
  go_wp2_with fail
  refine (HC.out _ hA9).mono ?_
  rintro e wz ⟨rfl, hAz⟩
  go_wp2
  go_ret
  exact HF.out _ _ rfl hAz

set_option maxHeartbeats 1000000 in
theorem sign_wrd1_bad (w : World) (b i : Nat) (s : ByteArray) (h : Rd w b s i) (hf0 : w.frozen? ⟨b, 0, none⟩ = false) (hT : Tabs w) (hb4 : 8 ≤ b) (hsz : s.size ≤ 1099511627776) (beh : Bool) (hi : i < s.size) (hn : bt s i ≠ 256 ∧ bt s i ≠ 60 ∧ bt s i ≠ 95 ∧ bt s i ≠ 34 ∧ bt s i ≠ 94 ∧ bt s i ≠ 64) (hm : bt s i ≠ 45) (hdg : digit (bt s i) = false) (hc : bt s i = 58) (n : Int) (j k : Nat) (hr : word s i = (.brk n j, k)) :
    Calls Tryz.prog 92 #[.pointer (some ⟨b, 0, none⟩), .int .i64 i, .bool beh] w (SOut b w i (sign s i beh)) := by
  have hle := h.le
  have hbw := h.lt
  have HA0 : Hid (Adv b i w w) := h.stayN 0
  have HT0 : Hid (Asks b i w 110 #[.pointer (some ⟨b, 0, none⟩)] false) := asks_ended h (by simp; omega)
  have HT1 : Hid (Asks b i w 107 #[.pointer (some ⟨b, 0, none⟩), .int .u8 60] false) := asks_sees h 60 (by omega) (by omega) (by simp; omega)
  have HT2 : Hid (Asks b i w 107 #[.pointer (some ⟨b, 0, none⟩), .int .u8 95] false) := asks_sees h 95 (by omega) (by omega) (by simp; omega)
  have HT3 : Hid (Asks b i w 107 #[.pointer (some ⟨b, 0, none⟩), .int .u8 34] false) := asks_sees h 34 (by omega) (by omega) (by simp; omega)
  have HT4 : Hid (Asks b i w 64 #[.pointer (some ⟨b, 0, none⟩), .int .u8 94] false) := asks_take h 94 (by omega) (by omega) (by omega)
  have HT5 : Hid (Asks b i w 64 #[.pointer (some ⟨b, 0, none⟩), .int .u8 64] false) := asks_take h 64 (by omega) (by omega) (by omega)
  have HT6a : Hid (Asks b i w 107 #[.pointer (some ⟨b, 0, none⟩), .int .u8 45] false) := asks_sees h 45 (by omega) (by omega) (by simp; omega)
  have HT6b : Hid (Asks b i w 158 #[.pointer (some ⟨b, 0, none⟩), fnV 121 #[]] false) := asks_of h hT hb4 121 digit (fun w2 => set_digit w2) (fun c => digit_lt) hdg
  have HT7a : Hid (Asks b i w 107 #[.pointer (some ⟨b, 0, none⟩), .int .u8 58] true) := asks_sees h 58 (by omega) (by omega) (by simp; omega)
  have HE0 : sign s i beh = word s i := by
    unfold sign
    rw [if_neg (by omega), if_neg (by omega), if_neg (by omega), if_neg (by omega), if_neg (by omega), if_neg (by omega), if_neg (by rw [hdg]; simp; omega), if_pos (Or.inl hc)]
  have HC : Hid (∀ w2, Adv b i w w2 → Calls Tryz.prog 160 #[.pointer (some ⟨b, 0, none⟩), .int .i64 i] w2 fun e w' => e = stopE n j ∧ ∃ m, Adv b m w w') := fun w2 a => by
    have := word_any w2 b i i s (h.adv a hle) (hT.adv a hb4 hbw) hb4 hi hsz
    rw [hr] at this
    exact this.mono fun e w' x => ⟨x.1, x.2.imp fun m y => a.trans y.2⟩
  have HE : Hid (sign s i beh = (.brk n j, k)) := HE0.trans hr
  rw [HE.out]
  clear HE hc hdg hm hn h hT hr HE0
  go_enter Tryz.func92, Tryz.ntmps92
  go_wp2_with fail
  refine (HT0.out _ HA0.out).mono ?_
  rintro e w1 ⟨rfl, hA1⟩
  go_wp2_with fail
  refine (HT1.out _ hA1).mono ?_
  rintro e w2 ⟨rfl, hA2⟩
  go_wp2_with fail
  refine (HT2.out _ hA2).mono ?_
  rintro e w3 ⟨rfl, hA3⟩
  go_wp2_with fail
  refine (HT3.out _ hA3).mono ?_
  rintro e w4 ⟨rfl, hA4⟩
  go_wp2_with fail
  refine (HT4.out _ hA4).mono ?_
  rintro e w5 ⟨rfl, hA5⟩
  go_wp2_with fail
  refine (HT5.out _ hA5).mono ?_
  rintro e w6 ⟨rfl, hA6⟩
  go_wp2_with fail
  refine (HT6a.out _ hA6).mono ?_
  rintro e w7 ⟨rfl, hA7⟩
  go_wp2_with fail
  refine (HT6b.out _ hA7).mono ?_
  rintro e w8 ⟨rfl, hA8⟩
  go_wp2_with fail
  refine (HT7a.out _ hA8).mono ?_
  rintro e w9 ⟨rfl, hA9⟩
  go_wp2_with fail
  refine (HC.out _ hA9).mono ?_
  rintro e wz ⟨rfl, m, hAz⟩
  exact ⟨rfl, rfl, m, Nat.le_refl _, hAz⟩

set_option maxHeartbeats 1000000 in
theorem sign_wrd2_ok (w : World) (b i : Nat) (s : ByteArray) (h : Rd w b s i) (hf0 : w.frozen? ⟨b, 0, none⟩ = false) (hT : Tabs w) (hb4 : 8 ≤ b) (hsz : s.size ≤ 1099511627776) (beh : Bool) (hi : i < s.size) (hn : bt s i ≠ 256 ∧ bt s i ≠ 60 ∧ bt s i ≠ 95 ∧ bt s i ≠ 34 ∧ bt s i ≠ 94 ∧ bt s i ≠ 64) (hm : bt s i ≠ 45) (hdg : digit (bt s i) = false) (h58 : bt s i ≠ 58) (hlt : letter (bt s i) = true) (sg : Sg) (k : Nat) (hr : word s i = (sg, k)) (hb : sg.isBrk = false) :
    Calls Tryz.prog 92 #[.pointer (some ⟨b, 0, none⟩), .int .i64 i, .bool beh] w (SOut b w i (sign s i beh)) := by
  have hle := h.le
  have hbw := h.lt
  have HA0 : Hid (Adv b i w w) := h.stayN 0
  have HT0 : Hid (Asks b i w 110 #[.pointer (some ⟨b, 0, none⟩)] false) := asks_ended h (by simp; omega)
  have HT1 : Hid (Asks b i w 107 #[.pointer (some ⟨b, 0, none⟩), .int .u8 60] false) := asks_sees h 60 (by omega) (by omega) (by simp; omega)
  have HT2 : Hid (Asks b i w 107 #[.pointer (some ⟨b, 0, none⟩), .int .u8 95] false) := asks_sees h 95 (by omega) (by omega) (by simp; omega)
  have HT3 : Hid (Asks b i w 107 #[.pointer (some ⟨b, 0, none⟩), .int .u8 34] false) := asks_sees h 34 (by omega) (by omega) (by simp; omega)
  have HT4 : Hid (Asks b i w 64 #[.pointer (some ⟨b, 0, none⟩), .int .u8 94] false) := asks_take h 94 (by omega) (by omega) (by omega)
  have HT5 : Hid (Asks b i w 64 #[.pointer (some ⟨b, 0, none⟩), .int .u8 64] false) := asks_take h 64 (by omega) (by omega) (by omega)
  have HT6a : Hid (Asks b i w 107 #[.pointer (some ⟨b, 0, none⟩), .int .u8 45] false) := asks_sees h 45 (by omega) (by omega) (by simp; omega)
  have HT6b : Hid (Asks b i w 158 #[.pointer (some ⟨b, 0, none⟩), fnV 121 #[]] false) := asks_of h hT hb4 121 digit (fun w2 => set_digit w2) (fun c => digit_lt) hdg
  have HT7a : Hid (Asks b i w 107 #[.pointer (some ⟨b, 0, none⟩), .int .u8 58] false) := asks_sees h 58 (by omega) (by omega) (by simp; omega)
  have HT7b : Hid (Asks b i w 158 #[.pointer (some ⟨b, 0, none⟩), fnV 116 #[]] true) := asks_of h hT hb4 116 letter (fun w2 => set_letter w2) (fun c => letter_lt) hlt
  have HE0 : sign s i beh = word s i := by
    unfold sign
    rw [if_neg (by omega), if_neg (by omega), if_neg (by omega), if_neg (by omega), if_neg (by omega), if_neg (by omega), if_neg (by rw [hdg]; simp; omega), if_pos (Or.inr hlt)]
  have HC : Hid (∀ w2, Adv b i w w2 → Calls Tryz.prog 160 #[.pointer (some ⟨b, 0, none⟩), .int .i64 i] w2 fun e w' => e = .returned (tokV sg i) ∧ Adv b k w w') := fun w2 a => by
    have := word_any w2 b i i s (h.adv a hle) (hT.adv a hb4 hbw) hb4 hi hsz
    rw [hr] at this
    refine this.mono fun e w' x => ?_
    cases sg <;> first | (cases hb; done) | exact ⟨x.1, a.trans x.2⟩
  have HF : Hid (∀ e w', e = .returned (tokV sg i) → Adv b k w w' → SOut b w i (sg, k) e w') := fun e w' he ha => by
    cases sg <;> first | (cases hb; done) | exact ⟨he, ha⟩
  have HE : Hid (sign s i beh = (sg, k)) := HE0.trans hr
  rw [HE.out]
  clear HE hlt h58 hdg hm hn h hT hr hb HE0
  go_enter Tryz.func92, Tryz.ntmps92
  go_wp2_with fail
  refine (HT0.out _ HA0.out).mono ?_
  rintro e w1 ⟨rfl, hA1⟩
  go_wp2_with fail
  refine (HT1.out _ hA1).mono ?_
  rintro e w2 ⟨rfl, hA2⟩
  go_wp2_with fail
  refine (HT2.out _ hA2).mono ?_
  rintro e w3 ⟨rfl, hA3⟩
  go_wp2_with fail
  refine (HT3.out _ hA3).mono ?_
  rintro e w4 ⟨rfl, hA4⟩
  go_wp2_with fail
  refine (HT4.out _ hA4).mono ?_
  rintro e w5 ⟨rfl, hA5⟩
  go_wp2_with fail
  refine (HT5.out _ hA5).mono ?_
  rintro e w6 ⟨rfl, hA6⟩
  go_wp2_with fail
  refine (HT6a.out _ hA6).mono ?_
  rintro e w7 ⟨rfl, hA7⟩
  go_wp2_with fail
  refine (HT6b.out _ hA7).mono ?_
  rintro e w8 ⟨rfl, hA8⟩
  go_wp2_with fail
  refine (HT7a.out _ hA8).mono ?_
  rintro e w9 ⟨rfl, hA9⟩
  go_wp2_with fail
  refine (HT7b.out _ hA9).mono ?_
  rintro e w10 ⟨rfl, hA10⟩
  go_wp2_with fail
  refine (HC.out _ hA10).mono ?_
  rintro e wz ⟨rfl, hAz⟩
  go_wp2
  go_ret
  exact HF.out _ _ rfl hAz

set_option maxHeartbeats 1000000 in
theorem sign_wrd2_bad (w : World) (b i : Nat) (s : ByteArray) (h : Rd w b s i) (hf0 : w.frozen? ⟨b, 0, none⟩ = false) (hT : Tabs w) (hb4 : 8 ≤ b) (hsz : s.size ≤ 1099511627776) (beh : Bool) (hi : i < s.size) (hn : bt s i ≠ 256 ∧ bt s i ≠ 60 ∧ bt s i ≠ 95 ∧ bt s i ≠ 34 ∧ bt s i ≠ 94 ∧ bt s i ≠ 64) (hm : bt s i ≠ 45) (hdg : digit (bt s i) = false) (h58 : bt s i ≠ 58) (hlt : letter (bt s i) = true) (n : Int) (j k : Nat) (hr : word s i = (.brk n j, k)) :
    Calls Tryz.prog 92 #[.pointer (some ⟨b, 0, none⟩), .int .i64 i, .bool beh] w (SOut b w i (sign s i beh)) := by
  have hle := h.le
  have hbw := h.lt
  have HA0 : Hid (Adv b i w w) := h.stayN 0
  have HT0 : Hid (Asks b i w 110 #[.pointer (some ⟨b, 0, none⟩)] false) := asks_ended h (by simp; omega)
  have HT1 : Hid (Asks b i w 107 #[.pointer (some ⟨b, 0, none⟩), .int .u8 60] false) := asks_sees h 60 (by omega) (by omega) (by simp; omega)
  have HT2 : Hid (Asks b i w 107 #[.pointer (some ⟨b, 0, none⟩), .int .u8 95] false) := asks_sees h 95 (by omega) (by omega) (by simp; omega)
  have HT3 : Hid (Asks b i w 107 #[.pointer (some ⟨b, 0, none⟩), .int .u8 34] false) := asks_sees h 34 (by omega) (by omega) (by simp; omega)
  have HT4 : Hid (Asks b i w 64 #[.pointer (some ⟨b, 0, none⟩), .int .u8 94] false) := asks_take h 94 (by omega) (by omega) (by omega)
  have HT5 : Hid (Asks b i w 64 #[.pointer (some ⟨b, 0, none⟩), .int .u8 64] false) := asks_take h 64 (by omega) (by omega) (by omega)
  have HT6a : Hid (Asks b i w 107 #[.pointer (some ⟨b, 0, none⟩), .int .u8 45] false) := asks_sees h 45 (by omega) (by omega) (by simp; omega)
  have HT6b : Hid (Asks b i w 158 #[.pointer (some ⟨b, 0, none⟩), fnV 121 #[]] false) := asks_of h hT hb4 121 digit (fun w2 => set_digit w2) (fun c => digit_lt) hdg
  have HT7a : Hid (Asks b i w 107 #[.pointer (some ⟨b, 0, none⟩), .int .u8 58] false) := asks_sees h 58 (by omega) (by omega) (by simp; omega)
  have HT7b : Hid (Asks b i w 158 #[.pointer (some ⟨b, 0, none⟩), fnV 116 #[]] true) := asks_of h hT hb4 116 letter (fun w2 => set_letter w2) (fun c => letter_lt) hlt
  have HE0 : sign s i beh = word s i := by
    unfold sign
    rw [if_neg (by omega), if_neg (by omega), if_neg (by omega), if_neg (by omega), if_neg (by omega), if_neg (by omega), if_neg (by rw [hdg]; simp; omega), if_pos (Or.inr hlt)]
  have HC : Hid (∀ w2, Adv b i w w2 → Calls Tryz.prog 160 #[.pointer (some ⟨b, 0, none⟩), .int .i64 i] w2 fun e w' => e = stopE n j ∧ ∃ m, Adv b m w w') := fun w2 a => by
    have := word_any w2 b i i s (h.adv a hle) (hT.adv a hb4 hbw) hb4 hi hsz
    rw [hr] at this
    exact this.mono fun e w' x => ⟨x.1, x.2.imp fun m y => a.trans y.2⟩
  have HE : Hid (sign s i beh = (.brk n j, k)) := HE0.trans hr
  rw [HE.out]
  clear HE hlt h58 hdg hm hn h hT hr HE0
  go_enter Tryz.func92, Tryz.ntmps92
  go_wp2_with fail
  refine (HT0.out _ HA0.out).mono ?_
  rintro e w1 ⟨rfl, hA1⟩
  go_wp2_with fail
  refine (HT1.out _ hA1).mono ?_
  rintro e w2 ⟨rfl, hA2⟩
  go_wp2_with fail
  refine (HT2.out _ hA2).mono ?_
  rintro e w3 ⟨rfl, hA3⟩
  go_wp2_with fail
  refine (HT3.out _ hA3).mono ?_
  rintro e w4 ⟨rfl, hA4⟩
  go_wp2_with fail
  refine (HT4.out _ hA4).mono ?_
  rintro e w5 ⟨rfl, hA5⟩
  go_wp2_with fail
  refine (HT5.out _ hA5).mono ?_
  rintro e w6 ⟨rfl, hA6⟩
  go_wp2_with fail
  refine (HT6a.out _ hA6).mono ?_
  rintro e w7 ⟨rfl, hA7⟩
  go_wp2_with fail
  refine (HT6b.out _ hA7).mono ?_
  rintro e w8 ⟨rfl, hA8⟩
  go_wp2_with fail
  refine (HT7a.out _ hA8).mono ?_
  rintro e w9 ⟨rfl, hA9⟩
  go_wp2_with fail
  refine (HT7b.out _ hA9).mono ?_
  rintro e w10 ⟨rfl, hA10⟩
  go_wp2_with fail
  refine (HC.out _ hA10).mono ?_
  rintro e wz ⟨rfl, m, hAz⟩
  exact ⟨rfl, rfl, m, Nat.le_refl _, hAz⟩

set_option maxHeartbeats 1000000 in
theorem sign_one_ok (w : World) (b i : Nat) (s : ByteArray) (h : Rd w b s i) (hf0 : w.frozen? ⟨b, 0, none⟩ = false) (hT : Tabs w) (hb4 : 8 ≤ b) (hsz : s.size ≤ 1099511627776) (beh : Bool) (hi : i < s.size) (hn : bt s i ≠ 256 ∧ bt s i ≠ 60 ∧ bt s i ≠ 95 ∧ bt s i ≠ 34 ∧ bt s i ≠ 94 ∧ bt s i ≠ 64) (hm : bt s i ≠ 45) (hdg : digit (bt s i) = false) (h58 : bt s i ≠ 58) (hlt : letter (bt s i) = false) (sg : Sg) (k : Nat) (hr : single s i = (sg, k)) (hb : sg.isBrk = false) :
    Calls Tryz.prog 92 #[.pointer (some ⟨b, 0, none⟩), .int .i64 i, .bool beh] w (SOut b w i (sign s i beh)) := by
  have hle := h.le
  have hbw := h.lt
  have HA0 : Hid (Adv b i w w) := h.stayN 0
  have HT0 : Hid (Asks b i w 110 #[.pointer (some ⟨b, 0, none⟩)] false) := asks_ended h (by simp; omega)
  have HT1 : Hid (Asks b i w 107 #[.pointer (some ⟨b, 0, none⟩), .int .u8 60] false) := asks_sees h 60 (by omega) (by omega) (by simp; omega)
  have HT2 : Hid (Asks b i w 107 #[.pointer (some ⟨b, 0, none⟩), .int .u8 95] false) := asks_sees h 95 (by omega) (by omega) (by simp; omega)
  have HT3 : Hid (Asks b i w 107 #[.pointer (some ⟨b, 0, none⟩), .int .u8 34] false) := asks_sees h 34 (by omega) (by omega) (by simp; omega)
  have HT4 : Hid (Asks b i w 64 #[.pointer (some ⟨b, 0, none⟩), .int .u8 94] false) := asks_take h 94 (by omega) (by omega) (by omega)
  have HT5 : Hid (Asks b i w 64 #[.pointer (some ⟨b, 0, none⟩), .int .u8 64] false) := asks_take h 64 (by omega) (by omega) (by omega)
  have HT6a : Hid (Asks b i w 107 #[.pointer (some ⟨b, 0, none⟩), .int .u8 45] false) := asks_sees h 45 (by omega) (by omega) (by simp; omega)
  have HT6b : Hid (Asks b i w 158 #[.pointer (some ⟨b, 0, none⟩), fnV 121 #[]] false) := asks_of h hT hb4 121 digit (fun w2 => set_digit w2) (fun c => digit_lt) hdg
  have HT7a : Hid (Asks b i w 107 #[.pointer (some ⟨b, 0, none⟩), .int .u8 58] false) := asks_sees h 58 (by omega) (by omega) (by simp; omega)
  have HT7b : Hid (Asks b i w 158 #[.pointer (some ⟨b, 0, none⟩), fnV 116 #[]] false) := asks_of h hT hb4 116 letter (fun w2 => set_letter w2) (fun c => letter_lt) hlt
  have HE0 : sign s i beh = single s i := by
    unfold sign
    rw [if_neg (by omega), if_neg (by omega), if_neg (by omega), if_neg (by omega), if_neg (by omega), if_neg (by omega), if_neg (by rw [hdg]; simp; omega), if_neg (by rw [hlt]; simp; omega)]
  have HC : Hid (∀ w2, Adv b i w w2 → Calls Tryz.prog 161 #[.pointer (some ⟨b, 0, none⟩), .int .i64 i] w2 fun e w' => e = .returned (tokV sg i) ∧ Adv b k w w') := fun w2 a => by
    have := single_any w2 b i s (h.adv a hle)
    rw [hr] at this
    refine this.mono fun e w' x => ?_
    cases sg <;> first | (cases hb; done) | exact ⟨x.1, a.trans x.2⟩
  have HF : Hid (∀ e w', e = .returned (tokV sg i) → Adv b k w w' → SOut b w i (sg, k) e w') := fun e w' he ha => by
    cases sg <;> first | (cases hb; done) | exact ⟨he, ha⟩
  have HE : Hid (sign s i beh = (sg, k)) := HE0.trans hr
  rw [HE.out]
  clear HE hlt h58 hdg hm hn h hT hr hb HE0
  go_enter Tryz.func92, Tryz.ntmps92
  go_wp2_with fail
  refine (HT0.out _ HA0.out).mono ?_
  rintro e w1 ⟨rfl, hA1⟩
  go_wp2_with fail
  refine (HT1.out _ hA1).mono ?_
  rintro e w2 ⟨rfl, hA2⟩
  go_wp2_with fail
  refine (HT2.out _ hA2).mono ?_
  rintro e w3 ⟨rfl, hA3⟩
  go_wp2_with fail
  refine (HT3.out _ hA3).mono ?_
  rintro e w4 ⟨rfl, hA4⟩
  go_wp2_with fail
  refine (HT4.out _ hA4).mono ?_
  rintro e w5 ⟨rfl, hA5⟩
  go_wp2_with fail
  refine (HT5.out _ hA5).mono ?_
  rintro e w6 ⟨rfl, hA6⟩
  go_wp2_with fail
  refine (HT6a.out _ hA6).mono ?_
  rintro e w7 ⟨rfl, hA7⟩
  go_wp2_with fail
  refine (HT6b.out _ hA7).mono ?_
  rintro e w8 ⟨rfl, hA8⟩
  go_wp2_with fail
  refine (HT7a.out _ hA8).mono ?_
  rintro e w9 ⟨rfl, hA9⟩
  go_wp2_with fail
  refine (HT7b.out _ hA9).mono ?_
  rintro e w10 ⟨rfl, hA10⟩
  go_wp2_with fail
  refine (HC.out _ hA10).mono ?_
  rintro e wz ⟨rfl, hAz⟩
  go_wp2
  go_ret
  exact HF.out _ _ rfl hAz

set_option maxHeartbeats 1000000 in
theorem sign_one_bad (w : World) (b i : Nat) (s : ByteArray) (h : Rd w b s i) (hf0 : w.frozen? ⟨b, 0, none⟩ = false) (hT : Tabs w) (hb4 : 8 ≤ b) (hsz : s.size ≤ 1099511627776) (beh : Bool) (hi : i < s.size) (hn : bt s i ≠ 256 ∧ bt s i ≠ 60 ∧ bt s i ≠ 95 ∧ bt s i ≠ 34 ∧ bt s i ≠ 94 ∧ bt s i ≠ 64) (hm : bt s i ≠ 45) (hdg : digit (bt s i) = false) (h58 : bt s i ≠ 58) (hlt : letter (bt s i) = false) (n : Int) (j k : Nat) (hr : single s i = (.brk n j, k)) :
    Calls Tryz.prog 92 #[.pointer (some ⟨b, 0, none⟩), .int .i64 i, .bool beh] w (SOut b w i (sign s i beh)) := by
  have hle := h.le
  have hbw := h.lt
  have HA0 : Hid (Adv b i w w) := h.stayN 0
  have HT0 : Hid (Asks b i w 110 #[.pointer (some ⟨b, 0, none⟩)] false) := asks_ended h (by simp; omega)
  have HT1 : Hid (Asks b i w 107 #[.pointer (some ⟨b, 0, none⟩), .int .u8 60] false) := asks_sees h 60 (by omega) (by omega) (by simp; omega)
  have HT2 : Hid (Asks b i w 107 #[.pointer (some ⟨b, 0, none⟩), .int .u8 95] false) := asks_sees h 95 (by omega) (by omega) (by simp; omega)
  have HT3 : Hid (Asks b i w 107 #[.pointer (some ⟨b, 0, none⟩), .int .u8 34] false) := asks_sees h 34 (by omega) (by omega) (by simp; omega)
  have HT4 : Hid (Asks b i w 64 #[.pointer (some ⟨b, 0, none⟩), .int .u8 94] false) := asks_take h 94 (by omega) (by omega) (by omega)
  have HT5 : Hid (Asks b i w 64 #[.pointer (some ⟨b, 0, none⟩), .int .u8 64] false) := asks_take h 64 (by omega) (by omega) (by omega)
  have HT6a : Hid (Asks b i w 107 #[.pointer (some ⟨b, 0, none⟩), .int .u8 45] false) := asks_sees h 45 (by omega) (by omega) (by simp; omega)
  have HT6b : Hid (Asks b i w 158 #[.pointer (some ⟨b, 0, none⟩), fnV 121 #[]] false) := asks_of h hT hb4 121 digit (fun w2 => set_digit w2) (fun c => digit_lt) hdg
  have HT7a : Hid (Asks b i w 107 #[.pointer (some ⟨b, 0, none⟩), .int .u8 58] false) := asks_sees h 58 (by omega) (by omega) (by simp; omega)
  have HT7b : Hid (Asks b i w 158 #[.pointer (some ⟨b, 0, none⟩), fnV 116 #[]] false) := asks_of h hT hb4 116 letter (fun w2 => set_letter w2) (fun c => letter_lt) hlt
  have HE0 : sign s i beh = single s i := by
    unfold sign
    rw [if_neg (by omega), if_neg (by omega), if_neg (by omega), if_neg (by omega), if_neg (by omega), if_neg (by omega), if_neg (by rw [hdg]; simp; omega), if_neg (by rw [hlt]; simp; omega)]
  have HC : Hid (∀ w2, Adv b i w w2 → Calls Tryz.prog 161 #[.pointer (some ⟨b, 0, none⟩), .int .i64 i] w2 fun e w' => e = stopE n j ∧ ∃ m, Adv b m w w') := fun w2 a => by
    have := single_any w2 b i s (h.adv a hle)
    rw [hr] at this
    exact this.mono fun e w' x => ⟨x.1, x.2.imp fun m y => a.trans y.2⟩
  have HE : Hid (sign s i beh = (.brk n j, k)) := HE0.trans hr
  rw [HE.out]
  clear HE hlt h58 hdg hm hn h hT hr HE0
  go_enter Tryz.func92, Tryz.ntmps92
  go_wp2_with fail
  refine (HT0.out _ HA0.out).mono ?_
  rintro e w1 ⟨rfl, hA1⟩
  go_wp2_with fail
  refine (HT1.out _ hA1).mono ?_
  rintro e w2 ⟨rfl, hA2⟩
  go_wp2_with fail
  refine (HT2.out _ hA2).mono ?_
  rintro e w3 ⟨rfl, hA3⟩
  go_wp2_with fail
  refine (HT3.out _ hA3).mono ?_
  rintro e w4 ⟨rfl, hA4⟩
  go_wp2_with fail
  refine (HT4.out _ hA4).mono ?_
  rintro e w5 ⟨rfl, hA5⟩
  go_wp2_with fail
  refine (HT5.out _ hA5).mono ?_
  rintro e w6 ⟨rfl, hA6⟩
  go_wp2_with fail
  refine (HT6a.out _ hA6).mono ?_
  rintro e w7 ⟨rfl, hA7⟩
  go_wp2_with fail
  refine (HT6b.out _ hA7).mono ?_
  rintro e w8 ⟨rfl, hA8⟩
  go_wp2_with fail
  refine (HT7a.out _ hA8).mono ?_
  rintro e w9 ⟨rfl, hA9⟩
  go_wp2_with fail
  refine (HT7b.out _ hA9).mono ?_
  rintro e w10 ⟨rfl, hA10⟩
  go_wp2_with fail
  refine (HC.out _ hA10).mono ?_
  rintro e wz ⟨rfl, m, hAz⟩
  exact ⟨rfl, rfl, m, Nat.le_refl _, hAz⟩

theorem sign_any (w : World) (b i : Nat) (s : ByteArray) (h : Rd w b s i) (hf0 : w.frozen? ⟨b, 0, none⟩ = false) (hT : Tabs w) (hb4 : 8 ≤ b) (hsz : s.size ≤ 1099511627776) (beh : Bool) :
    Calls Tryz.prog 92 #[.pointer (some ⟨b, 0, none⟩), .int .i64 i, .bool beh] w (SOut b w i (sign s i beh)) := by
  by_cases h256 : bt s i = 256
  · exact sign_fin w b i s h hf0 hT hb4 hsz beh h256
  have hi : i < s.size := by
    rcases Nat.lt_or_ge i s.size with x | x
    · exact x
    · exact absurd (bt_end x) h256
  by_cases h60 : bt s i = 60
  · cases hr : Go.Proofs.YtnffjoipinhojabGreatDoor.iri s i with
    | ok l k => exact sign_iri_ok w b i s h hf0 hT hb4 hsz beh h60 l k hr
    | bad k => exact sign_iri_bad w b i s h hf0 hT hb4 hsz beh h60 k hr
  by_cases h95 : bt s i = 95
  · cases hr : Go.Proofs.YtnffjoipinhojabGreatDoor.blank s i with
    | ok l k => exact sign_blk_ok w b i s h hf0 hT hb4 hsz beh h95 l k hr
    | bad k => exact sign_blk_bad w b i s h hf0 hT hb4 hsz beh h95 k hr
  by_cases h34 : bt s i = 34
  · cases hr : Go.Proofs.YtnffjoipinhojabGreatDoor.quoted s i with
    | ok l k => exact sign_str_ok w b i s h hf0 hT hb4 hsz beh h34 l k hr
    | bad k => exact sign_str_bad w b i s h hf0 hT hb4 hsz beh h34 k hr
  by_cases h94 : bt s i = 94
  · by_cases hd : bt s (i + 1) = 94
    · exact sign_knd_ok w b i s h hf0 hT hb4 hsz beh h94 hd
    · exact sign_knd_bad w b i s h hf0 hT hb4 hsz beh h94 hd
  have two : ∀ (r : Sg × Nat), (∃ sg k, r = (sg, k) ∧ sg.isBrk = false) ∨ (∃ n j k, r = (.brk n j, k)) := fun ⟨sg, k⟩ => by
    cases sg
    case brk n j => exact Or.inr ⟨n, j, k, rfl⟩
    all_goals exact Or.inl ⟨_, k, rfl, rfl⟩
  by_cases h64 : bt s i = 64
  · rcases two (behAt s i beh) with ⟨sg, k, hr, hb⟩ | ⟨n, j, k, hr⟩
    · exact sign_at_ok w b i s h hf0 hT hb4 hsz beh h64 sg k hr hb
    · exact sign_at_bad w b i s h hf0 hT hb4 hsz beh h64 n j k hr
  have hn : bt s i ≠ 256 ∧ bt s i ≠ 60 ∧ bt s i ≠ 95 ∧ bt s i ≠ 34 ∧ bt s i ≠ 94 ∧ bt s i ≠ 64 := ⟨h256, h60, h95, h34, h94, h64⟩
  by_cases h45 : bt s i = 45
  · rcases two (number s i) with ⟨sg, k, hr, hb⟩ | ⟨n, j, k, hr⟩
    · exact sign_num1_ok w b i s h hf0 hT hb4 hsz beh hi hn h45 sg k hr hb
    · exact sign_num1_bad w b i s h hf0 hT hb4 hsz beh hi hn h45 n j k hr
  cases hdg : digit (bt s i) with
  | true =>
    rcases two (number s i) with ⟨sg, k, hr, hb⟩ | ⟨n, j, k, hr⟩
    · exact sign_num2_ok w b i s h hf0 hT hb4 hsz beh hi hn h45 hdg sg k hr hb
    · exact sign_num2_bad w b i s h hf0 hT hb4 hsz beh hi hn h45 hdg n j k hr
  | false =>
    by_cases h58 : bt s i = 58
    · rcases two (word s i) with ⟨sg, k, hr, hb⟩ | ⟨n, j, k, hr⟩
      · exact sign_wrd1_ok w b i s h hf0 hT hb4 hsz beh hi hn h45 hdg h58 sg k hr hb
      · exact sign_wrd1_bad w b i s h hf0 hT hb4 hsz beh hi hn h45 hdg h58 n j k hr
    cases hlt : letter (bt s i) with
    | true =>
      rcases two (word s i) with ⟨sg, k, hr, hb⟩ | ⟨n, j, k, hr⟩
      · exact sign_wrd2_ok w b i s h hf0 hT hb4 hsz beh hi hn h45 hdg h58 hlt sg k hr hb
      · exact sign_wrd2_bad w b i s h hf0 hT hb4 hsz beh hi hn h45 hdg h58 hlt n j k hr
    | false =>
      rcases two (single s i) with ⟨sg, k, hr, hb⟩ | ⟨n, j, k, hr⟩
      · exact sign_one_ok w b i s h hf0 hT hb4 hsz beh hi hn h45 hdg h58 hlt sg k hr hb
      · exact sign_one_bad w b i s h hf0 hT hb4 hsz beh hi hn h45 hdg h58 hlt n j k hr

end Tu
end Go.Proofs.YtnffjoipinhojabGreatDoor

