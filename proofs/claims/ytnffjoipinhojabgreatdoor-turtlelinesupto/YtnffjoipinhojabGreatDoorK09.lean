import Derived.Test.YtnffjoipinhojabGreatDoorK08
set_option linter.unusedSimpArgs false
set_option linter.unusedVariables false
namespace Go.Proofs.YtnffjoipinhojabGreatDoor
open Go.RowKit

abbrev litV (p : Lit) : Value := .agg #[str p.text, str p.lang, str p.kind]

theorem asc_sub_run {p : Int → Bool} (hp : ∀ c, p c = true → 0 ≤ c ∧ c < 128) (s : ByteArray) : ∀ k i, ∀ j, i ≤ j → j < i + run p s k i → 0 ≤ bt s j ∧ bt s j < 128 := by
  intro k
  induction k with
  | zero => intro i j h1 h2; simp [run] at h2; omega
  | succ k ih =>
    intro i j h1 h2
    simp only [run] at h2
    split at h2
    · rename_i hq
      rcases Nat.eq_or_lt_of_le h1 with rfl | h3
      · exact hp _ hq
      · exact ih (i + 1) j (by omega) (by omega)
    · omega

theorem langTail_asc (s : ByteArray) : ∀ n i, s.size - i < n → ∀ j, langTail s i = .ok () j → i ≤ j ∧ (i ≤ s.size → j ≤ s.size) ∧ ∀ x, i ≤ x → x < j → 0 ≤ bt s x ∧ bt s x < 128 := by
  intro n
  induction n with
  | zero => intro i hn; omega
  | succ n ih =>
    intro i hn j h
    by_cases hb : bt s i = 45
    · have hi := bt_in hb (by omega)
      rw [langTail_step s i hb] at h
      split at h
      · cases h
      · have hr := asc_sub_run (fun c => alnum_lt) s 8 (i + 1)
        have hle := (run_le alnum (fun c hc => by have := alnum_lt hc; omega) s 8 (i + 1)).2
        obtain ⟨a1, a2, a3⟩ := ih _ (by omega) j h
        refine ⟨by omega, fun _ => a2 (by omega), fun x h1 h2 => ?_⟩
        rcases Nat.eq_or_lt_of_le h1 with rfl | h3
        · omega
        · by_cases h4 : x < i + 1 + run alnum s 8 (i + 1)
          · exact hr x (by omega) h4
          · exact a3 x (by omega) h2
    · rw [langTail_end s i hb] at h
      cases h
      exact ⟨Nat.le_refl _, id, fun x h1 h2 => by omega⟩

theorem language_asc {s : ByteArray} {i j : Nat} (h : language s i = .ok () j) : i < j ∧ j ≤ s.size ∧ asc (sub s i j) := by
  unfold language at h
  split at h
  · cases h
  · rename_i hn
    have hr := asc_sub_run (fun c => letter_lt) s 8 i
    have hle := (run_le letter (fun c hc => by have := letter_lt hc; omega) s 8 i).2
    obtain ⟨a1, a2, a3⟩ := langTail_asc s _ _ (Nat.lt_succ_self _) j h
    refine ⟨by omega, a2 (by omega), fun x hx => ?_⟩
    obtain ⟨k, hk⟩ := List.getElem?_of_mem hx
    have hjs := a2 (by omega)
    unfold sub at hk
    rw [List.getElem?_take] at hk
    split at hk
    · rename_i hlt
      rw [List.getElem?_drop] at hk
      have hb : 0 ≤ bt s (i + k) ∧ bt s (i + k) < 128 := by
        by_cases h4 : i + k < i + run letter s 8 i
        · exact hr _ (by omega) h4
        · exact a3 _ (by omega) (by omega)
      have hks : i + k < s.size := by omega
      rw [bt_lt hks] at hb
      have e : s.data.toList[i + k]? = some s[i + k] := by
        rw [List.getElem?_eq_getElem (by simpa using hks)]
        rfl
      rw [e] at hk
      cases hk
      omega
    · cases hk

theorem parts_facts {s : ByteArray} {i j : Nat} {p : Lit} (h : parts s i = .ok p j) : VU p.text ∧ asc p.lang ∧ p.text.length ≤ 4 * s.size ∧ p.lang.length ≤ s.size ∧ p.kind.length ≤ 5 * s.size + 1 ∧ j ≤ s.size ∧ i < j := by
  unfold parts at h
  split at h
  · cases h
  · rename_i t k hq
    have hv := quoted_valid hq
    have hn : asc [] := nil_asc
    split at h
    · split at h
      · cases h
      · rename_i m hl
        cases h
        obtain ⟨a1, a2, a3⟩ := language_asc hl
        exact ⟨hv.1, a3, hv.2.1, by rw [sub_len s _ _ (by omega) a2]; omega, by simp, a2, by omega⟩
    · split at h
      · split at h
        · cases h
        · split at h
          · cases h
          · rename_i l m hi
            cases h
            have := iri_len hi
            exact ⟨hv.1, hn, hv.2.1, by simp, this.1, this.2.2.1, by omega⟩
      · cases h
        exact ⟨hv.1, hn, hv.2.1, by simp, by simp, hv.2.2.2, hv.2.2.1⟩

/-- Parts' two variables: the answer's block, and p's in block P. -/
structure Pt (w w3 : World) (b k P : Nat) (t l kd : List UInt8) : Prop where
  adv : Adv b k w w3
  pb : w3.heap[P]? = some (.cells #[str t, str l, str kd] 244 (0, 0))
  rb : w3.heap[w.heap.size]? = some (.cells #[str [], str [], str []] 244 (0, 0))
  lt : w.heap.size < P
  bw : b < w.heap.size

theorem Pt.step {w w3 w4 : World} {b k k' P : Nat} {t l kd : List UInt8} (v : Pt w w3 b k P t l kd) (a : Adv b k' w3 w4) : Pt w w4 b k' P t l kd :=
  ⟨v.adv.trans a, by rw [a.other (Array.getElem?_eq_some_iff.1 v.pb).1 (by have := v.lt; have := v.bw; omega)]; exact v.pb, by rw [a.other (Array.getElem?_eq_some_iff.1 v.rb).1 (by have := v.bw; omega)]; exact v.rb, v.lt, v.bw⟩

theorem heap_new (w : World) (o : Obj) : (w.alloc o).heap[w.heap.size]? = some o := by
  show (w.heap.push o)[w.heap.size]? = _
  simp

theorem Pt.start {w w2 : World} {b j : Nat} {t : List UInt8} (hbw : b < w.heap.size) (a : Adv b j (w.alloc (.cells #[str [], str [], str []] 244)) w2) (hw : Adv b j w w2) :
    Pt w (w2.alloc (.cells #[str t, str [], str []] 244)) b j w2.heap.size t [] [] := by
  have hlt : w.heap.size < w2.heap.size := by have := a.size; simp at this; omega
  refine ⟨hw.then_below ((Below.refl _ _).alloc (Nat.le_refl _) _), heap_new _ _, ?_, hlt, hbw⟩
  rw [Below.heap_alloc _ _ _ hlt, a.other (by simp) (by omega)]
  exact heap_new _ _

theorem Pt.cells {w w3 : World} {b k P : Nat} {t l kd : List UInt8} (v : Pt w w3 b k P t l kd) :
    (w3.cell? ⟨P, 0, none⟩ = some (str t) ∧ w3.cell? ⟨P, 1, none⟩ = some (str l) ∧ w3.cell? ⟨P, 2, none⟩ = some (str kd)) ∧ (∀ o, w3.frozen? ⟨P, o, none⟩ = false) ∧
    (w3.cell? ⟨w.heap.size, 0, none⟩ = some (str []) ∧ w3.cell? ⟨w.heap.size, 1, none⟩ = some (str []) ∧ w3.cell? ⟨w.heap.size, 2, none⟩ = some (str [])) ∧ (∀ o, w3.frozen? ⟨w.heap.size, o, none⟩ = false) := by
  refine ⟨⟨?_, ?_, ?_⟩, ?_, ⟨?_, ?_, ?_⟩, ?_⟩
  all_goals first
    | (rw [Lib.cell_of_heap v.pb]; rfl)
    | (rw [Lib.cell_of_heap v.rb]; rfl)
    | exact fun o => Lib.frozen_of_heap v.pb o
    | exact fun o => Lib.frozen_of_heap v.rb o

set_option maxHeartbeats 4000000 in
theorem parts_any (w : World) (b i : Nat) (s : ByteArray) (h : Rd w b s i) (hT : Tabs w) (hb4 : 8 ≤ b) (hsz : s.size ≤ 1099511627776) :
    Calls Tryz.prog 188 #[.pointer (some ⟨b, 0, none⟩)] w (Out b w litV (parts s i)) := by
  have hbw := h.lt
  have hz := h.le
  obtain ⟨w1, hw1⟩ : ∃ w1, w1 = w.alloc (.cells #[str [], str [], str []] 244) := ⟨_, rfl⟩
  have B1 : Below w.heap.size w w1 := by rw [hw1]; exact (Below.refl _ w).alloc (Nat.le_refl _) _
  have hR1 := h.below B1
  have hT1 : Tabs w1 := hT.below B1 (by omega) (by omega)
  have hQ := quoted_any w1 b i s hR1 hT1 hb4 hsz
  rw [hw1] at hQ
  cases hq : quoted s i with
  | bad j =>
    rw [hq] at hQ
    have HP : parts s i = .bad j := by unfold parts; rw [hq]
    rw [HP]
    have A1 : Hid (Adv b i w (w.alloc (.cells #[str [], str [], str []] 244))) := by rw [← hw1]; exact h.stay B1
    clear hq HP
    go_enter Tryz.func188, Tryz.ntmps188
    go_wp2_with fail
    refine hQ.mono ?_
    rintro e w2 ⟨rfl, k, hA2⟩
    go_wp2_with fail
    exact ⟨rfl, rfl, k, A1.out.trans hA2⟩
  | ok t j =>
    have hv := quoted_valid hq
    rw [hq] at hQ
    have hAq : Hid (∀ w2, Adv b j (w.alloc (.cells #[str [], str [], str []] 244)) w2 → Adv b j w w2 ∧ w.heap.size < w2.heap.size) := fun w2 a => by
      rw [← hw1] at a
      exact ⟨(h.stay B1).trans a, by have := a.size; rw [hw1] at this; simp at this; omega⟩
    have RT : Hid (∀ k w2, k ≤ s.size → Adv b k w w2 → Rd w2 b s k ∧ Tabs w2) := fun k w2 hk a => ⟨h.adv a hk, hT.adv a hb4 hbw⟩
    have HQ : Hid (Calls Tryz.prog 156 #[.pointer (some ⟨b, 0, none⟩)] (w.alloc (.cells #[str [], str [], str []] 244)) (Out b (w.alloc (.cells #[str [], str [], str []] 244)) str (.ok t j))) := hQ
    have hPt : parts s i = if bt s j = 64 then (match language s (j + 1) with | .bad k => .bad k | .ok _ k => .ok ⟨t, sub s (j + 1) k, []⟩ k)
        else if bt s j = 94 then (if bt s (j + 1) ≠ 94 then .bad (j + 1) else match iri s (j + 2) with | .bad k => .bad k | .ok m k => .ok ⟨t, [], m⟩ k)
        else .ok ⟨t, [], []⟩ j := by unfold parts; rw [hq]; rfl
    clear hQ hw1 B1 hR1 hT1 hq h hT
    by_cases c1 : bt s j = 64
    · rw [if_pos c1] at hPt
      cases hl : language s (j + 1) with
      | bad k =>
        rw [hl] at hPt
        have HL : Hid (∀ w3, Rd w3 b s (j + 1) → Tabs w3 → Calls Tryz.prog 199 #[.pointer (some ⟨b, 0, none⟩)] w3 (Out b w3 str (.bad k))) := fun w3 a1 a2 => by
          have := language_any w3 b (j + 1) s a1 a2 hb4
          unfold langR at this
          rw [hl] at this
          exact this
        rw [hPt]
        have hj1 := bt_in c1 (by omega)
        have HTk : Hid (∀ w3, Rd w3 b s j → Calls Tryz.prog 64 #[.pointer (some ⟨b, 0, none⟩), .int .u8 64] w3 fun e w' => e = .returned (.bool true) ∧ Adv b (j + 1) w3 w') := fun w3 a => by
          have := take_any w3 b j s 64 a (by omega) (by omega)
          simp only [c1, decide_true, if_true] at this
          exact this
        clear hl hPt c1
        go_enter Tryz.func188, Tryz.ntmps188
        go_wp2_with fail
        refine HQ.out.mono ?_
        rintro e w2 ⟨rfl, hA2⟩
        obtain ⟨hA2', hz2⟩ := hAq.out w2 hA2
        have v3 : Pt w (w2.alloc (.cells #[str t, str [], str []] 244)) b j w2.heap.size t [] [] := Pt.start hbw hA2 hA2'
        have V3 : Hid (Pt w (w2.alloc (.cells #[str t, str [], str []] 244)) b j w2.heap.size t [] []) := v3
        obtain ⟨q1, q2⟩ := RT.out _ _ hv.2.2.2 v3.adv
        have Q1 : Hid (Rd (w2.alloc (.cells #[str t, str [], str []] 244)) b s j) := q1
        clear v3 q1 q2 hA2 hA2'
        go_wp2_with fail
        refine (HTk.out _ Q1.out).mono ?_
        rintro e w4 ⟨rfl, hA4⟩
        have V4 : Hid (Pt w w4 b (j + 1) w2.heap.size t [] []) := V3.out.step hA4
        obtain ⟨q1, q2⟩ := RT.out _ _ (by omega) V4.out.adv
        have Q4 : Hid (Rd w4 b s (j + 1) ∧ Tabs w4) := ⟨q1, q2⟩
        clear q1 q2 hA4
        go_wp2_with fail
        refine (HL.out _ Q4.out.1 Q4.out.2).mono ?_
        rintro e w5 ⟨rfl, m, hA5⟩
        go_wp2_with fail
        exact ⟨rfl, rfl, m, V4.out.adv.trans hA5⟩
      | ok u k =>
        rw [hl] at hPt
        simp only at hPt
        have HL : Hid (∀ w3, Rd w3 b s (j + 1) → Tabs w3 → Calls Tryz.prog 199 #[.pointer (some ⟨b, 0, none⟩)] w3 (Out b w3 str (.ok (sub s (j + 1) k) k))) := fun w3 a1 a2 => by
          have := language_any w3 b (j + 1) s a1 a2 hb4
          unfold langR at this
          rw [hl] at this
          exact this
        rw [hPt]
        have hj1 := bt_in c1 (by omega)
        have HTk : Hid (∀ w3, Rd w3 b s j → Calls Tryz.prog 64 #[.pointer (some ⟨b, 0, none⟩), .int .u8 64] w3 fun e w' => e = .returned (.bool true) ∧ Adv b (j + 1) w3 w') := fun w3 a => by
          have := take_any w3 b j s 64 a (by omega) (by omega)
          simp only [c1, decide_true, if_true] at this
          exact this
        obtain ⟨l, hle⟩ : ∃ l, l = sub s (j + 1) k := ⟨_, rfl⟩
        rw [← hle] at HL ⊢
        clear hl hPt c1 hle
        go_enter Tryz.func188, Tryz.ntmps188
        go_wp2_with fail
        refine HQ.out.mono ?_
        rintro e w2 ⟨rfl, hA2⟩
        obtain ⟨hA2', hz2⟩ := hAq.out w2 hA2
        have v3 : Pt w (w2.alloc (.cells #[str t, str [], str []] 244)) b j w2.heap.size t [] [] := Pt.start hbw hA2 hA2'
        have V3 : Hid (Pt w (w2.alloc (.cells #[str t, str [], str []] 244)) b j w2.heap.size t [] []) := v3
        obtain ⟨q1, q2⟩ := RT.out _ _ hv.2.2.2 v3.adv
        have Q1 : Hid (Rd (w2.alloc (.cells #[str t, str [], str []] 244)) b s j) := q1
        clear v3 q1 q2 hA2 hA2'
        go_wp2_with fail
        refine (HTk.out _ Q1.out).mono ?_
        rintro e w4 ⟨rfl, hA4⟩
        have V4 : Hid (Pt w w4 b (j + 1) w2.heap.size t [] []) := V3.out.step hA4
        obtain ⟨q1, q2⟩ := RT.out _ _ (by omega) V4.out.adv
        have Q4 : Hid (Rd w4 b s (j + 1) ∧ Tabs w4) := ⟨q1, q2⟩
        clear q1 q2 hA4
        go_wp2_with fail
        refine (HL.out _ Q4.out.1 Q4.out.2).mono ?_
        rintro e w5 ⟨rfl, hA5⟩
        have V5 : Hid (Pt w w5 b k w2.heap.size t [] []) := V4.out.step hA5
        obtain ⟨⟨p0, p1, p2⟩, pf, ⟨r0, r1, r2⟩, rf⟩ := V5.out.cells
        have hne : w2.heap.size ≠ w.heap.size := by omega
        clear hA5
        go_wp2_with fail
        refine bodyPost_ret (v := .agg #[str t, str l, str []]) (by simp [results, Tryz.results188, go_sem, p0, p1, p2, r0, r1, r2, hne, Ne.symm hne]) rfl ⟨rfl, ?_⟩
        refine Below.trans V5.out.adv ?_
        repeat (first | exact Below.refl _ _ | refine Below.setCell ?_ (by simp; try omega) _)
    · rw [if_neg c1] at hPt
      have HTk : Hid (∀ w3, Rd w3 b s j → Calls Tryz.prog 64 #[.pointer (some ⟨b, 0, none⟩), .int .u8 64] w3 fun e w' => e = .returned (.bool false) ∧ Adv b j w3 w') := fun w3 a => by
        have := take_any w3 b j s 64 a (by omega) (by omega)
        simp only [c1, decide_false, if_false] at this
        exact this
      by_cases c2 : bt s j = 94
      · rw [if_pos c2] at hPt
        have hj1 := bt_in c2 (by omega)
        have HT2 : Hid (∀ w3, Rd w3 b s j → Calls Tryz.prog 64 #[.pointer (some ⟨b, 0, none⟩), .int .u8 94] w3 fun e w' => e = .returned (.bool true) ∧ Adv b (j + 1) w3 w') := fun w3 a => by
          have := take_any w3 b j s 94 a (by omega) (by omega)
          simp only [c2, decide_true, if_true] at this
          exact this
        by_cases c3 : bt s (j + 1) = 94
        · rw [if_neg (by simp [c3])] at hPt
          have hj2 := bt_in c3 (by omega)
          have HW : Hid (∀ w3, Rd w3 b s (j + 1) → Calls Tryz.prog 126 #[.pointer (some ⟨b, 0, none⟩), .int .u8 94] w3 fun e w' => e = .returned (.tuple #[]) ∧ Adv b (j + 2) w3 w') := fun w3 a => want_ok w3 b (j + 1) s 94 a (by omega) (by omega) c3
          have hI : ∀ w3, Rd w3 b s (j + 2) → Tabs w3 → Calls Tryz.prog 71 #[.pointer (some ⟨b, 0, none⟩)] w3 (Out b w3 str (iri s (j + 2))) := fun w3 a1 a2 => iri_any w3 b (j + 2) s a1 a2 hb4 hsz
          cases hi : iri s (j + 2) with
          | bad k =>
            rw [hi] at hPt hI
            simp only at hPt
            rw [hPt]
            have HI : Hid (∀ w3, Rd w3 b s (j + 2) → Tabs w3 → Calls Tryz.prog 71 #[.pointer (some ⟨b, 0, none⟩)] w3 (Out b w3 str (.bad k))) := hI
            clear hI hi hPt c1 c2 c3
            go_enter Tryz.func188, Tryz.ntmps188
            go_wp2_with fail
            refine HQ.out.mono ?_
            rintro e w2 ⟨rfl, hA2⟩
            obtain ⟨hA2', hz2⟩ := hAq.out w2 hA2
            have v3 : Pt w (w2.alloc (.cells #[str t, str [], str []] 244)) b j w2.heap.size t [] [] := Pt.start hbw hA2 hA2'
            have V3 : Hid (Pt w (w2.alloc (.cells #[str t, str [], str []] 244)) b j w2.heap.size t [] []) := v3
            obtain ⟨q1, q2⟩ := RT.out _ _ hv.2.2.2 v3.adv
            have Q1 : Hid (Rd (w2.alloc (.cells #[str t, str [], str []] 244)) b s j) := q1
            clear v3 q1 q2 hA2 hA2'
            go_wp2_with fail
            refine (HTk.out _ Q1.out).mono ?_
            rintro e w4 ⟨rfl, hA4⟩
            have V4 : Hid (Pt w w4 b j w2.heap.size t [] []) := V3.out.step hA4
            have Q4 : Hid (Rd w4 b s j) := (RT.out _ _ hv.2.2.2 V4.out.adv).1
            clear hA4
            go_wp2_with fail
            refine (HT2.out _ Q4.out).mono ?_
            rintro e w5 ⟨rfl, hA5⟩
            have V5 : Hid (Pt w w5 b (j + 1) w2.heap.size t [] []) := V4.out.step hA5
            have Q5 : Hid (Rd w5 b s (j + 1)) := (RT.out _ _ (by omega) V5.out.adv).1
            clear hA5
            go_wp2_with fail
            refine (HW.out _ Q5.out).mono ?_
            rintro e w6 ⟨rfl, hA6⟩
            have V6 : Hid (Pt w w6 b (j + 2) w2.heap.size t [] []) := V5.out.step hA6
            have Q6 : Hid (Rd w6 b s (j + 2) ∧ Tabs w6) := RT.out _ _ (by omega) V6.out.adv
            clear hA6
            go_wp2_with fail
            refine (HI.out _ Q6.out.1 Q6.out.2).mono ?_
            rintro e w7 ⟨rfl, m, hA7⟩
            go_wp2_with fail
            exact ⟨rfl, rfl, m, V6.out.adv.trans hA7⟩
          | ok kd k =>
            rw [hi] at hPt hI
            simp only at hPt
            rw [hPt]
            have HI : Hid (∀ w3, Rd w3 b s (j + 2) → Tabs w3 → Calls Tryz.prog 71 #[.pointer (some ⟨b, 0, none⟩)] w3 (Out b w3 str (.ok kd k))) := hI
            clear hI hi hPt c1 c2 c3
            go_enter Tryz.func188, Tryz.ntmps188
            go_wp2_with fail
            refine HQ.out.mono ?_
            rintro e w2 ⟨rfl, hA2⟩
            obtain ⟨hA2', hz2⟩ := hAq.out w2 hA2
            have v3 : Pt w (w2.alloc (.cells #[str t, str [], str []] 244)) b j w2.heap.size t [] [] := Pt.start hbw hA2 hA2'
            have V3 : Hid (Pt w (w2.alloc (.cells #[str t, str [], str []] 244)) b j w2.heap.size t [] []) := v3
            obtain ⟨q1, q2⟩ := RT.out _ _ hv.2.2.2 v3.adv
            have Q1 : Hid (Rd (w2.alloc (.cells #[str t, str [], str []] 244)) b s j) := q1
            clear v3 q1 q2 hA2 hA2'
            go_wp2_with fail
            refine (HTk.out _ Q1.out).mono ?_
            rintro e w4 ⟨rfl, hA4⟩
            have V4 : Hid (Pt w w4 b j w2.heap.size t [] []) := V3.out.step hA4
            have Q4 : Hid (Rd w4 b s j) := (RT.out _ _ hv.2.2.2 V4.out.adv).1
            clear hA4
            go_wp2_with fail
            refine (HT2.out _ Q4.out).mono ?_
            rintro e w5 ⟨rfl, hA5⟩
            have V5 : Hid (Pt w w5 b (j + 1) w2.heap.size t [] []) := V4.out.step hA5
            have Q5 : Hid (Rd w5 b s (j + 1)) := (RT.out _ _ (by omega) V5.out.adv).1
            clear hA5
            go_wp2_with fail
            refine (HW.out _ Q5.out).mono ?_
            rintro e w6 ⟨rfl, hA6⟩
            have V6 : Hid (Pt w w6 b (j + 2) w2.heap.size t [] []) := V5.out.step hA6
            have Q6 : Hid (Rd w6 b s (j + 2) ∧ Tabs w6) := RT.out _ _ (by omega) V6.out.adv
            clear hA6
            go_wp2_with fail
            refine (HI.out _ Q6.out.1 Q6.out.2).mono ?_
            rintro e w7 ⟨rfl, hA7⟩
            have V7 : Hid (Pt w w7 b k w2.heap.size t [] []) := V6.out.step hA7
            obtain ⟨⟨p0, p1, p2⟩, pf, ⟨r0, r1, r2⟩, rf⟩ := V7.out.cells
            have hne : w2.heap.size ≠ w.heap.size := by omega
            clear hA7
            go_wp2_with fail
            refine bodyPost_ret (v := .agg #[str t, str [], str kd]) (by simp [results, Tryz.results188, go_sem, p0, p1, p2, r0, r1, r2, hne, Ne.symm hne]) rfl ⟨rfl, ?_⟩
            refine Below.trans V7.out.adv ?_
            repeat (first | exact Below.refl _ _ | refine Below.setCell ?_ (by simp; try omega) _)
        · rw [if_pos c3] at hPt
          have HW : Hid (∀ w3, Rd w3 b s (j + 1) → Calls Tryz.prog 126 #[.pointer (some ⟨b, 0, none⟩), .int .u8 94] w3 fun e w' => e = stopE 2 (j + 1 : Nat) ∧ Adv b (j + 1) w3 w') := fun w3 a => want_bad w3 b (j + 1) s 94 a (by omega) (by omega) c3
          rw [hPt]
          clear hPt c1 c2 c3
          go_enter Tryz.func188, Tryz.ntmps188
          go_wp2_with fail
          refine HQ.out.mono ?_
          rintro e w2 ⟨rfl, hA2⟩
          obtain ⟨hA2', hz2⟩ := hAq.out w2 hA2
          have v3 : Pt w (w2.alloc (.cells #[str t, str [], str []] 244)) b j w2.heap.size t [] [] := Pt.start hbw hA2 hA2'
          have V3 : Hid (Pt w (w2.alloc (.cells #[str t, str [], str []] 244)) b j w2.heap.size t [] []) := v3
          obtain ⟨q1, q2⟩ := RT.out _ _ hv.2.2.2 v3.adv
          have Q1 : Hid (Rd (w2.alloc (.cells #[str t, str [], str []] 244)) b s j) := q1
          clear v3 q1 q2 hA2 hA2'
          go_wp2_with fail
          refine (HTk.out _ Q1.out).mono ?_
          rintro e w4 ⟨rfl, hA4⟩
          have V4 : Hid (Pt w w4 b j w2.heap.size t [] []) := V3.out.step hA4
          have Q4 : Hid (Rd w4 b s j) := (RT.out _ _ hv.2.2.2 V4.out.adv).1
          clear hA4
          go_wp2_with fail
          refine (HT2.out _ Q4.out).mono ?_
          rintro e w5 ⟨rfl, hA5⟩
          have V5 : Hid (Pt w w5 b (j + 1) w2.heap.size t [] []) := V4.out.step hA5
          have Q5 : Hid (Rd w5 b s (j + 1)) := (RT.out _ _ (by omega) V5.out.adv).1
          clear hA5
          go_wp2_with fail
          refine (HW.out _ Q5.out).mono ?_
          rintro e w6 ⟨rfl, hA6⟩
          go_wp2_with fail
          exact ⟨rfl, rfl, _, V5.out.adv.trans hA6⟩
      · rw [if_neg c2] at hPt
        have HT2 : Hid (∀ w3, Rd w3 b s j → Calls Tryz.prog 64 #[.pointer (some ⟨b, 0, none⟩), .int .u8 94] w3 fun e w' => e = .returned (.bool false) ∧ Adv b j w3 w') := fun w3 a => by
          have := take_any w3 b j s 94 a (by omega) (by omega)
          simp only [c2, decide_false, if_false] at this
          exact this
        rw [hPt]
        clear hPt c1 c2
        go_enter Tryz.func188, Tryz.ntmps188
        go_wp2_with fail
        refine HQ.out.mono ?_
        rintro e w2 ⟨rfl, hA2⟩
        obtain ⟨hA2', hz2⟩ := hAq.out w2 hA2
        have v3 : Pt w (w2.alloc (.cells #[str t, str [], str []] 244)) b j w2.heap.size t [] [] := Pt.start hbw hA2 hA2'
        have V3 : Hid (Pt w (w2.alloc (.cells #[str t, str [], str []] 244)) b j w2.heap.size t [] []) := v3
        obtain ⟨q1, q2⟩ := RT.out _ _ hv.2.2.2 v3.adv
        have Q1 : Hid (Rd (w2.alloc (.cells #[str t, str [], str []] 244)) b s j) := q1
        clear v3 q1 q2 hA2 hA2'
        go_wp2_with fail
        refine (HTk.out _ Q1.out).mono ?_
        rintro e w4 ⟨rfl, hA4⟩
        have V4 : Hid (Pt w w4 b j w2.heap.size t [] []) := V3.out.step hA4
        have Q4 : Hid (Rd w4 b s j) := (RT.out _ _ hv.2.2.2 V4.out.adv).1
        clear hA4
        go_wp2_with fail
        refine (HT2.out _ Q4.out).mono ?_
        rintro e w5 ⟨rfl, hA5⟩
        have V5 : Hid (Pt w w5 b j w2.heap.size t [] []) := V4.out.step hA5
        obtain ⟨⟨p0, p1, p2⟩, pf, ⟨r0, r1, r2⟩, rf⟩ := V5.out.cells
        have hne : w2.heap.size ≠ w.heap.size := by omega
        clear hA5
        go_wp2_with fail
        refine bodyPost_ret (v := .agg #[str t, str [], str []]) (by simp [results, Tryz.results188, go_sem, p0, p1, p2, r0, r1, r2, hne, Ne.symm hne]) rfl ⟨rfl, ?_⟩
        refine Below.trans V5.out.adv ?_
        repeat (first | exact Below.refl _ _ | refine Below.setCell ?_ (by simp; try omega) _)

theorem literal_any (w : World) (b i : Nat) (s : ByteArray) (h : Rd w b s i) (hT : Tabs w) (hb4 : 8 ≤ b) (hsz : s.size ≤ 1099511627776) :
    Calls Tryz.prog 226 #[.pointer (some ⟨b, 0, none⟩)] w (Out b w str (literal s i)) := by
  have hP := parts_any w b i s h hT hb4 hsz
  unfold literal
  cases hp : parts s i with
  | bad j =>
    rw [hp] at hP
    clear hp
    go_enter Tryz.func226, Tryz.ntmps226
    go_wp2_with fail
    refine hP.mono ?_
    rintro e w2 ⟨rfl, k, hA2⟩
    go_wp2_with fail
    exact ⟨rfl, rfl, k, hA2⟩
  | ok p j =>
    rw [hp] at hP
    obtain ⟨f1, f2, f3, f4, f5, f6, f7⟩ := parts_facts hp
    have HF : Hid (∀ w2, Calls Tryz.prog 203 #[litV p] w2 fun e w' => e = .returned (str (form p.text p.lang p.kind)) ∧ Below w2.heap.size w2 w') := fun w2 =>
      form_any w2 p.text p.lang p.kind f1 f2 (by omega) (by omega) (by omega)
    clear hp f1 f2 f3 f4 f5 f7
    go_enter Tryz.func226, Tryz.ntmps226
    go_wp2_with fail
    refine hP.mono ?_
    rintro e w2 ⟨rfl, hA2⟩
    go_wp2_with fail
    refine (HF.out _).mono ?_
    rintro e w3 ⟨rfl, hB3⟩
    go_wp2_with fail
    go_ret
    exact ⟨rfl, hA2.then_below hB3⟩
end Go.Proofs.YtnffjoipinhojabGreatDoor

set_option linter.unusedSimpArgs false
set_option linter.unusedVariables false
namespace Go.Proofs.YtnffjoipinhojabGreatDoor
open Go.RowKit

def firstB (k : Nat) : Int := if k = 1 then 60 else if k = 2 then 95 else 34
def readK (k : Nat) (s : ByteArray) (i : Nat) : R (List UInt8) := if k = 1 then iri s i else if k = 2 then blank s i else literal s i
def termOf (s : ByteArray) (i : Nat) : List Nat → R (Nat × List UInt8)
  | [] => .bad i
  | k :: ks => if bt s i = firstB k then (match readK k s i with | .bad j => .bad j | .ok l j => .ok (k, l) j) else termOf s i ks

theorem termOf_all (s : ByteArray) (i : Nat) : termOf s i [1, 2, 3] = term s i := by
  simp only [termOf, firstB, readK, term]
  rfl

theorem begun1 (w : World) : Calls Tryz.prog 214 #[.int .i64 1] w fun e w' => e = .returned (.tuple #[.int .u8 60, fnV 71 #[]]) ∧ w' = w := by
  go_enter Tryz.func214, Tryz.ntmps214
  go_wp2
  go_ret2
  exact ⟨rfl, rfl⟩
theorem begun2 (w : World) : Calls Tryz.prog 214 #[.int .i64 2] w fun e w' => e = .returned (.tuple #[.int .u8 95, fnV 155 #[]]) ∧ w' = w := by
  go_enter Tryz.func214, Tryz.ntmps214
  go_wp2
  go_ret2
  exact ⟨rfl, rfl⟩
theorem begun3 (w : World) : Calls Tryz.prog 214 #[.int .i64 3] w fun e w' => e = .returned (.tuple #[.int .u8 34, fnV 226 #[]]) ∧ w' = w := by
  go_enter Tryz.func214, Tryz.ntmps214
  go_wp2
  go_ret2
  exact ⟨rfl, rfl⟩

abbrev termV (x : Nat × List UInt8) : Value := .agg #[.int .i64 x.1, str x.2]

set_option maxHeartbeats 4000000 in
theorem termOf_any (w : World) (b i m n cap : Nat) (s : ByteArray) (h : Rd w b s i) (hT : Tabs w) (hb4 : 8 ≤ b) (hsz : s.size ≤ 1099511627776) (ks : List Nat) (hks : ∀ k ∈ ks, k = 1 ∨ k = 2 ∨ k = 3) (hn : ks.length = n) (hn9 : n ≤ 9)
    (hm : ∀ j k, ks[j]? = some k → w.cell? ⟨m, j, none⟩ = some (.int .i64 (k : Nat))) (hmw : m < w.heap.size) :
    Calls Tryz.prog 185 #[.pointer (some ⟨b, 0, none⟩), .slice (some ⟨m, 0, none⟩) n cap] w (Out b w termV (termOf s i ks)) := by
  have hbw := h.lt
  obtain ⟨w1, hw1⟩ : ∃ w1, w1 = w.alloc (.cells #[.int .i64 0, str []] 207) := ⟨_, rfl⟩
  have B1 : Below w.heap.size w w1 := by rw [hw1]; exact (Below.refl _ w).alloc (Nat.le_refl _) _
  have hz1 : w1.heap.size = w.heap.size + 1 := by rw [hw1]; simp
  have hrb : w1.heap[w.heap.size]? = some (.cells #[.int .i64 0, str []] 207 (0, 0)) := by rw [hw1]; exact heap_new _ _
  have R1 := h.below B1
  have T1 : Tabs w1 := hT.below B1 (by omega) (by omega)
  have A1 := h.stay B1
  have HM : Hid (∀ j k wr, Below w1.heap.size w1 wr → ks[j]? = some k → wr.cell? ⟨m, j, none⟩ = some (.int .i64 (k : Nat))) := fun j k wr hb hj =>
    (hb.cell (p := ⟨m, j, none⟩) (by show m < _; omega)).trans ((B1.cell (p := ⟨m, j, none⟩) hmw).trans (hm j k hj))
  have HX : Hid (Rd w1 b s i ∧ Tabs w1 ∧ Adv b i w w1) := ⟨R1, T1, A1⟩
  have HKS : Hid (∀ k ∈ ks, k = 1 ∨ k = 2 ∨ k = 3) := hks
  have HRB : Hid (∀ wr, Below w1.heap.size w1 wr → ∀ w2, (w2 = wr ∨ ∃ (bb jj : Nat), bb = b ∧ Adv bb jj wr w2) → w2.cell? ⟨w.heap.size, 0, none⟩ = some (.int .i64 0) ∧ w2.cell? ⟨w.heap.size, 1, none⟩ = some (str []) ∧ ∀ o, w2.frozen? ⟨w.heap.size, o, none⟩ = false) := by
    intro wr hb w2 hw2
    have e1 : wr.heap[w.heap.size]? = some (.cells #[.int .i64 0, str []] 207 (0, 0)) := by rw [hb.block _ (by omega)]; exact hrb
    have e2 : w2.heap[w.heap.size]? = some (.cells #[.int .i64 0, str []] 207 (0, 0)) := by
      rcases hw2 with rfl | ⟨bb, jj, rfl, a⟩
      · exact e1
      · rw [a.other (Array.getElem?_eq_some_iff.1 e1).1 (by omega)]; exact e1
    exact ⟨by rw [Lib.cell_of_heap e2]; rfl, by rw [Lib.cell_of_heap e2]; rfl, fun o => Lib.frozen_of_heap e2 o⟩
  have HW1 : Hid (w1 = w.alloc (.cells #[.int .i64 0, str []] 207)) := hw1
  clear hw1 B1 hrb R1 T1 A1 hm h hT hks
  go_enter Tryz.func185, Tryz.ntmps185
  go_wp2_with fail
  go_loopw [11] (fun t wr => ∃ q : Nat, q ≤ n ∧ t = .int .i64 q ∧ Below w1.heap.size w1 wr ∧ termOf s i ks = termOf s i (ks.drop q)) (fun t _ => n - (intOf t).toNat)
  case atStart => exact ⟨0, Nat.zero_le _, rfl, by rw [← HW1.out]; exact Below.refl _ _, by simp⟩
  case round =>
    obtain ⟨q, hq, rfl, hb, hno⟩ := hrel
    have HB : Hid (Below w1.heap.size w1 wr) := hb
    have HNo : Hid (termOf s i ks = termOf s i (ks.drop q)) := hno
    have Q1 : Hid (Rd wr b s i ∧ Tabs wr) := ⟨HX.out.1.below hb, HX.out.2.1.below hb (by omega) (by omega)⟩
    have HA1 : Hid (Adv b i w wr) := HX.out.2.2.then_below hb
    have RES : Hid (∀ w2, (w2 = wr ∨ ∃ (jj : Nat), Adv b jj wr w2) → w2.cell? ⟨w.heap.size, 0, none⟩ = some (.int .i64 0) ∧ w2.cell? ⟨w.heap.size, 1, none⟩ = some (str []) ∧ ∀ o, w2.frozen? ⟨w.heap.size, o, none⟩ = false) := fun w2 hw2 =>
      HRB.out wr hb w2 (hw2.elim .inl fun ⟨jj, a⟩ => .inr ⟨b, jj, rfl, a⟩)
    clear hno
    by_cases hlt : q < n
    · obtain ⟨k, hk⟩ : ∃ k, ks[q]? = some k := ⟨ks[q]'(by omega), List.getElem?_eq_getElem (by omega)⟩
      have hcell := HM.out q k wr hb hk
      have hkk := HKS.out k (List.mem_of_getElem? hk)
      have hdr : ks.drop q = k :: ks.drop (q + 1) := by
        obtain ⟨h1, h2⟩ := List.getElem?_eq_some_iff.1 hk
        rw [List.drop_eq_getElem_cons h1, h2]
      clear hk hb
      rcases hkk with rfl | rfl | rfl
      · have hcell1 : wr.cell? ⟨m, q, none⟩ = some (.int .i64 1) := hcell
        clear hcell
        have HBg : Hid (∀ w2, Calls Tryz.prog 214 #[.int .i64 1] w2 fun e w' => e = .returned (.tuple #[.int .u8 60, fnV 71 #[]]) ∧ w' = w2) := fun w2 => begun1 w2
        have HRd : Hid (∀ w2, Rd w2 b s i → Tabs w2 → Calls Tryz.prog 71 #[.pointer (some ⟨b, 0, none⟩)] w2 (Out b w2 str (readK 1 s i))) := fun w2 a1 a2 => iri_any w2 b i s a1 a2 hb4 hsz
        have eR := enters_of Tryz.func71 (by kernel_rfl) rfl
        have HSe : Hid (∀ w2, Rd w2 b s i → Calls Tryz.prog 107 #[.pointer (some ⟨b, 0, none⟩), .int .u8 60] w2 fun e w' => e = .returned (.bool (decide (bt s i = 60))) ∧ ∃ n, w' = w2.drewN n) := fun w2 a => sees_any w2 b i s 60 a (by omega) (by omega)
        by_cases c1 : bt s i = 60
        · simp only [c1, decide_true] at HSe
          have hst : termOf s i ks = match readK 1 s i with | .bad j => .bad j | .ok l j => .ok (1, l) j := by
            rw [HNo.out, hdr]
            exact if_pos c1
          cases hr : readK 1 s i with
          | bad j =>
            rw [hr] at HRd hst
            simp only at hst
            have HR : Hid (termOf s i ks = .bad j) := hst
            clear hst hr c1 hdr
            go_wp2_with fail
            refine (HBg.out _).mono ?_
            rintro e w2 ⟨rfl, rfl⟩
            go_wp2_with fail
            refine (HSe.out _ Q1.out.1).mono ?_
            rintro e w3 ⟨rfl, n3, rfl⟩
            go_wp2_with fail
            refine (HRd.out _ (Q1.out.1.drewN n3) Q1.out.2).mono ?_
            rintro e w4 ⟨rfl, m, hA4⟩
            go_wp2_with fail
            refine ⟨rfl, ?_⟩
            rw [HR.out]
            exact ⟨rfl, m, HA1.out.trans ((Q1.out.1.stayN n3).trans hA4)⟩
          | ok l j =>
            rw [hr] at HRd hst
            simp only at hst
            have HR : Hid (termOf s i ks = .ok (1, l) j) := hst
            clear hst hr c1 hdr
            go_wp2_with fail
            refine (HBg.out _).mono ?_
            rintro e w2 ⟨rfl, rfl⟩
            go_wp2_with fail
            refine (HSe.out _ Q1.out.1).mono ?_
            rintro e w3 ⟨rfl, n3, rfl⟩
            go_wp2_with fail
            refine (HRd.out _ (Q1.out.1.drewN n3) Q1.out.2).mono ?_
            rintro e w4 ⟨rfl, hA4⟩
            obtain ⟨r0, r1, rf⟩ := RES.out w4 (.inr ⟨_, (Q1.out.1.stayN n3).trans hA4⟩)
            have hAA := HA1.out.trans ((Q1.out.1.stayN n3).trans hA4)
            go_wp2_with fail
            refine bodyPost_ret (v := .agg #[.int .i64 1, str l]) (by simp [results, Tryz.results185, go_sem, r0, r1]) rfl ?_
            rw [HR.out]
            refine ⟨rfl, ?_⟩
            refine Below.trans hAA ?_
            repeat (first | exact Below.refl _ _ | refine Below.setCell ?_ (by simp; try omega) _)
        · have hd : decide (bt s i = 60) = false := by simpa using c1
          rw [hd] at HSe
          have HN2 : Hid (termOf s i ks = termOf s i (ks.drop (q + 1))) := by
            unfold Hid
            rw [HNo.out, hdr]
            exact if_neg c1
          clear hdr c1 hd
          go_wp2_with fail
          refine (HBg.out _).mono ?_
          rintro e w2 ⟨rfl, rfl⟩
          go_wp2_with fail
          refine (HSe.out _ Q1.out.1).mono ?_
          rintro e w3 ⟨rfl, n3, rfl⟩
          go_wp2_with fail
          go_roundw
          case rel => exact ⟨q + 1, by omega, by go_num, below_drewN HB.out n3, HN2.out⟩
          case measure => simp [intOf]; omega
      · have hcell1 : wr.cell? ⟨m, q, none⟩ = some (.int .i64 2) := hcell
        clear hcell
        have HBg : Hid (∀ w2, Calls Tryz.prog 214 #[.int .i64 2] w2 fun e w' => e = .returned (.tuple #[.int .u8 95, fnV 155 #[]]) ∧ w' = w2) := fun w2 => begun2 w2
        have HRd : Hid (∀ w2, Rd w2 b s i → Tabs w2 → Calls Tryz.prog 155 #[.pointer (some ⟨b, 0, none⟩)] w2 (Out b w2 str (readK 2 s i))) := fun w2 a1 a2 => blank_any w2 b i s a1 a2 hb4
        have eR := enters_of Tryz.func155 (by kernel_rfl) rfl
        have HSe : Hid (∀ w2, Rd w2 b s i → Calls Tryz.prog 107 #[.pointer (some ⟨b, 0, none⟩), .int .u8 95] w2 fun e w' => e = .returned (.bool (decide (bt s i = 95))) ∧ ∃ n, w' = w2.drewN n) := fun w2 a => sees_any w2 b i s 95 a (by omega) (by omega)
        by_cases c1 : bt s i = 95
        · simp only [c1, decide_true] at HSe
          have hst : termOf s i ks = match readK 2 s i with | .bad j => .bad j | .ok l j => .ok (2, l) j := by
            rw [HNo.out, hdr]
            exact if_pos c1
          cases hr : readK 2 s i with
          | bad j =>
            rw [hr] at HRd hst
            simp only at hst
            have HR : Hid (termOf s i ks = .bad j) := hst
            clear hst hr c1 hdr
            go_wp2_with fail
            refine (HBg.out _).mono ?_
            rintro e w2 ⟨rfl, rfl⟩
            go_wp2_with fail
            refine (HSe.out _ Q1.out.1).mono ?_
            rintro e w3 ⟨rfl, n3, rfl⟩
            go_wp2_with fail
            refine (HRd.out _ (Q1.out.1.drewN n3) Q1.out.2).mono ?_
            rintro e w4 ⟨rfl, m, hA4⟩
            go_wp2_with fail
            refine ⟨rfl, ?_⟩
            rw [HR.out]
            exact ⟨rfl, m, HA1.out.trans ((Q1.out.1.stayN n3).trans hA4)⟩
          | ok l j =>
            rw [hr] at HRd hst
            simp only at hst
            have HR : Hid (termOf s i ks = .ok (2, l) j) := hst
            clear hst hr c1 hdr
            go_wp2_with fail
            refine (HBg.out _).mono ?_
            rintro e w2 ⟨rfl, rfl⟩
            go_wp2_with fail
            refine (HSe.out _ Q1.out.1).mono ?_
            rintro e w3 ⟨rfl, n3, rfl⟩
            go_wp2_with fail
            refine (HRd.out _ (Q1.out.1.drewN n3) Q1.out.2).mono ?_
            rintro e w4 ⟨rfl, hA4⟩
            obtain ⟨r0, r1, rf⟩ := RES.out w4 (.inr ⟨_, (Q1.out.1.stayN n3).trans hA4⟩)
            have hAA := HA1.out.trans ((Q1.out.1.stayN n3).trans hA4)
            go_wp2_with fail
            refine bodyPost_ret (v := .agg #[.int .i64 2, str l]) (by simp [results, Tryz.results185, go_sem, r0, r1]) rfl ?_
            rw [HR.out]
            refine ⟨rfl, ?_⟩
            refine Below.trans hAA ?_
            repeat (first | exact Below.refl _ _ | refine Below.setCell ?_ (by simp; try omega) _)
        · have hd : decide (bt s i = 95) = false := by simpa using c1
          rw [hd] at HSe
          have HN2 : Hid (termOf s i ks = termOf s i (ks.drop (q + 1))) := by
            unfold Hid
            rw [HNo.out, hdr]
            exact if_neg c1
          clear hdr c1 hd
          go_wp2_with fail
          refine (HBg.out _).mono ?_
          rintro e w2 ⟨rfl, rfl⟩
          go_wp2_with fail
          refine (HSe.out _ Q1.out.1).mono ?_
          rintro e w3 ⟨rfl, n3, rfl⟩
          go_wp2_with fail
          go_roundw
          case rel => exact ⟨q + 1, by omega, by go_num, below_drewN HB.out n3, HN2.out⟩
          case measure => simp [intOf]; omega
      · have hcell1 : wr.cell? ⟨m, q, none⟩ = some (.int .i64 3) := hcell
        clear hcell
        have HBg : Hid (∀ w2, Calls Tryz.prog 214 #[.int .i64 3] w2 fun e w' => e = .returned (.tuple #[.int .u8 34, fnV 226 #[]]) ∧ w' = w2) := fun w2 => begun3 w2
        have HRd : Hid (∀ w2, Rd w2 b s i → Tabs w2 → Calls Tryz.prog 226 #[.pointer (some ⟨b, 0, none⟩)] w2 (Out b w2 str (readK 3 s i))) := fun w2 a1 a2 => literal_any w2 b i s a1 a2 hb4 hsz
        have eR := enters_of Tryz.func226 (by kernel_rfl) rfl
        have HSe : Hid (∀ w2, Rd w2 b s i → Calls Tryz.prog 107 #[.pointer (some ⟨b, 0, none⟩), .int .u8 34] w2 fun e w' => e = .returned (.bool (decide (bt s i = 34))) ∧ ∃ n, w' = w2.drewN n) := fun w2 a => sees_any w2 b i s 34 a (by omega) (by omega)
        by_cases c1 : bt s i = 34
        · simp only [c1, decide_true] at HSe
          have hst : termOf s i ks = match readK 3 s i with | .bad j => .bad j | .ok l j => .ok (3, l) j := by
            rw [HNo.out, hdr]
            exact if_pos c1
          cases hr : readK 3 s i with
          | bad j =>
            rw [hr] at HRd hst
            simp only at hst
            have HR : Hid (termOf s i ks = .bad j) := hst
            clear hst hr c1 hdr
            go_wp2_with fail
            refine (HBg.out _).mono ?_
            rintro e w2 ⟨rfl, rfl⟩
            go_wp2_with fail
            refine (HSe.out _ Q1.out.1).mono ?_
            rintro e w3 ⟨rfl, n3, rfl⟩
            go_wp2_with fail
            refine (HRd.out _ (Q1.out.1.drewN n3) Q1.out.2).mono ?_
            rintro e w4 ⟨rfl, m, hA4⟩
            go_wp2_with fail
            refine ⟨rfl, ?_⟩
            rw [HR.out]
            exact ⟨rfl, m, HA1.out.trans ((Q1.out.1.stayN n3).trans hA4)⟩
          | ok l j =>
            rw [hr] at HRd hst
            simp only at hst
            have HR : Hid (termOf s i ks = .ok (3, l) j) := hst
            clear hst hr c1 hdr
            go_wp2_with fail
            refine (HBg.out _).mono ?_
            rintro e w2 ⟨rfl, rfl⟩
            go_wp2_with fail
            refine (HSe.out _ Q1.out.1).mono ?_
            rintro e w3 ⟨rfl, n3, rfl⟩
            go_wp2_with fail
            refine (HRd.out _ (Q1.out.1.drewN n3) Q1.out.2).mono ?_
            rintro e w4 ⟨rfl, hA4⟩
            obtain ⟨r0, r1, rf⟩ := RES.out w4 (.inr ⟨_, (Q1.out.1.stayN n3).trans hA4⟩)
            have hAA := HA1.out.trans ((Q1.out.1.stayN n3).trans hA4)
            go_wp2_with fail
            refine bodyPost_ret (v := .agg #[.int .i64 3, str l]) (by simp [results, Tryz.results185, go_sem, r0, r1]) rfl ?_
            rw [HR.out]
            refine ⟨rfl, ?_⟩
            refine Below.trans hAA ?_
            repeat (first | exact Below.refl _ _ | refine Below.setCell ?_ (by simp; try omega) _)
        · have hd : decide (bt s i = 34) = false := by simpa using c1
          rw [hd] at HSe
          have HN2 : Hid (termOf s i ks = termOf s i (ks.drop (q + 1))) := by
            unfold Hid
            rw [HNo.out, hdr]
            exact if_neg c1
          clear hdr c1 hd
          go_wp2_with fail
          refine (HBg.out _).mono ?_
          rintro e w2 ⟨rfl, rfl⟩
          go_wp2_with fail
          refine (HSe.out _ Q1.out.1).mono ?_
          rintro e w3 ⟨rfl, n3, rfl⟩
          go_wp2_with fail
          go_roundw
          case rel => exact ⟨q + 1, by omega, by go_num, below_drewN HB.out n3, HN2.out⟩
          case measure => simp [intOf]; omega
    · have HE : Hid (termOf s i ks = .bad i) := by
        unfold Hid
        rw [HNo.out, List.drop_of_length_le (by omega)]
        rfl
      clear hb
      go_wp2_with fail
      refine (refuse_any _ _ _ _ Q1.out.1).mono ?_
      rintro e w2 ⟨rfl, rfl⟩
      go_wp2_with fail
      refine ⟨rfl, ?_⟩
      rw [HE.out]
      exact ⟨rfl, i, HA1.out⟩

theorem anyTerm_any (w : World) (b i : Nat) (s : ByteArray) (h : Rd w b s i) (hT : Tabs w) (hb4 : 8 ≤ b) (hsz : s.size ≤ 1099511627776) :
    Calls Tryz.prog 137 #[.pointer (some ⟨b, 0, none⟩)] w (Out b w termV (term s i)) := by
  have hbw := h.lt
  obtain ⟨w1, hw1⟩ : ∃ w1, w1 = (w.alloc (.cells #[.int .i64 0, str []] 207)).alloc (.cells #[.int .i64 1, .int .i64 2, .int .i64 3] 144) := ⟨_, rfl⟩
  have B1 : Below w.heap.size w w1 := by rw [hw1]; exact ((Below.refl _ w).alloc (Nat.le_refl _) _).alloc (by simp) _
  have hz1 : w1.heap.size = w.heap.size + 2 := by rw [hw1]; simp
  have hrb : w1.heap[w.heap.size]? = some (.cells #[.int .i64 0, str []] 207 (0, 0)) := by
    rw [hw1, Below.heap_alloc _ _ _ (by simp)]; exact heap_new _ _
  have hTO := termOf_any w1 b i (w.heap.size + 1) 3 3 s (h.below B1) (hT.below B1 (by omega) (by omega)) hb4 hsz [1, 2, 3] (by simp) rfl (by omega)
    (fun j k hj => by
      rw [hw1, World.cell?_alloc_at _ _ _ _ (by simp)]
      match j, hj with
      | 0, hj => simp at hj; subst hj; rfl
      | 1, hj => simp at hj; subst hj; rfl
      | 2, hj => simp at hj; subst hj; rfl
      | (n + 3), hj => simp at hj) (by omega)
  rw [termOf_all] at hTO
  have HA : Hid (Adv b i w w1) := h.stay B1
  have HRS : Hid (∀ jj w2, Adv b jj w1 w2 → w2.cell? ⟨w.heap.size, 0, none⟩ = some (.int .i64 0) ∧ w2.cell? ⟨w.heap.size, 1, none⟩ = some (str []) ∧ ∀ o, w2.frozen? ⟨w.heap.size, o, none⟩ = false) := by
    intro jj w2 a
    have e2 : w2.heap[w.heap.size]? = some (.cells #[.int .i64 0, str []] 207 (0, 0)) := by
      rw [a.other (by omega) (by omega)]; exact hrb
    exact ⟨by rw [Lib.cell_of_heap e2]; rfl, by rw [Lib.cell_of_heap e2]; rfl, fun o => Lib.frozen_of_heap e2 o⟩
  have HTO : Hid (Calls Tryz.prog 185 #[.pointer (some ⟨b, 0, none⟩), .slice (some ⟨w.heap.size + 1, 0, none⟩) 3 3] ((w.alloc (.cells #[.int .i64 0, str []] 207)).alloc (.cells #[.int .i64 1, .int .i64 2, .int .i64 3] 144)) (Out b w1 termV (term s i))) := by
    rw [← hw1]; exact hTO
  clear hw1 B1 hrb hTO h hT hz1
  cases ht : term s i with
  | bad j =>
    rw [ht] at HTO
    clear ht
    go_enter Tryz.func137, Tryz.ntmps137
    go_wp2_with fail
    refine HTO.out.mono ?_
    rintro e w2 ⟨rfl, k, hA2⟩
    go_wp2_with fail
    exact ⟨rfl, rfl, k, HA.out.trans hA2⟩
  | ok x j =>
    rw [ht] at HTO
    obtain ⟨k, l⟩ := x
    clear ht
    go_enter Tryz.func137, Tryz.ntmps137
    go_wp2_with fail
    refine HTO.out.mono ?_
    rintro e w2 ⟨rfl, hA2⟩
    obtain ⟨r0, r1, rf⟩ := HRS.out _ w2 hA2
    have hAA := HA.out.trans hA2
    go_wp2_with fail
    refine bodyPost_ret (v := .agg #[.int .i64 k, str l]) (by simp [results, Tryz.results137, go_sem, r0, r1]) rfl ?_
    refine ⟨rfl, ?_⟩
    refine Below.trans hAA ?_
    repeat (first | exact Below.refl _ _ | refine Below.setCell ?_ (by simp; try omega) _)
end Go.Proofs.YtnffjoipinhojabGreatDoor

