import Derived.Test.YtnffjoipinhojabGreatDoorK36
set_option linter.unusedSimpArgs false
set_option linter.unusedVariables false
namespace Go.Proofs.YtnffjoipinhojabGreatDoor
open Back
namespace Tu

/-! What stands at a place of a text is read there. -/

theorem gap_at {s : ByteArray} {i : Nat} (h : isW (bt s i) = false) (h35 : bt s i ≠ 35) : gap s i = i := by
  have hr : runU isW s i = i := runU_end (by rw [h]; simp)
  rw [gap_end (by rw [hr]; exact h35), hr]
theorem gap_sp {s : ByteArray} {i : Nat} (h : isW (bt s i) = true) : gap s i = gap s (i + 1) := by
  have hlt : i < s.size := by
    refine bt_in (c := bt s i) rfl ?_
    unfold isW at h
    have := of_decide_eq_true h
    omega
  have hr : runU isW s i = runU isW s (i + 1) := runU_on ⟨hlt, h⟩
  by_cases hb : bt s (runU isW s (i + 1)) = 35
  · rw [gap_on (by rw [hr]; exact hb), gap_on hb, hr]
  · rw [gap_end (by rw [hr]; exact hb), gap_end hb, hr]

structure Sees (s : ByteArray) (p : Nat) (st : St) : Prop where
  pl : st.p = p
  now : st.now = (sign s p false).1
  i : st.i = (sign s p false).2

structure Same (a b : St) : Prop where
  names : b.names = a.names
  depth : b.depth = a.depth
  made : b.made = a.made
  said : b.said = a.said
theorem Same.trans {a b c : St} (h : Same a b) (k : Same b c) : Same a c := ⟨k.names.trans h.names, k.depth.trans h.depth, k.made.trans h.made, k.said.trans h.said⟩
theorem Same.step (s : ByteArray) (st : St) : Same st (step s st) := ⟨rfl, rfl, rfl, rfl⟩

theorem step_sees {s : ByteArray} {st : St} {p : Nat} (hg : gap s st.i = p) (h : st.i < p ∨ st.now.isStr = false) : Sees s p (step s st) := by
  have hb : (st.now.isStr && decide (gap s st.i = st.i)) = false := by
    rcases h with h | h
    · rw [decide_eq_false (by omega), Bool.and_false]
    · rw [h, Bool.false_and]
  unfold step
  rw [hb, hg]
  exact ⟨rfl, rfl, rfl⟩

theorem one_sign {s : ByteArray} {i : Nat} {c : Nat} (h : bt s i = (c : Int)) (hc : isOne (c : Int) = true) (b : Bool) : sign s i b = (.one c, i + 1) := by
  have h0 : c = 46 ∨ c = 59 ∨ c = 44 ∨ c = 91 ∨ c = 93 ∨ c = 40 ∨ c = 41 := by
    unfold isOne at hc
    have := of_decide_eq_true hc
    omega
  have hd : digit (c : Int) = false := by
    unfold digit
    rw [decide_eq_false_iff_not]
    omega
  have hl : letter (c : Int) = false := by
    unfold letter
    rw [decide_eq_false_iff_not]
    omega
  unfold sign
  rw [h, if_neg (by omega), if_neg (by omega), if_neg (by omega), if_neg (by omega), if_neg (by omega), if_neg (by omega), if_neg (by rw [hd]; simp; omega), if_neg (by rw [hl]; simp; omega)]
  unfold single
  rw [h, if_pos hc]
  rfl

/-- a blank, and a sign of one byte behind it -/
structure Sep (s : ByteArray) (j c : Nat) : Prop where
  sp : bt s j = 32
  ch : bt s (j + 1) = (c : Int)
  one : isOne (c : Int) = true
theorem one_nw {c : Nat} (h : isOne (c : Int) = true) : isW (c : Int) = false ∧ (c : Int) ≠ 35 := by
  unfold isOne at h
  have := of_decide_eq_true h
  unfold isW
  rw [decide_eq_false_iff_not]
  omega
theorem Sep.gap {s : ByteArray} {j c : Nat} (h : Sep s j c) : Tu.gap s j = j + 1 := by
  have := one_nw h.one
  rw [gap_sp (by rw [h.sp]; rfl), gap_at (by rw [h.ch]; exact this.1) (by rw [h.ch]; exact this.2)]
theorem Sep.sees {s : ByteArray} {j c : Nat} (h : Sep s j c) {st : St} (hi : st.i = j) : Sees s (j + 1) (step s st) ∧ (step s st).now = .one c ∧ (step s st).i = j + 2 := by
  have q := step_sees (s := s) (st := st) (p := j + 1) (by rw [hi]; exact h.gap) (.inl (by omega))
  have e := one_sign h.ch h.one false
  exact ⟨q, by rw [q.now, e], by rw [q.i, e]⟩

theorem sign34 {s : ByteArray} {i : Nat} (h : bt s i = 34) (b : Bool) : sign s i b = ofR .str i (quoted s i) := by
  unfold sign
  rw [h, if_neg (by omega), if_neg (by omega), if_neg (by omega), if_pos rfl]
theorem sign60 {s : ByteArray} {i : Nat} (h : bt s i = 60) (b : Bool) : sign s i b = ofR .iri i (iri s i) := by
  unfold sign
  rw [h, if_neg (by omega), if_pos rfl]
theorem sign95 {s : ByteArray} {i : Nat} (h : bt s i = 95) (b : Bool) : sign s i b = ofR .blk i (blank s i) := by
  unfold sign
  rw [h, if_neg (by omega), if_neg (by omega), if_pos rfl]
theorem sign94 {s : ByteArray} {i : Nat} (h : bt s i = 94) (h1 : bt s (i + 1) = 94) (b : Bool) : sign s i b = (.knd, i + 2) := by
  unfold sign
  rw [h, if_neg (by omega), if_neg (by omega), if_neg (by omega), if_neg (by omega), if_pos rfl, if_pos h1]
theorem sign64 {s : ByteArray} {i k : Nat} (h : bt s i = 64) (hl : language s (i + 1) = .ok () k) : sign s i true = (.lan (sub s (i + 1) k), k) := by
  have hle : letter (bt s (i + 1)) = true := by
    unfold language at hl
    by_cases e : letter (bt s (i + 1)) = true
    · exact e
    · have : run letter s 8 (i + 1) = 0 := by rw [run]; simp [e]
      rw [if_pos this] at hl
      cases hl
  unfold sign
  rw [h, if_neg (by omega), if_neg (by omega), if_neg (by omega), if_neg (by omega), if_neg (by omega), if_pos rfl]
  unfold behAt
  rw [if_neg (by simp), if_neg (by rw [hle]; simp), hl]

theorem step_at {s : ByteArray} {st : St} (h : isW (bt s st.i) = false) (h35 : bt s st.i ≠ 35) : step s st = { st with now := (sign s st.i st.now.isStr).1, p := st.i, i := (sign s st.i st.now.isStr).2 } := by
  unfold step
  rw [gap_at h h35, decide_eq_true rfl, Bool.and_true]

theorem iri_60 {s : ByteArray} {i k : Nat} {l : List UInt8} (h : iri s i = .ok l k) : bt s i = 60 := by
  unfold iri at h
  by_cases e : bt s i = 60
  · exact e
  · rw [if_pos e] at h; cases h

/-- a literal that stands in a text -/
theorem lit_at {s : ByteArray} {p0 j c : Nat} {q : Lit} (hp : parts s p0 = .ok q j) (hs : Sep s j c) {st : St} (h : Sees s p0 st) (hl : (form q.text q.lang q.kind).length ≤ 200) :
    ∃ st', (∀ ob N, objG ob s N st = .ok (form q.text q.lang q.kind) st') ∧ Same st st' ∧ Sees s (j + 1) st' ∧ st'.now = .one c ∧ st'.i = j + 2 := by
  unfold parts at hp
  split at hp
  · cases hp
  · rename_i t j0 hq
    have h34 : bt s p0 = 34 := by
      by_cases e : bt s p0 = 34
      · exact e
      · unfold quoted at hq
        rw [if_pos e] at hq; cases hq
    have hnow : st.now = .str t := by rw [h.now, sign34 h34, hq]; rfl
    have hi : st.i = j0 := by rw [h.i, sign34 h34, hq]; rfl
    have hobj : ∀ ob N, objG ob s N st = lit s t st := fun ob N => by unfold objG; rw [hnow]
    have hstr : st.now.isStr = true := by rw [hnow]; rfl
    split at hp
    · rename_i h64
      split at hp
      · cases hp
      · rename_i k hla
        cases hp
        have e1 := step_at (s := s) (st := st) (by rw [hi, h64]; rfl) (by rw [hi, h64]; omega)
        rw [hstr, hi, sign64 h64 hla] at e1
        have h2 := hs.sees (st := step s st) (by rw [e1])
        refine ⟨step s (step s st), fun ob N => ?_, (Same.step s st).trans (Same.step s _), h2⟩
        rw [hobj, lit, e1]
        simp only
        rw [← e1]
        unfold bnd
        rw [if_neg (Nat.not_lt.2 hl)]
    · rename_i h64
      split at hp
      · rename_i h94
        split at hp
        · cases hp
        · rename_i h95
          split at hp
          · cases hp
          · rename_i m k hir
            cases hp
            have h60 := iri_60 hir
            have e1 := step_at (s := s) (st := st) (by rw [hi, h94]; rfl) (by rw [hi, h94]; omega)
            rw [hstr, hi, sign94 h94 (by simpa using h95)] at e1
            have e2 := step_at (s := s) (st := step s st) (by rw [e1]; simp only; rw [h60]; rfl) (by rw [e1]; simp only; rw [h60]; omega)
            have hn1 : (step s st).now.isStr = false := by rw [e1]; rfl
            have hi1 : (step s st).i = j0 + 2 := by rw [e1]
            rw [hn1, hi1, sign60 h60, hir] at e2
            have hn2 : (step s (step s st)).now = .iri m := by rw [e2]; rfl
            have h2 := hs.sees (st := step s (step s st)) (by rw [e2]; rfl)
            refine ⟨step s (step s (step s st)), fun ob N => ?_, ((Same.step s st).trans (Same.step s _)).trans (Same.step s _), h2⟩
            have hk : (step s st).now = .knd := by rw [e1]
            rw [hobj, lit, hk]
            simp only
            unfold iriP
            rw [hn2]
            simp only
            unfold bnd
            rw [if_neg (Nat.not_lt.2 hl)]
      · rename_i h94
        cases hp
        have h2 := hs.sees (st := st) hi
        refine ⟨step s st, fun ob N => ?_, Same.step s st, h2⟩
        rw [hobj, lit, h2.2.1]
        simp only
        unfold bnd
        rw [if_neg (Nat.not_lt.2 hl)]

theorem kind_len {t : List UInt8} (h : kindOf (arr t) ≠ 0) : t.length ≤ 200 := by
  have := kindOf_len (s := arr t) h
  rwa [arr_sz] at this

/-- what a term in its one form is -/
theorem kind_cases {t : List UInt8} (h : kindOf (arr t) ≠ 0) : (kindOf (arr t) = 1 ∧ iri (arr t) 0 = .ok t t.length) ∨ (kindOf (arr t) = 2 ∧ blank (arr t) 0 = .ok t t.length) ∨
    (kindOf (arr t) = 3 ∧ ∃ p, parts (arr t) 0 = .ok p t.length ∧ form p.text p.lang p.kind = t) := by
  generalize hk : kindOf (arr t) = k at h ⊢
  unfold kindOf at hk
  split at hk
  · omega
  · split at hk
    · omega
    · rename_i p j hw
      split at hk
      · rename_i hp
        obtain ⟨ht, _⟩ := whole_ok hw
        rw [arr_sz] at ht
        obtain ⟨k', l⟩ := p
        simp only at hp hk
        subst hk
        have hl : l = t := hp
        subst hl
        unfold term at ht
        split at ht
        · split at ht
          · cases ht
          · rename_i l' j' hi
            cases ht
            exact .inl ⟨rfl, hi⟩
        · split at ht
          · split at ht
            · cases ht
            · rename_i l' j' hi
              cases ht
              exact .inr (.inl ⟨rfl, hi⟩)
          · split at ht
            · split at ht
              · cases ht
              · rename_i l' j' hi
                cases ht
                unfold literal at hi
                split at hi
                · cases hi
                · rename_i p j'' hp
                  simp only [R.ok.injEq] at hi
                  obtain ⟨hf, rfl⟩ := hi
                  exact .inr (.inr ⟨rfl, p, hp, hf⟩)
            · cases ht
      · omega

theorem iri_at {s : ByteArray} {p0 j : Nat} {t : List UInt8} (hi : iri s p0 = .ok t j) (hl : t.length ≤ 200) {st : St} (h : Sees s p0 st) : st.now = .iri t ∧ st.i = j ∧ res s st = .ok t (step s st) := by
  have e := sign60 (iri_60 hi) false
  rw [hi] at e
  have h1 : st.now = .iri t := by rw [h.now, e]; rfl
  refine ⟨h1, by rw [h.i, e]; rfl, ?_⟩
  unfold res iriP
  rw [h1]
  simp only
  unfold bnd
  rw [if_neg (by omega)]

theorem blank_95 {s : ByteArray} {i k : Nat} {l : List UInt8} (h : blank s i = .ok l k) : bt s i = 95 := by
  unfold blank at h
  by_cases e : bt s i = 95
  · exact e
  · rw [if_pos e] at h; cases h
theorem blank_at {s : ByteArray} {p0 j : Nat} {t : List UInt8} (hi : blank s p0 = .ok t j) {st : St} (h : Sees s p0 st) : st.now = .blk t ∧ st.i = j := by
  have e := sign95 (blank_95 hi) false
  rw [hi] at e
  exact ⟨by rw [h.now, e]; rfl, by rw [h.i, e]; rfl⟩

/-- a subject that stands in a text -/
theorem subj_at {t : List UInt8} (hk : kindOf (arr t) = 1 ∨ kindOf (arr t) = 2) (pre post : List UInt8) {st : St} (h : Sees (arr (pre ++ (t ++ 32 :: post))) pre.length st) :
    st.i = pre.length + t.length ∧ st.now.isStr = false ∧ (∀ ob N, subj ob (arr (pre ++ (t ++ 32 :: post))) N st = if isMade t = true ∧ kindOf (arr t) = 2 then .bad 6 pre.length else .ok t (step (arr (pre ++ (t ++ 32 :: post))) st)) ∧ (kindOf (arr t) = 1 → st.now = .iri t ∧ res (arr (pre ++ (t ++ 32 :: post))) st = .ok t (step (arr (pre ++ (t ++ 32 :: post))) st)) := by
  have hl := kind_len (t := t) (by omega)
  obtain ⟨h1, h2, h3⟩ := place (t := t) (k := kindOf (arr t)) rfl (by omega) pre post
  rcases hk with hk | hk
  · rw [hk] at h1 h2
    simp only [readK, if_true] at h1
    obtain ⟨a, b, c⟩ := iri_at h1 hl h
    refine ⟨b, by rw [a]; rfl, fun ob N => ?_, fun _ => ⟨a, c⟩⟩
    rw [if_neg (by omega)]
    unfold subj
    rw [a]
    exact c
  · rw [hk] at h1 h2
    have h1 : blank (arr (pre ++ (t ++ 32 :: post))) pre.length = .ok t (pre.length + t.length) := by simpa [readK] using h1
    obtain ⟨a, b⟩ := blank_at h1 h
    refine ⟨b, by rw [a]; rfl, fun ob N => ?_, fun e => by omega⟩
    unfold subj
    rw [a]
    simp only
    by_cases hm : isMade t = true
    · rw [if_pos hm, if_pos ⟨hm, hk⟩, h.pl]
    · rw [if_neg hm, if_neg (by simp [hm])]

/-- an object that stands in a text -/
theorem obj_at {t : List UInt8} (hk : kindOf (arr t) ≠ 0) (pre post : List UInt8) {c : Nat} (hs : Sep (arr (pre ++ (t ++ 32 :: post))) (pre.length + t.length) c) {st : St} (h : Sees (arr (pre ++ (t ++ 32 :: post))) pre.length st) :
    ∃ st', (∀ ob N, objG ob (arr (pre ++ (t ++ 32 :: post))) N st = if isMade t = true ∧ kindOf (arr t) = 2 then .bad 6 pre.length else .ok t st') ∧ Same st st' ∧ Sees (arr (pre ++ (t ++ 32 :: post))) (pre.length + t.length + 1) st' ∧ st'.now = .one c ∧ st'.i = pre.length + t.length + 2 := by
  have hl := kind_len hk
  rcases kind_cases hk with ⟨h1, h2⟩ | ⟨h1, h2⟩ | ⟨h1, p, h2, h3⟩
  · obtain ⟨a, b, c1, d⟩ := subj_at (.inl h1) pre post h
    refine ⟨step _ st, fun ob N => ?_, Same.step _ st, hs.sees a⟩
    rw [← c1 ob N]
    unfold objG
    rw [(d h1).1]
  · obtain ⟨a, b, c1, d⟩ := subj_at (.inr h1) pre post h
    refine ⟨step _ st, fun ob N => ?_, Same.step _ st, hs.sees a⟩
    rw [← c1 ob N]
    have hp := (place (t := t) (k := kindOf (arr t)) rfl (by omega) pre post).1
    rw [h1] at hp
    have hp : blank (arr (pre ++ (t ++ 32 :: post))) pre.length = .ok t (pre.length + t.length) := by simpa [readK] using hp
    unfold objG
    rw [(blank_at hp h).1]
  · have hp := (parts_place (s := arr t) (by rw [arr_sz]; exact h2) pre post)
    rw [h3] at hp
    have hfo := form_one p hp.2
    obtain ⟨st', q1, q2⟩ := lit_at hp.1 hs h (by rw [hfo, h3]; exact hl)
    refine ⟨st', fun ob N => ?_, q2⟩
    rw [if_neg (by omega), q1 ob N, hfo, h3]

end Tu
end Go.Proofs.YtnffjoipinhojabGreatDoor

set_option linter.unusedSimpArgs false
set_option linter.unusedVariables false
namespace Go.Proofs.YtnffjoipinhojabGreatDoor
open Back
namespace Tu

/-! What lines.Print writes, as a text for people. -/

theorem subj_at' {s : ByteArray} {t pre post : List UInt8} (hs : s = arr (pre ++ (t ++ 32 :: post))) (hk : kindOf (arr t) = 1 ∨ kindOf (arr t) = 2) {st : St} (h : Sees s pre.length st) :
    st.i = pre.length + t.length ∧ st.now.isStr = false ∧ (∀ ob N, subj ob s N st = if isMade t = true ∧ kindOf (arr t) = 2 then .bad 6 pre.length else .ok t (step s st)) ∧ (kindOf (arr t) = 1 → st.now = .iri t ∧ res s st = .ok t (step s st)) := by
  subst hs
  exact subj_at hk pre post h
theorem obj_at' {s : ByteArray} {t pre post : List UInt8} (hs : s = arr (pre ++ (t ++ 32 :: post))) (hk : kindOf (arr t) ≠ 0) {c : Nat} (hp : Sep s (pre.length + t.length) c) {st : St} (h : Sees s pre.length st) :
    ∃ st', (∀ ob N, objG ob s N st = if isMade t = true ∧ kindOf (arr t) = 2 then .bad 6 pre.length else .ok t st') ∧ Same st st' ∧ Sees s (pre.length + t.length + 1) st' ∧ st'.now = .one c ∧ st'.i = pre.length + t.length + 2 := by
  subst hs
  exact obj_at hk pre post hp h
theorem first_at {s : ByteArray} {t pre post : List UInt8} (hs : s = arr (pre ++ (t ++ 32 :: post))) (hk : kindOf (arr t) ≠ 0) : (isW (bt s pre.length) = false ∧ bt s pre.length ≠ 35 ∧ bt s pre.length ≠ 256) ∧ bt s (pre.length + t.length) = 32 := by
  subst hs
  have h1 := (place (t := t) rfl hk pre post).2.1
  have h2 := at_end pre t post 32
  refine ⟨?_, h2⟩
  rw [h1]
  unfold firstB
  split
  · exact ⟨rfl, by omega, by omega⟩
  · split
    · exact ⟨rfl, by omega, by omega⟩
    · exact ⟨rfl, by omega, by omega⟩

theorem made_kind {t : List UInt8} (h : isMade t = true) (hk : kindOf (arr t) ≠ 0) : kindOf (arr t) = 2 := by
  have h0 : ∃ r, t = 95 :: r := by
    unfold isMade at h
    simp only [Bool.and_eq_true, beq_iff_eq] at h
    cases t with
    | nil => cases h.1.1
    | cons a r =>
      have := h.1.1
      simp only [List.take_succ_cons] at this
      exact ⟨r, by rw [(List.cons.inj this).1]⟩
  obtain ⟨r, rfl⟩ := h0
  have hb : bt (arr (95 :: r)) 0 = 95 := bt_arr (l := 95 :: r) (x := 95) rfl
  rcases kind_cases hk with ⟨h1, h2⟩ | ⟨h1, h2⟩ | ⟨h1, p, h2, h3⟩
  · have := iri_60 h2
    omega
  · exact h1
  · unfold parts quoted at h2
    rw [if_pos (by rw [hb]; omega)] at h2
    cases h2

/-- a sentence with a blank that turtle refuses -/
def madeT (x : Tri) : Bool := isMade x.s || isMade x.o

theorem sound_kinds {x : Tri} (h : soundT x = true) : (kindOf (arr x.s) = 1 ∨ kindOf (arr x.s) = 2) ∧ kindOf (arr x.p) = 1 ∧ kindOf (arr x.o) ≠ 0 := by
  unfold soundT sound3 at h
  simp only [Bool.and_eq_true, Bool.or_eq_true, decide_eq_true_eq, Bool.not_eq_true', decide_eq_false_iff_not] at h
  exact ⟨h.1.1, h.1.2, h.2⟩

theorem gap_one {s : ByteArray} {j : Nat} (h : bt s j = 32) (h2 : isW (bt s (j + 1)) = false) (h3 : bt s (j + 1) ≠ 35) : gap s j = j + 1 := by
  rw [gap_sp (by rw [h]; rfl), gap_at h2 h3]

theorem one_dot : isOne ((46 : Nat) : Int) = true := by decide

theorem verb_iri {s : ByteArray} {st : St} {l : List UInt8} (h : st.now = .iri l) : verb s st = res s st := by
  unfold verb
  rw [h]

theorem sent_at {x : Tri} (hx : soundT x = true) {s : ByteArray} {pre post : List UInt8} (hs : s = arr (pre ++ (lineT x ++ post))) {st : St} (h : Sees s pre.length st) (N : Nat) :
    (madeT x = true → ∃ j, sentL s (N + 1) st = .bad 6 j) ∧
    (madeT x = false → ∃ st1, sentL s (N + 1) st = .ok () st1 ∧ want s 46 st1 = .ok () (step s st1) ∧ st1.i = pre.length + (lineT x).length - 1 ∧ st1.now.isStr = false ∧ st1.said = st.said ++ [x]) ∧ Sg.is_fin st.now = false ∧ bt s (pre.length + (lineT x).length - 1) = 10 ∧ 0 < (lineT x).length := by
  obtain ⟨k1, k2, k3⟩ := sound_kinds hx
  have e1 : s = arr (pre ++ (x.s ++ 32 :: (x.p ++ 32 :: (x.o ++ 32 :: (46 :: 10 :: post))))) := by rw [hs]; unfold lineT; simp
  have e2 : s = arr ((pre ++ (x.s ++ [32])) ++ (x.p ++ 32 :: (x.o ++ 32 :: (46 :: 10 :: post)))) := by rw [e1]; simp
  have e3 : s = arr ((pre ++ (x.s ++ 32 :: (x.p ++ [32]))) ++ (x.o ++ 32 :: (46 :: 10 :: post))) := by rw [e1]; simp
  have l2 : (pre ++ (x.s ++ [32])).length = pre.length + x.s.length + 1 := by simp; omega
  have l3 : (pre ++ (x.s ++ 32 :: (x.p ++ [32]))).length = pre.length + x.s.length + 1 + x.p.length + 1 := by simp; omega
  have l4 : (lineT x).length = x.s.length + 1 + x.p.length + 1 + x.o.length + 3 := by unfold lineT; simp; omega
  have f2 := first_at e2 (by omega)
  have f3 := first_at e3 k3
  have f1 := first_at e1 (by omega)
  rw [l2] at f2
  rw [l3] at f3
  have d46 : bt s (pre.length + x.s.length + 1 + x.p.length + 1 + x.o.length + 1) = 46 := by
    have := bt_at (pre ++ (x.s ++ 32 :: (x.p ++ 32 :: (x.o ++ [32])))) (10 :: post) 46
    rw [e1]
    have e : pre ++ (x.s ++ 32 :: (x.p ++ 32 :: (x.o ++ [32]))) ++ 46 :: 10 :: post = pre ++ (x.s ++ 32 :: (x.p ++ 32 :: (x.o ++ 32 :: (46 :: 10 :: post)))) := by simp
    rw [e] at this
    rw [← show ((46 : UInt8).toNat : Int) = 46 from rfl, ← this]
    congr 1
    simp
    omega
  have d10 : bt s (pre.length + (lineT x).length - 1) = 10 := by
    have := bt_at (pre ++ (x.s ++ 32 :: (x.p ++ 32 :: (x.o ++ [32, 46])))) post 10
    rw [e1]
    have e : pre ++ (x.s ++ 32 :: (x.p ++ 32 :: (x.o ++ [32, 46]))) ++ 10 :: post = pre ++ (x.s ++ 32 :: (x.p ++ 32 :: (x.o ++ 32 :: (46 :: 10 :: post)))) := by simp
    rw [e] at this
    rw [← show ((10 : UInt8).toNat : Int) = 10 from rfl, ← this, l4]
    congr 1
    simp
    omega
  obtain ⟨s1, s2, s3, s4⟩ := subj_at' e1 k1 h
  have hfin : Sg.is_fin st.now = false ∧ Sg.is_pre st.now = false := by
    rcases k1 with k1 | k1
    · rw [(s4 k1).1]; exact ⟨rfl, rfl⟩
    · have hp := (place (t := x.s) (k := kindOf (arr x.s)) rfl (by omega) pre (x.p ++ 32 :: (x.o ++ 32 :: (46 :: 10 :: post)))).1
      rw [k1] at hp
      have hp : blank s pre.length = .ok x.s (pre.length + x.s.length) := by rw [e1]; simpa [readK] using hp
      rw [(blank_at hp h).1]
      exact ⟨rfl, rfl⟩
  have g2 := step_sees (s := s) (st := st) (p := pre.length + x.s.length + 1) (by rw [s1, gap_one f1.2 f2.1.1 f2.1.2.1]) (.inr s2)
  rw [← l2] at g2
  obtain ⟨v1, v2, _, v4⟩ := subj_at' e2 (.inl k2) g2
  obtain ⟨va, vb⟩ := v4 k2
  rw [l2] at v1
  have g3 := step_sees (s := s) (st := step s st) (p := pre.length + x.s.length + 1 + x.p.length + 1) (by rw [v1, gap_one f2.2 f3.1.1 f3.1.2.1]) (.inr v2)
  rw [← l3] at g3
  have hsep : Sep s ((pre ++ (x.s ++ 32 :: (x.p ++ [32]))).length + x.o.length) 46 := by
    refine ⟨?_, ?_, one_dot⟩
    · rw [l3]; exact f3.2
    · rw [l3]; exact d46
  obtain ⟨st', o1, o2, o3, o4, o5⟩ := obj_at' e3 k3 hsep g3
  rw [l3] at o5
  have hsen : sentL s (N + 1) st = match subj (inn s (N + 1) 8) s (N + 1) st with
    | .bad n j => .bad n j
    | .ok su st1 => list (obj s (N + 1) 8) s (N + 1) su st1 := sentL_sub hfin.2
  have hlist : ∀ su, list (obj s (N + 1) 8) s (N + 1) su (step s st) = match objs (obj s (N + 1) 8) s (N + 1) su x.p (step s (step s st)) with
    | .bad n j => .bad n j
    | .ok _ st2 => listL (obj s (N + 1) 8) s (N + 1) su (N + 1) st2 := fun su => by
    unfold list
    rw [verb_iri va, vb]
    generalize hq : objs (obj s (N + 1) 8) s (N + 1) su x.p (step s (step s st)) = q
    show (match objs (obj s (N + 1) 8) s (N + 1) su x.p (step s (step s st)) with
      | PR.bad n j => PR.bad n j
      | PR.ok _ st2 => listL (obj s (N + 1) 8) s (N + 1) su (N + 1) st2) = _
    rw [hq]
  have hobj : obj s (N + 1) 8 (step s (step s st)) = if isMade x.o = true ∧ kindOf (arr x.o) = 2 then .bad 6 (pre ++ (x.s ++ 32 :: (x.p ++ [32]))).length else .ok x.o st' := by
    rw [obj_inn]; exact o1 _ _
  refine ⟨fun hm => ?_, fun hm => ?_, hfin.1, d10, by omega⟩
  · rw [hsen, s3]
    by_cases ha : isMade x.s = true
    · rw [if_pos ⟨ha, made_kind ha (by omega)⟩]
      exact ⟨_, rfl⟩
    · have hb : isMade x.o = true := by
        unfold madeT at hm
        simpa [ha] using hm
      rw [if_neg (fun q => ha q.1)]
      simp only
      rw [hlist]
      unfold objs
      rw [hobj, if_pos ⟨hb, made_kind hb k3⟩]
      exact ⟨_, rfl⟩
  · unfold madeT at hm
    simp only [Bool.or_eq_false_iff] at hm
    rw [hsen, s3, if_neg (by rw [hm.1]; simp)]
    simp only
    rw [hlist]
    unfold objs
    rw [hobj, if_neg (by rw [hm.2]; simp)]
    simp only
    have t44 : takes 44 (say st' x.s x.p x.o) = false := by unfold takes; show (match st'.now with | .one d => decide (d = 44) | _ => false) = false; rw [o4]; rfl
    have t59 : takes 59 (say st' x.s x.p x.o) = false := by unfold takes; show (match st'.now with | .one d => decide (d = 59) | _ => false) = false; rw [o4]; rfl
    rw [objsL, if_neg (by rw [t44]; simp)]
    simp only
    rw [listL, if_neg (by rw [t59]; simp)]
    refine ⟨say st' x.s x.p x.o, rfl, ?_, ?_, ?_, ?_⟩
    · have : (say st' x.s x.p x.o).now = .one 46 := o4
      unfold want
      rw [this]
      simp
    · show st'.i = _
      rw [o5, l4]
      omega
    · show st'.now.isStr = false
      rw [o4]; rfl
    · show st'.said ++ [⟨x.s, x.p, x.o⟩] = _
      rw [o2.said]
      rfl

theorem fin_sign {s : ByteArray} {i : Nat} (h : bt s i = 256) (b : Bool) : sign s i b = (.fin, i) := by
  unfold sign
  rw [if_pos h]

/-- the sign behind the blanks at the end of a line -/
theorem gap_line {s : ByteArray} {j : Nat} (h : bt s j = 10) (h2 : isW (bt s (j + 1)) = false) (h3 : bt s (j + 1) ≠ 35) : gap s j = j + 1 := by
  rw [gap_sp (by rw [h]; rfl), gap_at h2 h3]

theorem printT_cons (x : Tri) (l : List Tri) : printT (x :: l) = lineT x ++ printT l := rfl

/-- what stands where the next line begins -/
theorem line_first {s : ByteArray} {l : List Tri} {pre : List UInt8} (hs : s = arr (pre ++ printT l)) (h : ∀ x ∈ l, soundT x = true) : isW (bt s pre.length) = false ∧ bt s pre.length ≠ 35 := by
  cases l with
  | nil =>
    have : bt s pre.length = 256 := by rw [hs]; exact bt_arr_none (by simp [printT])
    rw [this]
    exact ⟨rfl, by omega⟩
  | cons x l =>
    have k := sound_kinds (h x (List.mem_cons_self ..))
    have e : s = arr (pre ++ (x.s ++ 32 :: (x.p ++ 32 :: (x.o ++ 32 :: (46 :: 10 :: printT l))))) := by rw [hs, printT_cons]; unfold lineT; simp
    have f := first_at e (by omega)
    exact ⟨f.1.1, f.1.2.1⟩

theorem text_lines (N : Nat) : ∀ (l : List Tri) (s : ByteArray) (pre : List UInt8) (st : St) (n : Nat), s = arr (pre ++ printT l) → (∀ x ∈ l, soundT x = true) → Sees s pre.length st → l.length < n →
    (l.any madeT = true → ∃ j, textL s (N + 1) n st = .bad 6 j) ∧ (l.any madeT = false → ∃ st', textL s (N + 1) n st = .ok () st' ∧ st'.said = st.said ++ l)
  | [], s, pre, st, n, hs, hx, h, hn => by
    obtain ⟨n, rfl⟩ : ∃ m, n = m + 1 := ⟨n - 1, by simp at hn; omega⟩
    have hb : bt s pre.length = 256 := by rw [hs]; exact bt_arr_none (by simp [printT])
    have hnow : st.now = .fin := by rw [h.now, fin_sign hb]
    refine ⟨fun q => by simp at q, fun _ => ⟨st, textL_fin hnow, by simp⟩⟩
  | x :: l, s, pre, st, n, hs, hx, h, hn => by
    obtain ⟨n, rfl⟩ : ∃ m, n = m + 1 := ⟨n - 1, by simp at hn; omega⟩
    obtain ⟨a, b, c, d, e⟩ := sent_at (hx x (List.mem_cons_self ..)) (s := s) (pre := pre) (post := printT l) (by rw [hs, printT_cons]) h N
    rw [textL_on c]
    cases hm : madeT x with
    | true =>
      obtain ⟨j, hj⟩ := a hm
      rw [hj]
      refine ⟨fun _ => ⟨j, rfl⟩, fun q => by simp [hm] at q⟩
    | false =>
      obtain ⟨st1, b1, b2, b3, b4, b5⟩ := b hm
      rw [b1]
      simp only
      rw [b2]
      simp only
      have hs2 : s = arr ((pre ++ lineT x) ++ printT l) := by rw [hs, printT_cons, List.append_assoc]
      have hl2 : (pre ++ lineT x).length = pre.length + (lineT x).length := List.length_append
      have hf := line_first hs2 (fun y hy => hx y (List.mem_cons_of_mem _ hy))
      rw [hl2] at hf
      have hsee := step_sees (s := s) (st := st1) (p := pre.length + (lineT x).length) (by
        rw [b3, gap_line d (by rw [show pre.length + (lineT x).length - 1 + 1 = pre.length + (lineT x).length by omega]; exact hf.1) (by rw [show pre.length + (lineT x).length - 1 + 1 = pre.length + (lineT x).length by omega]; exact hf.2)]
        omega) (.inr b4)
      rw [← hl2] at hsee
      have ih := text_lines N l s (pre ++ lineT x) (step s st1) n hs2 (fun y hy => hx y (List.mem_cons_of_mem _ hy)) hsee (by simp at hn; omega)
      have hany : (x :: l).any madeT = l.any madeT := by simp [hm]
      rw [hany]
      refine ⟨ih.1, fun q => ?_⟩
      obtain ⟨st', i1, i2⟩ := ih.2 q
      refine ⟨st', i1, ?_⟩
      rw [i2]
      show st1.said ++ l = _
      rw [b5]
      simp

theorem lines_le : ∀ l : List Tri, l.length ≤ (printT l).length
  | [] => by simp
  | x :: l => by
    have := lines_le l
    rw [printT_cons]
    unfold lineT
    simp
    omega

/-- what lines.Print writes, read as a text for people -/
theorem textP_lines (l : List Tri) (hx : ∀ x ∈ l, soundT x = true) : (l.any madeT = true → ∃ j, textP (arr (printT l)) = .bad 6 j) ∧ (l.any madeT = false → ∃ st, textP (arr (printT l)) = .ok () st ∧ st.said = l) := by
  have hf := line_first (s := arr (printT l)) (pre := []) (l := l) rfl hx
  have h0 := step_sees (s := arr (printT l)) (st := ⟨.none, 0, 0, [], 0, 0, []⟩) (p := 0) (gap_at hf.1 hf.2) (.inr rfl)
  have hle := lines_le l
  have := text_lines (2 * (arr (printT l)).size + 1) l (arr (printT l)) [] _ (2 * (arr (printT l)).size + 2) rfl hx h0 (by rw [arr_sz]; omega)
  refine ⟨this.1, fun q => ?_⟩
  obtain ⟨st, a, b⟩ := this.2 q
  exact ⟨st, a, b⟩

end Tu
end Go.Proofs.YtnffjoipinhojabGreatDoor

