import Derived.Test.YtfapcangooodeabGreatDoorK36
set_option linter.unusedSimpArgs false
set_option linter.unusedVariables false
namespace Go.Proofs.YtfapcangooodeabGreatDoor
open Back
namespace Tu

/-! What stands at a place of a text is read there. -/

theorem gap_at {s : ByteArray} {i : Nat} (h : isW (bt s i) = false) (h35 : bt s i ≠ 35) : gap s i = i := by
  have hr : runU isW s i = i := runU_end (by rw [h]; simp)
  rw [gap_end (by rw [hr]; exact h35), hr]
theorem gap_sp {s : ByteArray} {i : Nat} (h : isW (bt s i) = true) : gap s i = gap s (i + 1) := by
  have hlt : i < s.size := by
    refine bt_in (c := bt s i) rfl ?_
    unfold isW at h
    have := of_decide_eq_true h
    omega
  have hr : runU isW s i = runU isW s (i + 1) := runU_on ⟨hlt, h⟩
  by_cases hb : bt s (runU isW s (i + 1)) = 35
  · rw [gap_on (by rw [hr]; exact hb), gap_on hb, hr]
  · rw [gap_end (by rw [hr]; exact hb), gap_end hb, hr]

structure Sees (s : ByteArray) (p : Nat) (st : St) : Prop where
  pl : st.p = p
  now : st.now = (sign s p false).1
  i : st.i = (sign s p false).2

structure Same (a b : St) : Prop where
  names : b.names = a.names
  depth : b.depth = a.depth
  made : b.made = a.made
  said : b.said = a.said
theorem Same.trans {a b c : St} (h : Same a b) (k : Same b c) : Same a c := ⟨k.names.trans h.names, k.depth.trans h.depth, k.made.trans h.made, k.said.trans h.said⟩
theorem Same.step (s : ByteArray) (st : St) : Same st (step s st) := ⟨rfl, rfl, rfl, rfl⟩

theorem step_sees {s : ByteArray} {st : St} {p : Nat} (hg : gap s st.i = p) (h : st.i < p ∨ st.now.isStr = false) : Sees s p (step s st) := by
  have hb : (st.now.isStr && decide (gap s st.i = st.i)) = false := by
    rcases h with h | h
    · rw [decide_eq_false (by omega), Bool.and_false]
    · rw [h, Bool.false_and]
  unfold step
  rw [hb, hg]
  exact ⟨rfl, rfl, rfl⟩

theorem one_sign {s : ByteArray} {i : Nat} {c : Nat} (h : bt s i = (c : Int)) (hc : isOne (c : Int) = true) (b : Bool) : sign s i b = (.one c, i + 1) := by
  have h0 : c = 46 ∨ c = 59 ∨ c = 44 ∨ c = 91 ∨ c = 93 ∨ c = 40 ∨ c = 41 := by
    unfold isOne at hc
    have := of_decide_eq_true hc
    omega
  have hd : digit (c : Int) = false := by
    unfold digit
    rw [decide_eq_false_iff_not]
    omega
  have hl : letter (c : Int) = false := by
    unfold letter
    rw [decide_eq_false_iff_not]
    omega
  unfold sign
  rw [h, if_neg (by omega), if_neg (by omega), if_neg (by omega), if_neg (by omega), if_neg (by omega), if_neg (by omega), if_neg (by rw [hd]; simp; omega), if_neg (by rw [hl]; simp; omega)]
  unfold single
  rw [h, if_pos hc]
  rfl

/-- a blank, and a sign of one byte behind it -/
structure Sep (s : ByteArray) (j c : Nat) : Prop where
  sp : bt s j = 32
  ch : bt s (j + 1) = (c : Int)
  one : isOne (c : Int) = true
theorem one_nw {c : Nat} (h : isOne (c : Int) = true) : isW (c : Int) = false ∧ (c : Int) ≠ 35 := by
  unfold isOne at h
  have := of_decide_eq_true h
  unfold isW
  rw [decide_eq_false_iff_not]
  omega
theorem Sep.gap {s : ByteArray} {j c : Nat} (h : Sep s j c) : Tu.gap s j = j + 1 := by
  have := one_nw h.one
  rw [gap_sp (by rw [h.sp]; rfl), gap_at (by rw [h.ch]; exact this.1) (by rw [h.ch]; exact this.2)]
theorem Sep.sees {s : ByteArray} {j c : Nat} (h : Sep s j c) {st : St} (hi : st.i = j) : Sees s (j + 1) (step s st) ∧ (step s st).now = .one c ∧ (step s st).i = j + 2 := by
  have q := step_sees (s := s) (st := st) (p := j + 1) (by rw [hi]; exact h.gap) (.inl (by omega))
  have e := one_sign h.ch h.one false
  exact ⟨q, by rw [q.now, e], by rw [q.i, e]⟩

theorem sign34 {s : ByteArray} {i : Nat} (h : bt s i = 34) (b : Bool) : sign s i b = ofR .str i (quoted s i) := by
  unfold sign
  rw [h, if_neg (by omega), if_neg (by omega), if_neg (by omega), if_pos rfl]
theorem sign60 {s : ByteArray} {i : Nat} (h : bt s i = 60) (b : Bool) : sign s i b = ofR .iri i (iri s i) := by
  unfold sign
  rw [h, if_neg (by omega), if_pos rfl]
theorem sign95 {s : ByteArray} {i : Nat} (h : bt s i = 95) (b : Bool) : sign s i b = ofR .blk i (blank s i) := by
  unfold sign
  rw [h, if_neg (by omega), if_neg (by omega), if_pos rfl]
theorem sign94 {s : ByteArray} {i : Nat} (h : bt s i = 94) (h1 : bt s (i + 1) = 94) (b : Bool) : sign s i b = (.knd, i + 2) := by
  unfold sign
  rw [h, if_neg (by omega), if_neg (by omega), if_neg (by omega), if_neg (by omega), if_pos rfl, if_pos h1]
theorem sign64 {s : ByteArray} {i k : Nat} (h : bt s i = 64) (hl : language s (i + 1) = .ok () k) : sign s i true = (.lan (sub s (i + 1) k), k) := by
  have hle : letter (bt s (i + 1)) = true := by
    unfold language at hl
    by_cases e : letter (bt s (i + 1)) = true
    · exact e
    · have : run letter s 8 (i + 1) = 0 := by rw [run]; simp [e]
      rw [if_pos this] at hl
      cases hl
  unfold sign
  rw [h, if_neg (by omega), if_neg (by omega), if_neg (by omega), if_neg (by omega), if_neg (by omega), if_pos rfl]
  unfold behAt
  rw [if_neg (by simp), if_neg (by rw [hle]; simp), hl]

theorem step_at {s : ByteArray} {st : St} (h : isW (bt s st.i) = false) (h35 : bt s st.i ≠ 35) : step s st = { st with now := (sign s st.i st.now.isStr).1, p := st.i, i := (sign s st.i st.now.isStr).2 } := by
  unfold step
  rw [gap_at h h35, decide_eq_true rfl, Bool.and_true]

theorem iri_60 {s : ByteArray} {i k : Nat} {l : List UInt8} (h : iri s i = .ok l k) : bt s i = 60 := by
  unfold iri at h
  by_cases e : bt s i = 60
  · exact e
  · rw [if_pos e] at h; cases h

/-- a literal that stands in a text -/
theorem lit_at {s : ByteArray} {p0 j c : Nat} {q : Lit} (hp : parts s p0 = .ok q j) (hs : Sep s j c) {st : St} (h : Sees s p0 st) (hl : (form q.text q.lang q.kind).length ≤ 200) :
    ∃ st', (∀ ob N, objG ob s N st = .ok (form q.text q.lang q.kind) st') ∧ Same st st' ∧ Sees s (j + 1) st' ∧ st'.now = .one c ∧ st'.i = j + 2 := by
  unfold parts at hp
  split at hp
  · cases hp
  · rename_i t j0 hq
    have h34 : bt s p0 = 34 := by
      by_cases e : bt s p0 = 34
      · exact e
      · unfold quoted at hq
        rw [if_pos e] at hq; cases hq
    have hnow : st.now = .str t := by rw [h.now, sign34 h34, hq]; rfl
    have hi : st.i = j0 := by rw [h.i, sign34 h34, hq]; rfl
    have hobj : ∀ ob N, objG ob s N st = lit s t st := fun ob N => by unfold objG; rw [hnow]
    have hstr : st.now.isStr = true := by rw [hnow]; rfl
    split at hp
    · rename_i h64
      split at hp
      · cases hp
      · rename_i k hla
        cases hp
        have e1 := step_at (s := s) (st := st) (by rw [hi, h64]; rfl) (by rw [hi, h64]; omega)
        rw [hstr, hi, sign64 h64 hla] at e1
        have h2 := hs.sees (st := step s st) (by rw [e1])
        refine ⟨step s (step s st), fun ob N => ?_, (Same.step s st).trans (Same.step s _), h2⟩
        rw [hobj, lit, e1]
        simp only
        rw [← e1]
        unfold bnd
        rw [if_neg (Nat.not_lt.2 hl)]
    · rename_i h64
      split at hp
      · rename_i h94
        split at hp
        · cases hp
        · rename_i h95
          split at hp
          · cases hp
          · rename_i m k hir
            cases hp
            have h60 := iri_60 hir
            have e1 := step_at (s := s) (st := st) (by rw [hi, h94]; rfl) (by rw [hi, h94]; omega)
            rw [hstr, hi, sign94 h94 (by simpa using h95)] at e1
            have e2 := step_at (s := s) (st := step s st) (by rw [e1]; simp only; rw [h60]; rfl) (by rw [e1]; simp only; rw [h60]; omega)
            have hn1 : (step s st).now.isStr = false := by rw [e1]; rfl
            have hi1 : (step s st).i = j0 + 2 := by rw [e1]
            rw [hn1, hi1, sign60 h60, hir] at e2
            have hn2 : (step s (step s st)).now = .iri m := by rw [e2]; rfl
            have h2 := hs.sees (st := step s (step s st)) (by rw [e2]; rfl)
            refine ⟨step s (step s (step s st)), fun ob N => ?_, ((Same.step s st).trans (Same.step s _)).trans (Same.step s _), h2⟩
            have hk : (step s st).now = .knd := by rw [e1]
            rw [hobj, lit, hk]
            simp only
            unfold iriP
            rw [hn2]
            simp only
            unfold bnd
            rw [if_neg (Nat.not_lt.2 hl)]
      · rename_i h94
        cases hp
        have h2 := hs.sees (st := st) hi
        refine ⟨step s st, fun ob N => ?_, Same.step s st, h2⟩
        rw [hobj, lit, h2.2.1]
        simp only
        unfold bnd
        rw [if_neg (Nat.not_lt.2 hl)]

theorem kind_len {t : List UInt8} (h : kindOf (arr t) ≠ 0) : t.length ≤ 200 := by
  have := kindOf_len (s := arr t) h
  rwa [arr_sz] at this

/-- what a term in its one form is -/
theorem kind_cases {t : List UInt8} (h : kindOf (arr t) ≠ 0) : (kindOf (arr t) = 1 ∧ iri (arr t) 0 = .ok t t.length) ∨ (kindOf (arr t) = 2 ∧ blank (arr t) 0 = .ok t t.length) ∨
    (kindOf (arr t) = 3 ∧ ∃ p, parts (arr t) 0 = .ok p t.length ∧ form p.text p.lang p.kind = t) := by
  generalize hk : kindOf (arr t) = k at h ⊢
  unfold kindOf at hk
  split at hk
  · omega
  · split at hk
    · omega
    · rename_i p j hw
      split at hk
      · rename_i hp
        obtain ⟨ht, _⟩ := whole_ok hw
        rw [arr_sz] at ht
        obtain ⟨k', l⟩ := p
        simp only at hp hk
        subst hk
        have hl : l = t := hp
        subst hl
        unfold term at ht
        split at ht
        · split at ht
          · cases ht
          · rename_i l' j' hi
            cases ht
            exact .inl ⟨rfl, hi⟩
        · split at ht
          · split at ht
            · cases ht
            · rename_i l' j' hi
              cases ht
              exact .inr (.inl ⟨rfl, hi⟩)
          · split at ht
            · split at ht
              · cases ht
              · rename_i l' j' hi
                cases ht
                unfold literal at hi
                split at hi
                · cases hi
                · rename_i p j'' hp
                  simp only [R.ok.injEq] at hi
                  obtain ⟨hf, rfl⟩ := hi
                  exact .inr (.inr ⟨rfl, p, hp, hf⟩)
            · cases ht
      · omega

theorem iri_at {s : ByteArray} {p0 j : Nat} {t : List UInt8} (hi : iri s p0 = .ok t j) (hl : t.length ≤ 200) {st : St} (h : Sees s p0 st) : st.now = .iri t ∧ st.i = j ∧ res s st = .ok t (step s st) := by
  have e := sign60 (iri_60 hi) false
  rw [hi] at e
  have h1 : st.now = .iri t := by rw [h.now, e]; rfl
  refine ⟨h1, by rw [h.i, e]; rfl, ?_⟩
  unfold res iriP
  rw [h1]
  simp only
  unfold bnd
  rw [if_neg (by omega)]

theorem blank_95 {s : ByteArray} {i k : Nat} {l : List UInt8} (h : blank s i = .ok l k) : bt s i = 95 := by
  unfold blank at h
  by_cases e : bt s i = 95
  · exact e
  · rw [if_pos e] at h; cases h
theorem blank_at {s : ByteArray} {p0 j : Nat} {t : List UInt8} (hi : blank s p0 = .ok t j) {st : St} (h : Sees s p0 st) : st.now = .blk t ∧ st.i = j := by
  have e := sign95 (blank_95 hi) false
  rw [hi] at e
  exact ⟨by rw [h.now, e]; rfl, by rw [h.i, e]; rfl⟩

/-- a subject that stands in a text -/
theorem subj_at {t : List UInt8} (hk : kindOf (arr t) = 1 ∨ kindOf (arr t) = 2) (pre post : List UInt8) {st : St} (h : Sees (arr (pre ++ (t ++ 32 :: post))) pre.length st) :
    st.i = pre.length + t.length ∧ st.now.isStr = false ∧ (∀ ob N, subj ob (arr (pre ++ (t ++ 32 :: post))) N st = if isMade t = true ∧ kindOf (arr t) = 2 then .bad 6 pre.length else .ok t (step (arr (pre ++ (t ++ 32 :: post))) st)) ∧ (kindOf (arr t) = 1 → st.now = .iri t ∧ res (arr (pre ++ (t ++ 32 :: post))) st = .ok t (step (arr (pre ++ (t ++ 32 :: post))) st)) := by
  have hl := kind_len (t := t) (by omega)
  obtain ⟨h1, h2, h3⟩ := place (t := t) (k := kindOf (arr t)) rfl (by omega) pre post
  rcases hk with hk | hk
  · rw [hk] at h1 h2
    simp only [readK, if_true] at h1
    obtain ⟨a, b, c⟩ := iri_at h1 hl h
    refine ⟨b, by rw [a]; rfl, fun ob N => ?_, fun _ => ⟨a, c⟩⟩
    rw [if_neg (by omega)]
    unfold subj
    rw [a]
    exact c
  · rw [hk] at h1 h2
    have h1 : blank (arr (pre ++ (t ++ 32 :: post))) pre.length = .ok t (pre.length + t.length) := by simpa [readK] using h1
    obtain ⟨a, b⟩ := blank_at h1 h
    refine ⟨b, by rw [a]; rfl, fun ob N => ?_, fun e => by omega⟩
    unfold subj
    rw [a]
    simp only
    by_cases hm : isMade t = true
    · rw [if_pos hm, if_pos ⟨hm, hk⟩, h.pl]
    · rw [if_neg hm, if_neg (by simp [hm])]

/-- an object that stands in a text -/
theorem obj_at {t : List UInt8} (hk : kindOf (arr t) ≠ 0) (pre post : List UInt8) {c : Nat} (hs : Sep (arr (pre ++ (t ++ 32 :: post))) (pre.length + t.length) c) {st : St} (h : Sees (arr (pre ++ (t ++ 32 :: post))) pre.length st) :
    ∃ st', (∀ ob N, objG ob (arr (pre ++ (t ++ 32 :: post))) N st = if isMade t = true ∧ kindOf (arr t) = 2 then .bad 6 pre.length else .ok t st') ∧ Same st st' ∧ Sees (arr (pre ++ (t ++ 32 :: post))) (pre.length + t.length + 1) st' ∧ st'.now = .one c ∧ st'.i = pre.length + t.length + 2 := by
  have hl := kind_len hk
  rcases kind_cases hk with ⟨h1, h2⟩ | ⟨h1, h2⟩ | ⟨h1, p, h2, h3⟩
  · obtain ⟨a, b, c1, d⟩ := subj_at (.inl h1) pre post h
    refine ⟨step _ st, fun ob N => ?_, Same.step _ st, hs.sees a⟩
    rw [← c1 ob N]
    unfold objG
    rw [(d h1).1]
  · obtain ⟨a, b, c1, d⟩ := subj_at (.inr h1) pre post h
    refine ⟨step _ st, fun ob N => ?_, Same.step _ st, hs.sees a⟩
    rw [← c1 ob N]
    have hp := (place (t := t) (k := kindOf (arr t)) rfl (by omega) pre post).1
    rw [h1] at hp
    have hp : blank (arr (pre ++ (t ++ 32 :: post))) pre.length = .ok t (pre.length + t.length) := by simpa [readK] using hp
    unfold objG
    rw [(blank_at hp h).1]
  · have hp := (parts_place (s := arr t) (by rw [arr_sz]; exact h2) pre post)
    rw [h3] at hp
    have hfo := form_one p hp.2
    obtain ⟨st', q1, q2⟩ := lit_at hp.1 hs h (by rw [hfo, h3]; exact hl)
    refine ⟨st', fun ob N => ?_, q2⟩
    rw [if_neg (by omega), q1 ob N, hfo, h3]

end Tu
end Go.Proofs.YtfapcangooodeabGreatDoor

set_option linter.unusedSimpArgs false
set_option linter.unusedVariables false
namespace Go.Proofs.YtfapcangooodeabGreatDoor
open Back
namespace Tu

/-! What lines.Print writes, as a text for people. -/

theorem obj_at' {s : ByteArray} {t pre post : List UInt8} (hs : s = arr (pre ++ (t ++ 32 :: post))) (hk : kindOf (arr t) ≠ 0) {c : Nat} (hp : Sep s (pre.length + t.length) c) {st : St} (h : Sees s pre.length st) :
    ∃ st', (∀ ob N, objG ob s N st = if isMade t = true ∧ kindOf (arr t) = 2 then .bad 6 pre.length else .ok t st') ∧ Same st st' ∧ Sees s (pre.length + t.length + 1) st' ∧ st'.now = .one c ∧ st'.i = pre.length + t.length + 2 := by
  subst hs
  exact obj_at hk pre post hp h
theorem first_at {s : ByteArray} {t pre post : List UInt8} (hs : s = arr (pre ++ (t ++ 32 :: post))) (hk : kindOf (arr t) ≠ 0) : (isW (bt s pre.length) = false ∧ bt s pre.length ≠ 35 ∧ bt s pre.length ≠ 256) ∧ bt s (pre.length + t.length) = 32 := by
  subst hs
  have h1 := (place (t := t) rfl hk pre post).2.1
  have h2 := at_end pre t post 32
  refine ⟨?_, h2⟩
  rw [h1]
  unfold firstB
  split
  · exact ⟨rfl, by omega, by omega⟩
  · split
    · exact ⟨rfl, by omega, by omega⟩
    · exact ⟨rfl, by omega, by omega⟩

/-- a sentence with a blank that turtle refuses -/
def madeT (x : Tri) : Bool := isMade x.s || isMade x.o

theorem sound_kinds {x : Tri} (h : soundT x = true) : (kindOf (arr x.s) = 1 ∨ kindOf (arr x.s) = 2) ∧ kindOf (arr x.p) = 1 ∧ kindOf (arr x.o) ≠ 0 := by
  unfold soundT sound3 at h
  simp only [Bool.and_eq_true, Bool.or_eq_true, decide_eq_true_eq, Bool.not_eq_true', decide_eq_false_iff_not] at h
  exact ⟨h.1.1, h.1.2, h.2⟩

theorem gap_one {s : ByteArray} {j : Nat} (h : bt s j = 32) (h2 : isW (bt s (j + 1)) = false) (h3 : bt s (j + 1) ≠ 35) : gap s j = j + 1 := by
  rw [gap_sp (by rw [h]; rfl), gap_at h2 h3]

theorem fin_sign {s : ByteArray} {i : Nat} (h : bt s i = 256) (b : Bool) : sign s i b = (.fin, i) := by
  unfold sign
  rw [if_pos h]

/-- the sign behind the blanks at the end of a line -/
theorem gap_line {s : ByteArray} {j : Nat} (h : bt s j = 10) (h2 : isW (bt s (j + 1)) = false) (h3 : bt s (j + 1) ≠ 35) : gap s j = j + 1 := by
  rw [gap_sp (by rw [h]; rfl), gap_at h2 h3]

end Tu
end Go.Proofs.YtfapcangooodeabGreatDoor

