import Derived.Test.YtnffjoipinhojabGreatDoorK34
set_option linter.unusedSimpArgs false
set_option linter.unusedVariables false
namespace Go.Proofs.YtnffjoipinhojabGreatDoor
namespace Back

/-! What stands in a text in its one form, with a blank behind it, is read there as itself. -/

theorem run_place (p : Int → Bool) (f : Int → Int) (hp : ∀ c, p (f c) = p c) (h32 : p 32 = false) (h256 : p 256 = false) (s s' : ByteArray) : ∀ (k i i' : Nat), i ≤ s.size → (∀ n, i + n < s.size → bt s' (i' + n) = f (bt s (i + n))) → bt s' (i' + (s.size - i)) = 32 → run p s' k i' = run p s k i := by
  intro k
  induction k with
  | zero => intro i i' _ _ _; rfl
  | succ k ih =>
    intro i i' hi h he
    by_cases hlt : i < s.size
    · have h0 := h 0 (by omega)
      simp only [Nat.add_zero] at h0
      simp only [run]
      rw [h0, hp, ih (i + 1) (i' + 1) (by omega) (fun n hn => by have := h (n + 1) (by omega); rw [show i' + 1 + n = i' + (n + 1) by omega, show i + 1 + n = i + (n + 1) by omega]; exact this) (by rw [show i' + 1 + (s.size - (i + 1)) = i' + (s.size - i) by omega]; exact he)]
    · have e : s.size - i = 0 := by omega
      rw [e, Nat.add_zero] at he
      simp only [run]
      rw [he, h32, bt_end (s := s) (by omega), h256]
      rfl

theorem langTail_place (s s' : ByteArray) : ∀ (n i i' : Nat), s.size - i < n → i ≤ s.size → (∀ n, i + n < s.size → bt s' (i' + n) = lowI (bt s (i + n))) → bt s' (i' + (s.size - i)) = 32 → langTail s i = .ok () s.size → langTail s' i' = .ok () (i' + (s.size - i)) := by
  intro n
  induction n with
  | zero => intro i i' h; omega
  | succ n ih =>
    intro i i' hn hi h he hl
    rw [langTail] at hl ⊢
    split at hl
    · rename_i hd
      have hin := bt_in hd (by omega)
      have h0 := h 0 (by omega)
      simp only [Nat.add_zero] at h0
      rw [dif_pos (by rw [h0, dash_low]; exact hd)]
      have h1 : ∀ n, i + 1 + n < s.size → bt s' (i' + 1 + n) = lowI (bt s (i + 1 + n)) := fun n hn => by have := h (n + 1) (by omega); rw [show i' + 1 + n = i' + (n + 1) by omega, show i + 1 + n = i + (n + 1) by omega]; exact this
      have he1 : bt s' (i' + 1 + (s.size - (i + 1))) = 32 := by rw [show i' + 1 + (s.size - (i + 1)) = i' + (s.size - i) by omega]; exact he
      rw [run_place alnum lowI alnum_low (by decide) (by decide) s s' 8 (i + 1) (i' + 1) (by omega) h1 he1]
      split at hl
      · cases hl
      · rename_i hr
        rw [if_neg hr]
        have hle := (run_le alnum (fun c hc => by have := alnum_lt hc; omega) s 8 (i + 1)).2
        have hle2 : i + 1 + run alnum s 8 (i + 1) ≤ s.size := by omega
        rw [ih (i + 1 + run alnum s 8 (i + 1)) (i' + 1 + run alnum s 8 (i + 1)) (by omega) hle2 (fun n hn => by
          have := h1 (run alnum s 8 (i + 1) + n) (by omega)
          rw [← Nat.add_assoc, ← Nat.add_assoc] at this
          exact this) (by rw [show i' + 1 + run alnum s 8 (i + 1) + (s.size - (i + 1 + run alnum s 8 (i + 1))) = i' + (s.size - i) by omega]; exact he) hl]
        exact congrArg (R.ok _) (by omega)
    · simp only [R.ok.injEq, true_and] at hl
      have e : s.size - i = 0 := by omega
      rw [e, Nat.add_zero] at he ⊢
      rw [dif_neg (by rw [he]; decide)]
      rfl

theorem language_place {s s' : ByteArray} {i i' : Nat} (hi : i ≤ s.size) (h : ∀ n, i + n < s.size → bt s' (i' + n) = lowI (bt s (i + n))) (he : bt s' (i' + (s.size - i)) = 32) (hl : language s i = .ok () s.size) : language s' i' = .ok () (i' + (s.size - i)) := by
  unfold language at hl ⊢
  rw [run_place letter lowI letter_low (by decide) (by decide) s s' 8 i i' hi h he]
  split at hl
  · cases hl
  · rename_i hr
    rw [if_neg hr]
    have hle := (run_le letter (fun c hc => by have := letter_lt hc; omega) s 8 i).2
    have hle2 : i + run letter s 8 i ≤ s.size := by omega
    rw [langTail_place s s' (s.size - (i + run letter s 8 i) + 1) (i + run letter s 8 i) (i' + run letter s 8 i) (by omega) hle2 (fun n hn => by
      have := h (run letter s 8 i + n) (by omega)
      rw [← Nat.add_assoc, ← Nat.add_assoc] at this
      exact this) (by rw [show i' + run letter s 8 i + (s.size - (i + run letter s 8 i)) = i' + (s.size - i) by omega]; exact he) hl]
    exact congrArg (R.ok _) (by omega)

theorem at_mid {pre a post : List UInt8} {n : Nat} {x : UInt8} (h : a[n]? = some x) : bt (arr (pre ++ (a ++ post))) (pre.length + n) = (x.toNat : Int) := by
  apply bt_arr
  have := (List.getElem?_eq_some_iff.1 h).1
  rw [List.getElem?_append_right (by omega), Nat.add_sub_cancel_left, List.getElem?_append_left this]
  exact h

theorem at_end (pre a post : List UInt8) (x : UInt8) : bt (arr (pre ++ (a ++ x :: post))) (pre.length + a.length) = (x.toNat : Int) := by
  have := bt_at (pre ++ a) post x
  rw [List.length_append, List.append_assoc] at this
  exact this

theorem at_same (pre t post : List UInt8) (n : Nat) (h : 0 + n < (arr t).size) : bt (arr (pre ++ (t ++ post))) (pre.length + n) = bt (arr t) (0 + n) := by
  rw [arr_sz, Nat.zero_add] at h
  have hx : t[n]? = some t[n] := List.getElem?_eq_getElem h
  rw [at_mid hx, Nat.zero_add, bt_arr hx]

theorem blank_place {t : List UInt8} (h : blank (arr t) 0 = .ok t t.length) (pre post : List UInt8) :
    blank (arr (pre ++ (t ++ 32 :: post))) pre.length = .ok t (pre.length + t.length) := by
  unfold blank at h
  split at h
  · cases h
  · rename_i h0
    split at h
    · cases h
    · rename_i h1
      split at h
      · cases h
      · rename_i hr
        simp only [R.ok.injEq] at h
        obtain ⟨hs, hl⟩ := h
        have hsz := arr_sz t
        have a0 := at_same pre t (32 :: post) 0 (by omega)
        have a1 := at_same pre t (32 :: post) 1 (by omega)
        simp only [Nat.add_zero] at a0
        have hrun := run_place alnum id (fun _ => rfl) (by decide) (by decide) (arr t) (arr (pre ++ (t ++ 32 :: post))) 20 (0 + 2) (pre.length + 2) (by omega) (fun n hn => by
          have := at_same pre t (32 :: post) (n + 2) (by omega)
          rw [show pre.length + 2 + n = pre.length + (n + 2) by omega, show 0 + 2 + n = 0 + (n + 2) by omega]
          exact this) (by
          have := at_end pre t post 32
          rw [show pre.length + 2 + ((arr t).size - (0 + 2)) = pre.length + t.length by omega]
          exact this)
        unfold blank
        rw [a0, if_neg (by simpa using h0), a1, if_neg h1, hrun, if_neg hr]
        have e : pre.length + 2 + run alnum (arr t) 20 (0 + 2) = pre.length + t.length := by omega
        rw [e, sub_pre]

theorem quoted_place {t : List UInt8} (h : VU t) (pre post : List UInt8) : quoted (arr (pre ++ ([34] ++ (escaped t ++ 34 :: post)))) pre.length = .ok t (pre.length + (1 + (escaped t).length + 1)) := by
  unfold quoted
  rw [if_neg (by have := bt_at pre (escaped t ++ 34 :: post) 34; simp only [List.singleton_append]; rw [this]; decide)]
  have := quoted_back h (pre ++ [34]) post
  rw [List.length_append, List.append_assoc] at this
  simp only [List.length_cons, List.length_nil, Nat.zero_add] at this
  rw [this]
  exact congrArg (R.ok _) (by omega)

theorem behind_quoted (t pre post : List UInt8) (n : Nat) (x : UInt8) (h : post[n]? = some x) : bt (arr (pre ++ ([34] ++ (escaped t ++ 34 :: post)))) (pre.length + (1 + (escaped t).length + 1) + n) = (x.toNat : Int) := by
  have e : pre ++ ([34] ++ (escaped t ++ 34 :: post)) = (pre ++ ([34] ++ (escaped t ++ [34]))) ++ (post ++ []) := by simp
  rw [e]
  have := at_mid (pre := pre ++ ([34] ++ (escaped t ++ [34]))) (post := []) h
  rw [← this]
  congr 1
  simp
  omega

theorem parts_place {s : ByteArray} {p : Lit} (h : parts s 0 = .ok p s.size) (pre post : List UInt8) :
    parts (arr (pre ++ (form p.text p.lang p.kind ++ 32 :: post))) pre.length = .ok (oneParts p) (pre.length + (form p.text p.lang p.kind).length) ∧ (p.lang = [] ∨ p.kind = []) := by
  unfold parts at h
  split at h
  · cases h
  · rename_i t j hq
    have hv := quoted_valid hq
    split at h
    · rename_i h64
      have hin := bt_in h64 (by omega)
      split at h
      · cases h
      · rename_i k hl
        cases h
        have hlt := (language_back [] (by omega) hl).1
        have hsl := sub_len (s := s) (i := j + 1) (j := s.size) (by omega) (Nat.le_refl _)
        have hne : sub s (j + 1) s.size ≠ [] := by intro e; rw [e] at hsl; simp at hsl; omega
        have ef : form t (sub s (j + 1) s.size) [] = [34] ++ (escaped t ++ 34 :: 64 :: Lib.toLowerA (sub s (j + 1) s.size)) := by
          unfold form
          rw [if_pos hne]
          simp [List.append_assoc]
        refine ⟨?_, Or.inr rfl⟩
        simp only
        rw [ef]
        have e0 : pre ++ ([34] ++ (escaped t ++ 34 :: 64 :: Lib.toLowerA (sub s (j + 1) s.size)) ++ 32 :: post) = pre ++ ([34] ++ (escaped t ++ 34 :: (64 :: (Lib.toLowerA (sub s (j + 1) s.size) ++ 32 :: post)))) := by simp
        rw [e0]
        unfold parts
        rw [quoted_place hv.1]
        simp only
        rw [if_pos (by have := behind_quoted t pre (64 :: (Lib.toLowerA (sub s (j + 1) s.size) ++ 32 :: post)) 0 64 rfl; simp only [Nat.add_zero] at this; rw [this]; rfl)]
        have e1 : pre ++ ([34] ++ (escaped t ++ 34 :: (64 :: (Lib.toLowerA (sub s (j + 1) s.size) ++ 32 :: post)))) = (pre ++ ([34] ++ (escaped t ++ [34, 64]))) ++ (Lib.toLowerA (sub s (j + 1) s.size) ++ 32 :: post) := by simp
        have e2 : (pre ++ ([34] ++ (escaped t ++ [34, 64]))).length = pre.length + (1 + (escaped t).length + 1) + 1 := by simp; omega
        rw [e1]
        have hb := language_place (s := s) (s' := arr ((pre ++ ([34] ++ (escaped t ++ [34, 64]))) ++ (Lib.toLowerA (sub s (j + 1) s.size) ++ 32 :: post))) (i := j + 1) (i' := (pre ++ ([34] ++ (escaped t ++ [34, 64]))).length) (by omega) (fun n hn => by
          obtain ⟨x, hx, hb⟩ := sub_get (s := s) (i := j + 1) (j := s.size) hn (Nat.le_refl _)
          rw [hb, ← lowB_low]
          apply at_mid
          unfold Lib.toLowerA
          rw [List.getElem?_map, hx]
          rfl) (by
          have := at_end (pre ++ ([34] ++ (escaped t ++ [34, 64]))) (Lib.toLowerA (sub s (j + 1) s.size)) post 32
          rw [toLower_len, hsl] at this
          exact this) hl
        have e3 := sub_pre (pre ++ ([34] ++ (escaped t ++ [34, 64]))) (Lib.toLowerA (sub s (j + 1) s.size)) (32 :: post)
        rw [toLower_len, hsl] at e3
        rw [e2] at hb e3
        rw [hb]
        simp only
        rw [e3]
        unfold oneParts
        simp only [R.ok.injEq]
        refine ⟨by simp [stringKind], ?_⟩
        simp only [List.length_append, List.length_cons, List.length_nil, toLower_len, hsl]
        omega
    · split at h
      · rename_i h64 h94
        split at h
        · cases h
        · rename_i h95
          split at h
          · cases h
          · rename_i m k hi
            cases h
            have hm := (iri_len hi).2.2.2
            by_cases hk : m = stringKind
            · have ef : form t [] m = [34] ++ (escaped t ++ 34 :: []) := by
                unfold form
                rw [if_neg (by simp), if_neg (by rw [hk]; simp)]
                simp [List.append_assoc]
              refine ⟨?_, Or.inl rfl⟩
              simp only
              rw [ef]
              have e0 : pre ++ ([34] ++ (escaped t ++ 34 :: []) ++ 32 :: post) = pre ++ ([34] ++ (escaped t ++ 34 :: (32 :: post))) := by simp
              rw [e0]
              unfold parts
              rw [quoted_place hv.1]
              simp only
              have hend := behind_quoted t pre (32 :: post) 0 32 rfl
              simp only [Nat.add_zero] at hend
              rw [hend, if_neg (by decide), if_neg (by decide)]
              simp [oneParts, hk, Lib.toLowerA]
              omega
            · have ef : form t [] m = [34] ++ (escaped t ++ 34 :: 94 :: 94 :: m) := by
                unfold form
                rw [if_neg (by simp), if_pos ⟨hm, hk⟩]
                simp [List.append_assoc]
              have hb := iri_back hi (pre ++ ([34] ++ (escaped t ++ [34, 94, 94]))) (32 :: post)
              refine ⟨?_, Or.inl rfl⟩
              simp only
              rw [ef]
              have e0 : pre ++ ([34] ++ (escaped t ++ 34 :: 94 :: 94 :: m) ++ 32 :: post) = pre ++ ([34] ++ (escaped t ++ 34 :: (94 :: 94 :: (m ++ 32 :: post)))) := by simp
              rw [e0]
              unfold parts
              rw [quoted_place hv.1]
              simp only
              have a0 := behind_quoted t pre (94 :: 94 :: (m ++ 32 :: post)) 0 94 rfl
              have a1 := behind_quoted t pre (94 :: 94 :: (m ++ 32 :: post)) 1 94 rfl
              simp only [Nat.add_zero] at a0
              rw [if_neg (by rw [a0]; decide), if_pos (by rw [a0]; decide), if_neg (by rw [a1]; decide)]
              have e1 : pre ++ ([34] ++ (escaped t ++ 34 :: (94 :: 94 :: (m ++ 32 :: post)))) = (pre ++ ([34] ++ (escaped t ++ [34, 94, 94]))) ++ (m ++ 32 :: post) := by simp
              have e2 : (pre ++ ([34] ++ (escaped t ++ [34, 94, 94]))).length = pre.length + (1 + (escaped t).length + 1) + 2 := by simp; omega
              rw [e2] at hb
              rw [e1, hb]
              simp only
              simp [oneParts, hk, Lib.toLowerA]
              omega
      · cases h
        have ef : form t [] [] = [34] ++ (escaped t ++ 34 :: []) := by
          unfold form
          rw [if_neg (by simp), if_neg (by simp)]
          simp [List.append_assoc]
        refine ⟨?_, Or.inl rfl⟩
        simp only
        rw [ef]
        have e0 : pre ++ ([34] ++ (escaped t ++ 34 :: []) ++ 32 :: post) = pre ++ ([34] ++ (escaped t ++ 34 :: (32 :: post))) := by simp
        rw [e0]
        unfold parts
        rw [quoted_place hv.1]
        simp only
        have hend := behind_quoted t pre (32 :: post) 0 32 rfl
        simp only [Nat.add_zero] at hend
        rw [hend, if_neg (by decide), if_neg (by decide)]
        simp [oneParts, stringKind, Lib.toLowerA]
        omega

/-- a term in its one form stands in a text with a blank behind it -/
theorem place {t : List UInt8} {k : Nat} (hk : kindOf (arr t) = k) (h0 : k ≠ 0) (pre post : List UInt8) :
    readK k (arr (pre ++ (t ++ 32 :: post))) pre.length = .ok t (pre.length + t.length) ∧ bt (arr (pre ++ (t ++ 32 :: post))) pre.length = firstB k ∧ (k = 1 ∨ k = 2 ∨ k = 3) := by
  unfold kindOf at hk
  split at hk
  · omega
  · split at hk
    · omega
    · rename_i p j hw
      split at hk
      · rename_i hp
        obtain ⟨ht, _⟩ := whole_ok hw
        rw [arr_sz] at ht
        obtain ⟨k', l⟩ := p
        simp only at hp hk
        subst hk
        have hl : l = t := hp
        subst hl
        unfold term at ht
        split at ht
        · rename_i h60
          split at ht
          · cases ht
          · rename_i l' j' hi
            cases ht
            have hb := iri_back hi pre (32 :: post)
            refine ⟨by simp only [readK, if_true]; exact hb, ?_, .inl rfl⟩
            rw [iri] at hb
            by_cases hh : bt (arr (pre ++ (l ++ 32 :: post))) pre.length = 60
            · rw [hh]; rfl
            · rw [if_pos hh] at hb; cases hb
        · rename_i h60
          split at ht
          · rename_i h95
            split at ht
            · cases ht
            · rename_i l' j' hi
              cases ht
              have hb := blank_place hi pre post
              refine ⟨by simpa [readK] using hb, ?_, .inr (.inl rfl)⟩
              rw [blank] at hb
              by_cases hh : bt (arr (pre ++ (l ++ 32 :: post))) pre.length = 95
              · rw [hh]; rfl
              · rw [if_pos hh] at hb; cases hb
          · split at ht
            · rename_i h34
              split at ht
              · cases ht
              · rename_i l' j' hi
                cases ht
                unfold literal at hi
                split at hi
                · cases hi
                · rename_i p j'' hp
                  simp only [R.ok.injEq] at hi
                  obtain ⟨hf, rfl⟩ := hi
                  have hsz := arr_sz l
                  obtain ⟨hb, hor⟩ := parts_place (s := arr l) (by rw [hsz]; exact hp) pre post
                  rw [hf] at hb
                  refine ⟨?_, ?_, .inr (.inr rfl)⟩
                  · simp only [readK]
                    rw [if_neg (by omega), if_neg (by omega)]
                    unfold literal
                    rw [hb]
                    simp only
                    rw [form_one p hor, hf]
                  · by_cases hh : bt (arr (pre ++ (l ++ 32 :: post))) pre.length = 34
                    · rw [hh]; rfl
                    · rw [parts, quoted, if_pos hh] at hb
                      cases hb
            · cases ht
      · omega

theorem lterm_place {t : List UInt8} {k : Nat} (hk : kindOf (arr t) = k) (h0 : k ≠ 0) (pre post : List UInt8) (ks : List Nat) (hks : ks = [1, 2] ∨ ks = [1] ∨ ks = [1, 2, 3]) (hin : k ∈ ks) :
    lterm (arr (pre ++ (t ++ 32 :: post))) pre.length ks = .ok t (pre.length + t.length) ∧ bt (arr (pre ++ (t ++ 32 :: post))) pre.length = firstB k := by
  obtain ⟨h1, h2, h3⟩ := place hk h0 pre post
  have hl : t.length ≤ 200 := by
    have := kindOf_len (s := arr t) (by rw [hk]; exact h0)
    rwa [arr_sz] at this
  refine ⟨?_, h2⟩
  have ht : termOf (arr (pre ++ (t ++ 32 :: post))) pre.length ks = .ok (k, t) (pre.length + t.length) := by
    rcases h3 with rfl | rfl | rfl
    · rcases hks with rfl | rfl | rfl <;> (unfold termOf; rw [if_pos h2, h1])
    · rcases hks with rfl | rfl | rfl
      · unfold termOf; rw [if_neg (by rw [h2]; decide)]; unfold termOf; rw [if_pos h2, h1]
      · simp at hin
      · unfold termOf; rw [if_neg (by rw [h2]; decide)]; unfold termOf; rw [if_pos h2, h1]
    · rcases hks with rfl | rfl | rfl
      · simp at hin
      · simp at hin
      · unfold termOf; rw [if_neg (by rw [h2]; decide)]; unfold termOf; rw [if_neg (by rw [h2]; decide)]; unfold termOf; rw [if_pos h2, h1]
  unfold lterm
  rw [ht]
  simp only
  rw [if_neg (by omega)]

theorem skipB_one {s : ByteArray} {j : Nat} (h : bt s j = 32) (h1 : bt s (j + 1) ≠ 32 ∧ bt s (j + 1) ≠ 9) : skipB s j = j + 1 := by
  rw [skipB_on (.inl h), skipB_end (by rintro (e | e); exact h1.1 e; exact h1.2 e)]

theorem firstB_no (k : Nat) : firstB k ≠ 32 ∧ firstB k ≠ 9 ∧ firstB k ≠ 10 ∧ firstB k ≠ 35 ∧ firstB k ≠ 256 := by
  unfold firstB
  split
  · omega
  · split <;> omega

/-- a sound sentence's line is read as itself -/
theorem line_place {x : Tri} (h : soundT x = true) (pre post : List UInt8) :
    lineR (arr (pre ++ (lineT x ++ post))) pre.length = .ok [x] (pre.length + (lineT x).length - 1) ∧ bt (arr (pre ++ (lineT x ++ post))) (pre.length + (lineT x).length - 1) = 10 ∧ 0 < (lineT x).length := by
  unfold soundT sound3 at h
  simp only [Bool.and_eq_true, Bool.or_eq_true, decide_eq_true_eq, Bool.not_eq_true', decide_eq_false_iff_not] at h
  obtain ⟨⟨hs, hp⟩, ho⟩ := h
  obtain ⟨⟨xs, xp, xo⟩, rfl⟩ : ∃ y : Tri, y = x := ⟨x, rfl⟩
  simp only at hs hp ho
  have e1 : pre ++ (lineT ⟨xs, xp, xo⟩ ++ post) = pre ++ (xs ++ 32 :: (xp ++ [32] ++ xo ++ [32, 46, 10] ++ post)) := by simp [lineT]
  have e2 : pre ++ (lineT ⟨xs, xp, xo⟩ ++ post) = (pre ++ xs ++ [32]) ++ (xp ++ 32 :: (xo ++ [32, 46, 10] ++ post)) := by simp [lineT]
  have e3 : pre ++ (lineT ⟨xs, xp, xo⟩ ++ post) = (pre ++ xs ++ [32] ++ xp ++ [32]) ++ (xo ++ 32 :: ([46, 10] ++ post)) := by simp [lineT]
  have e4 : pre ++ (lineT ⟨xs, xp, xo⟩ ++ post) = (pre ++ xs ++ [32] ++ xp ++ [32] ++ xo ++ [32]) ++ (46 :: (10 :: post)) := by simp [lineT]
  have n2 : (pre ++ xs ++ [32]).length = pre.length + xs.length + 1 := by simp; omega
  have n3 : (pre ++ xs ++ [32] ++ xp ++ [32]).length = pre.length + xs.length + 1 + xp.length + 1 := by simp; omega
  have n4 : (pre ++ xs ++ [32] ++ xp ++ [32] ++ xo ++ [32]).length = pre.length + xs.length + 1 + xp.length + 1 + xo.length + 1 := by simp; omega
  have nl : (lineT ⟨xs, xp, xo⟩).length = xs.length + 1 + xp.length + 1 + xo.length + 3 := by simp [lineT]; omega
  obtain ⟨a1, a2⟩ := lterm_place (t := xs) rfl (by rcases hs with h | h <;> (show kindOf (ByteArray.mk _) ≠ 0; rw [h]; decide)) pre (xp ++ [32] ++ xo ++ [32, 46, 10] ++ post) [1, 2] (.inl rfl) (by rcases hs with h | h <;> (show kindOf (ByteArray.mk _) ∈ _; rw [h]; decide))
  have a3 := at_end pre xs (xp ++ [32] ++ xo ++ [32, 46, 10] ++ post) 32
  obtain ⟨b1, b2⟩ := lterm_place (t := xp) hp (by decide) (pre ++ xs ++ [32]) (xo ++ [32, 46, 10] ++ post) [1] (.inr (.inl rfl)) (by decide)
  have b3 := at_end (pre ++ xs ++ [32]) xp (xo ++ [32, 46, 10] ++ post) 32
  obtain ⟨c1, c2⟩ := lterm_place (t := xo) rfl ho (pre ++ xs ++ [32] ++ xp ++ [32]) ([46, 10] ++ post) [1, 2, 3] (.inr (.inr rfl)) (by
    have := (place (t := xo) rfl ho [] []).2.2
    rcases this with h | h | h <;> (rw [h]; decide))
  have c3 := at_end (pre ++ xs ++ [32] ++ xp ++ [32]) xo ([46, 10] ++ post) 32
  have d1 := bt_at (pre ++ xs ++ [32] ++ xp ++ [32] ++ xo ++ [32]) (10 :: post) 46
  have d2 := bt_at1 (pre ++ xs ++ [32] ++ xp ++ [32] ++ xo ++ [32]) post 46 10
  rw [← e1] at a1 a2 a3
  rw [← e2, n2] at b1 b2 b3
  rw [← e3, n3] at c1 c2 c3
  rw [← e4, n4] at d1 d2
  generalize arr (pre ++ (lineT ⟨xs, xp, xo⟩ ++ post)) = s at *
  generalize kindOf (arr xs) = ka at *
  generalize kindOf (arr xo) = kc at *
  have f1 := firstB_no ka
  have f2 := firstB_no 1
  have f3 := firstB_no kc
  have s0 : skipB s pre.length = pre.length := skipB_end (by rw [a2]; omega)
  have s1 : skipB s (pre.length + xs.length) = pre.length + xs.length + 1 := skipB_one (by rw [a3]; rfl) (by rw [b2]; omega)
  have s2 : skipB s (pre.length + xs.length + 1 + xp.length) = pre.length + xs.length + 1 + xp.length + 1 := skipB_one (by rw [b3]; rfl) (by rw [c2]; omega)
  have s3 : skipB s (pre.length + xs.length + 1 + xp.length + 1 + xo.length) = pre.length + xs.length + 1 + xp.length + 1 + xo.length + 1 := skipB_one (by rw [c3]; rfl) (by rw [d1]; decide)
  have d2' : bt s (pre.length + xs.length + 1 + xp.length + 1 + xo.length + 1 + 1) = 10 := by rw [d2]; rfl
  have s4 : skipB s (pre.length + xs.length + 1 + xp.length + 1 + xo.length + 1 + 1) = pre.length + xs.length + 1 + xp.length + 1 + xo.length + 1 + 1 := skipB_end (by rw [d2']; omega)
  have el : pre.length + (lineT ⟨xs, xp, xo⟩).length - 1 = pre.length + xs.length + 1 + xp.length + 1 + xo.length + 1 + 1 := by omega
  rw [el]
  refine ⟨?_, d2', by omega⟩
  unfold lineR
  rw [s0, if_neg (by rw [a2]; omega)]
  unfold sentence
  rw [a1]
  simp only
  rw [s1, b1]
  simp only
  rw [s2, c1]
  simp only
  rw [s3, if_pos (by rw [d1]; rfl)]
  simp only
  rw [s4]
  unfold cmt
  rw [if_neg (by rw [d2']; decide)]

/-- what is printed is read back -/
theorem lines_place : ∀ (l : List Tri) (pre : List UInt8), (∀ x ∈ l, soundT x = true) → linesR (arr (pre ++ printT l)) pre.length = .ok l (pre.length + (printT l).length)
  | [], pre, _ => by
    have hb : bt (arr (pre ++ printT [])) pre.length = 256 := bt_arr_none (by simp [printT])
    have hs : skipB (arr (pre ++ printT [])) pre.length = pre.length := skipB_end (by rw [hb]; omega)
    have hl : lineR (arr (pre ++ printT [])) pre.length = .ok [] pre.length := by
      unfold lineR
      rw [hs, if_pos (.inl hb)]
      unfold cmt
      rw [if_neg (by rw [hb]; decide)]
    rw [linesR]
    split
    · rename_i n j e
      rw [hl] at e
      cases e
    · rename_i l j e
      rw [hl] at e
      cases e
      rw [dif_neg (by rw [hb]; omega), if_pos (by rw [arr_sz]; simp [printT])]
      simp [printT]
  | x :: r, pre, h => by
    obtain ⟨h1, h2, h3⟩ := line_place (h x (List.mem_cons_self ..)) pre (printT r)
    have ih := lines_place r (pre ++ lineT x) (fun y hy => h y (List.mem_cons_of_mem _ hy))
    have e : pre ++ printT (x :: r) = pre ++ (lineT x ++ printT r) := by simp [printT]
    rw [List.append_assoc, List.length_append] at ih
    rw [e, linesR]
    split
    · rename_i n j e
      rw [h1] at e
      cases e
    · rename_i l j e
      rw [h1] at e
      cases e
      rw [dif_pos ⟨h2, by rw [arr_sz]; simp⟩, show pre.length + (lineT x).length - 1 + 1 = pre.length + (lineT x).length by omega, ih]
      simp only [RL.pre, List.singleton_append]
      congr 1
      simp [printT]
      omega

end Back
end Go.Proofs.YtnffjoipinhojabGreatDoor

set_option linter.unusedSimpArgs false
set_option linter.unusedVariables false
namespace Go.Proofs.YtnffjoipinhojabGreatDoor
open Go.RowKit

/-! A list that a caller hands in may lie anywhere in its block. -/

def LiesA (w : World) (g off : Nat) (l : List Tri) : Prop := ∀ k x, l[k]? = some x → w.cell? ⟨g, off + k * 3, none⟩ = some (str x.s) ∧ w.cell? ⟨g, off + k * 3 + 1, none⟩ = some (str x.p) ∧ w.cell? ⟨g, off + k * 3 + 2, none⟩ = some (str x.o)

theorem LiesA.below {w w' : World} {g off : Nat} {l : List Tri} {B : Nat} (h : LiesA w g off l) (hg : g < B) (hb : Below B w w') : LiesA w' g off l := fun k x hk => by
  obtain ⟨h0, h1, h2⟩ := h k x hk
  exact ⟨(hb.cell (p := ⟨g, _, none⟩) hg).trans h0, (hb.cell (p := ⟨g, _, none⟩) hg).trans h1, (hb.cell (p := ⟨g, _, none⟩) hg).trans h2⟩

set_option maxHeartbeats 4000000 in
set_option maxRecDepth 20000 in
/-- a list of the document's sentences as the program's -/
theorem triples_at (w : World) (g off cap : Nat) (l : List Tri) (hg : g < w.heap.size) (hL : LiesA w g off l) (hn : l.length ≤ 2932031007317) :
    Calls Tryz.prog 6 #[.slice (some ⟨g, off, none⟩) l.length cap] w fun e w' => ∃ v, e = .returned v ∧ w'.ownsRow w.heap.size 44 3 v l.length (cellsOf l) ∧ Below w.heap.size w w' := by
  have HL : Hid (LiesA w g off l) := hL
  have HB0 : Hid (Below w.heap.size w w) := Below.refl _ w
  have HN0 : Hid (w.ownsRow w.heap.size 44 3 (.slice none 0 0) 0 []) := own_nil w _ _
  obtain ⟨i0, hi0, hz0, hz1, hz2⟩ := info_parts infoTri
  clear hL
  go_enter Tryz.func6, Tryz.ntmps6
  go_wp2_with fail
  go_loopw [3, 4] (fun t3 t4 wr => ∃ (q : Nat) (o : Option Addr) (c : Nat), q ≤ l.length ∧ t4 = .int .i64 q ∧ t3 = .slice o q c ∧ wr.ownsRow w.heap.size 44 3 (.slice o q c) q (cellsOf (l.take q)) ∧ Below w.heap.size w wr) (fun t3 t4 wr => l.length - (intOf t4).toNat)
  case atStart => exact ⟨0, none, 0, Nat.zero_le _, rfl, rfl, HN0.out, HB0.out⟩
  case round =>
    obtain ⟨q, o, c, hq, rfl, rfl, ho, hb⟩ := hrel
    have HO : Hid (wr.ownsRow w.heap.size 44 3 (.slice o q c) q (cellsOf (l.take q))) := ho
    have HB : Hid (Below w.heap.size w wr) := hb
    clear ho hb
    by_cases hlt : q < l.length
    · obtain ⟨x, hx⟩ : ∃ x, l[q]? = some x := ⟨_, List.getElem?_eq_getElem hlt⟩
      obtain ⟨q0, q1, q2⟩ := (HL.out.below hg HB.out) q x hx
      have hd : l.take (q + 1) = l.take q ++ [x] := by
        rw [List.take_add_one, hx]; rfl
      obtain ⟨Y1, k1⟩ : ∃ V : ByteArray, V = ⟨x.s.toArray⟩ := ⟨_, rfl⟩
      obtain ⟨Y2, k2⟩ : ∃ V : ByteArray, V = ⟨x.p.toArray⟩ := ⟨_, rfl⟩
      obtain ⟨Y3, k3⟩ : ∃ V : ByteArray, V = ⟨x.o.toArray⟩ := ⟨_, rfl⟩
      have HCy : Hid (cellsOf (l.take (q + 1)) = cellsOf (l.take q) ++ [.string Y1, .string Y2, .string Y3]) := by unfold Hid; rw [hd, cellsOf_app, k1, k2, k3]; rfl
      have q0' : wr.cell? ⟨g, off + q * 3, none⟩ = some (.string Y1) := by rw [k1]; exact q0
      have q1' : wr.cell? ⟨g, off + q * 3 + 1, none⟩ = some (.string Y2) := by rw [k2]; exact q1
      have q2' : wr.cell? ⟨g, off + q * 3 + 2, none⟩ = some (.string Y3) := by rw [k3]; exact q2
      clear q0 q1 q2 k1 k2 k3 hd hx
      have HT := triple_any wr Y1 Y2 Y3
      have HT2 : Hid (Calls Tryz.prog 18 #[.agg #[.string Y1, .string Y2, .string Y3]] wr fun e w' => e = .returned (.agg #[.string Y1, .string Y2, .string Y3]) ∧ Below wr.heap.size wr w') := HT
      clear HT
      go_wp2_with fail
      refine HT2.out.mono ?_
      rintro e w2 ⟨rfl, hb2⟩
      have HO2 : Hid (w2.ownsRow w.heap.size 44 3 (.slice o q c) q (cellsOf (l.take q))) := own_same HO.out fun k _ hlt => hb2.block k hlt
      have HB2 : Hid (Below w.heap.size w w2) := HB.out.trans (hb2.mono HB.out.size)
      clear hb2 q0' q1' q2' HT2
      have hoA := HO2.out.alloc (.cells #[.string Y1, .string Y2, .string Y3] 44)
      have hn2 := news_new w2 Y1 Y2 Y3 44
      have hbs : w.heap.size ≤ (w2.alloc (.cells #[.string Y1, .string Y2, .string Y3] 44)).heap.size := (HB2.out.alloc HB2.out.size _).size
      go_wp2_with (first
        | (at_builtin; refine wpList_append_own_at _ (by rfl) _ _ _ (by rfl) w.heap.size 44 i0 _ 3 48 Tryz.underlying24 hi0 hz0 hz1 hz2 rfl (by omega) (.slice o q c) q (cellsOf (l.take q)) (by rfl) hoA ⟨w2.heap.size, 0, none⟩ 1 1 [.string Y1, .string Y2, .string Y3] (by rfl) (by rfl) hn2 (by simp [Value.oneCell']) (by unfold maxLen; omega) (by omega) hbs ?_; intro v3 w3 ho3 hg3 hi3 hb3; have HB3 : Hid (Below w.heap.size w w3) := (Below.grown (HB2.out.alloc HB2.out.size _) hg3 hbs (fun k hk => own_block HO2.out hk)); have HO3 : Hid (w3.ownsRow w.heap.size 44 3 v3 (q + 1) (cellsOf (l.take (q + 1)))) := (by unfold Hid; rw [HCy.out]; exact ho3); clear ho3 hg3 hi3 hb3 hoA hn2 hbs))
      obtain ⟨o3, c3, hv3⟩ := own_form HO3.out
      subst hv3
      go_wp2_with fail
      go_roundw
      case rel => exact ⟨q + 1, o3, c3, by omega, by go_num, rfl, HO3.out, HB3.out⟩
      case measure => simp [intOf]; omega
    · obtain rfl : q = l.length := by omega
      rw [List.take_length] at HO
      go_wp2_with fail
      go_ret
      exact ⟨_, rfl, HO.out, HB.out⟩


namespace Ref
end Ref

/-- a sentence of either list, and nothing older touched -/
def S6a (w : World) (ga gb off q : Nat) (X1 X2 X3 : ByteArray) (w' : World) : Prop :=
  w'.cell? ⟨ga, q * 3, none⟩ = some (.string X1) ∧ w'.cell? ⟨ga, q * 3 + 1, none⟩ = some (.string X2) ∧ w'.cell? ⟨ga, q * 3 + 2, none⟩ = some (.string X3) ∧ w'.cell? ⟨gb, off + q * 3, none⟩ = some (.string X1) ∧ w'.cell? ⟨gb, off + q * 3 + 1, none⟩ = some (.string X2) ∧ w'.cell? ⟨gb, off + q * 3 + 2, none⟩ = some (.string X3) ∧ Below w.heap.size w w'
theorem S6a.on {w w1 w2 : World} {ga gb off q : Nat} {X1 X2 X3 : ByteArray} (e : S6a w ga gb off q X1 X2 X3 w1) (hb : Below w1.heap.size w1 w2) : S6a w ga gb off q X1 X2 X3 w2 := by
  obtain ⟨e0, e1, e2, f0, f1, f2, e3⟩ := e
  have hg : ga < w1.heap.size := World.block_lt_of_cell? w1 ⟨_, _, none⟩ e0
  have hn : gb < w1.heap.size := World.block_lt_of_cell? w1 ⟨_, _, none⟩ f0
  exact ⟨(hb.cell (p := ⟨ga, _, none⟩) hg).trans e0, (hb.cell (p := ⟨ga, _, none⟩) hg).trans e1, (hb.cell (p := ⟨ga, _, none⟩) hg).trans e2, (hb.cell (p := ⟨gb, _, none⟩) hn).trans f0, (hb.cell (p := ⟨gb, _, none⟩) hn).trans f1, (hb.cell (p := ⟨gb, _, none⟩) hn).trans f2, e3.trans (hb.mono e3.size)⟩

theorem S6a.low {w w1 : World} {ga gb off q : Nat} {X1 X2 X3 : ByteArray} (e : S6a w ga gb off q X1 X2 X3 w1) : Below w.heap.size w w1 := e.2.2.2.2.2.2

set_option maxHeartbeats 4000000 in
set_option maxRecDepth 20000 in
theorem same_at (w : World) (ga gb off ca cb : Nat) (l : List Tri) (ha : Lies w ga l) (hb : LiesA w gb off l) (hga : ga < w.heap.size) (hgb : gb < w.heap.size) (hn : l.length ≤ 2932031007317) :
    Calls Tryz.prog 10 #[.slice (some ⟨ga, 0, none⟩) l.length ca, .slice (some ⟨gb, off, none⟩) l.length cb] w fun e w' => e = .returned (.bool true) ∧ Below w.heap.size w w' := by
  have HA : Hid (Lies w ga l) := ha
  have HBb : Hid (LiesA w gb off l) := hb
  have HB0 : Hid (Below w.heap.size w w) := Below.refl _ w
  have hgd := guardA
  have mixed : Tryz.prog.follows Departure.mixedOrders = true := by kernel_rfl
  clear ha hb
  go_enter Tryz.func10, Tryz.ntmps10
  go_wp2_with fail
  go_loopw [5] (fun t5 wr => ∃ q : Nat, q ≤ l.length ∧ t5 = .int .i64 q ∧ Below w.heap.size w wr) (fun t5 wr => l.length - (intOf t5).toNat)
  case atStart => exact ⟨0, Nat.zero_le _, rfl, HB0.out⟩
  case round =>
    obtain ⟨q, hq, rfl, hB⟩ := hrel
    by_cases hlt : q < l.length
    · obtain ⟨x, hx⟩ : ∃ x, l[q]? = some x := ⟨_, List.getElem?_eq_getElem hlt⟩
      obtain ⟨X1, k1⟩ : ∃ V : ByteArray, V = ⟨x.s.toArray⟩ := ⟨_, rfl⟩
      obtain ⟨X2, k2⟩ : ∃ V : ByteArray, V = ⟨x.p.toArray⟩ := ⟨_, rfl⟩
      obtain ⟨X3, k3⟩ : ∃ V : ByteArray, V = ⟨x.o.toArray⟩ := ⟨_, rfl⟩
      obtain ⟨a0, a1, a2⟩ := (HA.out.below hga hB) q x hx
      obtain ⟨b0, b1, b2⟩ := (HBb.out.below hgb hB) q x hx
      have hS0 : S6a w ga gb off q X1 X2 X3 wr := by
        rw [k1, k2, k3]
        exact ⟨a0, a1, a2, b0, b1, b2, hB⟩
      clear a0 a1 a2 b0 b1 b2 hx k1 k2 k3 HA HBb
      have HT : Hid (∀ w1, S6a w ga gb off q X1 X2 X3 w1 → Calls Tryz.prog 18 #[.agg #[.string X1, .string X2, .string X3]] w1 fun e w' => e = .returned (.agg #[.string X1, .string X2, .string X3]) ∧ S6a w ga gb off q X1 X2 X3 w') := fun w1 h1 => by
        refine (triple_any w1 X1 X2 X3).mono ?_
        rintro e w2 ⟨rfl, hb2⟩
        exact ⟨rfl, h1.on hb2⟩
      have heq := neqA X1 X2 X3
      obtain ⟨a0, a1, a2, b0, b1, b2, b3⟩ := hS0
      go_wp2_with fail
      go_region_held3 (fun w' => w'.cell? ⟨ga, q * 3, none⟩ = some (.string X1) ∧ w'.cell? ⟨ga, q * 3 + 1, none⟩ = some (.string X2) ∧ w'.cell? ⟨ga, q * 3 + 2, none⟩ = some (.string X3) ∧ w'.cell? ⟨gb, off + q * 3, none⟩ = some (.string X1) ∧ w'.cell? ⟨gb, off + q * 3 + 1, none⟩ = some (.string X2) ∧ w'.cell? ⟨gb, off + q * 3 + 2, none⟩ = some (.string X3) ∧ Below w.heap.size w w') (first | assumption | exact ⟨a0, a1, a2, b0, b1, b2, b3⟩ | exact ⟨a0, a1, a2, b0, b1, b2, b3.drew⟩) (first | (go_at_call 18; refine (HT.out _ (by first | assumption | exact ⟨by assumption, by assumption, by assumption, by assumption, by assumption, by assumption, by first | assumption | exact b3.drew⟩)).mono ?_; rintro e2 w2 ⟨rfl, hS⟩))
      all_goals go_wp2_with fail
      all_goals go_roundw
      case rel => exact ⟨q + 1, by omega, by go_num, S6a.low (by assumption)⟩
      case measure => simp [intOf]; omega
    · go_wp2_with fail
      go_ret
      exact ⟨rfl, hB⟩


set_option maxHeartbeats 4000000 in
set_option maxRecDepth 20000 in
theorem triples_zero (w : World) (o : Option Addr) (c : Nat) : Calls Tryz.prog 6 #[.slice o 0 c] w fun e w' => ∃ v, e = .returned v ∧ w'.ownsRow w.heap.size 44 3 v ([] : List Tri).length (cellsOf []) ∧ Below w.heap.size w w' := by
  have HN0 : Hid (w.ownsRow w.heap.size 44 3 (.slice none 0 0) 0 []) := own_nil w _ _
  go_enter Tryz.func6, Tryz.ntmps6
  go_wp2_with fail
  go_loopw [3, 4] (fun t3 t4 wr => t3 = .slice none 0 0 ∧ t4 = .int .i64 0 ∧ wr = w) (fun t3 t4 wr => 0)
  case atStart => exact ⟨rfl, rfl, rfl⟩
  case round =>
    obtain ⟨rfl, rfl, rfl⟩ := hrel
    go_wp2_with fail
    go_ret
    exact ⟨_, rfl, HN0.out, Below.refl _ _⟩

set_option maxHeartbeats 4000000 in
set_option maxRecDepth 20000 in
theorem Ref.set_zero (w : World) (o : Option Addr) (c : Nat) : Calls Tryz.prog 25 #[.slice o 0 c] w (SeV w 50 []) := by
  have HN0 : Hid (SeV w 50 [] (.returned (.tuple #[.slice none 0 0, .int .i64 0, .int .i64 0])) w) := ⟨_, rfl, own_nil w _ _, Below.refl _ w⟩
  go_enter Tryz.func25, Tryz.ntmps25
  go_wp2_with fail
  go_loopw [5] (fun t5 wr => t5 = .int .i64 0 ∧ wr = w) (fun t5 wr => 0)
  case atStart => exact ⟨rfl, rfl⟩
  case round =>
    obtain ⟨rfl, rfl⟩ := hrel
    go_wp2_with fail
    go_loopw [7, 8] (fun t7 t8 wr' => t7 = .slice none 0 0 ∧ t8 = .int .i64 0 ∧ wr' = wr) (fun t7 t8 wr' => 0)
    case atStart => exact ⟨rfl, rfl, rfl⟩
    case round =>
      obtain ⟨rfl, rfl, rfl⟩ := hrel
      go_wp2_with fail
      exact bodyPost_ret (v := .tuple #[.slice none 0 0, .int .i64 0, .int .i64 0]) (by simp [results, Tryz.results25, go_sem]) rfl HN0.out


end Go.Proofs.YtnffjoipinhojabGreatDoor

