import Derived.Test.YtfapcangooodeabGreatDoorK44
set_option linter.unusedSimpArgs false
set_option linter.unusedVariables false
namespace Go.Proofs.YtfapcangooodeabGreatDoor
open Back
namespace Tu

/-! What the printer writes, sign by sign. -/

theorem runU_place (p : Int → Bool) : ∀ (a pre : List UInt8) (c : UInt8) (post : List UInt8), (∀ x ∈ a, p (x.toNat : Int) = true) → p (c.toNat : Int) = false → runU p (arr (pre ++ (a ++ c :: post))) pre.length = pre.length + a.length
  | [], pre, c, post, _, hc => by
    have hb : bt (arr (pre ++ ([] ++ c :: post))) pre.length = (c.toNat : Int) := bt_at pre post c
    rw [runU_end (by rw [hb, hc]; simp)]
    rfl
  | x :: a, pre, c, post, ha, hc => by
    have e : pre ++ (x :: a ++ c :: post) = (pre ++ [x]) ++ (a ++ c :: post) := by simp
    have hb : bt (arr (pre ++ (x :: a ++ c :: post))) pre.length = (x.toNat : Int) := bt_at pre (a ++ c :: post) x
    have hx := ha x (List.mem_cons_self ..)
    have hlt : pre.length < (arr (pre ++ (x :: a ++ c :: post))).size := by rw [arr_sz]; simp
    rw [runU_on ⟨hlt, by rw [hb]; exact hx⟩]
    have ih := runU_place p a (pre ++ [x]) c post (fun y hy => ha y (List.mem_cons_of_mem _ hy)) hc
    rw [e]
    have hl : (pre ++ [x]).length = pre.length + 1 := by simp
    rw [hl] at ih
    rw [ih]
    simp
    omega

/-- a sign that stands from p to q -/
structure Tok (s : ByteArray) (p q : Nat) (g : Sg) : Prop where
  sg : sign s p false = (g, q)
  nw : isW (bt s p) = false
  nc : bt s p ≠ 35
theorem Tok.now {s : ByteArray} {p q : Nat} {g : Sg} (h : Tok s p q g) {st : St} (hs : Sees s p st) : st.now = g ∧ st.i = q := ⟨by rw [hs.now, h.sg], by rw [hs.i, h.sg]⟩
/-- a sign behind one blank -/
theorem Tok.step {s : ByteArray} {p q : Nat} {g : Sg} (h : Tok s (p + 1) q g) {st : St} (hi : st.i = p) (hb : bt s p = 32 ∨ bt s p = 10 ∨ bt s p = 9) : Sees s (p + 1) (Tu.step s st) ∧ (Tu.step s st).now = g ∧ (Tu.step s st).i = q := by
  have hw : isW (bt s p) = true := by rcases hb with e | e | e <;> (rw [e]; rfl)
  have h1 := step_sees (s := s) (st := st) (p := p + 1) (by rw [hi, gap_sp hw, gap_at h.nw h.nc]) (.inl (by omega))
  exact ⟨h1, (h.now h1).1, (h.now h1).2⟩

theorem letter_cases {c : Int} (h : letter c = true) : (65 ≤ c ∧ c ≤ 90) ∨ (97 ≤ c ∧ c ≤ 122) := by unfold letter at h; exact of_decide_eq_true h
theorem digit_cases {c : Int} (h : digit c = true) : 48 ≤ c ∧ c ≤ 57 := by unfold digit at h; exact of_decide_eq_true h
theorem not_digit {c : Int} (h : c < 48 ∨ 57 < c) : digit c = false := by unfold digit; rw [decide_eq_false_iff_not]; omega
theorem not_letter {c : Int} (h : c < 65 ∨ (90 < c ∧ c < 97) ∨ 122 < c) : letter c = false := by unfold letter; rw [decide_eq_false_iff_not]; omega

theorem sign_word {s : ByteArray} {i : Nat} (h : bt s i = 58 ∨ letter (bt s i) = true) (b : Bool) : sign s i b = word s i := by
  have h0 : bt s i = 58 ∨ (65 ≤ bt s i ∧ bt s i ≤ 90) ∨ (97 ≤ bt s i ∧ bt s i ≤ 122) := h.imp id letter_cases
  have hd : digit (bt s i) = false := not_digit (by omega)
  unfold sign
  rw [if_neg (by omega), if_neg (by omega), if_neg (by omega), if_neg (by omega), if_neg (by omega), if_neg (by omega), if_neg (by rw [hd]; simp; omega), if_pos h]
theorem word_nw {c : Int} (h : c = 58 ∨ letter c = true) : isW c = false ∧ c ≠ 35 := by
  have h0 : c = 58 ∨ (65 ≤ c ∧ c ≤ 90) ∨ (97 ≤ c ∧ c ≤ 122) := h.imp id letter_cases
  unfold isW
  rw [decide_eq_false_iff_not]
  omega

/-- a row, or nothing -/
def RowE (r : List UInt8) : Prop := r = [] ∨ isRowL r = true
theorem RowE.facts {r : List UInt8} (h : RowE r) : r.length ≤ 20 ∧ (∀ x ∈ r, alnum (x.toNat : Int) = true) ∧ ∀ x l, r = x :: l → letter (x.toNat : Int) = true := by
  rcases h with rfl | h
  · exact ⟨by simp, by simp, by intro x l e; cases e⟩
  · cases r with
    | nil => simp [isRowL] at h
    | cons c r =>
      unfold isRowL at h
      simp only [Bool.and_eq_true, decide_eq_true_eq] at h
      obtain ⟨h1, h2, h3⟩ := h
      refine ⟨h1, fun x hx => (List.all_eq_true.1 h3) x hx, fun x l e => ?_⟩
      cases e
      exact h2

/-- a named one, a sign behind it that ends it -/
theorem nam_tok {r l : List UInt8} (hr : RowE r) (hl : isRestL l = true) {c : UInt8} (hc : inRest (c.toNat : Int) = false) {pre post : List UInt8} {s : ByteArray} (hs : s = arr (pre ++ (r ++ 58 :: (l ++ c :: post)))) :
    Tok s pre.length (pre.length + (r.length + 1 + l.length)) (.nam r l) := by
  obtain ⟨h1, h2, h3⟩ := hr.facts
  unfold isRestL at hl
  simp only [Bool.and_eq_true, decide_eq_true_eq] at hl
  obtain ⟨l1, l2⟩ := hl
  have l2 := List.all_eq_true.1 l2
  have hfirst : bt s pre.length = 58 ∨ letter (bt s pre.length) = true := by
    cases r with
    | nil => left; rw [hs]; exact bt_at pre (l ++ c :: post) 58
    | cons x r => right; have hb : bt s pre.length = (x.toNat : Int) := by rw [hs]; exact bt_at pre (r ++ 58 :: (l ++ c :: post)) x
                  rw [hb]; exact h3 x r rfl
  have e1 : runU alnum s pre.length = pre.length + r.length := by rw [hs]; exact runU_place alnum r pre 58 _ h2 (by decide)
  have hl2 : (pre ++ (r ++ [58])).length = pre.length + r.length + 1 := by simp; omega
  have hs2 : s = arr ((pre ++ (r ++ [58])) ++ (l ++ c :: post)) := by rw [hs]; simp
  have e2 : runU inRest s (pre.length + r.length + 1) = pre.length + r.length + 1 + l.length := by rw [← hl2, hs2]; exact runU_place inRest l _ c post l2 hc
  have e3 : bt s (pre.length + r.length) = 58 := by rw [hs]; exact at_end pre r (l ++ c :: post) 58
  have e4 : sub s pre.length (pre.length + r.length) = r := by rw [hs]; exact sub_pre pre r _
  have e5 : sub s (pre.length + r.length + 1) (pre.length + r.length + 1 + l.length) = l := by rw [← hl2, hs2]; exact sub_pre _ l _
  have hw := word_nw hfirst
  refine ⟨?_, hw.1, hw.2⟩
  rw [sign_word hfirst]
  unfold word
  rw [e1, if_pos e3, e2, if_neg (by omega), e4, e5]
  congr 1
  omega

/-- a row that stands alone -/
theorem row_tok {r : List UInt8} (hr : isRowL r = true) {pre post : List UInt8} {s : ByteArray} (hs : s = arr (pre ++ (r ++ 32 :: post))) :
    Tok s pre.length (pre.length + r.length) (.row r) := by
  obtain ⟨h1, h2, h3⟩ := RowE.facts (.inr hr)
  have hfirst : bt s pre.length = 58 ∨ letter (bt s pre.length) = true := by
    cases r with
    | nil => simp [isRowL] at hr
    | cons x r => right; have hb : bt s pre.length = (x.toNat : Int) := by rw [hs]; exact bt_at pre (r ++ 32 :: post) x
                  rw [hb]; exact h3 x r rfl
  have e1 : runU alnum s pre.length = pre.length + r.length := by rw [hs]; exact runU_place alnum r pre 32 _ h2 (by decide)
  have e3 : bt s (pre.length + r.length) = 32 := by rw [hs]; exact at_end pre r post 32
  have e4 : sub s pre.length (pre.length + r.length) = r := by rw [hs]; exact sub_pre pre r _
  have hw := word_nw hfirst
  refine ⟨?_, hw.1, hw.2⟩
  rw [sign_word hfirst]
  unfold word
  rw [e1, if_neg (by rw [e3]; decide), if_neg (by omega), e4]

/-- a number that stands alone -/
theorem num_tok {l : List UInt8} (hl : isNumL l = true) {pre post : List UInt8} {s : ByteArray} (hs : s = arr (pre ++ (l ++ 32 :: post))) :
    Tok s pre.length (pre.length + l.length) (.num l) := by
  obtain ⟨m, ds, hm, hl2, hd, hne⟩ : ∃ m ds : List UInt8, (m = [] ∨ m = [45]) ∧ l = m ++ ds ∧ (∀ x ∈ ds, digit (x.toNat : Int) = true) ∧ ds ≠ [] := by
    unfold isNumL at hl
    simp only [Bool.and_eq_true, bne_iff_ne, ne_eq] at hl
    obtain ⟨a, b⟩ := hl
    have b := List.all_eq_true.1 b
    unfold Lib.trimPrefix at a b
    by_cases hp : Lib.hasPrefix l [45] = true
    · rw [if_pos hp] at a b
      unfold Lib.hasPrefix at hp
      obtain ⟨t, ht⟩ := List.isPrefixOf_iff_prefix.1 hp
      refine ⟨[45], l.drop 1, .inr rfl, ?_, b, a⟩
      rw [← ht]
      rfl
    · rw [if_neg hp] at a b
      exact ⟨[], l, .inl rfl, rfl, b, a⟩
  obtain ⟨d, ds, rfl⟩ : ∃ d ds', ds = d :: ds' := by
    cases ds with
    | nil => exact absurd rfl hne
    | cons d ds => exact ⟨d, ds, rfl⟩
  have hd0 := hd d (List.mem_cons_self ..)
  have hs2 : s = arr ((pre ++ m) ++ ((d :: ds) ++ 32 :: post)) := by rw [hs, hl2]; simp
  have e1 : runU digit s (pre.length + m.length) = pre.length + m.length + (ds.length + 1) := by
    have := runU_place digit (d :: ds) (pre ++ m) 32 post hd (by decide)
    rw [← hs2, List.length_append] at this
    rw [this]
    simp
  have eb : bt s (pre.length + m.length) = (d.toNat : Int) := by
    have := bt_at (pre ++ m) (ds ++ 32 :: post) d
    rw [List.length_append] at this
    rw [hs2]
    exact this
  have hdc := digit_cases hd0
  have h45 : (bt s pre.length = 45 ∧ m.length = 1) ∨ (bt s pre.length = (d.toNat : Int) ∧ m.length = 0) := by
    rcases hm with rfl | rfl
    · right; simpa using eb
    · left
      refine ⟨?_, rfl⟩
      rw [hs2]
      have := bt_at pre ((d :: ds) ++ 32 :: post) 45
      simpa using this
  have hna : numAt s pre.length = pre.length + m.length := by
    unfold numAt
    rcases h45 with ⟨h, h'⟩ | ⟨h, h'⟩
    · rw [if_pos h, h']
    · rw [if_neg (by rw [h]; omega), h']; rfl
  have hsub : sub s pre.length (pre.length + l.length) = l := by rw [hs]; exact sub_pre pre l _
  have hll : l.length = m.length + (ds.length + 1) := by rw [hl2]; simp
  refine ⟨?_, ?_, ?_⟩
  · unfold sign
    rw [if_neg (by omega), if_neg (by omega), if_neg (by omega), if_neg (by omega), if_neg (by omega), if_neg (by omega), if_pos (by
      rcases h45 with ⟨h, _⟩ | ⟨h, _⟩
      · exact .inl h
      · right; rw [h]; exact hd0)]
    unfold number
    rw [hna, e1, if_neg (by omega), show pre.length + m.length + (ds.length + 1) = pre.length + l.length by omega, hsub]
  · unfold isW
    rw [decide_eq_false_iff_not]
    omega
  · omega

/-! Iris, as they are printed. -/

theorem iri_last {s : ByteArray} {i j : Nat} {t : List UInt8} (h : iri s i = .ok t j) : t.getLast? = some 62 := by
  unfold iri at h
  split at h
  · cases h
  · split at h
    · cases h
    · split at h
      · cases h
      · split at h
        · cases h
        · cases h
          simp

theorem trim_last {t : List UInt8} (h : t.getLast? = some 62) : trimG t ++ [62] = t := by
  unfold trimG
  rw [if_pos h]
  obtain ⟨a, ha⟩ := List.getLast?_eq_some_iff.1 h
  rw [ha]
  simp

theorem rest_whole {long t : List UInt8} (h : restOk long t = true) (ht : t.getLast? = some 62) : trimG long ++ restL long t ++ [62] = t := by
  unfold restOk at h
  simp only [Bool.and_eq_true] at h
  have hp := h.1
  have e : trimG long ++ restL long t = trimG t := by
    unfold restL Lib.trimPrefix
    rw [if_pos hp]
    unfold Lib.hasPrefix at hp
    obtain ⟨r, hr⟩ := List.isPrefixOf_iff_prefix.1 hp
    rw [← hr]
    simp
  rw [e, trim_last ht]

theorem iriN_cases (ns : List Nam2) (t : List UInt8) : iriN ns t = t ∨ ∃ x ∈ ns, restOk x.2 t = true ∧ iriN ns t = x.1 ++ 58 :: restL x.2 t := by
  have : ∀ (l : List Nam2) (acc : List UInt8 × Nat), (∀ x ∈ l, x ∈ ns) → (acc.1 = t ∨ ∃ x ∈ ns, restOk x.2 t = true ∧ acc.1 = x.1 ++ 58 :: restL x.2 t) → ((l.foldl (iriS t) acc).1 = t ∨ ∃ x ∈ ns, restOk x.2 t = true ∧ (l.foldl (iriS t) acc).1 = x.1 ++ 58 :: restL x.2 t) := by
    intro l
    induction l with
    | nil => intro acc _ h; exact h
    | cons x l ih =>
      intro acc hm h
      refine ih _ (fun y hy => hm y (List.mem_cons_of_mem _ hy)) ?_
      unfold iriS
      split
      · rename_i hx
        exact .inr ⟨x, hm x (List.mem_cons_self ..), hx.1, by simp⟩
      · exact h
  exact this ns (t, 0) (fun x h => h) (.inl rfl)

/-- the names are those that the printer had -/
def Knows (ns : List Nam2) (st : St) : Prop := ∀ x ∈ ns, look st.names x.1 = some x.2
theorem Knows.same {ns : List Nam2} {a b : St} (h : Knows ns a) (k : Same a b) : Knows ns b := fun x hx => by rw [k.names]; exact h x hx
def NamesOk (ns : List Nam2) : Prop := ∀ x ∈ ns, RowE x.1 ∧ kindOf (arr x.2) = 1

/-- a sign that says an iri -/
def IriS (ns : List Nam2) (t : List UInt8) (g : Sg) : Prop := g = .iri t ∨ ∃ x ∈ ns, ∃ l, g = .nam x.1 l ∧ trimG x.2 ++ l ++ [62] = t
theorem IriS.iriP {ns : List Nam2} {t : List UInt8} {g : Sg} (h : IriS ns t g) {s : ByteArray} {st : St} (hn : st.now = g) (hk : Knows ns st) : Tu.iriP s st = .ok t (step s st) := by
  unfold Tu.iriP
  rcases h with rfl | ⟨x, hx, l, rfl, e⟩
  · rw [hn]
  · rw [hn]
    simp only
    rw [hk x hx]
    simp only
    rw [e]
theorem IriS.res {ns : List Nam2} {t : List UInt8} {g : Sg} (h : IriS ns t g) {s : ByteArray} {st : St} (hn : st.now = g) (hk : Knows ns st) (hl : t.length ≤ 200) : Tu.res s st = .ok t (step s st) := by
  unfold Tu.res
  rw [h.iriP hn hk]
  simp only
  unfold bnd
  rw [if_neg (by omega)]
theorem IriS.kind {ns : List Nam2} {t : List UInt8} {g : Sg} (h : IriS ns t g) : Sg.is_pre g = false ∧ Sg.is_fin g = false ∧ g.isStr = false ∧ (∀ c, g ≠ .one c) ∧ (∀ c, g ≠ .row c) ∧ (∀ c, g ≠ .blk c) ∧ (∀ c, g ≠ .str c) ∧ (∀ c, g ≠ .num c) := by
  rcases h with rfl | ⟨x, hx, l, rfl, e⟩
  · exact ⟨rfl, rfl, rfl, nofun, nofun, nofun, nofun, nofun⟩
  · exact ⟨rfl, rfl, rfl, nofun, nofun, nofun, nofun, nofun⟩

theorem iri_tok {s0 : ByteArray} {i0 j0 : Nat} {t : List UInt8} (h : iri s0 i0 = .ok t j0) {pre post : List UInt8} {s : ByteArray} (hs : s = arr (pre ++ (t ++ post))) : Tok s pre.length (pre.length + t.length) (.iri t) := by
  have hb := iri_back h pre post
  rw [← hs] at hb
  have h60 := iri_60 hb
  refine ⟨?_, by rw [h60]; rfl, by rw [h60]; decide⟩
  rw [sign60 h60, hb]
  rfl

theorem iriN_tok {ns : List Nam2} (hns : NamesOk ns) {s0 : ByteArray} {i0 j0 : Nat} {t : List UInt8} (h : iri s0 i0 = .ok t j0) {pre post : List UInt8} {s : ByteArray} (hs : s = arr (pre ++ (iriN ns t ++ 32 :: post))) :
    ∃ g, Tok s pre.length (pre.length + (iriN ns t).length) g ∧ IriS ns t g := by
  rcases iriN_cases ns t with e | ⟨x, hx, hr, e⟩
  · rw [e] at hs ⊢
    exact ⟨.iri t, iri_tok h hs, .inl rfl⟩
  · rw [e] at hs ⊢
    refine ⟨.nam x.1 (restL x.2 t), ?_, .inr ⟨x, hx, _, rfl, rest_whole hr (iri_last h)⟩⟩
    have hr2 : isRestL (restL x.2 t) = true := by
      unfold restOk at hr
      simp only [Bool.and_eq_true] at hr
      exact hr.2
    have := nam_tok (hns x hx).1 hr2 (c := 32) (by decide) (pre := pre) (post := post) (s := s) (by rw [hs]; simp)
    have el : (x.1 ++ 58 :: restL x.2 t).length = x.1.length + 1 + (restL x.2 t).length := by simp; omega
    rw [el]
    exact this

theorem kind1 {t : List UInt8} (h : kindOf (arr t) = 1) : iri (arr t) 0 = .ok t t.length := by
  rcases kind_cases (t := t) (by omega) with ⟨a, b⟩ | ⟨a, b⟩ | ⟨a, b⟩
  · exact b
  · omega
  · omega

/-! Subject, verb, object at their places. -/

theorem verbN_tok {ns : List Nam2} (hns : NamesOk ns) {t : List UInt8} (h : kindOf (arr t) = 1) {pre post : List UInt8} {s : ByteArray} (hs : s = arr (pre ++ (verbN ns t ++ 32 :: post))) :
    ∃ g, Tok s pre.length (pre.length + (verbN ns t).length) g ∧ g.isStr = false ∧ (∀ c, g ≠ .one c) ∧ ∀ st, st.now = g → Knows ns st → verb s st = .ok t (step s st) := by
  unfold verbN at hs ⊢
  by_cases ht : t = typeI
  · rw [if_pos ht] at hs ⊢
    refine ⟨.row [97], row_tok (by decide) hs, rfl, nofun, fun st hn _ => ?_⟩
    unfold verb
    rw [hn]
    simp only [if_true]
    rw [ht]
  · rw [if_neg ht] at hs ⊢
    obtain ⟨g, hg, hi⟩ := iriN_tok hns (kind1 h) hs
    refine ⟨g, hg, hi.kind.2.2.1, hi.kind.2.2.2.1, fun st hn hk => ?_⟩
    have hr := hi.res (s := s) hn hk (kind_len (by omega))
    unfold verb
    split
    · rename_i l hq
      exact absurd (hn.symm.trans hq) (hi.kind.2.2.2.2.1 l)
    · exact hr

theorem subjN_tok {ns : List Nam2} (hns : NamesOk ns) {t : List UInt8} (h : kindOf (arr t) = 1 ∨ kindOf (arr t) = 2) (hm : isMade t = false) {pre post : List UInt8} {s : ByteArray} (hs : s = arr (pre ++ (termN ns t ++ 32 :: post))) :
    ∃ g, Tok s pre.length (pre.length + (termN ns t).length) g ∧ g.isStr = false ∧ Sg.is_pre g = false ∧ Sg.is_fin g = false ∧ (∀ c, g ≠ .str c) ∧ (∀ c, g ≠ .num c) ∧ (∀ c, g ≠ .row c) ∧ ∀ st, st.now = g → Knows ns st → ∀ ob N, subj ob s N st = .ok t (step s st) := by
  unfold termN at hs ⊢
  change s = arr (pre ++ ((if kindOf (arr t) = 1 then iriN ns t else if kindOf (arr t) = 3 then litN ns t (partsOf (arr t)).1 else t) ++ 32 :: post)) at hs
  change ∃ g, Tok s pre.length (pre.length + (if kindOf (arr t) = 1 then iriN ns t else if kindOf (arr t) = 3 then litN ns t (partsOf (arr t)).1 else t).length) g ∧ _
  rcases h with h | h
  · rw [if_pos h] at hs ⊢
    obtain ⟨g, hg, hi⟩ := iriN_tok hns (kind1 h) hs
    have hk := hi.kind
    refine ⟨g, hg, hk.2.2.1, hk.1, hk.2.1, hk.2.2.2.2.2.2.1, hk.2.2.2.2.2.2.2, hk.2.2.2.2.1, fun st hn hkn ob N => ?_⟩
    have hr := hi.res (s := s) hn hkn (kind_len (by omega))
    unfold subj
    split
    · rename_i l hq; exact absurd (hn.symm.trans hq) (hk.2.2.2.2.2.1 l)
    · rename_i c hq; exact absurd (hn.symm.trans hq) (hk.2.2.2.1 c)
    · exact hr
  · rw [if_neg (by omega), if_neg (by omega)] at hs ⊢
    have hp := place (t := t) (k := kindOf (arr t)) rfl (by omega) pre post
    rw [h, ← hs] at hp
    have hb : blank s pre.length = .ok t (pre.length + t.length) := by simpa [readK] using hp.1
    have h95 := blank_95 hb
    refine ⟨.blk t, ⟨?_, by rw [h95]; rfl, by rw [h95]; decide⟩, rfl, rfl, rfl, nofun, nofun, nofun, fun st hn _ ob N => ?_⟩
    · rw [sign95 h95, hb]; rfl
    · unfold subj
      rw [hn]
      simp only
      rw [hm]
      simp

end Tu
end Go.Proofs.YtfapcangooodeabGreatDoor

set_option linter.unusedSimpArgs false
set_option linter.unusedVariables false
namespace Go.Proofs.YtfapcangooodeabGreatDoor
open Back
namespace Tu

/-! An object, as it is printed. -/

theorem parts_inv {s : ByteArray} {p : Lit} {i j : Nat} (h : parts s i = .ok p j) : VU p.text ∧ (p.kind = [] ∨ ∃ a b, iri s a = .ok p.kind b) ∧ (p.lang = [] ∨ p.kind = []) := by
  unfold parts at h
  split at h
  · cases h
  · rename_i t j0 hq
    have hv := quoted_valid hq
    split at h
    · split at h
      · cases h
      · cases h
        exact ⟨hv.1, .inl rfl, .inr rfl⟩
    · split at h
      · split at h
        · cases h
        · split at h
          · cases h
          · rename_i m k hi
            cases h
            exact ⟨hv.1, .inr ⟨_, _, hi⟩, .inl rfl⟩
      · cases h
        exact ⟨hv.1, .inl rfl, .inl rfl⟩

theorem trimSuffix_app (a k : List UInt8) : Lib.trimSuffix (a ++ k) k = a := by
  unfold Lib.trimSuffix Lib.hasSuffix
  rw [if_pos (List.isSuffixOf_iff_suffix.2 ⟨a, rfl⟩)]
  simp

theorem objG_subj {s : ByteArray} {st : St} (h1 : ∀ c, st.now ≠ .str c) (h2 : ∀ c, st.now ≠ .num c) (h3 : ∀ c, st.now ≠ .row c) (ob : St → PR (List UInt8)) (N : Nat) : objG ob s N st = subj ob s N st := by
  unfold objG
  split
  · rename_i l hq; exact absurd hq (h1 l)
  · rename_i l hq; exact absurd hq (h2 l)
  · rename_i l hq; exact absurd hq (h3 l)
  · rfl

/-- what is read of an object -/
def ObjAt (ns : List Nam2) (t u : List UInt8) : Prop := ∀ (pre post : List UInt8) (s : ByteArray), s = arr (pre ++ (u ++ 32 :: post)) →
  (isW (bt s pre.length) = false ∧ bt s pre.length ≠ 35) ∧ ∀ (c : Nat), Sep s (pre.length + u.length) c → ∀ st, Sees s pre.length st → Knows ns st →
    ∃ st', (∀ ob N, objG ob s N st = .ok t st') ∧ Same st st' ∧ Sees s (pre.length + u.length + 1) st' ∧ st'.now = .one c ∧ st'.i = pre.length + u.length + 2

theorem obj_self (ns : List Nam2) {t : List UInt8} (hk : kindOf (arr t) ≠ 0) (hm : isMade t = false) : ObjAt ns t t := by
  intro pre post s hs
  have f := first_at hs hk
  refine ⟨⟨f.1.1, f.1.2.1⟩, fun c hp st h _ => ?_⟩
  obtain ⟨st', a, b⟩ := obj_at' hs hk hp h
  refine ⟨st', fun ob N => ?_, b⟩
  rw [a ob N, if_neg (by rw [hm]; simp)]

theorem obj_subj {ns : List Nam2} (hns : NamesOk ns) {t : List UInt8} (hk : kindOf (arr t) = 1 ∨ kindOf (arr t) = 2) (hm : isMade t = false) : ObjAt ns t (termN ns t) := by
  intro pre post s hs
  obtain ⟨g, hg, a, b, c, d, e, f, k⟩ := subjN_tok hns hk hm hs
  refine ⟨⟨hg.nw, hg.nc⟩, fun c hp st h hkn => ?_⟩
  obtain ⟨hn, hi⟩ := hg.now h
  have h2 := hp.sees hi
  refine ⟨step s st, fun ob N => ?_, Same.step s st, h2⟩
  rw [objG_subj (fun c => by rw [hn]; exact d c) (fun c => by rw [hn]; exact e c) (fun c => by rw [hn]; exact f c)]
  exact k st hn hkn ob N

theorem obj_num (ns : List Nam2) {t l : List UInt8} (hl : isNumL l = true) (ht : form l [] wholeK = t) (hz : t.length ≤ 200) : ObjAt ns t l := by
  intro pre post s hs
  have hg := num_tok hl hs
  refine ⟨⟨hg.nw, hg.nc⟩, fun c hp st h hkn => ?_⟩
  obtain ⟨hn, hi⟩ := hg.now h
  have h2 := hp.sees hi
  refine ⟨step s st, fun ob N => ?_, Same.step s st, h2⟩
  unfold objG
  rw [hn]
  simp only
  rw [ht]
  unfold bnd
  rw [if_neg (by omega)]

theorem obj_truth (ns : List Nam2) {t l : List UInt8} (hl : isTruth l = true) (ht : form l [] truthK = t) : ObjAt ns t l := by
  intro pre post s hs
  have hrow : isRowL l = true := by
    unfold isTruth at hl
    simp only [Bool.or_eq_true, beq_iff_eq] at hl
    rcases hl with rfl | rfl <;> decide
  have hg := row_tok hrow hs
  refine ⟨⟨hg.nw, hg.nc⟩, fun c hp st h hkn => ?_⟩
  obtain ⟨hn, hi⟩ := hg.now h
  have h2 := hp.sees hi
  refine ⟨step s st, fun ob N => ?_, Same.step s st, h2⟩
  unfold objG
  rw [hn]
  simp only
  rw [if_pos hl, ht]

theorem obj_kind {ns : List Nam2} (hns : NamesOk ns) {x k t : List UInt8} (hv : VU x) {s0 : ByteArray} {a0 b0 : Nat} (hk : iri s0 a0 = .ok k b0) (ht : form x [] k = t) (hz : t.length ≤ 200) : ObjAt ns t ([34] ++ (escaped x ++ [34, 94, 94]) ++ iriN ns k) := by
  intro pre post s hs
  have e0 : s = arr (pre ++ ([34] ++ (escaped x ++ 34 :: (94 :: 94 :: (iriN ns k ++ 32 :: post))))) := by rw [hs]; simp
  have hq := quoted_place hv pre (94 :: 94 :: (iriN ns k ++ 32 :: post))
  rw [← e0] at hq
  have a0 := behind_quoted x pre (94 :: 94 :: (iriN ns k ++ 32 :: post)) 0 94 rfl
  have a1 := behind_quoted x pre (94 :: 94 :: (iriN ns k ++ 32 :: post)) 1 94 rfl
  simp only [Nat.add_zero] at a0
  rw [← e0] at a0 a1
  have a0 : bt s (pre.length + (1 + (escaped x).length + 1)) = 94 := a0
  have a1 : bt s (pre.length + (1 + (escaped x).length + 1) + 1) = 94 := a1
  have h34 : bt s pre.length = 34 := by
    rw [e0]
    exact bt_at pre (escaped x ++ 34 :: (94 :: 94 :: (iriN ns k ++ 32 :: post))) 34
  have el : (pre ++ ([34] ++ (escaped x ++ [34, 94, 94]))).length = pre.length + (1 + (escaped x).length + 1) + 2 := by simp; omega
  have ez : pre.length + ([34] ++ (escaped x ++ [34, 94, 94]) ++ iriN ns k).length = pre.length + (1 + (escaped x).length + 1) + 2 + (iriN ns k).length := by simp; omega
  obtain ⟨g, hg, hi⟩ := iriN_tok hns hk (pre := pre ++ ([34] ++ (escaped x ++ [34, 94, 94]))) (post := post) (s := s) (by rw [hs]; simp)
  rw [el] at hg
  rw [ez]
  refine ⟨⟨by rw [h34]; rfl, by rw [h34]; decide⟩, fun c hp st h hkn => ?_⟩
  generalize hj : pre.length + (1 + (escaped x).length + 1) = j0 at *
  have hnow : st.now = .str x := by rw [h.now, sign34 h34, hq]; rfl
  have hi0 : st.i = j0 := by rw [h.i, sign34 h34, hq]; rfl
  have hstr : st.now.isStr = true := by rw [hnow]; rfl
  have e1 := step_at (s := s) (st := st) (by rw [hi0, a0]; rfl) (by rw [hi0, a0]; omega)
  rw [hstr, hi0, sign94 a0 a1] at e1
  have hn1 : (step s st).now = .knd := by rw [e1]
  have hi1 : (step s st).i = j0 + 2 := by rw [e1]
  have hg2 : gap s (step s st).i = j0 + 2 := by rw [hi1, gap_at hg.nw hg.nc]
  have s2 := step_sees (s := s) (st := step s st) hg2 (.inr (by rw [hn1]; rfl))
  obtain ⟨hn2, hi2⟩ := hg.now s2
  have hkn2 : Knows ns (step s (step s st)) := hkn.same ((Same.step s st).trans (Same.step s _))
  have hP := hi.iriP (s := s) hn2 hkn2
  have h3 := hp.sees hi2
  refine ⟨step s (step s (step s st)), fun ob N => ?_, ((Same.step s st).trans (Same.step s _)).trans (Same.step s _), h3⟩
  unfold objG
  rw [hnow]
  simp only
  unfold lit
  rw [hn1]
  simp only
  rw [hP]
  simp only
  rw [ht]
  unfold bnd
  rw [if_neg (by omega)]

theorem objN_at {ns : List Nam2} (hns : NamesOk ns) {t : List UInt8} (hk : kindOf (arr t) ≠ 0) (hm : isMade t = false) : ObjAt ns t (termN ns t) := by
  rcases kind_cases hk with ⟨h1, h2⟩ | ⟨h1, h2⟩ | ⟨h1, p0, h2, h3⟩
  · exact obj_subj hns (.inl h1) hm
  · exact obj_subj hns (.inr h1) hm
  · obtain ⟨p, q1, q2, q3, q4⟩ := partsOf3 (t := t) h1
    have e : termN ns t = litN ns t p := by
      unfold termN
      change (if kindOf (arr t) = 1 then iriN ns t else if kindOf (arr t) = 3 then litN ns t (partsOf (arr t)).1 else t) = _
      have q1 : partsOf (arr t) = (p, 0) := q1
      rw [if_neg (by omega), if_pos h1, q1]
    rw [e]
    have q2 : parts (arr t) 0 = .ok p t.length := q2
    obtain ⟨i1, i2, i3⟩ := parts_inv q2
    have hself := obj_self ns hk hm
    unfold litN
    by_cases k0 : p.kind = []
    · rw [if_pos k0]; exact hself
    · have hl0 : p.lang = [] := i3.resolve_right k0
      rw [hl0] at q3
      rw [if_neg k0]
      by_cases k1 : p.kind = wholeK
      · rw [if_pos k1]
        unfold shortL
        split
        · rename_i hn
          rw [k1] at q3
          exact obj_num ns hn q3 q4
        · exact hself
      · rw [if_neg k1]
        by_cases k2 : p.kind = truthK
        · rw [if_pos k2]
          unfold shortL
          split
          · rename_i hn
            rw [k2] at q3
            exact obj_truth ns hn q3
          · exact hself
        · rw [if_neg k2]
          have hsk : p.kind ≠ stringKind := by
            intro hs
            have hb := (parts_back (s := arr t) (p := p) (by rw [arr_sz]; exact q2)).1
            rw [hl0, q3, q2] at hb
            have he : p = oneParts p := (R.ok.inj hb).1
            have : p.kind = [] := by
              rw [he]
              unfold oneParts
              simp only
              rw [if_pos hs]
            exact k0 this
          obtain ⟨a, b, hi⟩ := i2.resolve_left k0
          have hf : t = ([34] ++ (escaped p.text ++ [34, 94, 94])) ++ p.kind := by
            rw [← q3]
            unfold form
            rw [if_neg (by simp), if_pos ⟨k0, hsk⟩]
            simp
          have ht : Lib.trimSuffix t p.kind = [34] ++ (escaped p.text ++ [34, 94, 94]) := by
            rw [hf, trimSuffix_app]
          rw [ht]
          exact obj_kind hns i1 hi q3 q4

end Tu
end Go.Proofs.YtfapcangooodeabGreatDoor

