import Derived.Test.YtfapcangooodeabGreatDoorK43
set_option linter.unusedSimpArgs false
set_option linter.unusedVariables false
namespace Go.Proofs.YtfapcangooodeabGreatDoor
open Back
namespace Tu

/-! What the printer writes, sign by sign. -/

theorem runU_place (p : Int → Bool) : ∀ (a pre : List UInt8) (c : UInt8) (post : List UInt8), (∀ x ∈ a, p (x.toNat : Int) = true) → p (c.toNat : Int) = false → runU p (arr (pre ++ (a ++ c :: post))) pre.length = pre.length + a.length
  | [], pre, c, post, _, hc => by
    have hb : bt (arr (pre ++ ([] ++ c :: post))) pre.length = (c.toNat : Int) := bt_at pre post c
    rw [runU_end (by rw [hb, hc]; simp)]
    rfl
  | x :: a, pre, c, post, ha, hc => by
    have e : pre ++ (x :: a ++ c :: post) = (pre ++ [x]) ++ (a ++ c :: post) := by simp
    have hb : bt (arr (pre ++ (x :: a ++ c :: post))) pre.length = (x.toNat : Int) := bt_at pre (a ++ c :: post) x
    have hx := ha x (List.mem_cons_self ..)
    have hlt : pre.length < (arr (pre ++ (x :: a ++ c :: post))).size := by rw [arr_sz]; simp
    rw [runU_on ⟨hlt, by rw [hb]; exact hx⟩]
    have ih := runU_place p a (pre ++ [x]) c post (fun y hy => ha y (List.mem_cons_of_mem _ hy)) hc
    rw [e]
    have hl : (pre ++ [x]).length = pre.length + 1 := by simp
    rw [hl] at ih
    rw [ih]
    simp
    omega

/-- a sign that stands from p to q -/
structure Tok (s : ByteArray) (p q : Nat) (g : Sg) : Prop where
  sg : sign s p false = (g, q)
  nw : isW (bt s p) = false
  nc : bt s p ≠ 35
theorem Tok.now {s : ByteArray} {p q : Nat} {g : Sg} (h : Tok s p q g) {st : St} (hs : Sees s p st) : st.now = g ∧ st.i = q := ⟨by rw [hs.now, h.sg], by rw [hs.i, h.sg]⟩
/-- a sign behind one blank -/
theorem Tok.step {s : ByteArray} {p q : Nat} {g : Sg} (h : Tok s (p + 1) q g) {st : St} (hi : st.i = p) (hb : bt s p = 32 ∨ bt s p = 10 ∨ bt s p = 9) : Sees s (p + 1) (Tu.step s st) ∧ (Tu.step s st).now = g ∧ (Tu.step s st).i = q := by
  have hw : isW (bt s p) = true := by rcases hb with e | e | e <;> (rw [e]; rfl)
  have h1 := step_sees (s := s) (st := st) (p := p + 1) (by rw [hi, gap_sp hw, gap_at h.nw h.nc]) (.inl (by omega))
  exact ⟨h1, (h.now h1).1, (h.now h1).2⟩

theorem letter_cases {c : Int} (h : letter c = true) : (65 ≤ c ∧ c ≤ 90) ∨ (97 ≤ c ∧ c ≤ 122) := by unfold letter at h; exact of_decide_eq_true h
theorem digit_cases {c : Int} (h : digit c = true) : 48 ≤ c ∧ c ≤ 57 := by unfold digit at h; exact of_decide_eq_true h
theorem not_digit {c : Int} (h : c < 48 ∨ 57 < c) : digit c = false := by unfold digit; rw [decide_eq_false_iff_not]; omega
theorem not_letter {c : Int} (h : c < 65 ∨ (90 < c ∧ c < 97) ∨ 122 < c) : letter c = false := by unfold letter; rw [decide_eq_false_iff_not]; omega

theorem sign_word {s : ByteArray} {i : Nat} (h : bt s i = 58 ∨ letter (bt s i) = true) (b : Bool) : sign s i b = word s i := by
  have h0 : bt s i = 58 ∨ (65 ≤ bt s i ∧ bt s i ≤ 90) ∨ (97 ≤ bt s i ∧ bt s i ≤ 122) := h.imp id letter_cases
  have hd : digit (bt s i) = false := not_digit (by omega)
  unfold sign
  rw [if_neg (by omega), if_neg (by omega), if_neg (by omega), if_neg (by omega), if_neg (by omega), if_neg (by omega), if_neg (by rw [hd]; simp; omega), if_pos h]
theorem word_nw {c : Int} (h : c = 58 ∨ letter c = true) : isW c = false ∧ c ≠ 35 := by
  have h0 : c = 58 ∨ (65 ≤ c ∧ c ≤ 90) ∨ (97 ≤ c ∧ c ≤ 122) := h.imp id letter_cases
  unfold isW
  rw [decide_eq_false_iff_not]
  omega

/-- a row, or nothing -/
def RowE (r : List UInt8) : Prop := r = [] ∨ isRowL r = true
theorem RowE.facts {r : List UInt8} (h : RowE r) : r.length ≤ 20 ∧ (∀ x ∈ r, alnum (x.toNat : Int) = true) ∧ ∀ x l, r = x :: l → letter (x.toNat : Int) = true := by
  rcases h with rfl | h
  · exact ⟨by simp, by simp, by intro x l e; cases e⟩
  · cases r with
    | nil => simp [isRowL] at h
    | cons c r =>
      unfold isRowL at h
      simp only [Bool.and_eq_true, decide_eq_true_eq] at h
      obtain ⟨h1, h2, h3⟩ := h
      refine ⟨h1, fun x hx => (List.all_eq_true.1 h3) x hx, fun x l e => ?_⟩
      cases e
      exact h2

/-- a named one, a sign behind it that ends it -/
theorem nam_tok {r l : List UInt8} (hr : RowE r) (hl : isRestL l = true) {c : UInt8} (hc : inRest (c.toNat : Int) = false) {pre post : List UInt8} {s : ByteArray} (hs : s = arr (pre ++ (r ++ 58 :: (l ++ c :: post)))) :
    Tok s pre.length (pre.length + (r.length + 1 + l.length)) (.nam r l) := by
  obtain ⟨h1, h2, h3⟩ := hr.facts
  unfold isRestL at hl
  simp only [Bool.and_eq_true, decide_eq_true_eq] at hl
  obtain ⟨l1, l2⟩ := hl
  have l2 := List.all_eq_true.1 l2
  have hfirst : bt s pre.length = 58 ∨ letter (bt s pre.length) = true := by
    cases r with
    | nil => left; rw [hs]; exact bt_at pre (l ++ c :: post) 58
    | cons x r => right; have hb : bt s pre.length = (x.toNat : Int) := by rw [hs]; exact bt_at pre (r ++ 58 :: (l ++ c :: post)) x
                  rw [hb]; exact h3 x r rfl
  have e1 : runU alnum s pre.length = pre.length + r.length := by rw [hs]; exact runU_place alnum r pre 58 _ h2 (by decide)
  have hl2 : (pre ++ (r ++ [58])).length = pre.length + r.length + 1 := by simp; omega
  have hs2 : s = arr ((pre ++ (r ++ [58])) ++ (l ++ c :: post)) := by rw [hs]; simp
  have e2 : runU inRest s (pre.length + r.length + 1) = pre.length + r.length + 1 + l.length := by rw [← hl2, hs2]; exact runU_place inRest l _ c post l2 hc
  have e3 : bt s (pre.length + r.length) = 58 := by rw [hs]; exact at_end pre r (l ++ c :: post) 58
  have e4 : sub s pre.length (pre.length + r.length) = r := by rw [hs]; exact sub_pre pre r _
  have e5 : sub s (pre.length + r.length + 1) (pre.length + r.length + 1 + l.length) = l := by rw [← hl2, hs2]; exact sub_pre _ l _
  have hw := word_nw hfirst
  refine ⟨?_, hw.1, hw.2⟩
  rw [sign_word hfirst]
  unfold word
  rw [e1, if_pos e3, e2, if_neg (by omega), e4, e5]
  congr 1
  omega

/-- a row that stands alone -/
theorem row_tok {r : List UInt8} (hr : isRowL r = true) {pre post : List UInt8} {s : ByteArray} (hs : s = arr (pre ++ (r ++ 32 :: post))) :
    Tok s pre.length (pre.length + r.length) (.row r) := by
  obtain ⟨h1, h2, h3⟩ := RowE.facts (.inr hr)
  have hfirst : bt s pre.length = 58 ∨ letter (bt s pre.length) = true := by
    cases r with
    | nil => simp [isRowL] at hr
    | cons x r => right; have hb : bt s pre.length = (x.toNat : Int) := by rw [hs]; exact bt_at pre (r ++ 32 :: post) x
                  rw [hb]; exact h3 x r rfl
  have e1 : runU alnum s pre.length = pre.length + r.length := by rw [hs]; exact runU_place alnum r pre 32 _ h2 (by decide)
  have e3 : bt s (pre.length + r.length) = 32 := by rw [hs]; exact at_end pre r post 32
  have e4 : sub s pre.length (pre.length + r.length) = r := by rw [hs]; exact sub_pre pre r _
  have hw := word_nw hfirst
  refine ⟨?_, hw.1, hw.2⟩
  rw [sign_word hfirst]
  unfold word
  rw [e1, if_neg (by rw [e3]; decide), if_neg (by omega), e4]

/-- a number that stands alone -/
theorem num_tok {l : List UInt8} (hl : isNumL l = true) {pre post : List UInt8} {s : ByteArray} (hs : s = arr (pre ++ (l ++ 32 :: post))) :
    Tok s pre.length (pre.length + l.length) (.num l) := by
  obtain ⟨m, ds, hm, hl2, hd, hne⟩ : ∃ m ds : List UInt8, (m = [] ∨ m = [45]) ∧ l = m ++ ds ∧ (∀ x ∈ ds, digit (x.toNat : Int) = true) ∧ ds ≠ [] := by
    unfold isNumL at hl
    simp only [Bool.and_eq_true, bne_iff_ne, ne_eq] at hl
    obtain ⟨a, b⟩ := hl
    have b := List.all_eq_true.1 b
    unfold Lib.trimPrefix at a b
    by_cases hp : Lib.hasPrefix l [45] = true
    · rw [if_pos hp] at a b
      unfold Lib.hasPrefix at hp
      obtain ⟨t, ht⟩ := List.isPrefixOf_iff_prefix.1 hp
      refine ⟨[45], l.drop 1, .inr rfl, ?_, b, a⟩
      rw [← ht]
      rfl
    · rw [if_neg hp] at a b
      exact ⟨[], l, .inl rfl, rfl, b, a⟩
  obtain ⟨d, ds, rfl⟩ : ∃ d ds', ds = d :: ds' := by
    cases ds with
    | nil => exact absurd rfl hne
    | cons d ds => exact ⟨d, ds, rfl⟩
  have hd0 := hd d (List.mem_cons_self ..)
  have hs2 : s = arr ((pre ++ m) ++ ((d :: ds) ++ 32 :: post)) := by rw [hs, hl2]; simp
  have e1 : runU digit s (pre.length + m.length) = pre.length + m.length + (ds.length + 1) := by
    have := runU_place digit (d :: ds) (pre ++ m) 32 post hd (by decide)
    rw [← hs2, List.length_append] at this
    rw [this]
    simp
  have eb : bt s (pre.length + m.length) = (d.toNat : Int) := by
    have := bt_at (pre ++ m) (ds ++ 32 :: post) d
    rw [List.length_append] at this
    rw [hs2]
    exact this
  have hdc := digit_cases hd0
  have h45 : (bt s pre.length = 45 ∧ m.length = 1) ∨ (bt s pre.length = (d.toNat : Int) ∧ m.length = 0) := by
    rcases hm with rfl | rfl
    · right; simpa using eb
    · left
      refine ⟨?_, rfl⟩
      rw [hs2]
      have := bt_at pre ((d :: ds) ++ 32 :: post) 45
      simpa using this
  have hna : numAt s pre.length = pre.length + m.length := by
    unfold numAt
    rcases h45 with ⟨h, h'⟩ | ⟨h, h'⟩
    · rw [if_pos h, h']
    · rw [if_neg (by rw [h]; omega), h']; rfl
  have hsub : sub s pre.length (pre.length + l.length) = l := by rw [hs]; exact sub_pre pre l _
  have hll : l.length = m.length + (ds.length + 1) := by rw [hl2]; simp
  refine ⟨?_, ?_, ?_⟩
  · unfold sign
    rw [if_neg (by omega), if_neg (by omega), if_neg (by omega), if_neg (by omega), if_neg (by omega), if_neg (by omega), if_pos (by
      rcases h45 with ⟨h, _⟩ | ⟨h, _⟩
      · exact .inl h
      · right; rw [h]; exact hd0)]
    unfold number
    rw [hna, e1, if_neg (by omega), show pre.length + m.length + (ds.length + 1) = pre.length + l.length by omega, hsub]
  · unfold isW
    rw [decide_eq_false_iff_not]
    omega
  · omega

/-! Iris, as they are printed. -/

theorem iri_last {s : ByteArray} {i j : Nat} {t : List UInt8} (h : iri s i = .ok t j) : t.getLast? = some 62 := by
  unfold iri at h
  split at h
  · cases h
  · split at h
    · cases h
    · split at h
      · cases h
      · split at h
        · cases h
        · cases h
          simp

theorem trim_last {t : List UInt8} (h : t.getLast? = some 62) : trimG t ++ [62] = t := by
  unfold trimG
  rw [if_pos h]
  obtain ⟨a, ha⟩ := List.getLast?_eq_some_iff.1 h
  rw [ha]
  simp

theorem rest_whole {long t : List UInt8} (h : restOk long t = true) (ht : t.getLast? = some 62) : trimG long ++ restL long t ++ [62] = t := by
  unfold restOk at h
  simp only [Bool.and_eq_true] at h
  have hp := h.1
  have e : trimG long ++ restL long t = trimG t := by
    unfold restL Lib.trimPrefix
    rw [if_pos hp]
    unfold Lib.hasPrefix at hp
    obtain ⟨r, hr⟩ := List.isPrefixOf_iff_prefix.1 hp
    rw [← hr]
    simp
  rw [e, trim_last ht]

theorem iriN_cases (ns : List Nam2) (t : List UInt8) : iriN ns t = t ∨ ∃ x ∈ ns, restOk x.2 t = true ∧ iriN ns t = x.1 ++ 58 :: restL x.2 t := by
  have : ∀ (l : List Nam2) (acc : List UInt8 × Nat), (∀ x ∈ l, x ∈ ns) → (acc.1 = t ∨ ∃ x ∈ ns, restOk x.2 t = true ∧ acc.1 = x.1 ++ 58 :: restL x.2 t) → ((l.foldl (iriS t) acc).1 = t ∨ ∃ x ∈ ns, restOk x.2 t = true ∧ (l.foldl (iriS t) acc).1 = x.1 ++ 58 :: restL x.2 t) := by
    intro l
    induction l with
    | nil => intro acc _ h; exact h
    | cons x l ih =>
      intro acc hm h
      refine ih _ (fun y hy => hm y (List.mem_cons_of_mem _ hy)) ?_
      unfold iriS
      split
      · rename_i hx
        exact .inr ⟨x, hm x (List.mem_cons_self ..), hx.1, by simp⟩
      · exact h
  exact this ns (t, 0) (fun x h => h) (.inl rfl)

/-- the names are those that the printer had -/
def Knows (ns : List Nam2) (st : St) : Prop := ∀ x ∈ ns, look st.names x.1 = some x.2
theorem Knows.same {ns : List Nam2} {a b : St} (h : Knows ns a) (k : Same a b) : Knows ns b := fun x hx => by rw [k.names]; exact h x hx
def NamesOk (ns : List Nam2) : Prop := ∀ x ∈ ns, RowE x.1 ∧ kindOf (arr x.2) = 1

/-- a sign that says an iri -/
def IriS (ns : List Nam2) (t : List UInt8) (g : Sg) : Prop := g = .iri t ∨ ∃ x ∈ ns, ∃ l, g = .nam x.1 l ∧ trimG x.2 ++ l ++ [62] = t
theorem IriS.iriP {ns : List Nam2} {t : List UInt8} {g : Sg} (h : IriS ns t g) {s : ByteArray} {st : St} (hn : st.now = g) (hk : Knows ns st) : Tu.iriP s st = .ok t (step s st) := by
  unfold Tu.iriP
  rcases h with rfl | ⟨x, hx, l, rfl, e⟩
  · rw [hn]
  · rw [hn]
    simp only
    rw [hk x hx]
    simp only
    rw [e]
theorem IriS.res {ns : List Nam2} {t : List UInt8} {g : Sg} (h : IriS ns t g) {s : ByteArray} {st : St} (hn : st.now = g) (hk : Knows ns st) (hl : t.length ≤ 200) : Tu.res s st = .ok t (step s st) := by
  unfold Tu.res
  rw [h.iriP hn hk]
  simp only
  unfold bnd
  rw [if_neg (by omega)]
theorem IriS.kind {ns : List Nam2} {t : List UInt8} {g : Sg} (h : IriS ns t g) : Sg.is_pre g = false ∧ Sg.is_fin g = false ∧ g.isStr = false ∧ (∀ c, g ≠ .one c) ∧ (∀ c, g ≠ .row c) ∧ (∀ c, g ≠ .blk c) ∧ (∀ c, g ≠ .str c) ∧ (∀ c, g ≠ .num c) := by
  rcases h with rfl | ⟨x, hx, l, rfl, e⟩
  · exact ⟨rfl, rfl, rfl, nofun, nofun, nofun, nofun, nofun⟩
  · exact ⟨rfl, rfl, rfl, nofun, nofun, nofun, nofun, nofun⟩

theorem iri_tok {s0 : ByteArray} {i0 j0 : Nat} {t : List UInt8} (h : iri s0 i0 = .ok t j0) {pre post : List UInt8} {s : ByteArray} (hs : s = arr (pre ++ (t ++ post))) : Tok s pre.length (pre.length + t.length) (.iri t) := by
  have hb := iri_back h pre post
  rw [← hs] at hb
  have h60 := iri_60 hb
  refine ⟨?_, by rw [h60]; rfl, by rw [h60]; decide⟩
  rw [sign60 h60, hb]
  rfl

theorem iriN_tok {ns : List Nam2} (hns : NamesOk ns) {s0 : ByteArray} {i0 j0 : Nat} {t : List UInt8} (h : iri s0 i0 = .ok t j0) {pre post : List UInt8} {s : ByteArray} (hs : s = arr (pre ++ (iriN ns t ++ 32 :: post))) :
    ∃ g, Tok s pre.length (pre.length + (iriN ns t).length) g ∧ IriS ns t g := by
  rcases iriN_cases ns t with e | ⟨x, hx, hr, e⟩
  · rw [e] at hs ⊢
    exact ⟨.iri t, iri_tok h hs, .inl rfl⟩
  · rw [e] at hs ⊢
    refine ⟨.nam x.1 (restL x.2 t), ?_, .inr ⟨x, hx, _, rfl, rest_whole hr (iri_last h)⟩⟩
    have hr2 : isRestL (restL x.2 t) = true := by
      unfold restOk at hr
      simp only [Bool.and_eq_true] at hr
      exact hr.2
    have := nam_tok (hns x hx).1 hr2 (c := 32) (by decide) (pre := pre) (post := post) (s := s) (by rw [hs]; simp)
    have el : (x.1 ++ 58 :: restL x.2 t).length = x.1.length + 1 + (restL x.2 t).length := by simp; omega
    rw [el]
    exact this

theorem kind1 {t : List UInt8} (h : kindOf (arr t) = 1) : iri (arr t) 0 = .ok t t.length := by
  rcases kind_cases (t := t) (by omega) with ⟨a, b⟩ | ⟨a, b⟩ | ⟨a, b⟩
  · exact b
  · omega
  · omega

/-! Subject, verb, object at their places. -/

theorem verbN_tok {ns : List Nam2} (hns : NamesOk ns) {t : List UInt8} (h : kindOf (arr t) = 1) {pre post : List UInt8} {s : ByteArray} (hs : s = arr (pre ++ (verbN ns t ++ 32 :: post))) :
    ∃ g, Tok s pre.length (pre.length + (verbN ns t).length) g ∧ g.isStr = false ∧ (∀ c, g ≠ .one c) ∧ ∀ st, st.now = g → Knows ns st → verb s st = .ok t (step s st) := by
  unfold verbN at hs ⊢
  by_cases ht : t = typeI
  · rw [if_pos ht] at hs ⊢
    refine ⟨.row [97], row_tok (by decide) hs, rfl, nofun, fun st hn _ => ?_⟩
    unfold verb
    rw [hn]
    simp only [if_true]
    rw [ht]
  · rw [if_neg ht] at hs ⊢
    obtain ⟨g, hg, hi⟩ := iriN_tok hns (kind1 h) hs
    refine ⟨g, hg, hi.kind.2.2.1, hi.kind.2.2.2.1, fun st hn hk => ?_⟩
    have hr := hi.res (s := s) hn hk (kind_len (by omega))
    unfold verb
    split
    · rename_i l hq
      exact absurd (hn.symm.trans hq) (hi.kind.2.2.2.2.1 l)
    · exact hr

theorem subjN_tok {ns : List Nam2} (hns : NamesOk ns) {t : List UInt8} (h : kindOf (arr t) = 1 ∨ kindOf (arr t) = 2) (hm : isMade t = false) {pre post : List UInt8} {s : ByteArray} (hs : s = arr (pre ++ (termN ns t ++ 32 :: post))) :
    ∃ g, Tok s pre.length (pre.length + (termN ns t).length) g ∧ g.isStr = false ∧ Sg.is_pre g = false ∧ Sg.is_fin g = false ∧ (∀ c, g ≠ .str c) ∧ (∀ c, g ≠ .num c) ∧ (∀ c, g ≠ .row c) ∧ ∀ st, st.now = g → Knows ns st → ∀ ob N, subj ob s N st = .ok t (step s st) := by
  unfold termN at hs ⊢
  change s = arr (pre ++ ((if kindOf (arr t) = 1 then iriN ns t else if kindOf (arr t) = 3 then litN ns t (partsOf (arr t)).1 else t) ++ 32 :: post)) at hs
  change ∃ g, Tok s pre.length (pre.length + (if kindOf (arr t) = 1 then iriN ns t else if kindOf (arr t) = 3 then litN ns t (partsOf (arr t)).1 else t).length) g ∧ _
  rcases h with h | h
  · rw [if_pos h] at hs ⊢
    obtain ⟨g, hg, hi⟩ := iriN_tok hns (kind1 h) hs
    have hk := hi.kind
    refine ⟨g, hg, hk.2.2.1, hk.1, hk.2.1, hk.2.2.2.2.2.2.1, hk.2.2.2.2.2.2.2, hk.2.2.2.2.1, fun st hn hkn ob N => ?_⟩
    have hr := hi.res (s := s) hn hkn (kind_len (by omega))
    unfold subj
    split
    · rename_i l hq; exact absurd (hn.symm.trans hq) (hk.2.2.2.2.2.1 l)
    · rename_i c hq; exact absurd (hn.symm.trans hq) (hk.2.2.2.1 c)
    · exact hr
  · rw [if_neg (by omega), if_neg (by omega)] at hs ⊢
    have hp := place (t := t) (k := kindOf (arr t)) rfl (by omega) pre post
    rw [h, ← hs] at hp
    have hb : blank s pre.length = .ok t (pre.length + t.length) := by simpa [readK] using hp.1
    have h95 := blank_95 hb
    refine ⟨.blk t, ⟨?_, by rw [h95]; rfl, by rw [h95]; decide⟩, rfl, rfl, rfl, nofun, nofun, nofun, fun st hn _ ob N => ?_⟩
    · rw [sign95 h95, hb]; rfl
    · unfold subj
      rw [hn]
      simp only
      rw [hm]
      simp

end Tu
end Go.Proofs.YtfapcangooodeabGreatDoor

set_option linter.unusedSimpArgs false
set_option linter.unusedVariables false
namespace Go.Proofs.YtfapcangooodeabGreatDoor
open Back
namespace Tu

/-! An object, as it is printed. -/

theorem parts_inv {s : ByteArray} {p : Lit} {i j : Nat} (h : parts s i = .ok p j) : VU p.text ∧ (p.kind = [] ∨ ∃ a b, iri s a = .ok p.kind b) ∧ (p.lang = [] ∨ p.kind = []) := by
  unfold parts at h
  split at h
  · cases h
  · rename_i t j0 hq
    have hv := quoted_valid hq
    split at h
    · split at h
      · cases h
      · cases h
        exact ⟨hv.1, .inl rfl, .inr rfl⟩
    · split at h
      · split at h
        · cases h
        · split at h
          · cases h
          · rename_i m k hi
            cases h
            exact ⟨hv.1, .inr ⟨_, _, hi⟩, .inl rfl⟩
      · cases h
        exact ⟨hv.1, .inl rfl, .inl rfl⟩

theorem trimSuffix_app (a k : List UInt8) : Lib.trimSuffix (a ++ k) k = a := by
  unfold Lib.trimSuffix Lib.hasSuffix
  rw [if_pos (List.isSuffixOf_iff_suffix.2 ⟨a, rfl⟩)]
  simp

theorem objG_subj {s : ByteArray} {st : St} (h1 : ∀ c, st.now ≠ .str c) (h2 : ∀ c, st.now ≠ .num c) (h3 : ∀ c, st.now ≠ .row c) (ob : St → PR (List UInt8)) (N : Nat) : objG ob s N st = subj ob s N st := by
  unfold objG
  split
  · rename_i l hq; exact absurd hq (h1 l)
  · rename_i l hq; exact absurd hq (h2 l)
  · rename_i l hq; exact absurd hq (h3 l)
  · rfl

/-- what is read of an object -/
def ObjAt (ns : List Nam2) (t u : List UInt8) : Prop := ∀ (pre post : List UInt8) (s : ByteArray), s = arr (pre ++ (u ++ 32 :: post)) →
  (isW (bt s pre.length) = false ∧ bt s pre.length ≠ 35) ∧ ∀ (c : Nat), Sep s (pre.length + u.length) c → ∀ st, Sees s pre.length st → Knows ns st →
    ∃ st', (∀ ob N, objG ob s N st = .ok t st') ∧ Same st st' ∧ Sees s (pre.length + u.length + 1) st' ∧ st'.now = .one c ∧ st'.i = pre.length + u.length + 2

theorem obj_self (ns : List Nam2) {t : List UInt8} (hk : kindOf (arr t) ≠ 0) (hm : isMade t = false) : ObjAt ns t t := by
  intro pre post s hs
  have f := first_at hs hk
  refine ⟨⟨f.1.1, f.1.2.1⟩, fun c hp st h _ => ?_⟩
  obtain ⟨st', a, b⟩ := obj_at' hs hk hp h
  refine ⟨st', fun ob N => ?_, b⟩
  rw [a ob N, if_neg (by rw [hm]; simp)]

theorem obj_subj {ns : List Nam2} (hns : NamesOk ns) {t : List UInt8} (hk : kindOf (arr t) = 1 ∨ kindOf (arr t) = 2) (hm : isMade t = false) : ObjAt ns t (termN ns t) := by
  intro pre post s hs
  obtain ⟨g, hg, a, b, c, d, e, f, k⟩ := subjN_tok hns hk hm hs
  refine ⟨⟨hg.nw, hg.nc⟩, fun c hp st h hkn => ?_⟩
  obtain ⟨hn, hi⟩ := hg.now h
  have h2 := hp.sees hi
  refine ⟨step s st, fun ob N => ?_, Same.step s st, h2⟩
  rw [objG_subj (fun c => by rw [hn]; exact d c) (fun c => by rw [hn]; exact e c) (fun c => by rw [hn]; exact f c)]
  exact k st hn hkn ob N

theorem obj_num (ns : List Nam2) {t l : List UInt8} (hl : isNumL l = true) (ht : form l [] wholeK = t) (hz : t.length ≤ 200) : ObjAt ns t l := by
  intro pre post s hs
  have hg := num_tok hl hs
  refine ⟨⟨hg.nw, hg.nc⟩, fun c hp st h hkn => ?_⟩
  obtain ⟨hn, hi⟩ := hg.now h
  have h2 := hp.sees hi
  refine ⟨step s st, fun ob N => ?_, Same.step s st, h2⟩
  unfold objG
  rw [hn]
  simp only
  rw [ht]
  unfold bnd
  rw [if_neg (by omega)]

theorem obj_truth (ns : List Nam2) {t l : List UInt8} (hl : isTruth l = true) (ht : form l [] truthK = t) : ObjAt ns t l := by
  intro pre post s hs
  have hrow : isRowL l = true := by
    unfold isTruth at hl
    simp only [Bool.or_eq_true, beq_iff_eq] at hl
    rcases hl with rfl | rfl <;> decide
  have hg := row_tok hrow hs
  refine ⟨⟨hg.nw, hg.nc⟩, fun c hp st h hkn => ?_⟩
  obtain ⟨hn, hi⟩ := hg.now h
  have h2 := hp.sees hi
  refine ⟨step s st, fun ob N => ?_, Same.step s st, h2⟩
  unfold objG
  rw [hn]
  simp only
  rw [if_pos hl, ht]

theorem obj_kind {ns : List Nam2} (hns : NamesOk ns) {x k t : List UInt8} (hv : VU x) {s0 : ByteArray} {a0 b0 : Nat} (hk : iri s0 a0 = .ok k b0) (ht : form x [] k = t) (hz : t.length ≤ 200) : ObjAt ns t ([34] ++ (escaped x ++ [34, 94, 94]) ++ iriN ns k) := by
  intro pre post s hs
  have e0 : s = arr (pre ++ ([34] ++ (escaped x ++ 34 :: (94 :: 94 :: (iriN ns k ++ 32 :: post))))) := by rw [hs]; simp
  have hq := quoted_place hv pre (94 :: 94 :: (iriN ns k ++ 32 :: post))
  rw [← e0] at hq
  have a0 := behind_quoted x pre (94 :: 94 :: (iriN ns k ++ 32 :: post)) 0 94 rfl
  have a1 := behind_quoted x pre (94 :: 94 :: (iriN ns k ++ 32 :: post)) 1 94 rfl
  simp only [Nat.add_zero] at a0
  rw [← e0] at a0 a1
  have a0 : bt s (pre.length + (1 + (escaped x).length + 1)) = 94 := a0
  have a1 : bt s (pre.length + (1 + (escaped x).length + 1) + 1) = 94 := a1
  have h34 : bt s pre.length = 34 := by
    rw [e0]
    exact bt_at pre (escaped x ++ 34 :: (94 :: 94 :: (iriN ns k ++ 32 :: post))) 34
  have el : (pre ++ ([34] ++ (escaped x ++ [34, 94, 94]))).length = pre.length + (1 + (escaped x).length + 1) + 2 := by simp; omega
  have ez : pre.length + ([34] ++ (escaped x ++ [34, 94, 94]) ++ iriN ns k).length = pre.length + (1 + (escaped x).length + 1) + 2 + (iriN ns k).length := by simp; omega
  obtain ⟨g, hg, hi⟩ := iriN_tok hns hk (pre := pre ++ ([34] ++ (escaped x ++ [34, 94, 94]))) (post := post) (s := s) (by rw [hs]; simp)
  rw [el] at hg
  rw [ez]
  refine ⟨⟨by rw [h34]; rfl, by rw [h34]; decide⟩, fun c hp st h hkn => ?_⟩
  generalize hj : pre.length + (1 + (escaped x).length + 1) = j0 at *
  have hnow : st.now = .str x := by rw [h.now, sign34 h34, hq]; rfl
  have hi0 : st.i = j0 := by rw [h.i, sign34 h34, hq]; rfl
  have hstr : st.now.isStr = true := by rw [hnow]; rfl
  have e1 := step_at (s := s) (st := st) (by rw [hi0, a0]; rfl) (by rw [hi0, a0]; omega)
  rw [hstr, hi0, sign94 a0 a1] at e1
  have hn1 : (step s st).now = .knd := by rw [e1]
  have hi1 : (step s st).i = j0 + 2 := by rw [e1]
  have hg2 : gap s (step s st).i = j0 + 2 := by rw [hi1, gap_at hg.nw hg.nc]
  have s2 := step_sees (s := s) (st := step s st) hg2 (.inr (by rw [hn1]; rfl))
  obtain ⟨hn2, hi2⟩ := hg.now s2
  have hkn2 : Knows ns (step s (step s st)) := hkn.same ((Same.step s st).trans (Same.step s _))
  have hP := hi.iriP (s := s) hn2 hkn2
  have h3 := hp.sees hi2
  refine ⟨step s (step s (step s st)), fun ob N => ?_, ((Same.step s st).trans (Same.step s _)).trans (Same.step s _), h3⟩
  unfold objG
  rw [hnow]
  simp only
  unfold lit
  rw [hn1]
  simp only
  rw [hP]
  simp only
  rw [ht]
  unfold bnd
  rw [if_neg (by omega)]

theorem objN_at {ns : List Nam2} (hns : NamesOk ns) {t : List UInt8} (hk : kindOf (arr t) ≠ 0) (hm : isMade t = false) : ObjAt ns t (termN ns t) := by
  rcases kind_cases hk with ⟨h1, h2⟩ | ⟨h1, h2⟩ | ⟨h1, p0, h2, h3⟩
  · exact obj_subj hns (.inl h1) hm
  · exact obj_subj hns (.inr h1) hm
  · obtain ⟨p, q1, q2, q3, q4⟩ := partsOf3 (t := t) h1
    have e : termN ns t = litN ns t p := by
      unfold termN
      change (if kindOf (arr t) = 1 then iriN ns t else if kindOf (arr t) = 3 then litN ns t (partsOf (arr t)).1 else t) = _
      have q1 : partsOf (arr t) = (p, 0) := q1
      rw [if_neg (by omega), if_pos h1, q1]
    rw [e]
    have q2 : parts (arr t) 0 = .ok p t.length := q2
    obtain ⟨i1, i2, i3⟩ := parts_inv q2
    have hself := obj_self ns hk hm
    unfold litN
    by_cases k0 : p.kind = []
    · rw [if_pos k0]; exact hself
    · have hl0 : p.lang = [] := i3.resolve_right k0
      rw [hl0] at q3
      rw [if_neg k0]
      by_cases k1 : p.kind = wholeK
      · rw [if_pos k1]
        unfold shortL
        split
        · rename_i hn
          rw [k1] at q3
          exact obj_num ns hn q3 q4
        · exact hself
      · rw [if_neg k1]
        by_cases k2 : p.kind = truthK
        · rw [if_pos k2]
          unfold shortL
          split
          · rename_i hn
            rw [k2] at q3
            exact obj_truth ns hn q3
          · exact hself
        · rw [if_neg k2]
          have hsk : p.kind ≠ stringKind := by
            intro hs
            have hb := (parts_back (s := arr t) (p := p) (by rw [arr_sz]; exact q2)).1
            rw [hl0, q3, q2] at hb
            have he : p = oneParts p := (R.ok.inj hb).1
            have : p.kind = [] := by
              rw [he]
              unfold oneParts
              simp only
              rw [if_pos hs]
            exact k0 this
          obtain ⟨a, b, hi⟩ := i2.resolve_left k0
          have hf : t = ([34] ++ (escaped p.text ++ [34, 94, 94])) ++ p.kind := by
            rw [← q3]
            unfold form
            rw [if_neg (by simp), if_pos ⟨k0, hsk⟩]
            simp
          have ht : Lib.trimSuffix t p.kind = [34] ++ (escaped p.text ++ [34, 94, 94]) := by
            rw [hf, trimSuffix_app]
          rw [ht]
          exact obj_kind hns i1 hi q3 q4

end Tu
end Go.Proofs.YtfapcangooodeabGreatDoor

set_option linter.unusedSimpArgs false
set_option linter.unusedVariables false
namespace Go.Proofs.YtfapcangooodeabGreatDoor
open Back
namespace Tu

/-! A set, as it is printed, is read back. -/

/-- what is printed behind a sentence's object -/
def tailN (ns : List Nam2) : Tri → List Tri → List UInt8
  | _, [] => [32, 46, 10]
  | a, x :: l => headN ns (some a) x ++ (termN ns x.o ++ tailN ns x l)
theorem restN_tail (ns : List Nam2) : ∀ (l : List Tri) (a : Tri), restN ns (some a) l ++ [32, 46, 10] = tailN ns a l
  | [], a => by simp [restN, tailN]
  | x :: l, a => by
    simp only [restN, tailN]
    rw [← restN_tail ns l x]
    simp
theorem setN_tail (ns : List Nam2) (x : Tri) (l : List Tri) : setN ns (x :: l) = termN ns x.s ++ 32 :: (verbN ns x.p ++ 32 :: (termN ns x.o ++ tailN ns x l)) := by
  unfold setN
  rw [if_neg (List.cons_ne_nil x l), ← restN_tail]
  simp [restN, headN]

/-- the sign that stands behind a sentence's object -/
def sepC (a : Tri) : List Tri → Nat
  | [] => 46
  | x :: _ => if x.s ≠ a.s then 46 else if x.p ≠ a.p then 59 else 44
theorem tail_cons (ns : List Nam2) (a : Tri) (l : List Tri) : ∃ r, tailN ns a l = 32 :: UInt8.ofNat (sepC a l) :: r := by
  cases l with
  | nil => exact ⟨[10], rfl⟩
  | cons x l =>
    simp only [tailN, headN, sepC]
    by_cases h1 : x.s ≠ a.s
    · rw [if_pos h1, if_pos h1]; simp
    · rw [if_neg h1, if_neg h1]
      by_cases h2 : x.p ≠ a.p
      · rw [if_pos h2, if_pos h2]; simp
      · rw [if_neg h2, if_neg h2]; simp
theorem sepC_cases (a : Tri) (l : List Tri) : sepC a l = 46 ∨ sepC a l = 59 ∨ sepC a l = 44 := by
  cases l with
  | nil => exact .inl rfl
  | cons x l =>
    simp only [sepC]
    split
    · exact .inl rfl
    · split
      · exact .inr (.inl rfl)
      · exact .inr (.inr rfl)
theorem tail_sep {ns : List Nam2} {a : Tri} {l : List Tri} {s : ByteArray} {pre : List UInt8} (hs : s = arr (pre ++ tailN ns a l)) : Sep s pre.length (sepC a l) := by
  obtain ⟨r, hr⟩ := tail_cons ns a l
  rw [hr] at hs
  have h1 := bt_at pre (UInt8.ofNat (sepC a l) :: r) 32
  have h2 := bt_at1 pre r 32 (UInt8.ofNat (sepC a l))
  rw [← hs] at h1 h2
  refine ⟨h1, ?_, ?_⟩
  · rw [h2]
    rcases sepC_cases a l with e | e | e <;> (rw [e]; rfl)
  · rcases sepC_cases a l with e | e | e <;> (rw [e]; decide)

def GoodT (x : Tri) : Prop := soundT x = true ∧ madeT x = false
theorem GoodT.made {x : Tri} (h : GoodT x) : isMade x.s = false ∧ isMade x.o = false := by
  have := h.2
  unfold madeT at this
  simpa using this

/-- the signs behind an object, to the text's end -/
def cont (s : ByteArray) (N : Nat) (su ve : List UInt8) (n1 n2 n3 : Nat) (st : St) : PR Unit := match objsL (obj s N 8) s su ve n1 st with
  | .bad n j => .bad n j
  | .ok _ st2 => match listL (obj s N 8) s N su n2 st2 with
    | .bad n j => .bad n j
    | .ok _ st3 => match want s 46 st3 with
      | .bad n j => .bad n j
      | .ok _ st4 => textL s N n3 st4

/-- an object and what stands behind it -/
theorem obj_says {ns : List Nam2} (hns : NamesOk ns) {x : Tri} (hx : GoodT x) {l : List Tri} {s : ByteArray} {pre : List UInt8} (hs : s = arr (pre ++ (termN ns x.o ++ tailN ns x l))) :
    (isW (bt s pre.length) = false ∧ bt s pre.length ≠ 35) ∧ ∃ pre' : List UInt8, s = arr (pre' ++ tailN ns x l) ∧ ∀ st, Sees s pre.length st → Knows ns st →
      ∃ st', (∀ N, obj s N 8 st = .ok x.o st') ∧ Same st st' ∧ st'.now = .one (sepC x l) ∧ st'.i = pre'.length + 2 := by
  obtain ⟨r, hr⟩ := tail_cons ns x l
  have hs1 : s = arr ((pre ++ termN ns x.o) ++ tailN ns x l) := by rw [hs]; simp
  have hsep := tail_sep hs1
  rw [List.length_append] at hsep
  obtain ⟨f, k⟩ := objN_at hns (sound_kinds hx.1).2.2 hx.made.2 pre (UInt8.ofNat (sepC x l) :: r) s (by rw [hs, hr])
  refine ⟨f, pre ++ termN ns x.o, hs1, fun st h hk => ?_⟩
  obtain ⟨st', a, b, c, d, e⟩ := k (sepC x l) hsep st h hk
  refine ⟨st', fun N => ?_, b, d, by rw [e, List.length_append]⟩
  rw [obj_inn]
  exact a _ N

/-- a verb, an object and what stands behind it -/
theorem verb_says {ns : List Nam2} (hns : NamesOk ns) {x : Tri} (hx : GoodT x) {l : List Tri} {s : ByteArray} {pre : List UInt8} (hs : s = arr (pre ++ (verbN ns x.p ++ 32 :: (termN ns x.o ++ tailN ns x l)))) :
    (isW (bt s pre.length) = false ∧ bt s pre.length ≠ 35) ∧ ∃ pre' : List UInt8, s = arr (pre' ++ tailN ns x l) ∧ ∀ st, Sees s pre.length st → Knows ns st →
      (∀ c, st.now ≠ .one c) ∧ ∃ st', verb s st = .ok x.p (step s st) ∧ (∀ N su, objs (obj s N 8) s N su x.p (step s st) = objsL (obj s N 8) s su x.p N (say st' su x.p x.o)) ∧ Same st st' ∧ st'.now = .one (sepC x l) ∧ st'.i = pre'.length + 2 := by
  obtain ⟨g, hg, g1, g2, g3⟩ := verbN_tok hns (sound_kinds hx.1).2.1 hs
  have hs1 : s = arr ((pre ++ (verbN ns x.p ++ [32])) ++ (termN ns x.o ++ tailN ns x l)) := by rw [hs]; simp
  have l1 : (pre ++ (verbN ns x.p ++ [32])).length = pre.length + (verbN ns x.p).length + 1 := by simp; omega
  obtain ⟨f, pre', p1, p2⟩ := obj_says hns hx hs1
  rw [l1] at f p2
  refine ⟨⟨hg.nw, hg.nc⟩, pre', p1, fun st h hk => ?_⟩
  obtain ⟨hn, hi⟩ := hg.now h
  have hb : bt s (pre.length + (verbN ns x.p).length) = 32 := by rw [hs]; exact at_end pre _ _ 32
  have s1 := step_sees (s := s) (st := st) (p := pre.length + (verbN ns x.p).length + 1) (by rw [hi, gap_one hb f.1 f.2]) (.inr (by rw [hn]; exact g1))
  obtain ⟨st', a, b, c, d⟩ := p2 _ s1 (hk.same (Same.step s st))
  refine ⟨fun c => by rw [hn]; exact g2 c, st', g3 st hn hk, fun N su => ?_, (Same.step s st).trans b, c, d⟩
  unfold objs
  rw [a N]

theorem Knows.say {ns : List Nam2} {st : St} (h : Knows ns st) (a b c : List UInt8) : Knows ns (say st a b c) := h

theorem sent_says {ns : List Nam2} (hns : NamesOk ns) {x : Tri} (hx : GoodT x) {l : List Tri} {s : ByteArray} {pre : List UInt8} (hs : s = arr (pre ++ (termN ns x.s ++ 32 :: (verbN ns x.p ++ 32 :: (termN ns x.o ++ tailN ns x l))))) :
    (isW (bt s pre.length) = false ∧ bt s pre.length ≠ 35) ∧ ∃ pre' : List UInt8, s = arr (pre' ++ tailN ns x l) ∧ ∀ st, Sees s pre.length st → Knows ns st →
      ∃ st', (∀ N n, textL s N (n + 1) st = cont s N x.s x.p N N n st') ∧ st'.said = st.said ++ [x] ∧ Knows ns st' ∧ st'.now = .one (sepC x l) ∧ st'.i = pre'.length + 2 := by
  obtain ⟨g, hg, g1, g2, g3, g4, g5, g6, g7⟩ := subjN_tok hns (sound_kinds hx.1).1 hx.made.1 hs
  have hs1 : s = arr ((pre ++ (termN ns x.s ++ [32])) ++ (verbN ns x.p ++ 32 :: (termN ns x.o ++ tailN ns x l))) := by rw [hs]; simp
  have l1 : (pre ++ (termN ns x.s ++ [32])).length = pre.length + (termN ns x.s).length + 1 := by simp; omega
  obtain ⟨f, pre', p1, p2⟩ := verb_says hns hx hs1
  rw [l1] at f p2
  refine ⟨⟨hg.nw, hg.nc⟩, pre', p1, fun st h hk => ?_⟩
  obtain ⟨hn, hi⟩ := hg.now h
  have hb : bt s (pre.length + (termN ns x.s).length) = 32 := by rw [hs]; exact at_end pre _ _ 32
  have s1 := step_sees (s := s) (st := st) (p := pre.length + (termN ns x.s).length + 1) (by rw [hi, gap_one hb f.1 f.2]) (.inr (by rw [hn]; exact g1))
  obtain ⟨_, st', a, b, c, d, e⟩ := p2 _ s1 (hk.same (Same.step s st))
  have hsame := (Same.step s st).trans c
  refine ⟨say st' x.s x.p x.o, fun N n => ?_, ?_, (hk.same hsame).say _ _ _, d, e⟩
  · rw [textL_on (by rw [hn]; exact g3), sentL_sub (by rw [hn]; exact g2), g7 st hn hk]
    simp only
    unfold list
    rw [a]
    simp only
    rw [b N x.s]
    unfold cont
    generalize objsL (obj s N 8) s x.s x.p N (say st' x.s x.p x.o) = q
    cases q with
    | bad n j => rfl
    | ok u st2 =>
      simp only
      generalize listL (obj s N 8) s N x.s N st2 = q2
      cases q2 <;> rfl
  · show st'.said ++ [⟨x.s, x.p, x.o⟩] = _
    rw [hsame.said]

theorem want_dot {s : ByteArray} {st : St} (h : st.now = .one 46) : want s 46 st = .ok () (step s st) := by
  unfold want
  rw [h]
  simp
theorem takesC {c d : Nat} {st : St} (h : st.now = .one d) : takes c st = decide (d = c) := by
  unfold takes
  rw [h]

theorem cont_says {ns : List Nam2} (hns : NamesOk ns) (N : Nat) : ∀ (l : List Tri) (a : Tri) (s : ByteArray) (pre : List UInt8) (st : St) (n1 n2 n3 : Nat), s = arr (pre ++ tailN ns a l) → (∀ x ∈ l, GoodT x) → st.now = .one (sepC a l) → st.i = pre.length + 2 → Knows ns st → l.length < n1 → l.length < n2 → l.length < n3 → l.length < N →
    ∃ st', cont s N a.s a.p n1 n2 n3 st = .ok () st' ∧ st'.said = st.said ++ l
  | [], a, s, pre, st, n1, n2, n3, hs, hx, hn, hi, hk, h1, h2, h3, hN => by
    obtain ⟨n1, rfl⟩ : ∃ m, n1 = m + 1 := ⟨n1 - 1, by simp at h1; omega⟩
    obtain ⟨n2, rfl⟩ : ∃ m, n2 = m + 1 := ⟨n2 - 1, by simp at h2; omega⟩
    obtain ⟨n3, rfl⟩ : ∃ m, n3 = m + 1 := ⟨n3 - 1, by simp at h3; omega⟩
    have hn : st.now = .one 46 := hn
    have b10 : bt s (pre.length + 2) = 10 := by
      have := bt_at (pre ++ [32, 46]) [] 10
      have e : pre ++ [32, 46] ++ [10] = pre ++ tailN ns a [] := by simp [tailN]
      rw [e, ← hs] at this
      simpa using this
    have b256 : bt s (pre.length + 2 + 1) = 256 := by rw [hs]; exact bt_arr_none (by simp [tailN])
    have hsee := step_sees (s := s) (st := st) (p := pre.length + 2 + 1) (by rw [hi, gap_line b10 (by rw [b256]; rfl) (by rw [b256]; omega)]) (.inr (by rw [hn]; rfl))
    have hf : (step s st).now = .fin := by rw [hsee.now, fin_sign b256]
    refine ⟨step s st, ?_, by simp [Same.said (Same.step s st)]⟩
    unfold cont
    rw [objsL, if_neg (by rw [takesC hn]; decide)]
    simp only
    rw [listL, if_neg (by rw [takesC hn]; decide)]
    simp only
    rw [want_dot hn]
    simp only
    rw [textL_fin hf]
  | x :: l, a, s, pre, st, n1, n2, n3, hs, hx, hn, hi, hk, h1, h2, h3, hN => by
    obtain ⟨n1, rfl⟩ : ∃ m, n1 = m + 1 := ⟨n1 - 1, by simp at h1; omega⟩
    obtain ⟨n2, rfl⟩ : ∃ m, n2 = m + 1 := ⟨n2 - 1, by simp at h2; omega⟩
    obtain ⟨n3, rfl⟩ : ∃ m, n3 = m + 1 := ⟨n3 - 1, by simp at h3; omega⟩
    have hgx := hx x (List.mem_cons_self ..)
    have hgl : ∀ y ∈ l, GoodT y := fun y hy => hx y (List.mem_cons_of_mem _ hy)
    simp only [List.length_cons] at h1 h2 h3 hN
    simp only [tailN, headN] at hs
    simp only [sepC] at hn
    by_cases c1 : x.s ≠ a.s
    · rw [if_pos c1] at hs hn
      have hs1 : s = arr ((pre ++ [32, 46, 10]) ++ (termN ns x.s ++ 32 :: (verbN ns x.p ++ 32 :: (termN ns x.o ++ tailN ns x l)))) := by rw [hs]; simp
      have l1 : (pre ++ [32, 46, 10]).length = pre.length + 2 + 1 := by simp
      obtain ⟨f, pre', p1, p2⟩ := sent_says hns hgx hs1
      rw [l1] at f p2
      have b10 : bt s (pre.length + 2) = 10 := by
        have := bt_at (pre ++ [32, 46]) (termN ns x.s ++ 32 :: (verbN ns x.p ++ 32 :: (termN ns x.o ++ tailN ns x l))) 10
        have e : pre ++ [32, 46] ++ 10 :: (termN ns x.s ++ 32 :: (verbN ns x.p ++ 32 :: (termN ns x.o ++ tailN ns x l))) = (pre ++ [32, 46, 10]) ++ (termN ns x.s ++ 32 :: (verbN ns x.p ++ 32 :: (termN ns x.o ++ tailN ns x l))) := by simp
        rw [e, ← hs1] at this
        simpa using this
      have hsee := step_sees (s := s) (st := st) (p := pre.length + 2 + 1) (by rw [hi, gap_line b10 f.1 f.2]) (.inr (by rw [hn]; rfl))
      obtain ⟨st', q1, q2, q3, q4, q5⟩ := p2 _ hsee (hk.same (Same.step s st))
      obtain ⟨st2, r1, r2⟩ := cont_says hns N l x s pre' st' N N n3 p1 hgl q4 q5 q3 (by omega) (by omega) (by omega) (by omega)
      refine ⟨st2, ?_, ?_⟩
      · unfold cont
        rw [objsL, if_neg (by rw [takesC hn]; decide)]
        simp only
        rw [listL, if_neg (by rw [takesC hn]; decide)]
        simp only
        rw [want_dot hn]
        simp only
        rw [q1, r1]
      · rw [r2, q2]
        show st.said ++ [x] ++ l = _
        simp
    · have c1' : x.s = a.s := by simpa using c1
      rw [if_neg c1] at hs hn
      by_cases c2 : x.p ≠ a.p
      · rw [if_pos c2] at hs hn
        have hs1 : s = arr ((pre ++ [32, 59, 10, 9]) ++ (verbN ns x.p ++ 32 :: (termN ns x.o ++ tailN ns x l))) := by rw [hs]; simp
        have l1 : (pre ++ [32, 59, 10, 9]).length = pre.length + 2 + 1 + 1 := by simp
        obtain ⟨f, pre', p1, p2⟩ := verb_says hns hgx hs1
        rw [l1] at f p2
        have b10 : bt s (pre.length + 2) = 10 := by
          have := bt_at (pre ++ [32, 59]) (9 :: (verbN ns x.p ++ 32 :: (termN ns x.o ++ tailN ns x l))) 10
          have e : pre ++ [32, 59] ++ 10 :: (9 :: (verbN ns x.p ++ 32 :: (termN ns x.o ++ tailN ns x l))) = (pre ++ [32, 59, 10, 9]) ++ (verbN ns x.p ++ 32 :: (termN ns x.o ++ tailN ns x l)) := by simp
          rw [e, ← hs1] at this
          simpa using this
        have b9 : bt s (pre.length + 2 + 1) = 9 := by
          have := bt_at (pre ++ [32, 59, 10]) (verbN ns x.p ++ 32 :: (termN ns x.o ++ tailN ns x l)) 9
          have e : pre ++ [32, 59, 10] ++ 9 :: (verbN ns x.p ++ 32 :: (termN ns x.o ++ tailN ns x l)) = (pre ++ [32, 59, 10, 9]) ++ (verbN ns x.p ++ 32 :: (termN ns x.o ++ tailN ns x l)) := by simp
          rw [e, ← hs1] at this
          simpa using this
        have hsee := step_sees (s := s) (st := st) (p := pre.length + 2 + 1 + 1) (by rw [hi, gap_sp (by rw [b10]; rfl), gap_sp (by rw [b9]; rfl), gap_at f.1 f.2]) (.inr (by rw [hn]; rfl))
        obtain ⟨v0, st', v1, v2, v3, v4, v5⟩ := p2 _ hsee (hk.same (Same.step s st))
        have hsame := (Same.step s st).trans v3
        obtain ⟨st2, r1, r2⟩ := cont_says hns N l x s pre' (say st' x.s x.p x.o) N n2 (n3 + 1) p1 hgl v4 v5 ((hk.same hsame).say _ _ _) (by omega) (by omega) (by omega) (by omega)
        refine ⟨st2, ?_, ?_⟩
        · rw [← r1]
          unfold cont
          rw [objsL, if_neg (by rw [takesC hn]; decide)]
          simp only
          have hso : seesOf [59, 46, 93] (step s st) = false := by
            unfold seesOf
            split
            · rename_i d hq
              exact absurd hq (v0 d)
            · rfl
          rw [listL, if_pos (by rw [takesC hn]; decide), if_neg (by rw [hso]; simp), v1]
          simp only
          rw [v2 N a.s, ← c1']
          generalize objsL (obj s N 8) s x.s x.p N (say st' x.s x.p x.o) = q
          cases q <;> rfl
        · rw [r2]
          show st'.said ++ [⟨x.s, x.p, x.o⟩] ++ l = _
          rw [hsame.said]
          simp
      · have c2' : x.p = a.p := by simpa using c2
        rw [if_neg c2] at hs hn
        have hs1 : s = arr ((pre ++ [32, 44, 32]) ++ (termN ns x.o ++ tailN ns x l)) := by rw [hs]; simp
        have l1 : (pre ++ [32, 44, 32]).length = pre.length + 2 + 1 := by simp
        obtain ⟨f, pre', p1, p2⟩ := obj_says hns hgx hs1
        rw [l1] at f p2
        have b32 : bt s (pre.length + 2) = 32 := by
          have := bt_at (pre ++ [32, 44]) (termN ns x.o ++ tailN ns x l) 32
          have e : pre ++ [32, 44] ++ 32 :: (termN ns x.o ++ tailN ns x l) = (pre ++ [32, 44, 32]) ++ (termN ns x.o ++ tailN ns x l) := by simp
          rw [e, ← hs1] at this
          simpa using this
        have hsee := step_sees (s := s) (st := st) (p := pre.length + 2 + 1) (by rw [hi, gap_one b32 f.1 f.2]) (.inr (by rw [hn]; rfl))
        obtain ⟨st', v1, v3, v4, v5⟩ := p2 _ hsee (hk.same (Same.step s st))
        have hsame := (Same.step s st).trans v3
        obtain ⟨st2, r1, r2⟩ := cont_says hns N l x s pre' (say st' x.s x.p x.o) n1 (n2 + 1) (n3 + 1) p1 hgl v4 v5 ((hk.same hsame).say _ _ _) (by omega) (by omega) (by omega) (by omega)
        refine ⟨st2, ?_, ?_⟩
        · rw [← r1]
          unfold cont
          rw [objsL, if_pos (by rw [takesC hn]; decide), v1 N]
          simp only
          rw [← c1', ← c2']
        · rw [r2]
          show st'.said ++ [⟨x.s, x.p, x.o⟩] ++ l = _
          rw [hsame.said]
          simp

theorem tail_len (ns : List Nam2) : ∀ (l : List Tri) (a : Tri), l.length < (tailN ns a l).length
  | [], a => by simp [tailN]
  | x :: l, a => by
    have := tail_len ns l x
    simp only [tailN, headN, List.length_append, List.length_cons]
    split
    · simp; omega
    · split
      · simp; omega
      · simp; omega

/-- the sentences, from their first place on -/
theorem set_says {ns : List Nam2} (hns : NamesOk ns) {l : List Tri} (hx : ∀ x ∈ l, GoodT x) {s : ByteArray} {pre : List UInt8} (hs : s = arr (pre ++ setN ns l)) :
    (isW (bt s pre.length) = false ∧ bt s pre.length ≠ 35) ∧ ∀ st, Sees s pre.length st → Knows ns st → ∀ N n, l.length < n → l.length < N → ∃ st', textL s N n st = .ok () st' ∧ st'.said = st.said ++ l := by
  cases l with
  | nil =>
    have hb : bt s pre.length = 256 := by rw [hs]; exact bt_arr_none (by simp [setN, restN])
    refine ⟨by rw [hb]; exact ⟨rfl, by omega⟩, fun st h hk N n hn hN => ?_⟩
    obtain ⟨n, rfl⟩ : ∃ m, n = m + 1 := ⟨n - 1, by simp at hn; omega⟩
    exact ⟨st, textL_fin (by rw [h.now, fin_sign hb]), by simp⟩
  | cons x l =>
    rw [setN_tail] at hs
    obtain ⟨f, pre', p1, p2⟩ := sent_says hns (hx x (List.mem_cons_self ..)) hs
    refine ⟨f, fun st h hk N n hn hN => ?_⟩
    obtain ⟨n, rfl⟩ : ∃ m, n = m + 1 := ⟨n - 1, by simp at hn; omega⟩
    simp only [List.length_cons] at hn hN
    obtain ⟨st', q1, q2, q3, q4, q5⟩ := p2 st h hk
    obtain ⟨st2, r1, r2⟩ := cont_says hns N l x s pre' st' N N n p1 (fun y hy => hx y (List.mem_cons_of_mem _ hy)) q4 q5 q3 (by omega) (by omega) (by omega) (by omega)
    refine ⟨st2, by rw [q1, r1], ?_⟩
    rw [r2, q2]
    simp

/-! The names. -/

theorem pre_tok {pre post : List UInt8} {s : ByteArray} (hs : s = arr (pre ++ (64 :: (prefixB ++ 32 :: post)))) : Tok s pre.length (pre.length + 7) .pre := by
  have h64 : bt s pre.length = 64 := by rw [hs]; exact bt_at pre (prefixB ++ 32 :: post) 64
  have hs2 : s = arr ((pre ++ [64]) ++ (prefixB ++ 32 :: post)) := by rw [hs]; simp
  have l2 : (pre ++ [64]).length = pre.length + 1 := by simp
  have e1 : runU inLang s (pre.length + 1) = pre.length + 1 + 6 := by
    rw [← l2, hs2]
    exact runU_place inLang prefixB (pre ++ [64]) 32 post (by decide) (by decide)
  have e2 : sub s (pre.length + 1) (pre.length + 1 + 6) = prefixB := by
    rw [← l2, hs2]
    exact sub_pre (pre ++ [64]) prefixB (32 :: post)
  refine ⟨?_, by rw [h64]; rfl, by rw [h64]; decide⟩
  unfold sign
  rw [h64, if_neg (by omega), if_neg (by omega), if_neg (by omega), if_neg (by omega), if_neg (by omega), if_pos rfl]
  unfold behAt
  rw [e1, if_pos ⟨rfl, e2⟩]

theorem rest_nil : isRestL [] = true := by decide

/-- a name's line -/
theorem pre_says {x : Nam2} (hr : RowE x.1) (hk : kindOf (arr x.2) = 1) {s : ByteArray} {pre post : List UInt8} (hs : s = arr (pre ++ (preT x ++ post))) (hf : isW (bt s (pre.length + (preT x).length)) = false ∧ bt s (pre.length + (preT x).length) ≠ 35) :
    (isW (bt s pre.length) = false ∧ bt s pre.length ≠ 35) ∧ ∀ st, Sees s pre.length st → ∃ st', (∀ N n, textL s N (n + 1) st = textL s N n st') ∧ Sees s (pre.length + (preT x).length) st' ∧ st'.names = x :: st.names ∧ st'.said = st.said := by
  have hz : x.2.length ≤ 200 := kind_len (by omega)
  have e1 : s = arr (pre ++ (64 :: (prefixB ++ 32 :: (x.1 ++ 58 :: ([] ++ 32 :: (x.2 ++ ([32, 46, 10] ++ post))))))) := by rw [hs]; simp [preT, prefixB]
  have e2 : s = arr ((pre ++ (64 :: (prefixB ++ [32]))) ++ (x.1 ++ 58 :: ([] ++ 32 :: (x.2 ++ ([32, 46, 10] ++ post))))) := by rw [e1]; simp
  have e3 : s = arr ((pre ++ (64 :: (prefixB ++ (32 :: (x.1 ++ [58, 32]))))) ++ (x.2 ++ ([32, 46, 10] ++ post))) := by rw [e1]; simp
  have l2 : (pre ++ (64 :: (prefixB ++ [32]))).length = pre.length + 7 + 1 := by simp [prefixB]
  have l3 : (pre ++ (64 :: (prefixB ++ (32 :: (x.1 ++ [58, 32]))))).length = pre.length + 7 + 1 + (x.1.length + 1 + 0) + 1 := by simp [prefixB]; omega
  have lz : (preT x).length = 8 + x.1.length + 2 + x.2.length + 3 := by simp [preT]; omega
  have t1 := pre_tok e1
  have t2 := nam_tok hr rest_nil (c := 32) (by decide) e2
  have t3 := iri_tok (kind1 hk) e3
  rw [l2] at t2
  rw [l3] at t3
  have b1 : bt s (pre.length + 7) = 32 := by
    have := bt_at (pre ++ (64 :: prefixB)) (x.1 ++ 58 :: ([] ++ 32 :: (x.2 ++ ([32, 46, 10] ++ post)))) 32
    have e : (pre ++ (64 :: prefixB)) ++ 32 :: (x.1 ++ 58 :: ([] ++ 32 :: (x.2 ++ ([32, 46, 10] ++ post)))) = pre ++ (64 :: (prefixB ++ 32 :: (x.1 ++ 58 :: ([] ++ 32 :: (x.2 ++ ([32, 46, 10] ++ post)))))) := by simp
    rw [e, ← e1] at this
    have lq : (pre ++ (64 :: prefixB)).length = pre.length + 7 := by simp [prefixB]
    rw [lq] at this
    exact this
  have b2 : bt s (pre.length + 7 + 1 + (x.1.length + 1 + 0)) = 32 := by
    have := bt_at (pre ++ (64 :: (prefixB ++ (32 :: (x.1 ++ [58]))))) (x.2 ++ ([32, 46, 10] ++ post)) 32
    have e : (pre ++ (64 :: (prefixB ++ (32 :: (x.1 ++ [58]))))) ++ 32 :: (x.2 ++ ([32, 46, 10] ++ post)) = pre ++ (64 :: (prefixB ++ 32 :: (x.1 ++ 58 :: ([] ++ 32 :: (x.2 ++ ([32, 46, 10] ++ post)))))) := by simp
    rw [e, ← e1] at this
    have lq : (pre ++ (64 :: (prefixB ++ (32 :: (x.1 ++ [58]))))).length = pre.length + 7 + 1 + (x.1.length + 1 + 0) := by simp [prefixB]; omega
    rw [lq] at this
    exact this
  have hq : ∀ (u : List UInt8) (c : UInt8) (v : List UInt8), [32, 46, 10] = u ++ c :: v → bt s (pre.length + 7 + 1 + (x.1.length + 1 + 0) + 1 + x.2.length + u.length) = (c.toNat : Int) := by
    intro u c v huv
    have := bt_at ((pre ++ (64 :: (prefixB ++ (32 :: (x.1 ++ [58, 32]))))) ++ (x.2 ++ u)) (v ++ post) c
    have e : ((pre ++ (64 :: (prefixB ++ (32 :: (x.1 ++ [58, 32]))))) ++ (x.2 ++ u)) ++ c :: (v ++ post) = (pre ++ (64 :: (prefixB ++ (32 :: (x.1 ++ [58, 32]))))) ++ (x.2 ++ ([32, 46, 10] ++ post)) := by rw [huv]; simp
    rw [e, ← e3, List.length_append, l3, List.length_append] at this
    rw [← this]
    congr 1
    omega
  have b3 := hq [] 32 [46, 10] rfl
  have b4 := hq [32] 46 [10] rfl
  have b5 := hq [32, 46] 10 [] rfl
  simp only [List.length_nil, List.length_cons, Nat.add_zero, Nat.zero_add] at b3 b4 b5
  have b3 : bt s (pre.length + 7 + 1 + (x.1.length + 1) + 1 + x.2.length) = 32 := b3
  have b4 : bt s (pre.length + 7 + 1 + (x.1.length + 1) + 1 + x.2.length + 1) = ((46 : Nat) : Int) := b4
  have b5 : bt s (pre.length + 7 + 1 + (x.1.length + 1) + 1 + x.2.length + (1 + 1)) = 10 := b5
  simp only [List.length_nil, Nat.add_zero] at t2 t3 b2
  have hsep : Sep s (pre.length + 7 + 1 + (x.1.length + 1) + 1 + x.2.length) 46 := ⟨b3, b4, by decide⟩
  refine ⟨⟨t1.nw, t1.nc⟩, fun st h => ?_⟩
  obtain ⟨n1, i1⟩ := t1.now h
  obtain ⟨s2, n2, i2⟩ := t2.step i1 (.inl b1)
  obtain ⟨s3, n3, i3⟩ := t3.step (st := step s st) i2 (.inl b2)
  obtain ⟨s4, n4, i4⟩ := hsep.sees (st := step s (step s st)) i3
  have hp : prefixP s (step s st) = .ok () { (step s (step s (step s st))) with names := (x.1, x.2) :: (step s st).names } := by
    unfold prefixP
    rw [n2]
    simp only [if_true]
    rw [n3]
    simp only
    rw [if_neg (by omega)]
  generalize hst3 : ({ (step s (step s (step s st))) with names := (x.1, x.2) :: (step s st).names } : St) = st3 at hp
  have m1 : st3.now = .one 46 := by rw [← hst3]; exact n4
  have m2 : st3.i = pre.length + (preT x).length - 1 := by
    rw [← hst3]
    show (step s (step s (step s st))).i = _
    rw [i4]
    omega
  have m3 : st3.names = x :: st.names := by rw [← hst3]; rfl
  have m4 : st3.said = st.said := by rw [← hst3]; rfl
  refine ⟨step s st3, fun N n => ?_, ?_, m3, m4⟩
  · rw [textL_on (by rw [n1]; rfl)]
    unfold sentL
    rw [n1]
    simp only
    rw [hp]
    simp only
    rw [want_dot m1]
  · refine step_sees ?_ (.inr (by rw [m1]; rfl))
    rw [m2, show pre.length + (preT x).length - 1 = pre.length + 7 + 1 + (x.1.length + 1) + 1 + x.2.length + (1 + 1) by omega, gap_line b5 (by rw [show pre.length + 7 + 1 + (x.1.length + 1) + 1 + x.2.length + (1 + 1) + 1 = pre.length + (preT x).length by omega]; exact hf.1) (by rw [show pre.length + 7 + 1 + (x.1.length + 1) + 1 + x.2.length + (1 + 1) + 1 = pre.length + (preT x).length by omega]; exact hf.2)]
    omega

theorem look_mem {l : List Nam2} {x : Nam2} (h : x ∈ l) (hu : ∀ y ∈ l, y.1 = x.1 → y = x) : look l x.1 = some x.2 := by
  induction l with
  | nil => cases h
  | cons y l ih =>
    unfold look
    by_cases e : y.1 = x.1
    · rw [if_pos e, hu y (List.mem_cons_self ..) e]
    · rw [if_neg e]
      refine ih ?_ (fun z hz => hu z (List.mem_cons_of_mem _ hz))
      rcases List.mem_cons.1 h with rfl | h
      · exact absurd rfl e
      · exact h

/-- no two names have one row -/
def Apart (ns : List Nam2) : Prop := ∀ x ∈ ns, ∀ y ∈ ns, y.1 = x.1 → y = x

theorem names_says {all : List Nam2} (hall : NamesOk all) (hap : Apart all) {l : List Tri} (hx : ∀ x ∈ l, GoodT x) : ∀ (ns : List Nam2) (s : ByteArray) (pre : List UInt8), s = arr (pre ++ (preN ns ++ setN all l)) → (∀ x ∈ ns, x ∈ all) →
    (isW (bt s pre.length) = false ∧ bt s pre.length ≠ 35) ∧ ∀ st, Sees s pre.length st → (∀ x ∈ all, x ∈ ns ∨ x ∈ st.names) → (∀ x ∈ st.names, x ∈ all) → ∀ N n, ns.length + l.length < n → l.length < N → ∃ st', textL s N n st = .ok () st' ∧ st'.said = st.said ++ l
  | [], s, pre, hs, hm => by
    obtain ⟨f, k⟩ := set_says hall hx (s := s) (pre := pre) (by rw [hs]; simp [preN])
    refine ⟨f, fun st h ha hb N n hn hN => k st h (fun x hxx => ?_) N n (by simpa using hn) hN⟩
    refine look_mem ((ha x hxx).resolve_left (by simp)) (fun y hy e => hap x hxx y (hb y hy) e)
  | x :: ns, s, pre, hs, hm => by
    have hs1 : s = arr (pre ++ (preT x ++ (preN ns ++ setN all l))) := by rw [hs]; simp [preN]
    have hs2 : s = arr ((pre ++ preT x) ++ (preN ns ++ setN all l)) := by rw [hs1]; simp
    obtain ⟨f, k⟩ := names_says hall hap hx ns s (pre ++ preT x) hs2 (fun y hy => hm y (List.mem_cons_of_mem _ hy))
    rw [List.length_append] at f k
    have hxa := hm x (List.mem_cons_self ..)
    obtain ⟨f0, k0⟩ := pre_says (hall x hxa).1 (hall x hxa).2 hs1 f
    refine ⟨f0, fun st h ha hb N n hn hN => ?_⟩
    obtain ⟨n, rfl⟩ : ∃ m, n = m + 1 := ⟨n - 1, by simp at hn; omega⟩
    obtain ⟨st', q1, q2, q3, q4⟩ := k0 st h
    obtain ⟨st2, r1, r2⟩ := k st' q2 (fun y hy => by
      rw [q3]
      rcases ha y hy with h | h
      · rcases List.mem_cons.1 h with rfl | h
        · exact .inr (List.mem_cons_self ..)
        · exact .inl h
      · exact .inr (List.mem_cons_of_mem _ h)) (fun y hy => by
      rw [q3] at hy
      rcases List.mem_cons.1 hy with rfl | h
      · exact hxa
      · exact hb y h) N n (by simp at hn; omega) hN
    exact ⟨st2, by rw [q1, r1], by rw [r2, q4]⟩

theorem preN_ge : ∀ ns : List Nam2, ns.length ≤ (preN ns).length
  | [] => by simp
  | x :: ns => by
    have := preN_ge ns
    have e : preN (x :: ns) = preT x ++ preN ns := by simp [preN]
    rw [e]
    unfold preT
    simp
    omega
theorem setN_ge (ns : List Nam2) (l : List Tri) : l.length ≤ (setN ns l).length := by
  cases l with
  | nil => simp
  | cons x l =>
    have := tail_len ns l x
    rw [setN_tail]
    simp
    omega

/-- what turtle.Print writes says the set -/
theorem textP_print {ns : List Nam2} (hns : NamesOk ns) (hap : Apart ns) {l : List Tri} (hx : ∀ x ∈ l, GoodT x) : ∃ st, textP (arr (preN ns ++ setN ns l)) = .ok () st ∧ st.said = l := by
  obtain ⟨f, k⟩ := names_says hns hap hx ns (arr (preN ns ++ setN ns l)) [] rfl (fun x h => h)
  have h0 := step_sees (s := arr (preN ns ++ setN ns l)) (st := ⟨.none, 0, 0, [], 0, 0, []⟩) (p := 0) (gap_at f.1 f.2) (.inr rfl)
  have h1 := preN_ge ns
  have h2 := setN_ge ns l
  have hz : (arr (preN ns ++ setN ns l)).size = (preN ns).length + (setN ns l).length := by rw [arr_sz, List.length_append]
  obtain ⟨st, a, b⟩ := k _ h0 (fun x hx => .inl hx) (fun x hx => by cases hx) (2 * (arr (preN ns ++ setN ns l)).size + 2) (2 * (arr (preN ns ++ setN ns l)).size + 2) (by omega) (by omega)
  exact ⟨st, a, by rw [b]; rfl⟩

end Tu
end Go.Proofs.YtfapcangooodeabGreatDoor

set_option linter.unusedSimpArgs false
set_option linter.unusedVariables false
namespace Go.Proofs.YtfapcangooodeabGreatDoor
open Go.RowKit
open Back
namespace Tu

/-! What the calls of the law answer. -/

theorem badAt_good {l : List Tri} (h : ∀ x ∈ l, soundT x = true) (q : Nat) : badAt q l = none := by
  induction l generalizing q with
  | nil => rfl
  | cons x l ih => rw [badAt, if_pos (h x (List.mem_cons_self ..))]; exact ih (fun y hy => h y (List.mem_cons_of_mem _ hy)) _

theorem rise_own {l : List Tri} (hr : Rising l) (hn : l.length ≤ 300) : rise [] l = some l := by simpa using rise_self l [] (by simpa using hr) (by simpa using hn)

/-- turtle.Parse of what turtle.Print wrote -/
theorem tp_print {ns : List Nam2} (hns : NamesOk ns) (hap : Apart ns) {l : List Tri} (hx : ∀ x ∈ l, soundT x = true) (hm : l.any madeT = false) (hr : Rising l) (hn : l.length ≤ 300) (hz : (preN ns ++ setN ns l).length ≤ 20000) :
    ∀ w e w', TpV w (arr (preN ns ++ setN ns l)) e w' → ∃ v, e = .returned (.tuple #[v, .int .i64 0, .int .i64 0]) ∧ w'.ownsRow w.heap.size 44 3 v l.length (cellsOf l) ∧ Below w.heap.size w w' := by
  intro w e w' h
  have hg : ∀ x ∈ l, GoodT x := fun x hxx => ⟨hx x hxx, by
    have := List.any_eq_false.1 hm x hxx
    simpa using this⟩
  obtain ⟨st, ht, hsd⟩ := textP_print hns hap hg
  have hs : ¬ 20000 < (arr (preN ns ++ setN ns l)).size := by rw [arr_sz]; omega
  unfold TpV at h
  rw [if_neg hs, ht] at h
  simp only at h
  rw [hsd] at h
  unfold SeV at h
  rw [badAt_good hx 0] at h
  simp only at h
  unfold RisV at h
  rw [rise_own hr hn] at h
  exact h

theorem tp_long {s : ByteArray} (hz : 20000 < s.size) : ∀ w e w', TpV w s e w' → e = .returned (.tuple #[.slice none 0 0, .int .i64 1, .int .i64 0]) ∧ Below w.heap.size w w' := by
  intro w e w' h
  unfold TpV at h
  rw [if_pos hz] at h
  exact h

/-- turtle.Parse of any text -/
theorem tp_cases (s : ByteArray) : (∃ (n j : Int), ∀ w e w', TpV w s e w' → e = .returned (.tuple #[.slice none 0 0, .int .i64 n, .int .i64 j]) ∧ Below w.heap.size w w') ∨
    ∃ set : List Tri, set.length ≤ 300 ∧ Rising set ∧ (∀ x ∈ set, soundT x = true) ∧ ∀ w e w', TpV w s e w' → ∃ v, e = .returned (.tuple #[v, .int .i64 0, .int .i64 0]) ∧ w'.ownsRow w.heap.size 44 3 v set.length (cellsOf set) ∧ Below w.heap.size w w' := by
  by_cases h1 : 20000 < s.size
  · exact .inl ⟨1, 0, tp_long h1⟩
  · cases ht : textP s with
    | bad n j =>
      refine .inl ⟨n, j, fun w e w' h => ?_⟩
      unfold TpV at h
      rw [if_neg h1, ht] at h
      exact h
    | ok u st =>
      rcases set_cases st.said with ⟨n, j, hn, hc, hp⟩ | ⟨set, hlen, hri, hso, hc, hp⟩
      · refine .inl ⟨n, j, fun w e w' h => ?_⟩
        unfold TpV at h
        rw [if_neg h1, ht] at h
        exact hc _ _ _ _ h
      · refine .inr ⟨set, hlen, hri, hso, fun w e w' h => ?_⟩
        unfold TpV at h
        rw [if_neg h1, ht] at h
        exact hc _ _ _ _ h

theorem lprint_own (w : World) (bs : Nat) (v : Value) (set : List Tri) (ho : w.ownsRow bs 44 3 v set.length (cellsOf set)) (hso : ∀ x ∈ set, soundT x = true) (hri : Rising set) (hlen : set.length ≤ 300) (hT : Tabs w) (hG : 8 ≤ w.heap.size) (hH : Handle w) :
    Calls Tryz.prog 15 #[v] w fun e w' => e = .returned (.tuple #[.string (arr (printT set)), .int .i64 0, .int .i64 0]) ∧ Below w.heap.size w w' := by
  refine (print_of w v set (setOf_own w bs v set ho (by unfold maxLen; omega) hT hG) hH).mono ?_
  intro e w' h
  unfold PrV at h
  rw [badAt_good hso 0, rise_own hri hlen] at h
  obtain ⟨⟨V, h1, h2⟩, h3⟩ := h
  rw [toList_inj h1] at h2
  exact ⟨h2, h3⟩

theorem lparse_back (w : World) (set : List Tri) (hso : ∀ x ∈ set, soundT x = true) (hri : Rising set) (hlen : set.length ≤ 300) (hT : Tabs w) (hG : 8 ≤ w.heap.size) (hH : Handle w) :
    Calls Tryz.prog 16 #[.string (arr (printT set))] w fun e w' => if 20000 < (printT set).length then e = .returned (.tuple #[.slice none 0 0, .int .i64 1, .int .i64 0]) ∧ Below w.heap.size w w' else ∃ v, e = .returned (.tuple #[v, .int .i64 0, .int .i64 0]) ∧ w'.ownsRow w.heap.size 44 3 v set.length (cellsOf set) ∧ Below w.heap.size w w' := by
  refine (parse_any w _ hT hG hH).mono ?_
  intro e w' h
  unfold Ref.RdV at h
  rw [arr_sz] at h
  by_cases h2 : 20000 < (printT set).length
  · rw [if_pos h2] at h ⊢
    exact h
  · rw [if_neg h2] at h ⊢
    have hl := Back.lines_place set [] hso
    simp only [List.nil_append, List.length_nil, Nat.zero_add] at hl
    rw [hl] at h
    simp only [rise_own hri hlen] at h
    exact h

end Tu
end Go.Proofs.YtfapcangooodeabGreatDoor

