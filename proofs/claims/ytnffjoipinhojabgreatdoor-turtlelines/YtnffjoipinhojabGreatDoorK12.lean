import Derived.Test.YtnffjoipinhojabGreatDoorK11
set_option linter.unusedSimpArgs false
set_option linter.unusedVariables false
namespace Go.Proofs.YtnffjoipinhojabGreatDoor
namespace Tu

/-! What the signs are good for. -/

theorem vu_asc {l : List UInt8} (h : asc l) : VU l := by
  induction l with
  | nil => exact .nil
  | cons c l ih =>
    have hc := h c (by simp)
    have e : Lib.encodeRune (c.toNat : Nat) = [c] := by
      rw [enc_low (by omega)]
      simp
    have := VU.cons c.toNat l (by unfold Lib.validRune; simp; omega) (ih fun x hx => h x (by simp [hx]))
    rw [e] at this
    exact this

theorem asc_sub {s : ByteArray} {i j : Nat} (hj : j ≤ s.size) (h : ∀ x, i ≤ x → x < j → bt s x < 128) : asc (sub s i j) := by
  intro c hc
  unfold sub at hc
  obtain ⟨k, hk⟩ := List.getElem?_of_mem hc
  rw [List.getElem?_take] at hk
  split at hk
  · rename_i hlt
    rw [List.getElem?_drop] at hk
    have hl : i + k < s.size := by
      have := (List.getElem?_eq_some_iff.1 hk).1
      simpa using this
    have e := bt_lt hl
    have hb := h (i + k) (by omega) (by omega)
    have : s[i + k] = c := by
      rw [List.getElem?_eq_getElem (by simpa using hl)] at hk
      exact (show s[i + k] = s.data[i + k] from rfl).trans (by simpa using hk)
    rw [this] at e
    omega
  · cases hk

theorem runU_all (p : Int → Bool) (s : ByteArray) : ∀ n i, s.size - i < n → ∀ x, i ≤ x → x < runU p s i → p (bt s x) = true := by
  intro n
  induction n with
  | zero => intro i h; omega
  | succ n ih =>
    intro i h x h1 h2
    by_cases hb : i < s.size ∧ p (bt s i) = true
    · rw [runU_on hb] at h2
      by_cases hx : x = i
      · rw [hx]; exact hb.2
      · exact ih (i + 1) (by omega) x (by omega) h2
    · rw [runU_end hb] at h2
      omega
theorem runU_asc {p : Int → Bool} (hp : ∀ c, p c = true → 0 ≤ c ∧ c < 128) {s : ByteArray} {i k : Nat} (hk : k ≤ i) (hi : i ≤ s.size) (h : ∀ x, k ≤ x → x < i → bt s x < 128) : asc (sub s k (runU p s i)) := by
  refine asc_sub (runU_sz p hi) fun x h1 h2 => ?_
  by_cases hx : x < i
  · exact h x h1 hx
  · exact (hp _ (runU_all p s _ i (Nat.lt_succ_self _) x (by omega) h2)).2

theorem inRest_lt {c : Int} (h : inRest c = true) : 0 ≤ c ∧ c < 128 := by
  unfold inRest at h
  rw [Bool.or_eq_true] at h
  rcases h with h | h
  · exact alnum_lt h
  · simp at h; omega
theorem inLang_lt {c : Int} (h : inLang c = true) : 0 ≤ c ∧ c < 128 := by
  unfold inLang at h
  rw [Bool.or_eq_true] at h
  rcases h with h | h
  · exact alnum_lt h
  · simp at h; omega
theorem isW_lt {c : Int} (h : isW c = true) : 0 ≤ c ∧ c < 128 := by unfold isW at h; simp at h; omega
theorem digit_lt {c : Int} (h : digit c = true) : 0 ≤ c ∧ c < 128 := by unfold digit at h; simp at h; omega

def Tk (s : ByteArray) : Sg → Prop
  | .str l => VU l ∧ l.length ≤ 4 * s.size
  | .lan l => asc l ∧ l.length ≤ s.size
  | .num l => asc l ∧ l.length ≤ s.size
  | .row l => asc l ∧ l.length ≤ s.size
  | .iri l => l.length ≤ 5 * s.size + 1 ∧ l ≠ []
  | .blk l => l.length ≤ s.size
  | .nam r l => r.length ≤ 20 ∧ l.length ≤ 20
  | .one c => c < 256
  | .brk n j => n = 2
  | _ => True

theorem blank_len {s : ByteArray} {i : Nat} {l : List UInt8} {j : Nat} (h : blank s i = .ok l j) : l.length ≤ s.size ∧ i < j ∧ j ≤ s.size := by
  unfold blank at h
  repeat' split at h
  all_goals first | cases h | skip
  have hle := (run_le alnum (fun c hc => by have := alnum_lt hc; omega) s 20 (i + 2)).2
  have := sub_len s i (i + 2 + run alnum s 20 (i + 2)) (by omega) (by omega)
  omega

/-- a sign from i on: where it ends, and what it is -/
structure Sn (s : ByteArray) (i : Nat) (r : Sg × Nat) : Prop where
  ge : i ≤ r.2
  sz : r.2 ≤ s.size
  gt : r.1.real = true → i < r.2
  tk : Tk s r.1

theorem ofR_sn {s : ByteArray} {i : Nat} (hi : i ≤ s.size) {f : List UInt8 → Sg} {r : R (List UInt8)} (h : ∀ l k, r = .ok l k → i < k ∧ k ≤ s.size ∧ Tk s (f l)) : Sn s i (ofR f i r) := by
  cases r with
  | ok l k =>
    have := h l k rfl
    exact ⟨by simp only [ofR]; omega, this.2.1, fun _ => this.1, this.2.2⟩
  | bad j => exact ⟨Nat.le_refl _, hi, fun h => (by cases h), rfl⟩

theorem behAt_sn {s : ByteArray} {i : Nat} (hi : i < s.size) (beh : Bool) : Sn s i (behAt s i beh) := by
  unfold behAt
  have h1 := runU_ge inLang s (i + 1)
  have h2 := runU_sz inLang (s := s) (i := i + 1) (by omega)
  split
  · exact ⟨by simp only; omega, h2, fun _ => by simp only; omega, trivial⟩
  · split
    · exact ⟨Nat.le_refl _, by simp only; omega, fun h => (by cases h), rfl⟩
    · cases hl : language s (i + 1) with
      | ok u k =>
        have := language_asc hl
        exact ⟨by simp only; omega, this.2.1, fun _ => by simp only; omega, this.2.2, by rw [sub_len s _ _ (by omega) this.2.1]; omega⟩
      | bad j => exact ⟨Nat.le_refl _, by simp only; omega, fun h => (by cases h), rfl⟩

theorem numAt_le {s : ByteArray} {i : Nat} (hi : i < s.size) : i ≤ numAt s i ∧ numAt s i ≤ s.size ∧ ∀ x, i ≤ x → x < numAt s i → bt s x < 128 := by
  unfold numAt
  split
  · refine ⟨by omega, by omega, fun x h1 h2 => ?_⟩
    have e : x = i := by omega
    subst e
    omega
  · exact ⟨by omega, by omega, fun x h1 h2 => by omega⟩

theorem number_sn {s : ByteArray} {i : Nat} (hi : i < s.size) : Sn s i (number s i) := by
  unfold number
  obtain ⟨h1, h2, h3⟩ := numAt_le hi
  have h4 := runU_ge digit s (numAt s i)
  have h5 := runU_sz digit h2
  split
  · exact ⟨Nat.le_refl _, by simp only; omega, fun h => (by cases h), rfl⟩
  · refine ⟨by simp only; omega, h5, fun _ => by simp only; omega, runU_asc (fun c => digit_lt) h1 h2 h3, ?_⟩
    rw [sub_len s _ _ (by omega) h5]
    omega

theorem word_sn {s : ByteArray} {i : Nat} (hi : i < s.size) (hc : bt s i = 58 ∨ letter (bt s i) = true) : Sn s i (word s i) := by
  unfold word
  have h1 := runU_ge alnum s i
  have h2 := runU_sz alnum (s := s) (i := i) (by omega)
  split
  · rename_i h58
    have h3 := bt_in h58 (by omega)
    have h4 := runU_ge inRest s (runU alnum s i + 1)
    have h5 := runU_sz inRest (s := s) (i := runU alnum s i + 1) (by omega)
    split
    · exact ⟨Nat.le_refl _, by simp only; omega, fun h => (by cases h), rfl⟩
    · refine ⟨by simp only; omega, h5, fun _ => by simp only; omega, ?_, ?_⟩
      · rw [sub_len s _ _ (by omega) (by omega)]; omega
      · rw [sub_len s _ _ (by omega) (by omega)]; omega
  · rename_i h58
    split
    · exact ⟨Nat.le_refl _, by simp only; omega, fun h => (by cases h), rfl⟩
    · have hgt : i < runU alnum s i := by
        rcases hc with hc | hc
        · exfalso
          apply h58
          rw [runU_end (by rw [hc]; simp [alnum, letter, digit])]
          exact hc
        · exact runU_gt ⟨hi, by unfold alnum; rw [hc]; rfl⟩
      refine ⟨by simp only; omega, h2, fun _ => hgt, runU_asc (fun c => alnum_lt) (Nat.le_refl _) (by omega) (fun x h1 h2 => by omega), ?_⟩
      rw [sub_len s _ _ (by omega) h2]
      omega

theorem sign_sn {s : ByteArray} {i : Nat} (hi : i ≤ s.size) (beh : Bool) : Sn s i (sign s i beh) := by
  unfold sign
  split
  · exact ⟨Nat.le_refl _, hi, fun h => (by cases h), trivial⟩
  rename_i h256
  have hlt : i < s.size := by
    rcases Nat.lt_or_ge i s.size with h | h
    · exact h
    · exact absurd (bt_end h) h256
  split
  · exact ofR_sn hi fun l k h => ⟨(iri_len h).2.1, (iri_len h).2.2.1, (iri_len h).1, (iri_len h).2.2.2⟩
  split
  · exact ofR_sn hi fun l k h => ⟨(blank_len h).2.1, (blank_len h).2.2, (blank_len h).1⟩
  split
  · exact ofR_sn hi fun l k h => ⟨(quoted_valid h).2.2.1, (quoted_valid h).2.2.2, (quoted_valid h).1, (quoted_valid h).2.1⟩
  split
  · split
    · rename_i h94
      have := bt_in h94 (by omega)
      exact ⟨by simp only; omega, by simp only; omega, fun _ => by simp only; omega, trivial⟩
    · exact ⟨Nat.le_refl _, hi, fun h => (by cases h), rfl⟩
  split
  · exact behAt_sn hlt beh
  split
  · exact number_sn hlt
  split
  · rename_i hw
    exact word_sn hlt hw
  · unfold single
    split
    · rename_i ho
      have hr := bt_range s i
      refine ⟨by simp only; omega, by simp only; omega, fun _ => by simp only; omega, ?_⟩
      show (bt s i).toNat < 256
      omega
    · exact ⟨Nat.le_refl _, hi, fun h => (by cases h), rfl⟩

/-! What a state keeps, and how far it is from the end. -/
theorem sign_some (s : ByteArray) (i : Nat) (beh : Bool) : Sg.isNone (sign s i beh).1 = false := by
  have hR : ∀ (f : List UInt8 → Sg) (r : R (List UInt8)), (∀ l, Sg.isNone (f l) = false) → Sg.isNone (ofR f i r).1 = false := fun f r h => by cases r <;> first | exact h _ | rfl
  unfold sign
  split
  · rfl
  split
  · exact hR _ _ fun l => rfl
  split
  · exact hR _ _ fun l => rfl
  split
  · exact hR _ _ fun l => rfl
  split
  · split <;> rfl
  split
  · unfold behAt
    split
    · rfl
    split
    · rfl
    split <;> rfl
  split
  · unfold number
    split <;> rfl
  split
  · unfold word
    split
    · split <;> rfl
    · split <;> rfl
  · unfold single
    split <;> rfl

structure Wf0 (s : ByteArray) (st : St) : Prop where
  le : st.i ≤ s.size
  tk : Tk s st.now
  nm : ∀ x ∈ st.names, x.1.length ≤ 20 ∧ x.2.length ≤ 200

structure Wf (s : ByteArray) (st : St) : Prop extends Wf0 s st where
  nn : Sg.isNone st.now = false

def meas (s : ByteArray) (st : St) : Nat := 2 * (s.size - st.i) + (if st.now.real = true then 1 else 0)
def bud (s : ByteArray) (st : St) : Nat := st.made + st.said.length + 3 * meas s st

theorem Wf0.step {s : ByteArray} {st : St} (h : Wf0 s st) : Wf s (step s st) := by
  have hs := sign_sn (gap_sz h.le) (st.now.isStr && decide (gap s st.i = st.i))
  exact ⟨⟨hs.sz, hs.tk, h.nm⟩, sign_some s _ _⟩
theorem Wf.step {s : ByteArray} {st : St} (h : Wf s st) : Wf s (Tu.step s st) := h.toWf0.step

theorem meas_step {s : ByteArray} {st : St} (h : Wf s st) (hr : st.now.real = true) : meas s (Tu.step s st) < meas s st := by
  have hs := sign_sn (gap_sz h.le) (st.now.isStr && decide (gap s st.i = st.i))
  have hg := gap_ge s st.i
  have h1 := hs.ge
  have h2 := hs.gt
  have h3 := hs.sz
  unfold meas
  rw [if_pos hr]
  have e1 : (Tu.step s st).now = (sign s (gap s st.i) (st.now.isStr && decide (gap s st.i = st.i))).1 := rfl
  have e2 : (Tu.step s st).i = (sign s (gap s st.i) (st.now.isStr && decide (gap s st.i = st.i))).2 := rfl
  rw [e1, e2]
  split
  · rename_i h
    have := h2 h
    omega
  · omega

theorem bud_step {s : ByteArray} {st : St} (h : Wf s st) (hr : st.now.real = true) : bud s (Tu.step s st) + 3 ≤ bud s st := by
  have := meas_step h hr
  unfold bud
  have e1 : (Tu.step s st).made = st.made := rfl
  have e2 : (Tu.step s st).said = st.said := rfl
  rw [e1, e2]
  omega
theorem meas_lt (s : ByteArray) (st : St) : meas s st < 2 * s.size + 2 := by unfold meas; split <;> omega

/-- what goes on from st comes to st' -/
structure On (s : ByteArray) (st st' : St) : Prop where
  wf : Wf s st'
  dp : st'.depth = st.depth
  me : meas s st' < meas s st
  bu : bud s st' + 3 ≤ bud s st
  rl : st.now.real = true

theorem On.of_step {s : ByteArray} {st : St} (h : Wf s st) (hr : st.now.real = true) : On s st (Tu.step s st) := ⟨h.step, rfl, meas_step h hr, bud_step h hr, hr⟩
theorem On.trans {s : ByteArray} {a b c : St} (h : On s a b) (k : On s b c) : On s a c := ⟨k.wf, k.dp.trans h.dp, Nat.lt_trans k.me h.me, by have := h.bu; have := k.bu; omega, h.rl⟩
theorem On.say {s : ByteArray} {a b : St} (h : On s a b) (x y z : List UInt8) : Wf s (say b x y z) ∧ (Tu.say b x y z).depth = a.depth ∧ meas s (Tu.say b x y z) < meas s a ∧ bud s (Tu.say b x y z) + 2 ≤ bud s a := by
  have e : meas s (Tu.say b x y z) = meas s b := rfl
  have hb := h.bu
  have hm := h.me
  refine ⟨⟨⟨h.wf.le, h.wf.tk, h.wf.nm⟩, h.wf.nn⟩, h.dp, by rw [e]; exact hm, ?_⟩
  unfold bud at hb ⊢
  rw [e]
  have e2 : (Tu.say b x y z).made = b.made := rfl
  have e3 : (Tu.say b x y z).said.length = b.said.length + 1 := by simp [Tu.say]
  rw [e2, e3]
  omega

def Good (s : ByteArray) (ob : St → PR (List UInt8)) : Prop := ∀ st o st', Wf s st → ob st = .ok o st' → On s st st'

theorem iriP_on {s : ByteArray} {st st' : St} {l : List UInt8} (h : Wf s st) (hr : iriP s st = .ok l st') : On s st st' ∧ l.length ≤ 5 * s.size + 222 := by
  unfold iriP at hr
  split at hr
  · rename_i x hx
    cases hr
    have := h.tk
    rw [hx] at this
    exact ⟨On.of_step h (by rw [hx]; rfl), by have := this.1; omega⟩
  · rename_i r x hx
    split at hr
    · cases hr
    · rename_i g hg
      cases hr
      have hk := h.tk
      rw [hx] at hk
      refine ⟨On.of_step h (by rw [hx]; rfl), ?_⟩
      have hlk : ∀ (l : List (List UInt8 × List UInt8)), (∀ x ∈ l, x.1.length ≤ 20 ∧ x.2.length ≤ 200) → ∀ g, look l r = some g → g.length ≤ 200 := by
        intro l
        induction l with
        | nil => intro _ g h; cases h
        | cons y l ih =>
          intro hl g hg
          unfold look at hg
          split at hg
          · cases hg
            exact (hl y (by simp)).2
          · exact ih (fun z hz => hl z (by simp [hz])) g hg
      have h1 := hlk _ h.nm g hg
      have h2 : (trimG g).length ≤ g.length := by unfold trimG; split <;> simp
      have h3 := hk.2
      simp
      omega
  · unfold refused at hr
    cases hr

theorem res_on {s : ByteArray} {st st' : St} {l : List UInt8} (h : Wf s st) (hr : res s st = .ok l st') : On s st st' := by
  unfold res at hr
  split at hr
  · cases hr
  · rename_i l1 st1 h1
    unfold bnd at hr
    split at hr
    · cases hr
    · cases hr
      exact (iriP_on h h1).1

theorem verb_on {s : ByteArray} {st st' : St} {l : List UInt8} (h : Wf s st) (hr : verb s st = .ok l st') : On s st st' := by
  unfold verb at hr
  split at hr
  · rename_i x hx
    split at hr
    · cases hr
      exact On.of_step h (by rw [hx]; rfl)
    · exact res_on h hr
  · exact res_on h hr

theorem bnd_ok {p : Nat} {l l' : List UInt8} {st st' : St} (h : bnd p l st = .ok l' st') : l' = l ∧ st' = st ∧ l.length ≤ 200 := by
  unfold bnd at h
  split at h
  · cases h
  · cases h
    exact ⟨rfl, rfl, by omega⟩

theorem lit_on {s : ByteArray} {st st' : St} {t l : List UInt8} (h : Wf s st) (hx : st.now = .str t) (hr : lit s t st = .ok l st') : On s st st' := by
  have h1 := On.of_step h (by rw [hx]; rfl)
  unfold lit at hr
  split at hr
  · rename_i x hn
    obtain ⟨_, rfl, _⟩ := bnd_ok hr
    exact h1.trans (On.of_step h1.wf (by rw [hn]; rfl))
  · rename_i hn
    split at hr
    · cases hr
    · rename_i k st2 hk
      obtain ⟨_, rfl, _⟩ := bnd_ok hr
      have h2 := On.of_step h1.wf (by rw [hn]; rfl)
      exact h1.trans (h2.trans (iriP_on h2.wf hk).1)
  · obtain ⟨_, rfl, _⟩ := bnd_ok hr
    exact h1

theorem want_on {s : ByteArray} {c : Nat} {st st' : St} {u : Unit} (h : Wf s st) (hr : want s c st = .ok u st') : On s st st' := by
  unfold want at hr
  split at hr
  · rename_i d hx
    split at hr
    · cases hr
      exact On.of_step h (by rw [hx]; rfl)
    · unfold refused at hr
      cases hr
  · unfold refused at hr
    cases hr

theorem takes_real {c : Nat} {st : St} (h : takes c st = true) : st.now.real = true ∧ st.now = .one c := by
  unfold takes at h
  split at h
  · rename_i d hx
    have : d = c := by simpa using h
    subst this
    exact ⟨by rw [hx]; rfl, hx⟩
  · cases h

/-- what may say, but not go back -/
structure Un (s : ByteArray) (st st' : St) : Prop where
  wf : Wf s st'
  dp : st'.depth = st.depth
  me : meas s st' ≤ meas s st
  bu : bud s st' ≤ bud s st
theorem Un.refl {s : ByteArray} {st : St} (h : Wf s st) : Un s st st := ⟨h, rfl, Nat.le_refl _, Nat.le_refl _⟩
theorem Un.trans {s : ByteArray} {a b c : St} (h : Un s a b) (k : Un s b c) : Un s a c := ⟨k.wf, k.dp.trans h.dp, Nat.le_trans k.me h.me, Nat.le_trans k.bu h.bu⟩
theorem On.un {s : ByteArray} {a b : St} (h : On s a b) : Un s a b := ⟨h.wf, h.dp, Nat.le_of_lt h.me, by have := h.bu; omega⟩
theorem On.sayU {s : ByteArray} {a b : St} (h : On s a b) (x y z : List UInt8) : Un s a (Tu.say b x y z) := by
  obtain ⟨h1, h2, h3, h4⟩ := h.say x y z
  exact ⟨h1, h2, Nat.le_of_lt h3, by omega⟩

theorem objsL_un {s : ByteArray} {ob : St → PR (List UInt8)} (hob : Good s ob) {su ve : List UInt8} : ∀ (n : Nat) (st : St) {u : Unit} {st' : St}, Wf s st → objsL ob s su ve n st = .ok u st' → Un s st st'
  | 0, st, u, st', h, hr => by cases hr
  | n + 1, st, u, st', h, hr => by
    unfold objsL at hr
    split at hr
    · rename_i ht
      split at hr
      · cases hr
      · rename_i o st1 h1
        have o1 := On.of_step h (takes_real ht).1
        have o2 := o1.trans (hob _ _ _ o1.wf h1)
        have u1 := o2.sayU su ve o
        exact u1.trans (objsL_un hob n _ u1.wf hr)
    · cases hr
      exact Un.refl h
theorem objs_un {s : ByteArray} {ob : St → PR (List UInt8)} (hob : Good s ob) {N : Nat} {su ve : List UInt8} {st st' : St} {u : Unit} (h : Wf s st) (hr : objs ob s N su ve st = .ok u st') : Un s st st' := by
  unfold objs at hr
  split at hr
  · cases hr
  · rename_i o st1 h1
    have u1 := (hob _ _ _ h h1).sayU su ve o
    exact u1.trans (objsL_un hob N _ u1.wf hr)
theorem listL_un {s : ByteArray} {ob : St → PR (List UInt8)} (hob : Good s ob) {N : Nat} {su : List UInt8} : ∀ (n : Nat) (st : St) {u : Unit} {st' : St}, Wf s st → listL ob s N su n st = .ok u st' → Un s st st'
  | 0, st, u, st', h, hr => by cases hr
  | n + 1, st, u, st', h, hr => by
    unfold listL at hr
    split at hr
    · rename_i ht
      have o1 := On.of_step h (takes_real ht).1
      split at hr
      · exact o1.un.trans (listL_un hob n _ o1.wf hr)
      · split at hr
        · cases hr
        · rename_i v st1 h1
          have o2 := verb_on o1.wf h1
          split at hr
          · cases hr
          · rename_i st2 h2
            have u2 := objs_un hob o2.wf h2
            exact o1.un.trans (o2.un.trans (u2.trans (listL_un hob n _ u2.wf hr)))
    · cases hr
      exact Un.refl h
theorem list_on {s : ByteArray} {ob : St → PR (List UInt8)} (hob : Good s ob) {N : Nat} {su : List UInt8} {st st' : St} {u : Unit} (h : Wf s st) (hr : list ob s N su st = .ok u st') : On s st st' := by
  unfold list at hr
  split at hr
  · cases hr
  · rename_i v st1 h1
    have o1 := verb_on h h1
    split at hr
    · cases hr
    · rename_i st2 h2
      have u2 := objs_un hob o1.wf h2
      have u3 := u2.trans (listL_un hob N _ u2.wf hr)
      exact ⟨u3.wf, u3.dp.trans o1.dp, Nat.lt_of_le_of_lt u3.me o1.me, by have := u3.bu; have := o1.bu; omega, o1.rl⟩

theorem Wf.fresh {s : ByteArray} {st : St} (h : Wf s st) : Wf s (fresh st) ∧ meas s (Tu.fresh st) = meas s st ∧ bud s (Tu.fresh st) = bud s st + 1 := by
  refine ⟨⟨⟨h.le, h.tk, h.nm⟩, h.nn⟩, rfl, ?_⟩
  unfold bud
  have e1 : (Tu.fresh st).made = st.made + 1 := rfl
  have e2 : (Tu.fresh st).said = st.said := rfl
  have e3 : meas s (Tu.fresh st) = meas s st := rfl
  rw [e1, e2, e3]
  omega

/-- what stands behind a bracket: a blank more -/
structure Br (s : ByteArray) (st st' : St) : Prop where
  wf : Wf s st'
  dp : st'.depth = st.depth
  me : meas s st' < meas s st
  bu : bud s st' + 2 ≤ bud s st

theorem brack_br {s : ByteArray} {ob : St → PR (List UInt8)} (hob : Good s ob) {N : Nat} {st st' : St} {l : List UInt8} (h : Wf s st) (hr : brack ob s N st = .ok l st') : Br s st st' := by
  obtain ⟨f1, f2, f3⟩ := h.fresh
  unfold brack at hr
  split at hr
  · split at hr
    · cases hr
    · rename_i st1 h1
      cases hr
      have o := want_on f1 h1
      exact ⟨o.wf, o.dp, by have := o.me; omega, by have := o.bu; omega⟩
  · split at hr
    · cases hr
    · rename_i st1 h1
      have o1 := list_on hob f1 h1
      split at hr
      · cases hr
      · rename_i st2 h2
        cases hr
        have o := o1.trans (want_on o1.wf h2)
        exact ⟨o.wf, o.dp, by have := o.me; omega, by have := o.bu; omega⟩

theorem roundL_br {s : ByteArray} {ob : St → PR (List UInt8)} (hob : Good s ob) : ∀ (n : Nat) (ns : List (List UInt8)) (st : St) {r : List (List UInt8)} {st' : St}, Wf s st → roundL ob s n ns st = .ok r st' →
    Wf s st' ∧ st'.depth = st.depth ∧ meas s st' < meas s st ∧ bud s st' + r.length + 3 ≤ bud s st + ns.length
  | 0, ns, st, r, st', h, hr => by cases hr
  | n + 1, ns, st, r, st', h, hr => by
    unfold roundL at hr
    split at hr
    · rename_i ht
      cases hr
      have o := On.of_step h (takes_real ht).1
      exact ⟨o.wf, o.dp, o.me, by have := o.bu; omega⟩
    · obtain ⟨f1, f2, f3⟩ := h.fresh
      split at hr
      · cases hr
      · rename_i o st1 h1
        have o1 := hob _ _ _ f1 h1
        obtain ⟨s1, s2, s3, s4⟩ := o1.say (freshL st) firstI o
        obtain ⟨r1, r2, r3, r4⟩ := roundL_br hob n _ _ s1 hr
        refine ⟨r1, r2.trans s2, by omega, ?_⟩
        simp at r4
        omega

theorem chain_len : ∀ (l : List (List UInt8)) (x : List UInt8), (chain (l ++ [x])).length = l.length
  | [], x => rfl
  | [a], x => rfl
  | a :: b :: l, x => by
    have := chain_len (b :: l) x
    simp only [List.cons_append, chain, List.length_cons] at this ⊢
    omega

theorem round_br {s : ByteArray} {ob : St → PR (List UInt8)} (hob : Good s ob) {N : Nat} {st st' : St} {l : List UInt8} (h : Wf s st) (hr : round ob s N st = .ok l st') : Br s st st' := by
  unfold round at hr
  split at hr
  · cases hr
  · rename_i ns st1 h1
    cases hr
    obtain ⟨r1, r2, r3, r4⟩ := roundL_br hob N [] st h h1
    refine ⟨⟨⟨r1.le, r1.tk, r1.nm⟩, r1.nn⟩, r2, r3, ?_⟩
    have e3 : meas s { st1 with said := st1.said ++ chain (ns ++ [nilI]) } = meas s st1 := rfl
    unfold bud at r4 ⊢
    rw [e3]
    simp only [List.length_append, chain_len]
    simp at r4
    omega

theorem nest_on {s : ByteArray} {inner : St → PR (List UInt8)} (hin : ∀ st l st', Wf s st → inner st = .ok l st' → Br s st st') {st st' : St} {l : List UInt8} (h : Wf s st) (hr : nest inner s st = .ok l st') (hn : st.now.real = true) : On s st st' := by
  unfold nest at hr
  split at hr
  · cases hr
  · split at hr
    · cases hr
    · rename_i l1 st1 h1
      cases hr
      have w1 : Wf s { st with depth := st.depth + 1 } := ⟨⟨h.le, h.tk, h.nm⟩, h.nn⟩
      have o := On.of_step w1 hn
      have b := hin _ _ _ o.wf h1
      have e1 : meas s { st with depth := st.depth + 1 } = meas s st := rfl
      have e2 : bud s { st with depth := st.depth + 1 } = bud s st := rfl
      have e3 : meas s { st1 with depth := st1.depth - 1 } = meas s st1 := rfl
      have e4 : bud s { st1 with depth := st1.depth - 1 } = bud s st1 := rfl
      have hd : st1.depth = st.depth + 1 := b.dp.trans o.dp
      refine ⟨⟨⟨b.wf.le, b.wf.tk, b.wf.nm⟩, b.wf.nn⟩, by simp only; omega, ?_, ?_, hn⟩
      · rw [e3]
        have := b.me
        have := o.me
        omega
      · rw [e4]
        have := b.bu
        have := o.bu
        omega

theorem subj_on {s : ByteArray} {ob : St → PR (List UInt8)} (hob : Good s ob) {N : Nat} {st st' : St} {l : List UInt8} (h : Wf s st) (hr : subj ob s N st = .ok l st') : On s st st' := by
  unfold subj at hr
  split at hr
  · rename_i x hx
    split at hr
    · cases hr
    · cases hr
      exact On.of_step h (by rw [hx]; rfl)
  · rename_i c hx
    split at hr
    · exact nest_on (fun st l st' => brack_br hob) h hr (by rw [hx]; rfl)
    · split at hr
      · exact nest_on (fun st l st' => round_br hob) h hr (by rw [hx]; rfl)
      · exact res_on h hr
  · exact res_on h hr

theorem objG_on {s : ByteArray} {ob : St → PR (List UInt8)} (hob : Good s ob) {N : Nat} : Good s (objG ob s N) := by
  intro st o st' h hr
  unfold objG at hr
  split at hr
  · rename_i t hx
    exact lit_on h hx hr
  · rename_i x hx
    obtain ⟨_, rfl, _⟩ := bnd_ok hr
    exact On.of_step h (by rw [hx]; rfl)
  · rename_i x hx
    split at hr
    · cases hr
      exact On.of_step h (by rw [hx]; rfl)
    · exact subj_on hob h hr
  · exact subj_on hob h hr

theorem dead_good (s : ByteArray) : Good s (fun _ => .bad 0 0) := fun st o st' h hr => by cases hr
theorem obj_good (s : ByteArray) (N : Nat) : ∀ d, Good s (obj s N d)
  | 0 => objG_on (dead_good s)
  | d + 1 => objG_on (obj_good s N d)
theorem inn_good (s : ByteArray) (N : Nat) : ∀ d, Good s (inn s N d)
  | 0 => dead_good s
  | d + 1 => obj_good s N d

end Tu
end Go.Proofs.YtnffjoipinhojabGreatDoor

set_option linter.unusedSimpArgs false
set_option linter.unusedVariables false
namespace Go.Proofs.YtnffjoipinhojabGreatDoor
open Go.RowKit
namespace Tu

/-! Sets, runs and gaps. -/

theorem setInRow (W : World) : IsSet 118 #[] alnum 0 0 W := by
  refine ⟨enters_of Tryz.func118 (by kernel_rfl) rfl, Nat.zero_le _, fun w _ _ c h0 h1 => ?_⟩
  simp only [List.append_toArray, List.append_nil, Array.append_empty]
  have HL : Hid (∀ w1, Calls Tryz.prog 116 #[.int .i32 c] w1 fun e w' => e = .returned (.bool (letter c)) ∧ Below w1.heap.size w1 w') := fun w1 => by
    have := (set_letter w1).at' w1 (fun k a b => by omega) (Nat.zero_le _) c h0 h1
    simpa using this
  have HD : Hid (∀ w1, Calls Tryz.prog 121 #[.int .i32 c] w1 fun e w' => e = .returned (.bool (digit c)) ∧ Below w1.heap.size w1 w') := fun w1 => by
    have := (set_digit w1).at' w1 (fun k a b => by omega) (Nat.zero_le _) c h0 h1
    simpa using this
  unfold alnum
  generalize letter c = x at *
  generalize digit c = y at *
  cases x with
  | true =>
    go_enter Tryz.func118, Tryz.ntmps118
    go_wp2_with fail
    refine (HL.out _).mono ?_
    rintro e w1 ⟨rfl, hb⟩
    go_wp2_with fail
    go_ret
    exact ⟨rfl, hb⟩
  | false =>
    go_enter Tryz.func118, Tryz.ntmps118
    go_wp2_with fail
    refine (HL.out _).mono ?_
    rintro e w1 ⟨rfl, hb⟩
    go_wp2_with fail
    refine (HD.out _).mono ?_
    rintro e w2 ⟨rfl, hb2⟩
    go_wp2_with fail
    go_ret
    exact ⟨by simp, hb.trans (hb2.mono hb.size)⟩

theorem setInRest (W : World) : IsSet 201 #[] inRest 0 0 W := by
  refine ⟨enters_of Tryz.func201 (by kernel_rfl) rfl, Nat.zero_le _, fun w _ _ c h0 h1 => ?_⟩
  simp only [List.append_toArray, List.append_nil, Array.append_empty]
  have HL : Hid (∀ w1, Calls Tryz.prog 118 #[.int .i32 c] w1 fun e w' => e = .returned (.bool (alnum c)) ∧ Below w1.heap.size w1 w') := fun w1 => by
    have := (setInRow w1).at' w1 (fun k a b => by omega) (Nat.zero_le _) c h0 h1
    simpa using this
  unfold inRest
  generalize alnum c = x at *
  have h3 : c = 95 ∨ c = 45 ∨ (c ≠ 95 ∧ c ≠ 45) := by omega
  cases x <;> rcases h3 with rfl | rfl | ⟨a, d⟩
  all_goals
    go_enter Tryz.func201, Tryz.ntmps201
    go_wp2_with fail
    refine (HL.out _).mono ?_
    rintro e w1 ⟨rfl, hb⟩
    go_wp2
    go_ret
    exact ⟨ret_bool (by first | (simp; done) | (simp [a]; done) | (simp [d]; done) | (simp [a, d]; done)), hb⟩

theorem setInLang (W : World) : IsSet 198 #[] inLang 0 0 W := by
  refine ⟨enters_of Tryz.func198 (by kernel_rfl) rfl, Nat.zero_le _, fun w _ _ c h0 h1 => ?_⟩
  simp only [List.append_toArray, List.append_nil, Array.append_empty]
  have HL : Hid (∀ w1, Calls Tryz.prog 118 #[.int .i32 c] w1 fun e w' => e = .returned (.bool (alnum c)) ∧ Below w1.heap.size w1 w') := fun w1 => by
    have := (setInRow w1).at' w1 (fun k a b => by omega) (Nat.zero_le _) c h0 h1
    simpa using this
  unfold inLang
  generalize alnum c = x at *
  cases x <;> by_cases d : c = 45
  all_goals try subst d
  all_goals
    go_enter Tryz.func198, Tryz.ntmps198
    go_wp2_with fail
    refine (HL.out _).mono ?_
    rintro e w1 ⟨rfl, hb⟩
    go_wp2
    go_ret
    exact ⟨ret_bool (by first | (simp; done) | (simp [d]; done)), hb⟩

def wsB : List UInt8 := [32, 9, 10, 13]
theorem setW (W : World) (k : Nat) (hk : W.cell? ⟨k, 0, none⟩ = some (.string ⟨#[32, 9, 10, 13]⟩)) : IsSet 175 #[.pointer (some ⟨k, 0, none⟩)] isW k (k + 1) W := by
  have h := set_oneOf W k ⟨#[32, 9, 10, 13]⟩ (by unfold asc; decide) (by decide) hk
  refine ⟨h.en, h.le, fun w a b c h0 h1 => ?_⟩
  have := h.at' w a b c h0 h1
  have e : oneOfP (⟨#[32, 9, 10, 13]⟩ : ByteArray).data.toList c = isW c := by
    unfold oneOfP isW
    rw [Bool.eq_iff_iff]
    simp
    omega
  rw [e] at this
  exact this

set_option maxHeartbeats 1000000 in
theorem run_any (w : World) (b i : Nat) (s : ByteArray) (h : Rd w b s i) (hT : Tabs w) (g : Nat) (lb : Array Value) (p : Int → Bool) (lo hi : Nat) (hp : IsSet g lb p lo hi w)
    (ha : ∀ c, p c = true → 0 ≤ c ∧ c < 128) (hb4 : 8 ≤ b) (hbl : b < lo ∨ hi ≤ b) :
    Calls Tryz.prog 153 #[.pointer (some ⟨b, 0, none⟩), fnV g lb] w fun e w' => e = .returned (str (sub s i (runU p s i))) ∧ Adv b (runU p s i) w w' := by
  obtain ⟨w1, m⟩ := Mk.of w b i s h hT hb4
  have e0 := enters_of Tryz.func178 (by kernel_rfl) rfl
  have M : Hid (Mk w w1 b i s) := m
  have HP : Hid (IsSet g lb p lo hi w1) := hp.adv m.adv hbl
  have HA : Hid (∀ c, p c = true → 0 ≤ c ∧ c < 128) := ha
  have hile := h.le
  have h0 := m.rd.stayN 0
  have HA0 : Hid (Adv b i w1 w1) := h0
  clear m h hT hp ha h0
  go_enter Tryz.func153, Tryz.ntmps153
  go_wp2_with fail
  refine M.out.call.mono ?_
  rintro e w' ⟨rfl, rfl⟩
  go_wp2_with fail
  go_loopw [] (fun wr => ∃ q : Nat, i ≤ q ∧ q ≤ s.size ∧ Adv b q w' wr ∧ runU p s q = runU p s i) (fun wr => s.size - posOf wr b)
  case atStart => exact ⟨i, Nat.le_refl _, hile, HA0.out, rfl⟩
  case round =>
    obtain ⟨q, hiq, hqs, hA, hq⟩ := hrel
    have hRd := M.out.rd.adv hA hqs
    have hTb := M.out.tabs.adv hA M.out.gb M.out.rd.lt
    have hSet := HP.out.adv hA hbl
    have HAd : Hid (Adv b q w' wr) := hA
    have HPos : Hid (posOf wr b = q) := hRd.pos
    cases hpb : p (bt s q) with
    | true =>
      obtain ⟨e1, e2⟩ := asc_yes HA.out hpb
      have hK := Go.Proofs.YtnffjoipinhojabGreatDoor.takes_yes wr b q s hRd hTb g lb p lo hi hSet (by rw [e1]; exact Nat.one_ne_zero) e2
      rw [e1] at hK
      simp only at hK
      have hi1 : q < s.size := bt_lt_size (by have := HA.out _ hpb; omega)
      have HQ : Hid (runU p s (q + 1) = runU p s i) := by unfold Hid; rw [← hq, runU_on ⟨hi1, hpb⟩]
      have HK : Hid (Calls Tryz.prog 179 #[.pointer (some ⟨b, 0, none⟩), fnV g lb] wr fun e w' => e = .returned (.tuple #[.int .i32 (((bt s q).toNat : Nat) : Int), .bool true]) ∧ Adv b (q + 1) wr w') := hK
      clear hK e1 e2 hpb hTb hSet hq hA
      go_wp2_with fail
      refine HK.out.mono ?_
      rintro e w2 ⟨rfl, hA2⟩
      have HR2 : Hid (Rd w2 b s (q + 1)) := hRd.adv hA2 (by omega)
      have HA2 : Hid (Adv b (q + 1) w' w2) := HAd.out.trans hA2
      clear hA2 hRd
      go_wp2_with fail
      go_roundw
      case rel => exact ⟨q + 1, by omega, by omega, HA2.out, HQ.out⟩
      case measure => rw [HR2.out.pos, HPos.out]; omega
    | false =>
      have hK := Go.Proofs.YtnffjoipinhojabGreatDoor.takes_no wr b q s hRd hTb g lb p lo hi hSet (asc_no HA.out hpb)
      have HQ : Hid (runU p s i = q) := by unfold Hid; rw [← hq, runU_end (by rw [hpb]; simp)]
      have HK : Hid (Calls Tryz.prog 179 #[.pointer (some ⟨b, 0, none⟩), fnV g lb] wr fun e w' => e = .returned (.tuple #[.int .i32 0, .bool false]) ∧ Below wr.heap.size wr w') := hK
      clear hK hpb hTb hSet hRd hq hA
      go_wp2_with fail
      refine HK.out.mono ?_
      rintro e w2 ⟨rfl, hB2⟩
      have hA2 := HAd.out.then_below hB2
      go_wp2_with fail
      refine (M.out.since hA2 hiq hqs).mono ?_
      rintro e w3 ⟨rfl, hB3⟩
      go_wp2_with fail
      go_ret
      rw [HQ.out]
      exact ⟨rfl, M.out.adv.trans (hA2.then_below hB3)⟩

end Tu
end Go.Proofs.YtnffjoipinhojabGreatDoor

