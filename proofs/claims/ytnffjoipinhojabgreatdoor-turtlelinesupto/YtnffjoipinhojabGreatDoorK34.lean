import Derived.Test.YtnffjoipinhojabGreatDoorK33
import Derived.Lib.ValidU
set_option linter.unusedSimpArgs false
set_option linter.unusedVariables false
namespace Go.Proofs.YtnffjoipinhojabGreatDoor
open Go.RowKit

/-- what rise answers rises -/
theorem rise_rises : ∀ {ts acc set : List Tri}, Rising acc → rise acc ts = some set → Rising set
  | [], acc, set, h, e => by
    rw [rise] at e
    cases e
    exact h
  | t :: r, acc, set, h, e => by
    rw [rise] at e
    split at e
    · exact rise_rises h e
    · rename_i ht
      split at e
      · cases e
      · exact rise_rises (ins_rising h (fun x => ht (thereB_iff.2 x))) e

/-- a list that rises is its own set -/
theorem rise_self : ∀ (ts acc : List Tri), Rising (acc ++ ts) → (acc ++ ts).length ≤ 300 → rise acc ts = some (acc ++ ts)
  | [], acc, _, _ => by rw [rise, List.append_nil]
  | t :: r, acc, h, hn => by
    have hr : Rising acc := by
      unfold Rising at h ⊢
      exact (List.pairwise_append.1 h).1
    have hlt : ∀ x ∈ acc, triCmp x t < 0 := fun x hx => by
      unfold Rising at h
      exact (List.pairwise_append.1 h).2.2 x hx t (List.mem_cons_self ..)
    have hp : posT acc t = acc.length := (posT_eq hr (Nat.le_refl _) (fun k x hk _ => hlt x (List.mem_of_getElem? hk)) (fun k x hk hle => by have := (List.getElem?_eq_some_iff.1 hk).1; omega)).symm
    have hth : thereB acc t = false := by
      unfold thereB
      rw [hp, List.getElem?_eq_none (Nat.le_refl _)]
    have hi : ins acc t = acc ++ [t] := by
      unfold ins
      rw [hp, List.take_length, List.drop_length]
    have e : acc ++ t :: r = (acc ++ [t]) ++ r := by simp
    have hl : acc.length ≠ 300 := by
      simp at hn
      omega
    rw [rise, if_neg (by rw [hth]; simp), if_neg hl, hi, e]
    exact rise_self r (acc ++ [t]) (by rw [← e]; exact h) (by rw [← e]; exact hn)

end Go.Proofs.YtnffjoipinhojabGreatDoor

set_option linter.unusedSimpArgs false
set_option linter.unusedVariables false
namespace Go.Proofs.YtnffjoipinhojabGreatDoor
namespace Back

/-- a list as the bytes of a text -/
abbrev arr (l : List UInt8) : ByteArray := ⟨l.toArray⟩

theorem arr_sz (l : List UInt8) : (arr l).size = l.length := by
  show l.toArray.size = _
  simp

theorem arr_data (s : ByteArray) : arr s.data.toList = s := by
  cases s with | mk d => rfl

theorem bt_arr {l : List UInt8} {i : Nat} {x : UInt8} (h : l[i]? = some x) : bt (arr l) i = (x.toNat : Int) := by
  have hl : i < l.length := (List.getElem?_eq_some_iff.1 h).1
  have hx : l[i] = x := (List.getElem?_eq_some_iff.1 h).2
  rw [bt_lt (by rw [arr_sz]; exact hl)]
  show ((l.toArray[i]'(by simpa using hl)).toNat : Int) = _
  simp [hx]

theorem bt_arr_none {l : List UInt8} {i : Nat} (h : l.length ≤ i) : bt (arr l) i = 256 := bt_end (by rw [arr_sz]; exact h)

theorem bt_get {s : ByteArray} {i : Nat} {x : UInt8} (h : s.data.toList[i]? = some x) : bt s i = (x.toNat : Int) := by
  have := bt_arr h
  rwa [arr_data] at this

theorem bt_at (pre l : List UInt8) (x : UInt8) : bt (arr (pre ++ x :: l)) pre.length = (x.toNat : Int) :=
  bt_arr (by rw [List.getElem?_append_right (Nat.le_refl _), Nat.sub_self]; rfl)

theorem bt_at1 (pre l : List UInt8) (x y : UInt8) : bt (arr (pre ++ x :: y :: l)) (pre.length + 1) = (y.toNat : Int) :=
  bt_arr (by rw [List.getElem?_append_right (by omega), Nat.add_sub_cancel_left]; rfl)

theorem chr_enc (pre post : List UInt8) (c : Nat) (hv : Lib.validRune c = true) :
    chr (arr (pre ++ (Lib.encodeRune c ++ post))) pre.length = (c, (Lib.encodeRune c).length) := by
  unfold chr
  have h1 := enc_pos c
  rw [if_pos (by rw [arr_sz]; simp; omega), dec_enc pre post c hv]
  rw [if_neg]
  intro e
  simp only [Prod.mk.injEq] at e
  obtain ⟨rfl, e2⟩ := e
  revert e2
  decide

theorem enc_head (c : Nat) : ∃ x l, Lib.encodeRune c = x :: l ∧ ((c ≤ 127 ∧ x.toNat = c ∧ l = []) ∨ (128 ≤ c ∧ 128 ≤ x.toNat)) := by
  by_cases h : c ≤ 127
  · refine ⟨UInt8.ofNat c, [], enc_low h, Or.inl ⟨h, ?_, rfl⟩⟩
    simp
    omega
  · cases e : Lib.encodeRune c with
    | nil => have := enc_pos c; rw [e] at this; simp at this
    | cons x l => exact ⟨x, l, rfl, Or.inr ⟨by omega, enc_high (c := c) (by omega) x (by rw [e]; simp)⟩⟩

/-- Right characters of a set alone. -/
inductive VP (p : Int → Bool) : List UInt8 → Prop
  | nil : VP p []
  | cons (c : Nat) (l : List UInt8) : Lib.validRune c = true → p c = true → VP p l → VP p (Lib.encodeRune c ++ l)

theorem num_has {s : ByteArray} {i j k : Nat} {has : Int → Bool} {c m : Nat} (h : num s i j k has = .ok c m) : has c = true := by
  unfold num at h
  split at h
  · cases h
  · split at h
    · rename_i hh
      rw [Bool.and_eq_true] at hh
      cases h
      exact hh.2
    · cases h

theorem one_has {s : ByteArray} {i : Nat} {has : Int → Bool} {c m : Nat} (h : one s i has has false = .ok c m) : has c = true := by
  unfold one at h
  split at h
  · unfold esc at h
    split at h
    · exact num_has h
    · split at h
      · exact num_has h
      · simp at h
  · split at h
    · rename_i hh
      cases h
      exact hh.2
    · cases h

theorem body_VP (s : ByteArray) (q : Int) (has : Int → Bool) : ∀ (n i : Nat), s.size - i < n → ∀ l j, body s q has has false i = .ok l j → VP has l := by
  intro n
  induction n with
  | zero => intro i h; omega
  | succ n ih =>
    intro i hn l j h
    rw [body] at h
    split at h
    · cases h
      exact .nil
    · split at h
      · cases h
      · rename_i c k ho
        cases hb : body s q has has false k with
        | bad j' => rw [hb] at h; cases h
        | ok m j' =>
          rw [hb] at h
          cases h
          have hlt := one_lt ho
          exact .cons c m (one_valid ho) (one_has ho) (ih k (by omega) m _ hb)

/-- what stands in an iri's one form is read as it is -/
theorem body_back {l : List UInt8} (h : VP inIri l) : ∀ (pre post : List UInt8), body (arr (pre ++ (l ++ 62 :: post))) 62 inIri inIri false pre.length = .ok l (pre.length + l.length + 1) := by
  induction h with
  | nil =>
    intro pre post
    rw [body, if_pos (by rw [List.nil_append, bt_at]; rfl)]
    rfl
  | cons c l hv hp hl ih =>
    intro pre post
    obtain ⟨x, t, ex, hx⟩ := enc_head c
    have hb : bt (arr (pre ++ (Lib.encodeRune c ++ l ++ 62 :: post))) pre.length = (x.toNat : Int) := by
      rw [ex]
      exact bt_at pre _ x
    have hc : (x.toNat : Int) ≠ 62 ∧ (x.toNat : Int) ≠ 92 := by
      rcases hx with ⟨_, h2, _⟩ | ⟨_, h2⟩
      · simp [inIri, badIri, control] at hp
        omega
      · omega
    have hk := chr_enc pre (l ++ 62 :: post) c hv
    have ho : one (arr (pre ++ (Lib.encodeRune c ++ l ++ 62 :: post))) pre.length inIri inIri false = .ok c (pre.length + (Lib.encodeRune c).length) := by
      unfold one
      rw [if_neg (by rw [hb]; exact hc.2), List.append_assoc (Lib.encodeRune c), hk]
      have := enc_pos c
      rw [if_pos ⟨by simp only; omega, hp⟩]
    have hi := ih (pre ++ Lib.encodeRune c) post
    rw [List.length_append, List.append_assoc pre] at hi
    rw [body, if_neg (by rw [hb]; exact hc.1)]
    split
    · rename_i j e
      rw [ho] at e
      cases e
    · rename_i c' j e
      rw [ho] at e
      cases e
      rw [List.append_assoc (Lib.encodeRune c), hi]
      exact congrArg (R.ok _) (by simp only [List.length_append]; omega)

theorem esc_short (pre post : List UInt8) (x : UInt8) (c : Nat) (h1 : x.toNat ≠ 117) (h2 : x.toNat ≠ 85) (h3 : shortOf (x.toNat : Int) = some c) :
    one (arr (pre ++ 92 :: x :: post)) pre.length plainQ allc true = .ok c (pre.length + 2) := by
  unfold one
  rw [if_pos (by rw [bt_at]; rfl)]
  unfold esc
  rw [bt_at1, if_neg (by omega), if_neg (by omega), if_pos rfl, h3]

/-- what a string's one form says is what it was -/
theorem quoted_back {l : List UInt8} (h : VU l) : ∀ (pre post : List UInt8), body (arr (pre ++ (escaped l ++ 34 :: post))) 34 plainQ allc true pre.length = .ok l (pre.length + (escaped l).length + 1) := by
  induction h with
  | nil =>
    intro pre post
    rw [body, if_pos (by simp only [escaped, List.nil_append]; rw [bt_at]; rfl)]
    rfl
  | cons c l hv hl ih =>
    intro pre post
    rw [escaped_append]
    have key : ∀ (m : List UInt8) (x : UInt8) (t : List UInt8), escaped (Lib.encodeRune c) = m → m = x :: t → (x.toNat : Int) ≠ 34 →
        one (arr (pre ++ (m ++ (escaped l ++ 34 :: post)))) pre.length plainQ allc true = .ok c (pre.length + m.length) →
        body (arr (pre ++ (escaped (Lib.encodeRune c) ++ escaped l ++ 34 :: post))) 34 plainQ allc true pre.length = .ok (Lib.encodeRune c ++ l) (pre.length + (escaped (Lib.encodeRune c) ++ escaped l).length + 1) := by
      intro m x t em hm hx ho
      rw [em, List.append_assoc m]
      have hi := ih (pre ++ m) post
      rw [List.length_append, List.append_assoc pre] at hi
      rw [body, if_neg (by rw [hm, List.cons_append, bt_at]; exact hx)]
      split
      · rename_i j e
        rw [ho] at e
        cases e
      · rename_i c' j e
        rw [ho] at e
        cases e
        rw [hi]
        exact congrArg (R.ok _) (by simp only [List.length_append]; omega)
    by_cases h92 : c = 92
    · subst h92
      exact key [92, 92] 92 [92] (by decide) rfl (by decide) (esc_short pre _ 92 92 (by decide) (by decide) (by decide))
    · by_cases h34 : c = 34
      · subst h34
        exact key [92, 34] 92 [34] (by decide) rfl (by decide) (esc_short pre _ 34 34 (by decide) (by decide) (by decide))
      · by_cases h10 : c = 10
        · subst h10
          exact key [92, 110] 92 [110] (by decide) rfl (by decide) (esc_short pre _ 110 10 (by decide) (by decide) (by decide))
        · by_cases h13 : c = 13
          · subst h13
            exact key [92, 114] 92 [114] (by decide) rfl (by decide) (esc_short pre _ 114 13 (by decide) (by decide) (by decide))
          · obtain ⟨x, t, ex, hx⟩ := enc_head c
            have hne : (x.toNat : Int) ≠ 34 ∧ (x.toNat : Int) ≠ 92 := by
              rcases hx with ⟨_, h2, _⟩ | ⟨_, h2⟩
              · omega
              · omega
            refine key (Lib.encodeRune c) x t (escaped_other h92 h34 h10 h13) ex hne.1 ?_
            unfold one
            have hb : bt (arr (pre ++ (Lib.encodeRune c ++ (escaped l ++ 34 :: post)))) pre.length = (x.toNat : Int) := by
              rw [ex]
              exact bt_at pre _ x
            rw [if_neg (by rw [hb]; exact hne.2), chr_enc pre _ c hv]
            have := enc_pos c
            rw [if_pos ⟨by simp only; omega, by simp [plainQ]; omega⟩]

theorem scheme_shift (s s' : ByteArray) : ∀ (n i i' j : Nat), s.size - i < n → scheme s i = .ok () j → (∀ k, i + k < j → bt s' (i' + k) = bt s (i + k)) → scheme s' i' = .ok () (i' + (j - i)) := by
  intro n
  induction n with
  | zero => intro i i' j h; omega
  | succ n ih =>
    intro i i' j hn h hk
    have hlt := scheme_lt s (s.size - i + 1) i (by omega) j h
    have h0 := hk 0 (by omega)
    simp only [Nat.add_zero] at h0
    rw [scheme] at h ⊢
    rw [h0]
    split at h
    · rename_i hc
      cases h
      rw [if_pos hc]
      exact congrArg (R.ok _) (by omega)
    · rename_i hc
      rw [if_neg hc]
      split at h
      · rename_i hs
        rw [dif_pos hs]
        have hl2 := scheme_lt s (s.size - (i + 1) + 1) (i + 1) (by omega) j h
        rw [ih (i + 1) (i' + 1) j (by omega) h (fun k hk' => by have := hk (k + 1) (by omega); rw [show i' + 1 + k = i' + (k + 1) by omega, show i + 1 + k = i + (k + 1) by omega]; exact this)]
        exact congrArg (R.ok _) (by omega)
      · cases h

theorem sub_get {s : ByteArray} {i j n : Nat} (h : i + n < j) (hj : j ≤ s.size) : ∃ x, (sub s i j)[n]? = some x ∧ bt s (i + n) = (x.toNat : Int) := by
  have hl : i + n < s.data.toList.length := by
    have : s.data.toList.length = s.size := Array.length_toList
    omega
  refine ⟨s.data.toList[i + n], ?_, bt_get (List.getElem?_eq_getElem hl)⟩
  unfold sub
  rw [List.getElem?_take_of_lt (by omega), List.getElem?_drop]
  exact List.getElem?_eq_getElem hl

theorem sub_len {s : ByteArray} {i j : Nat} (h : i ≤ j) (hj : j ≤ s.size) : (sub s i j).length = j - i := by
  have : s.data.toList.length = s.size := Array.length_toList
  unfold sub
  rw [List.length_take, List.length_drop]
  omega

theorem sub_pre (pre a post : List UInt8) : sub (arr (pre ++ (a ++ post))) pre.length (pre.length + a.length) = a := by
  unfold sub
  rw [List.drop_left, Nat.add_sub_cancel_left, List.take_left]

/-- an iri's one form is read as itself -/
theorem iri_back {s : ByteArray} {i : Nat} {l : List UInt8} {j : Nat} (h : iri s i = .ok l j) (pre post : List UInt8) :
    iri (arr (pre ++ (l ++ post))) pre.length = .ok l (pre.length + l.length) := by
  unfold iri at h
  split at h
  · cases h
  · rename_i h60
    split at h
    · cases h
    · rename_i hlet
      split at h
      · cases h
      · rename_i j' hs
        split at h
        · cases h
        · rename_i m k hb
          cases h
          have hlt := scheme_lt s (s.size - (i + 2) + 1) (i + 2) (by omega) j' hs
          have hsl := sub_len (s := s) (i := i) (j := j') (by omega) hlt.2
          have hat : ∀ n, i + n < j' → bt (arr (pre ++ (sub s i j' ++ m ++ [62] ++ post))) (pre.length + n) = bt s (i + n) := by
            intro n hn
            obtain ⟨x, hx, hbx⟩ := sub_get hn hlt.2
            rw [hbx]
            apply bt_arr
            rw [List.getElem?_append_right (by omega), Nat.add_sub_cancel_left, List.append_assoc, List.append_assoc, List.getElem?_append_left (by omega)]
            exact hx
          have h0 := hat 0 (by omega)
          have h1 := hat 1 (by omega)
          simp only [Nat.add_zero] at h0
          have hsc := scheme_shift s (arr (pre ++ (sub s i j' ++ m ++ [62] ++ post))) (s.size - (i + 2) + 1) (i + 2) (pre.length + 2) j' (by omega) hs (fun k hk => by
            have := hat (k + 2) (by omega)
            rw [show pre.length + 2 + k = pre.length + (k + 2) by omega, show i + 2 + k = i + (k + 2) by omega]
            exact this)
          have hbb := body_back (body_VP s 62 inIri _ _ (Nat.lt_succ_self _) m _ hb) (pre ++ sub s i j') post
          rw [List.length_append, hsl] at hbb
          unfold iri
          rw [h0, if_neg h60, h1, if_neg hlet, hsc]
          have e1 : pre.length + 2 + (j' - (i + 2)) = pre.length + (j' - i) := by omega
          have e2 : pre ++ (sub s i j' ++ m ++ [62] ++ post) = pre ++ sub s i j' ++ (m ++ 62 :: post) := by simp [List.append_assoc]
          have e3 : sub (arr (pre ++ (sub s i j' ++ m ++ [62] ++ post))) pre.length (pre.length + (j' - i)) = sub s i j' := by
            have := sub_pre pre (sub s i j') (m ++ ([62] ++ post))
            rw [hsl] at this
            rw [List.append_assoc (sub s i j' ++ m), List.append_assoc (sub s i j')]
            exact this
          simp only [e1]
          rw [e3, e2, hbb]
          exact congrArg (R.ok _) (by simp only [List.length_append, hsl, List.length_cons, List.length_nil]; omega)

end Back
end Go.Proofs.YtnffjoipinhojabGreatDoor

namespace Go.Proofs.YtnffjoipinhojabGreatDoor
namespace Back

def lowI (c : Int) : Int := if 65 ≤ c ∧ c ≤ 90 then c + 32 else c
theorem letter_low (c : Int) : letter (lowI c) = letter c := by
  unfold lowI letter
  rw [Bool.eq_iff_iff, decide_eq_true_iff, decide_eq_true_iff]
  split <;> omega
theorem digit_low (c : Int) : digit (lowI c) = digit c := by
  unfold lowI digit
  rw [Bool.eq_iff_iff, decide_eq_true_iff, decide_eq_true_iff]
  split <;> omega
theorem alnum_low (c : Int) : alnum (lowI c) = alnum c := by unfold alnum; rw [letter_low, digit_low]
theorem dash_low (c : Int) : lowI c = 45 ↔ c = 45 := by unfold lowI; split <;> omega
theorem lowB_all : ∀ n < 256, ((Lib.lowerB (UInt8.ofNat n)).toNat : Int) = lowI ((UInt8.ofNat n).toNat : Int) ∧ Lib.lowerB (Lib.lowerB (UInt8.ofNat n)) = Lib.lowerB (UInt8.ofNat n) := by decide +kernel
theorem lowB_low (b : UInt8) : ((Lib.lowerB b).toNat : Int) = lowI (b.toNat : Int) := by
  have := (lowB_all b.toNat b.toNat_lt).1
  rwa [UInt8.ofNat_toNat] at this
theorem lowB_idem (b : UInt8) : Lib.lowerB (Lib.lowerB b) = Lib.lowerB b := by
  have := (lowB_all b.toNat b.toNat_lt).2
  rwa [UInt8.ofNat_toNat] at this
theorem toLower_idem (l : List UInt8) : Lib.toLowerA (Lib.toLowerA l) = Lib.toLowerA l := by
  unfold Lib.toLowerA
  rw [List.map_map]
  exact List.map_congr_left fun b _ => lowB_idem b
theorem toLower_len (l : List UInt8) : (Lib.toLowerA l).length = l.length := by unfold Lib.toLowerA; simp

theorem run_shift (p : Int → Bool) (hp : ∀ c, p (lowI c) = p c) (s s' : ByteArray) : ∀ (k i i' : Nat), (∀ n, bt s' (i' + n) = lowI (bt s (i + n))) → run p s' k i' = run p s k i := by
  intro k
  induction k with
  | zero => intro i i' _; rfl
  | succ k ih =>
    intro i i' h
    have h0 := h 0
    simp only [Nat.add_zero] at h0
    simp only [run]
    rw [h0, hp, ih (i + 1) (i' + 1) (fun n => by have := h (n + 1); rw [show i' + 1 + n = i' + (n + 1) by omega, show i + 1 + n = i + (n + 1) by omega]; exact this)]

theorem langTail_shift (s s' : ByteArray) : ∀ (n i i' k : Nat), s.size - i < n → (∀ n, bt s' (i' + n) = lowI (bt s (i + n))) → langTail s i = .ok () k → i ≤ k ∧ langTail s' i' = .ok () (i' + (k - i)) := by
  intro n
  induction n with
  | zero => intro i i' k h; omega
  | succ n ih =>
    intro i i' k hn h hl
    have h0 := h 0
    simp only [Nat.add_zero] at h0
    rw [langTail] at hl ⊢
    split at hl
    · rename_i hd
      have hin := bt_in hd (by omega)
      rw [dif_pos (by rw [h0, dash_low]; exact hd)]
      have h1 : ∀ n, bt s' (i' + 1 + n) = lowI (bt s (i + 1 + n)) := fun n => by have := h (n + 1); rw [show i' + 1 + n = i' + (n + 1) by omega, show i + 1 + n = i + (n + 1) by omega]; exact this
      rw [run_shift alnum alnum_low s s' 8 (i + 1) (i' + 1) h1]
      split at hl
      · cases hl
      · rename_i hr
        rw [if_neg hr]
        obtain ⟨a, b⟩ := ih (i + 1 + run alnum s 8 (i + 1)) (i' + 1 + run alnum s 8 (i + 1)) k (by omega) (fun n => by
          have := h1 (run alnum s 8 (i + 1) + n)
          rw [← Nat.add_assoc, ← Nat.add_assoc] at this
          exact this) hl
        refine ⟨by omega, ?_⟩
        rw [b]
        exact congrArg (R.ok _) (by omega)
    · rename_i hd
      rw [dif_neg (by rw [h0, dash_low]; exact hd)]
      cases hl
      exact ⟨Nat.le_refl _, congrArg (R.ok _) (by omega)⟩

theorem language_shift {s s' : ByteArray} {i i' k : Nat} (h : ∀ n, bt s' (i' + n) = lowI (bt s (i + n))) (hl : language s i = .ok () k) : i < k ∧ language s' i' = .ok () (i' + (k - i)) := by
  unfold language at hl ⊢
  rw [run_shift letter letter_low s s' 8 i i' h]
  split at hl
  · cases hl
  · rename_i hr
    rw [if_neg hr]
    obtain ⟨a, b⟩ := langTail_shift s s' (s.size - (i + run letter s 8 i) + 1) (i + run letter s 8 i) (i' + run letter s 8 i) k (by omega) (fun n => by
      have := h (run letter s 8 i + n)
      rw [← Nat.add_assoc, ← Nat.add_assoc] at this
      exact this) hl
    refine ⟨by omega, ?_⟩
    rw [b]
    exact congrArg (R.ok _) (by omega)

theorem low_at {s : ByteArray} {i : Nat} (pre : List UInt8) (hi : i ≤ s.size) (n : Nat) : bt (arr (pre ++ Lib.toLowerA (sub s i s.size))) (pre.length + n) = lowI (bt s (i + n)) := by
  by_cases hn : i + n < s.size
  · obtain ⟨x, hx, hb⟩ := sub_get (s := s) (i := i) (j := s.size) hn (Nat.le_refl _)
    rw [hb, ← lowB_low]
    apply bt_arr
    rw [List.getElem?_append_right (by omega), Nat.add_sub_cancel_left]
    unfold Lib.toLowerA
    rw [List.getElem?_map, hx]
    rfl
  · rw [bt_end (s := s) (by omega), bt_arr_none (by rw [List.length_append, toLower_len, sub_len hi (Nat.le_refl _)]; omega)]
    rfl

theorem language_back {s : ByteArray} {i : Nat} (pre : List UInt8) (hi : i ≤ s.size) (h : language s i = .ok () s.size) :
    i < s.size ∧ language (arr (pre ++ Lib.toLowerA (sub s i s.size))) pre.length = .ok () (pre.length + (Lib.toLowerA (sub s i s.size)).length) := by
  obtain ⟨a, b⟩ := language_shift (low_at pre hi) h
  refine ⟨a, ?_⟩
  rw [b, toLower_len, sub_len hi (Nat.le_refl _)]

/-- the parts that a literal's one form has -/
def oneParts (p : Lit) : Lit := ⟨p.text, Lib.toLowerA p.lang, if p.kind = stringKind then [] else p.kind⟩

/-- parts that a literal may have, in their one form -/
structure Fit (p : Lit) : Prop where
  text : VU p.text
  lang : p.lang = [] ∨ (p.kind = [] ∧ language (arr p.lang) 0 = .ok () p.lang.length)
  low : Lib.toLowerA p.lang = p.lang
  kind : p.kind = [] ∨ (p.lang = [] ∧ iri (arr p.kind) 0 = .ok p.kind p.kind.length)
  plain : p.kind ≠ stringKind

theorem toLower_nil {l : List UInt8} (h : Lib.toLowerA l = []) : l = [] := by
  have := toLower_len l
  rw [h] at this
  exact List.length_eq_zero_iff.1 this.symm

theorem form_one (p : Lit) (h : p.lang = [] ∨ p.kind = []) : form (oneParts p).text (oneParts p).lang (oneParts p).kind = form p.text p.lang p.kind := by
  unfold form oneParts
  simp only
  by_cases hl : p.lang = []
  · rw [hl]
    by_cases hk : p.kind = stringKind
    · simp [hk, Lib.toLowerA]
    · simp [hk, Lib.toLowerA]
  · rw [if_pos (fun e => hl (toLower_nil e)), if_pos hl, toLower_idem]

theorem quoted_one {t : List UInt8} (h : VU t) (post : List UInt8) : quoted (arr ([34] ++ (escaped t ++ 34 :: post))) 0 = .ok t (1 + (escaped t).length + 1) := by
  unfold quoted
  rw [if_neg (by rw [show ([34] ++ (escaped t ++ 34 :: post) : List UInt8) = [] ++ 34 :: (escaped t ++ 34 :: post) from rfl]; have := bt_at [] (escaped t ++ 34 :: post) 34; simp only [List.length_nil] at this; rw [this]; decide)]
  exact quoted_back h [34] post

theorem after_quoted (t post : List UInt8) (n : Nat) (x : UInt8) (h : post[n]? = some x) : bt (arr ([34] ++ (escaped t ++ 34 :: post))) (1 + (escaped t).length + 1 + n) = (x.toNat : Int) := by
  apply bt_arr
  rw [List.getElem?_append_right (by simp; omega), List.getElem?_append_right (by simp; omega)]
  rw [show 1 + (escaped t).length + 1 + n - [(34 : UInt8)].length - (escaped t).length = n + 1 by simp; omega, List.getElem?_cons_succ]
  exact h

theorem parts_back {s : ByteArray} {p : Lit} (h : parts s 0 = .ok p s.size) :
    parts (arr (form p.text p.lang p.kind)) 0 = .ok (oneParts p) (form p.text p.lang p.kind).length ∧ (p.lang = [] ∨ p.kind = []) ∧ Fit (oneParts p) := by
  unfold parts at h
  split at h
  · cases h
  · rename_i t j hq
    have hv := quoted_valid hq
    split at h
    · rename_i h64
      have hin := bt_in h64 (by omega)
      split at h
      · cases h
      · rename_i k hl
        cases h
        have hb0 := language_back [] (by omega) hl
        obtain ⟨hlt, hb⟩ := language_back ([34] ++ (escaped t ++ [34, 64])) (by omega) hl
        have hsl := sub_len (s := s) (i := j + 1) (j := s.size) (by omega) (Nat.le_refl _)
        have hne : sub s (j + 1) s.size ≠ [] := by intro e; rw [e] at hsl; simp at hsl; omega
        generalize sub s (j + 1) s.size = L at *
        have ef : form t L [] = [34] ++ (escaped t ++ 34 :: 64 :: Lib.toLowerA L) := by
          unfold form
          rw [if_pos hne]
          simp [List.append_assoc]
        refine ⟨?_, Or.inr rfl, ⟨hv.1, Or.inr ⟨by simp [oneParts, stringKind], ?_⟩, toLower_idem _, Or.inl (by simp [oneParts, stringKind]), by simp [oneParts, stringKind]⟩⟩
        · simp only
          rw [ef]
          unfold parts
          rw [quoted_one hv.1]
          simp only
          rw [if_pos (by have := after_quoted t (64 :: Lib.toLowerA L) 0 64 rfl; simp only [Nat.add_zero] at this; rw [this]; rfl)]
          have e1 : ([34] ++ (escaped t ++ 34 :: 64 :: Lib.toLowerA L) : List UInt8) = [34] ++ (escaped t ++ [34, 64]) ++ Lib.toLowerA L := by simp [List.append_assoc]
          have e2 : ([34] ++ (escaped t ++ [34, 64]) : List UInt8).length = 1 + (escaped t).length + 1 + 1 := by simp; omega
          have e3 := sub_pre ([34] ++ (escaped t ++ [34, 64])) (Lib.toLowerA L) []
          rw [List.append_nil] at e3
          rw [e2] at hb e3
          rw [e1, hb]
          simp only
          rw [e3, List.length_append, e2]
          rfl
        · simpa [oneParts] using hb0.2
    · split at h
      · rename_i h64 h94
        split at h
        · cases h
        · rename_i h95
          split at h
          · cases h
          · rename_i m k hi
            cases h
            have hm := (iri_len hi).2.2.2
            by_cases hk : m = stringKind
            · have ef : form t [] m = [34] ++ (escaped t ++ 34 :: []) := by
                unfold form
                rw [if_neg (by simp), if_neg (by rw [hk]; simp)]
                simp [List.append_assoc]
              refine ⟨?_, Or.inl rfl, ⟨hv.1, Or.inl rfl, rfl, Or.inl (by simp [oneParts, hk]), by simp [oneParts, hk, stringKind]⟩⟩
              simp only
              rw [ef]
              unfold parts
              rw [quoted_one hv.1]
              simp only
              have hend : bt (arr ([34] ++ (escaped t ++ 34 :: []))) (1 + (escaped t).length + 1) = 256 := bt_arr_none (by simp; omega)
              rw [hend, if_neg (by omega), if_neg (by omega)]
              simp [oneParts, hk, Lib.toLowerA]
              omega
            · have ef : form t [] m = [34] ++ (escaped t ++ 34 :: 94 :: 94 :: m) := by
                unfold form
                rw [if_neg (by simp), if_pos ⟨hm, hk⟩]
                simp [List.append_assoc]
              have hb0 := iri_back hi [] []
              have hb := iri_back hi ([34] ++ (escaped t ++ [34, 94, 94])) []
              rw [List.append_nil] at hb hb0
              refine ⟨?_, Or.inl rfl, ⟨hv.1, Or.inl rfl, rfl, Or.inr ⟨rfl, ?_⟩, by simp [oneParts, hk]⟩⟩
              · simp only
                rw [ef]
                unfold parts
                rw [quoted_one hv.1]
                simp only
                have a0 := after_quoted t (94 :: 94 :: m) 0 94 rfl
                have a1 := after_quoted t (94 :: 94 :: m) 1 94 rfl
                simp only [Nat.add_zero] at a0
                rw [if_neg (by rw [a0]; decide), if_pos (by rw [a0]; decide), if_neg (by rw [a1]; decide)]
                have e1 : ([34] ++ (escaped t ++ 34 :: 94 :: 94 :: m) : List UInt8) = [34] ++ (escaped t ++ [34, 94, 94]) ++ m := by simp [List.append_assoc]
                have e2 : ([34] ++ (escaped t ++ [34, 94, 94]) : List UInt8).length = 1 + (escaped t).length + 1 + 2 := by simp; omega
                rw [e2] at hb
                rw [e1, hb]
                simp only
                rw [List.length_append, e2]
                simp [oneParts, hk, Lib.toLowerA]
              · simpa [oneParts, hk] using hb0
      · cases h
        have ef : form t [] [] = [34] ++ (escaped t ++ 34 :: []) := by
          unfold form
          rw [if_neg (by simp), if_neg (by simp)]
          simp [List.append_assoc]
        refine ⟨?_, Or.inl rfl, ⟨hv.1, Or.inl rfl, rfl, Or.inl (by simp [oneParts, stringKind]), by simp [oneParts, stringKind]⟩⟩
        simp only
        rw [ef]
        unfold parts
        rw [quoted_one hv.1]
        simp only
        have hend : bt (arr ([34] ++ (escaped t ++ 34 :: []))) (1 + (escaped t).length + 1) = 256 := bt_arr_none (by simp; omega)
        rw [hend, if_neg (by omega), if_neg (by omega)]
        simp [oneParts, stringKind, Lib.toLowerA]
        omega

theorem whole_ok {α : Type} {s : ByteArray} {r : R α} {a : α} {j : Nat} (h : whole s r = .ok a j) : r = .ok a s.size ∧ j = s.size := by
  unfold whole at h
  split at h
  · cases h
  · split at h
    · rename_i e
      cases h
      exact ⟨by rw [e], e⟩
    · cases h

theorem sub_all (s : ByteArray) : arr (sub s 0 s.size) = s := by
  have e : sub s 0 s.size = s.data.toList := by
    unfold sub
    rw [List.drop_zero, Nat.sub_zero]
    exact List.take_of_length_le (Nat.le_of_eq Array.length_toList)
  rw [e, arr_data]

/-- what is read is a term in its one form, that is read as itself -/
theorem term_back {s : ByteArray} {k : Nat} {l : List UInt8} {j : Nat} (h : whole s (term s 0) = .ok (k, l) j) :
    whole (arr l) (term (arr l) 0) = .ok (k, l) l.length ∧ (k = 1 ∨ k = 2 ∨ k = 3) ∧
      (k = 3 → ∃ p, whole (arr l) (parts (arr l) 0) = .ok p l.length ∧ form p.text p.lang p.kind = l ∧ Fit p) := by
  obtain ⟨ht, rfl⟩ := whole_ok h
  unfold term at ht
  split at ht
  · rename_i h60
    split at ht
    · cases ht
    · rename_i l' j' hi
      cases ht
      have hb := iri_back hi [] []
      simp only [List.nil_append, List.append_nil, List.length_nil, Nat.zero_add] at hb
      have h0 : bt (arr l) 0 = 60 := by
        rw [iri] at hb
        by_cases hh : bt (arr l) 0 = 60
        · exact hh
        · rw [if_pos hh] at hb; cases hb
      refine ⟨?_, Or.inl rfl, fun e => by omega⟩
      unfold term
      rw [if_pos h0, hb]
      simp only [whole]
      rw [if_pos (arr_sz l).symm]
  · rename_i h60
    split at ht
    · rename_i h95
      split at ht
      · cases ht
      · rename_i l' j' hi
        cases ht
        have e : arr l = s := by
          have hi' := hi
          unfold blank at hi'
          rw [if_neg (by simp [h95])] at hi'
          split at hi'
          · cases hi'
          · split at hi'
            · cases hi'
            · simp only [R.ok.injEq] at hi'
              rw [← hi'.1, hi'.2]
              exact sub_all s
        refine ⟨?_, Or.inr (Or.inl rfl), fun e => by omega⟩
        rw [e]
        have el : l.length = s.size := by rw [← e, arr_sz]
        unfold term
        rw [if_neg h60, if_pos h95, hi]
        simp only [whole]
        rw [if_pos trivial, el]
    · rename_i h95
      split at ht
      · rename_i h34
        split at ht
        · cases ht
        · rename_i l' j' hi
          cases ht
          unfold literal at hi
          split at hi
          · cases hi
          · rename_i p j'' hp
            simp only [R.ok.injEq] at hi
            obtain ⟨rfl, rfl⟩ := hi
            obtain ⟨hb, hor, hf⟩ := parts_back hp
            have h0 : bt (arr (form p.text p.lang p.kind)) 0 = 34 := by
              by_cases hh : bt (arr (form p.text p.lang p.kind)) 0 = 34
              · exact hh
              · rw [parts, quoted, if_pos hh] at hb
                cases hb
            refine ⟨?_, Or.inr (Or.inr rfl), fun _ => ⟨oneParts p, ?_, form_one p hor, hf⟩⟩
            · unfold term literal
              rw [if_neg (by rw [h0]; decide), if_neg (by rw [h0]; decide), if_pos h0, hb]
              simp only [whole]
              rw [if_pos (arr_sz _).symm, form_one p hor]
            · rw [hb]
              simp only [whole]
              rw [if_pos (arr_sz _).symm]
      · cases ht

end Back
end Go.Proofs.YtnffjoipinhojabGreatDoor

namespace Go.Proofs.YtnffjoipinhojabGreatDoor
namespace Back

def sampleL : List UInt8 := [60, 97, 58, 92, 117, 48, 48, 54, 50, 62]
theorem sample : whole (arr sampleL) (term (arr sampleL) 0) = .ok (1, [60, 97, 58, 98, 62]) 10 := by
  have b0 : bt (arr sampleL) 0 = 60 := rfl
  have b1 : letter (bt (arr sampleL) (0 + 1)) = true := rfl
  have b2 : bt (arr sampleL) (0 + 2) = 58 := rfl
  have b3 : bt (arr sampleL) (0 + 2 + 1) = 92 := rfl
  have b9 : bt (arr sampleL) 9 = 62 := rfl
  have ho : one (arr sampleL) (0 + 2 + 1) inIri inIri false = .ok 98 9 := by
    unfold one
    rw [if_pos b3]
    unfold esc
    rw [if_pos (show bt (arr sampleL) (0 + 2 + 1 + 1) = 117 from rfl)]
    have hh : hexs (arr sampleL) 4 (0 + 2 + 1 + 2) 0 = .ok 98 9 := by
      have v5 : hexv (bt (arr sampleL) (0 + 2 + 1 + 2)) = 0 := by decide
      have v6 : hexv (bt (arr sampleL) (0 + 2 + 1 + 2 + 1)) = 0 := by decide
      have v7 : hexv (bt (arr sampleL) (0 + 2 + 1 + 2 + 1 + 1)) = 6 := by decide
      have v8 : hexv (bt (arr sampleL) (0 + 2 + 1 + 2 + 1 + 1 + 1)) = 2 := by decide
      simp only [hexs, v5, v6, v7, v8]
      simp
    unfold num
    rw [hh]
    simp only
    rw [if_pos (by decide)]
  have hb9 : body (arr sampleL) 62 inIri inIri false 9 = .ok [] 10 := by rw [body, if_pos b9]
  have hb : body (arr sampleL) 62 inIri inIri false (0 + 2 + 1) = .ok [98] 10 := by
    rw [body, if_neg (by rw [b3]; decide)]
    split
    · rename_i j e
      rw [ho] at e
      cases e
    · rename_i c j e
      rw [ho] at e
      cases e
      rw [hb9, enc_low (by omega)]
      rfl
  have hi : iri (arr sampleL) 0 = .ok [60, 97, 58, 98, 62] 10 := by
    unfold iri
    rw [if_neg (by rw [b0]; decide), if_neg (by rw [b1]; decide), scheme, if_pos b2]
    simp only
    rw [hb]
    rfl
  unfold term
  rw [if_pos b0, hi]
  rfl

end Back
end Go.Proofs.YtnffjoipinhojabGreatDoor

namespace Go.Proofs.YtnffjoipinhojabGreatDoor
namespace Back

/-- right characters alone, from a place on -/
def vfrom (s : ByteArray) (i : Nat) : Bool :=
  if h : i < s.size then (if h2 : (chr s i).2 = 0 then false else vfrom s (i + (chr s i).2)) else true
termination_by s.size - i
decreasing_by omega

theorem vfrom_end {s : ByteArray} {i : Nat} (h : ¬ i < s.size) : vfrom s i = true := by rw [vfrom, dif_neg h]
theorem vfrom_bad {s : ByteArray} {i : Nat} (h : i < s.size) (h2 : (chr s i).2 = 0) : vfrom s i = false := by rw [vfrom, dif_pos h, dif_pos h2]
theorem vfrom_on {s : ByteArray} {i : Nat} (h : i < s.size) (h2 : (chr s i).2 ≠ 0) : vfrom s i = vfrom s (i + (chr s i).2) := by rw [vfrom, dif_pos h, dif_neg h2]

theorem drop_arr (s : ByteArray) (i : Nat) : arr (s.data.toList.drop i) = s.extract i s.size := by
  apply ByteArray.ext
  apply Array.ext'
  rw [ByteArray.data_extract]
  simp
  refine (List.take_of_length_le ?_).symm
  have hl : s.data.toList.length = s.size := Array.length_toList
  rw [List.length_drop, hl]
  exact Nat.le_refl _

theorem decodeL_drop (s : ByteArray) (i : Nat) (h : i ≤ s.size) : Lib.decodeL (s.data.toList.drop i) = Utf8.decode s i := by
  unfold Lib.decodeL
  rw [← decode_extract s i h, ← drop_arr]

theorem valid_go (s : ByteArray) : ∀ (n i : Nat), i ≤ s.size → s.size - i ≤ n → Lib.validGoD n (s.data.toList.drop i) = vfrom s i := by
  have hl : s.data.toList.length = s.size := Array.length_toList
  intro n
  induction n with
  | zero =>
    intro i h1 h2
    rw [vfrom_end (by omega)]
    rfl
  | succ n ih =>
    intro i h1 h2
    by_cases hi : i < s.size
    · have hne : s.data.toList.drop i ≠ [] := by
        intro e
        have := congrArg List.length e
        simp only [List.length_drop, List.length_nil] at this
        omega
      rw [Lib.validGoD, if_neg hne, decodeL_drop s i h1]
      by_cases hd : (Utf8.decode s i).1 = 65533 ∧ (Utf8.decode s i).2 = 1
      · have hc : chr s i = (65533, 0) := by
          unfold chr
          rw [if_pos hi, if_pos (Prod.ext hd.1 hd.2)]
        rw [if_pos hd, vfrom_bad hi (by rw [hc])]
      · have hc : chr s i = Utf8.decode s i := by
          unfold chr
          rw [if_pos hi, if_neg (fun e => hd ⟨congrArg Prod.fst e, congrArg Prod.snd e⟩)]
        rw [if_neg hd, List.drop_drop]
        by_cases hz : (chr s i).2 = 0
        · exfalso
          have := Lib.width_pos s i
          rw [← hc] at this
          omega
        · have hle := chr_le s i
          rw [vfrom_on hi hz, ← hc]
          exact ih _ (by omega) (by omega)
    · have hnil : s.data.toList.drop i = [] := List.drop_eq_nil_of_le (by omega)
      rw [hnil, vfrom_end hi, Lib.validGoD, if_pos rfl]

theorem valid_from (s : ByteArray) : Lib.validD s.data.toList = vfrom s 0 := by
  have := valid_go s s.size 0 (by omega) (by omega)
  rw [List.drop_zero] at this
  unfold Lib.validD
  rw [show s.data.toList.length = s.size from Array.length_toList]
  exact this

theorem valid_VU {l : List UInt8} (h : VU l) : ∀ pre : List UInt8, vfrom (arr (pre ++ l)) pre.length = true := by
  induction h with
  | nil => intro pre; exact vfrom_end (by rw [arr_sz, List.append_nil]; omega)
  | cons c l hv hl ih =>
    intro pre
    have hp := enc_pos c
    have hc := chr_enc pre l c hv
    rw [vfrom_on (by rw [arr_sz]; simp only [List.length_append]; omega) (by rw [hc]; simp only; omega), hc]
    have := ih (pre ++ Lib.encodeRune c)
    rw [List.length_append, List.append_assoc] at this
    exact this

end Back
end Go.Proofs.YtnffjoipinhojabGreatDoor

