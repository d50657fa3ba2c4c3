import Derived.Test.YtnffjoipinhojaaGreatDoorTb
import Derived.Test.YtnffjoipinhojaaGreatDoorSa
import Derived.Lib.ValidU
import Derived.Test.YtnffjoipinhojaaGreatDoorMd
set_option linter.unusedSimpArgs false
set_option linter.unusedVariables false
namespace Go.Proofs.YtnffjoipinhojaaGreatDoor
open Go.RowKit

/-- the kind of a term in its one form; 0: none -/
def kindOf (s : ByteArray) : Nat :=
  if 200 < s.size then 0 else match whole s (term s 0) with
    | .bad _ => 0
    | .ok p _ => if p.2 = s.data.toList then p.1 else 0

theorem eq_data {V s : ByteArray} {l : List UInt8} (h : V = ⟨l.toArray⟩) : V = s ↔ l = s.data.toList := by
  subst h
  constructor
  · rintro rfl; rfl
  · rintro rfl
    cases s with | mk d => rfl

theorem ne_toList {V s : ByteArray} (h : V ≠ s) : (V.toList == s.toList) = false := by
  rw [beq_eq_false_iff_ne, ByteArray.toList_eq, ByteArray.toList_eq]
  intro e
  apply h
  cases V with | mk d => cases s with | mk d' => exact congrArg ByteArray.mk (Array.toList_inj.1 e)

theorem term_kind {s : ByteArray} {i : Nat} {p : Nat × List UInt8} {j : Nat} (h : term s i = .ok p j) :
    (bt s i = 60 ∧ p.1 = 1) ∨ (bt s i = 95 ∧ p.1 = 2) ∨ (bt s i = 34 ∧ p.1 = 3) := by
  unfold term at h
  split at h
  · rename_i h0
    split at h
    · cases h
    · cases h; exact Or.inl ⟨h0, rfl⟩
  · split at h
    · rename_i h0
      split at h
      · cases h
      · cases h; exact Or.inr (Or.inl ⟨h0, rfl⟩)
    · split at h
      · rename_i h0
        split at h
        · cases h
        · cases h; exact Or.inr (Or.inr ⟨h0, rfl⟩)
      · cases h

theorem kindOf_read (s : ByteArray) : kindOf s = if (Ref.readT s).2.1 = 0 ∧ (Ref.readT s).1 = s.data.toList then (if bt s 0 = 60 then 1 else if bt s 0 = 95 then 2 else 3) else 0 := by
  have hl : s.data.toList.length = s.size := Array.length_toList
  have ew : whole s (Ref.lessK (term s 0)) = Ref.lessK (whole s (term s 0)) := by
    cases term s 0 with
    | bad j => rfl
    | ok p j => unfold whole Ref.lessK; simp only; split <;> rfl
  have hr0 : ¬ 20000 < s.size → Ref.readT s = match whole s (term s 0) with
      | .bad j => ([], 2, (j : Int))
      | .ok p j => if 200 < p.2.length then ([], 4, 0) else (p.2, 0, 0) := by
    intro h1
    unfold Ref.readT
    rw [if_neg h1, ew]
    cases whole s (term s 0) <;> rfl
  by_cases h1 : 20000 < s.size
  · have hr : Ref.readT s = ([], 1, 0) := by unfold Ref.readT; rw [if_pos h1]
    rw [hr]
    unfold kindOf
    rw [if_pos (by omega)]
    simp
  · have hr := hr0 h1
    clear hr0 ew
    cases hw : whole s (term s 0) with
    | bad j =>
      rw [hw] at hr
      simp only at hr
      rw [hr]
      unfold kindOf
      rw [hw]
      simp
    | ok p j =>
      rw [hw] at hr
      simp only at hr
      have ht : term s 0 = .ok p j := by
        unfold whole at hw
        split at hw
        · cases hw
        · split at hw
          · cases hw; assumption
          · cases hw
      have hk := term_kind ht
      by_cases h2 : 200 < p.2.length
      · rw [if_pos h2] at hr
        rw [hr]
        unfold kindOf
        rw [hw]
        simp only
        rw [if_neg (show ¬ ((4 : Int) = 0 ∧ ([] : List UInt8) = s.data.toList) by omega)]
        split
        · rfl
        · rw [if_neg (by intro e; rw [e, hl] at h2; omega)]
      · rw [if_neg h2] at hr
        rw [hr]
        unfold kindOf
        rw [hw]
        simp only [true_and]
        by_cases he : p.2 = s.data.toList
        · rw [if_pos he, if_neg (by rw [he, hl] at h2; omega), if_pos he]
          rcases hk with ⟨a, b⟩ | ⟨a, b⟩ | ⟨a, b⟩ <;> rw [a, b] <;> rfl
        · rw [if_neg he, if_neg he]
          split <;> rfl

theorem readT_first {s : ByteArray} (h0 : (Ref.readT s).2.1 = 0) : bt s 0 = 60 ∨ bt s 0 = 95 ∨ bt s 0 = 34 := by
  have ew : whole s (Ref.lessK (term s 0)) = Ref.lessK (whole s (term s 0)) := by
    cases term s 0 with
    | bad j => rfl
    | ok p j => unfold whole Ref.lessK; simp only; split <;> rfl
  unfold Ref.readT at h0
  split at h0
  · simp at h0
  · rw [ew] at h0
    cases hw : whole s (term s 0) with
    | bad j => rw [hw] at h0; simp [Ref.lessK] at h0
    | ok p j =>
      unfold whole at hw
      split at hw
      · cases hw
      · split at hw
        · have ht : term s 0 = .ok p j := by cases hw; assumption
          have := term_kind ht
          omega
        · cases hw

set_option maxHeartbeats 2000000 in
theorem kind_any (w : World) (s : ByteArray) (hT : Tabs w) (hG : 8 ≤ w.heap.size) :
    Calls Tryz.prog 13 #[.string s] w fun e w' => e = .returned (.int .i64 (kindOf s)) ∧ Below w.heap.size w w' := by
  by_cases h1 : 200 < s.size
  · have HR : Hid (kindOf s = 0) := by unfold Hid kindOf; rw [if_pos h1]
    rw [HR.out]
    clear hT
    go_enter Tryz.func13, Tryz.ntmps13
    go_wp2
    go_ret
    exact ⟨rfl, Below.refl _ _⟩
  · have HR0 : Hid (kindOf s = match whole s (term s 0) with
      | .bad _ => 0
      | .ok p _ => if p.2 = s.data.toList then p.1 else 0) := by unfold Hid kindOf; rw [if_neg h1]
    have hW := wholeTerm w s hT hG (by omega)
    clear hT
    cases hw : whole s (term s 0) with
    | bad j =>
      rw [hw] at hW HR0
      have HR : Hid (kindOf s = 0) := HR0.out
      have HW : Hid (Calls Tryz.prog 33 #[.string s, fnV 34 #[]] w fun e w' => e = .returned (.tuple #[.agg termZ, placedV 2 j]) ∧ Below w.heap.size w w') := hW
      clear hW hw HR0
      rw [HR.out]
      go_enter Tryz.func13, Tryz.ntmps13
      go_wp2_with fail
      refine HW.out.mono ?_
      rintro e w2 ⟨rfl, hb2⟩
      have HB2 : Hid (Below w.heap.size w w2) := hb2
      clear hb2
      go_wp2_with fail
      go_ret
      exact ⟨rfl, HB2.out.alloc HB2.out.size _⟩
    | ok p j =>
      rw [hw] at hW HR0
      have hR0 : kindOf s = if p.2 = s.data.toList then p.1 else 0 := HR0.out
      obtain ⟨V, hV⟩ : ∃ V : ByteArray, V = ⟨p.2.toArray⟩ := ⟨_, rfl⟩
      obtain ⟨k, hk⟩ : ∃ k : Nat, k = p.1 := ⟨_, rfl⟩
      have he := eq_data (s := s) hV
      have HW : Hid (Calls Tryz.prog 33 #[.string s, fnV 34 #[]] w fun e w' => e = .returned (.tuple #[.agg #[.int .i64 k, .string V], .nilIface]) ∧ Below w.heap.size w w') := by unfold Hid; rw [hV, hk]; exact hW
      by_cases hq : V = s
      · have HR : Hid (kindOf s = k) := by unfold Hid; rw [hR0, if_pos (he.1 hq), hk]
        rw [HR.out]
        clear hW hw HR0 hV he hR0 hk
        subst hq
        go_enter Tryz.func13, Tryz.ntmps13
        go_wp2_with fail
        refine HW.out.mono ?_
        rintro e w2 ⟨rfl, hb2⟩
        have HB2 : Hid (Below w.heap.size w w2) := hb2
        clear hb2
        go_wp2_with fail
        go_ret
        exact ⟨rfl, HB2.out.alloc HB2.out.size _⟩
      · have HR : Hid (kindOf s = 0) := by unfold Hid; rw [hR0, if_neg (fun x => hq (he.2 x))]
        rw [HR.out]
        have hqb := ne_toList hq
        clear hW hw HR0 hV he hR0 hk
        go_enter Tryz.func13, Tryz.ntmps13
        go_wp2_with fail
        refine HW.out.mono ?_
        rintro e w2 ⟨rfl, hb2⟩
        have HB2 : Hid (Below w.heap.size w w2) := hb2
        clear hb2
        go_wp2_with fail
        go_ret
        exact ⟨rfl, HB2.out.alloc HB2.out.size _⟩

set_option maxHeartbeats 2000000 in
theorem Ref.kind_any (w : World) (s : ByteArray) :
    Calls Tryz.prog 16 #[.string s] w fun e w' => e = .returned (.int .i64 (kindOf s)) ∧ Below w.heap.size w w' := by
  have HR0 : Hid (kindOf s = if (Ref.readT s).2.1 = 0 ∧ (Ref.readT s).1 = s.data.toList then (if bt s 0 = 60 then 1 else if bt s 0 = 95 then 2 else 3) else 0) := kindOf_read s
  have hf := readT_first (s := s)
  have HB := Ref.read_any w s
  have hn := readT_num s
  generalize (Ref.readT s) = r at HB HR0 hf hn
  obtain ⟨l, n, a⟩ := r
  simp only at HR0 hf hn HB
  obtain ⟨V, hV⟩ : ∃ V : ByteArray, V = ⟨l.toArray⟩ := ⟨_, rfl⟩
  have he := eq_data (s := s) hV
  have H1 : Hid (Calls Tryz.prog 11 #[.string s] w fun e w' => e = .returned (.tuple #[.string V, .int .i64 n, .int .i64 a]) ∧ Below w.heap.size w w') := by unfold Hid; rw [hV]; exact HB
  clear HB
  by_cases h0 : n = 0
  · by_cases hq : V = s
    · have hb := hf h0
      have hlt : 0 < s.size := by
        rcases hb with x | x | x <;> exact bt_in x (by omega)
      have hbt := bt_lt hlt
      have HR : Hid (kindOf s = if bt s 0 = 60 then 1 else if bt s 0 = 95 then 2 else 3) := by unfold Hid; rw [HR0.out, if_pos ⟨h0, he.1 hq⟩]
      clear HR0 hf hn hV he
      subst hq
      subst h0
      rw [HR.out]
      rcases hb with x | x | x
      · rw [x, if_pos rfl]
        have hx : (V[0].toNat : Int) = 60 := by rw [← hbt]; exact x
        clear hbt x HR
        go_enter Tryz.func16, Tryz.ntmps16
        go_wp2_with fail
        refine H1.out.mono ?_
        rintro e w2 ⟨rfl, hb2⟩
        go_wp2_with fail
        go_ret
        exact ⟨rfl, hb2⟩
      · rw [x, if_neg (by omega), if_pos rfl]
        have hx : (V[0].toNat : Int) = 95 := by rw [← hbt]; exact x
        clear hbt x HR
        go_enter Tryz.func16, Tryz.ntmps16
        go_wp2_with fail
        refine H1.out.mono ?_
        rintro e w2 ⟨rfl, hb2⟩
        go_wp2_with fail
        go_ret
        exact ⟨rfl, hb2⟩
      · rw [x, if_neg (by omega), if_neg (by omega)]
        have hx : (V[0].toNat : Int) = 34 := by rw [← hbt]; exact x
        clear hbt x HR
        go_enter Tryz.func16, Tryz.ntmps16
        go_wp2_with fail
        refine H1.out.mono ?_
        rintro e w2 ⟨rfl, hb2⟩
        go_wp2_with fail
        go_ret
        exact ⟨rfl, hb2⟩
    · have HR : Hid (kindOf s = 0) := by unfold Hid; rw [HR0.out, if_neg (fun x => hq (he.2 x.2))]
      have hqb := ne_toList hq
      rw [HR.out]
      clear HR0 hf hn hV he
      subst h0
      go_enter Tryz.func16, Tryz.ntmps16
      go_wp2_with fail
      refine H1.out.mono ?_
      rintro e w2 ⟨rfl, hb2⟩
      go_wp2_with fail
      go_ret
      exact ⟨rfl, hb2⟩
  · have HR : Hid (kindOf s = 0) := by unfold Hid; rw [HR0.out, if_neg (fun x => h0 x.1)]
    rw [HR.out]
    clear HR0 hf hn hV he
    go_enter Tryz.func16, Tryz.ntmps16
    go_wp2_with fail
    refine H1.out.mono ?_
    rintro e w2 ⟨rfl, hb2⟩
    go_wp2_with fail
    go_ret
    exact ⟨rfl, hb2⟩

end Go.Proofs.YtnffjoipinhojaaGreatDoor

namespace Go.Proofs.YtnffjoipinhojaaGreatDoor
namespace Back

/-- a list as the bytes of a text -/
abbrev arr (l : List UInt8) : ByteArray := ⟨l.toArray⟩

theorem arr_sz (l : List UInt8) : (arr l).size = l.length := by
  show l.toArray.size = _
  simp

theorem arr_data (s : ByteArray) : arr s.data.toList = s := by
  cases s with | mk d => rfl

theorem bt_arr {l : List UInt8} {i : Nat} {x : UInt8} (h : l[i]? = some x) : bt (arr l) i = (x.toNat : Int) := by
  have hl : i < l.length := (List.getElem?_eq_some_iff.1 h).1
  have hx : l[i] = x := (List.getElem?_eq_some_iff.1 h).2
  rw [bt_lt (by rw [arr_sz]; exact hl)]
  show ((l.toArray[i]'(by simpa using hl)).toNat : Int) = _
  simp [hx]

theorem bt_arr_none {l : List UInt8} {i : Nat} (h : l.length ≤ i) : bt (arr l) i = 256 := bt_end (by rw [arr_sz]; exact h)

theorem bt_get {s : ByteArray} {i : Nat} {x : UInt8} (h : s.data.toList[i]? = some x) : bt s i = (x.toNat : Int) := by
  have := bt_arr h
  rwa [arr_data] at this

theorem bt_at (pre l : List UInt8) (x : UInt8) : bt (arr (pre ++ x :: l)) pre.length = (x.toNat : Int) :=
  bt_arr (by rw [List.getElem?_append_right (Nat.le_refl _), Nat.sub_self]; rfl)

theorem bt_at1 (pre l : List UInt8) (x y : UInt8) : bt (arr (pre ++ x :: y :: l)) (pre.length + 1) = (y.toNat : Int) :=
  bt_arr (by rw [List.getElem?_append_right (by omega), Nat.add_sub_cancel_left]; rfl)

theorem chr_enc (pre post : List UInt8) (c : Nat) (hv : Lib.validRune c = true) :
    chr (arr (pre ++ (Lib.encodeRune c ++ post))) pre.length = (c, (Lib.encodeRune c).length) := by
  unfold chr
  have h1 := enc_pos c
  rw [if_pos (by rw [arr_sz]; simp; omega), dec_enc pre post c hv]
  rw [if_neg]
  intro e
  simp only [Prod.mk.injEq] at e
  obtain ⟨rfl, e2⟩ := e
  revert e2
  decide

theorem enc_head (c : Nat) : ∃ x l, Lib.encodeRune c = x :: l ∧ ((c ≤ 127 ∧ x.toNat = c ∧ l = []) ∨ (128 ≤ c ∧ 128 ≤ x.toNat)) := by
  by_cases h : c ≤ 127
  · refine ⟨UInt8.ofNat c, [], enc_low h, Or.inl ⟨h, ?_, rfl⟩⟩
    simp
    omega
  · cases e : Lib.encodeRune c with
    | nil => have := enc_pos c; rw [e] at this; simp at this
    | cons x l => exact ⟨x, l, rfl, Or.inr ⟨by omega, enc_high (c := c) (by omega) x (by rw [e]; simp)⟩⟩

/-- Right characters of a set alone. -/
inductive VP (p : Int → Bool) : List UInt8 → Prop
  | nil : VP p []
  | cons (c : Nat) (l : List UInt8) : Lib.validRune c = true → p c = true → VP p l → VP p (Lib.encodeRune c ++ l)

theorem num_has {s : ByteArray} {i j k : Nat} {has : Int → Bool} {c m : Nat} (h : num s i j k has = .ok c m) : has c = true := by
  unfold num at h
  split at h
  · cases h
  · split at h
    · rename_i hh
      rw [Bool.and_eq_true] at hh
      cases h
      exact hh.2
    · cases h

theorem one_has {s : ByteArray} {i : Nat} {has : Int → Bool} {c m : Nat} (h : one s i has has false = .ok c m) : has c = true := by
  unfold one at h
  split at h
  · unfold esc at h
    split at h
    · exact num_has h
    · split at h
      · exact num_has h
      · simp at h
  · split at h
    · rename_i hh
      cases h
      exact hh.2
    · cases h

theorem body_VP (s : ByteArray) (q : Int) (has : Int → Bool) : ∀ (n i : Nat), s.size - i < n → ∀ l j, body s q has has false i = .ok l j → VP has l := by
  intro n
  induction n with
  | zero => intro i h; omega
  | succ n ih =>
    intro i hn l j h
    rw [body] at h
    split at h
    · cases h
      exact .nil
    · split at h
      · cases h
      · rename_i c k ho
        cases hb : body s q has has false k with
        | bad j' => rw [hb] at h; cases h
        | ok m j' =>
          rw [hb] at h
          cases h
          have hlt := one_lt ho
          exact .cons c m (one_valid ho) (one_has ho) (ih k (by omega) m _ hb)

/-- what stands in an iri's one form is read as it is -/
theorem body_back {l : List UInt8} (h : VP inIri l) : ∀ (pre post : List UInt8), body (arr (pre ++ (l ++ 62 :: post))) 62 inIri inIri false pre.length = .ok l (pre.length + l.length + 1) := by
  induction h with
  | nil =>
    intro pre post
    rw [body, if_pos (by rw [List.nil_append, bt_at]; rfl)]
    rfl
  | cons c l hv hp hl ih =>
    intro pre post
    obtain ⟨x, t, ex, hx⟩ := enc_head c
    have hb : bt (arr (pre ++ (Lib.encodeRune c ++ l ++ 62 :: post))) pre.length = (x.toNat : Int) := by
      rw [ex]
      exact bt_at pre _ x
    have hc : (x.toNat : Int) ≠ 62 ∧ (x.toNat : Int) ≠ 92 := by
      rcases hx with ⟨_, h2, _⟩ | ⟨_, h2⟩
      · simp [inIri, badIri, control] at hp
        omega
      · omega
    have hk := chr_enc pre (l ++ 62 :: post) c hv
    have ho : one (arr (pre ++ (Lib.encodeRune c ++ l ++ 62 :: post))) pre.length inIri inIri false = .ok c (pre.length + (Lib.encodeRune c).length) := by
      unfold one
      rw [if_neg (by rw [hb]; exact hc.2), List.append_assoc (Lib.encodeRune c), hk]
      have := enc_pos c
      rw [if_pos ⟨by simp only; omega, hp⟩]
    have hi := ih (pre ++ Lib.encodeRune c) post
    rw [List.length_append, List.append_assoc pre] at hi
    rw [body, if_neg (by rw [hb]; exact hc.1)]
    split
    · rename_i j e
      rw [ho] at e
      cases e
    · rename_i c' j e
      rw [ho] at e
      cases e
      rw [List.append_assoc (Lib.encodeRune c), hi]
      exact congrArg (R.ok _) (by simp only [List.length_append]; omega)

theorem esc_short (pre post : List UInt8) (x : UInt8) (c : Nat) (h1 : x.toNat ≠ 117) (h2 : x.toNat ≠ 85) (h3 : shortOf (x.toNat : Int) = some c) :
    one (arr (pre ++ 92 :: x :: post)) pre.length plainQ allc true = .ok c (pre.length + 2) := by
  unfold one
  rw [if_pos (by rw [bt_at]; rfl)]
  unfold esc
  rw [bt_at1, if_neg (by omega), if_neg (by omega), if_pos rfl, h3]

/-- what a string's one form says is what it was -/
theorem quoted_back {l : List UInt8} (h : VU l) : ∀ (pre post : List UInt8), body (arr (pre ++ (escaped l ++ 34 :: post))) 34 plainQ allc true pre.length = .ok l (pre.length + (escaped l).length + 1) := by
  induction h with
  | nil =>
    intro pre post
    rw [body, if_pos (by simp only [escaped, List.nil_append]; rw [bt_at]; rfl)]
    rfl
  | cons c l hv hl ih =>
    intro pre post
    rw [escaped_append]
    have key : ∀ (m : List UInt8) (x : UInt8) (t : List UInt8), escaped (Lib.encodeRune c) = m → m = x :: t → (x.toNat : Int) ≠ 34 →
        one (arr (pre ++ (m ++ (escaped l ++ 34 :: post)))) pre.length plainQ allc true = .ok c (pre.length + m.length) →
        body (arr (pre ++ (escaped (Lib.encodeRune c) ++ escaped l ++ 34 :: post))) 34 plainQ allc true pre.length = .ok (Lib.encodeRune c ++ l) (pre.length + (escaped (Lib.encodeRune c) ++ escaped l).length + 1) := by
      intro m x t em hm hx ho
      rw [em, List.append_assoc m]
      have hi := ih (pre ++ m) post
      rw [List.length_append, List.append_assoc pre] at hi
      rw [body, if_neg (by rw [hm, List.cons_append, bt_at]; exact hx)]
      split
      · rename_i j e
        rw [ho] at e
        cases e
      · rename_i c' j e
        rw [ho] at e
        cases e
        rw [hi]
        exact congrArg (R.ok _) (by simp only [List.length_append]; omega)
    by_cases h92 : c = 92
    · subst h92
      exact key [92, 92] 92 [92] (by decide) rfl (by decide) (esc_short pre _ 92 92 (by decide) (by decide) (by decide))
    · by_cases h34 : c = 34
      · subst h34
        exact key [92, 34] 92 [34] (by decide) rfl (by decide) (esc_short pre _ 34 34 (by decide) (by decide) (by decide))
      · by_cases h10 : c = 10
        · subst h10
          exact key [92, 110] 92 [110] (by decide) rfl (by decide) (esc_short pre _ 110 10 (by decide) (by decide) (by decide))
        · by_cases h13 : c = 13
          · subst h13
            exact key [92, 114] 92 [114] (by decide) rfl (by decide) (esc_short pre _ 114 13 (by decide) (by decide) (by decide))
          · obtain ⟨x, t, ex, hx⟩ := enc_head c
            have hne : (x.toNat : Int) ≠ 34 ∧ (x.toNat : Int) ≠ 92 := by
              rcases hx with ⟨_, h2, _⟩ | ⟨_, h2⟩
              · omega
              · omega
            refine key (Lib.encodeRune c) x t (escaped_other h92 h34 h10 h13) ex hne.1 ?_
            unfold one
            have hb : bt (arr (pre ++ (Lib.encodeRune c ++ (escaped l ++ 34 :: post)))) pre.length = (x.toNat : Int) := by
              rw [ex]
              exact bt_at pre _ x
            rw [if_neg (by rw [hb]; exact hne.2), chr_enc pre _ c hv]
            have := enc_pos c
            rw [if_pos ⟨by simp only; omega, by simp [plainQ]; omega⟩]

theorem scheme_shift (s s' : ByteArray) : ∀ (n i i' j : Nat), s.size - i < n → scheme s i = .ok () j → (∀ k, i + k < j → bt s' (i' + k) = bt s (i + k)) → scheme s' i' = .ok () (i' + (j - i)) := by
  intro n
  induction n with
  | zero => intro i i' j h; omega
  | succ n ih =>
    intro i i' j hn h hk
    have hlt := scheme_lt s (s.size - i + 1) i (by omega) j h
    have h0 := hk 0 (by omega)
    simp only [Nat.add_zero] at h0
    rw [scheme] at h ⊢
    rw [h0]
    split at h
    · rename_i hc
      cases h
      rw [if_pos hc]
      exact congrArg (R.ok _) (by omega)
    · rename_i hc
      rw [if_neg hc]
      split at h
      · rename_i hs
        rw [dif_pos hs]
        have hl2 := scheme_lt s (s.size - (i + 1) + 1) (i + 1) (by omega) j h
        rw [ih (i + 1) (i' + 1) j (by omega) h (fun k hk' => by have := hk (k + 1) (by omega); rw [show i' + 1 + k = i' + (k + 1) by omega, show i + 1 + k = i + (k + 1) by omega]; exact this)]
        exact congrArg (R.ok _) (by omega)
      · cases h

theorem sub_get {s : ByteArray} {i j n : Nat} (h : i + n < j) (hj : j ≤ s.size) : ∃ x, (sub s i j)[n]? = some x ∧ bt s (i + n) = (x.toNat : Int) := by
  have hl : i + n < s.data.toList.length := by
    have : s.data.toList.length = s.size := Array.length_toList
    omega
  refine ⟨s.data.toList[i + n], ?_, bt_get (List.getElem?_eq_getElem hl)⟩
  unfold sub
  rw [List.getElem?_take_of_lt (by omega), List.getElem?_drop]
  exact List.getElem?_eq_getElem hl

theorem sub_len {s : ByteArray} {i j : Nat} (h : i ≤ j) (hj : j ≤ s.size) : (sub s i j).length = j - i := by
  have : s.data.toList.length = s.size := Array.length_toList
  unfold sub
  rw [List.length_take, List.length_drop]
  omega

theorem sub_pre (pre a post : List UInt8) : sub (arr (pre ++ (a ++ post))) pre.length (pre.length + a.length) = a := by
  unfold sub
  rw [List.drop_left, Nat.add_sub_cancel_left, List.take_left]

/-- an iri's one form is read as itself -/
theorem iri_back {s : ByteArray} {i : Nat} {l : List UInt8} {j : Nat} (h : iri s i = .ok l j) (pre post : List UInt8) :
    iri (arr (pre ++ (l ++ post))) pre.length = .ok l (pre.length + l.length) := by
  unfold iri at h
  split at h
  · cases h
  · rename_i h60
    split at h
    · cases h
    · rename_i hlet
      split at h
      · cases h
      · rename_i j' hs
        split at h
        · cases h
        · rename_i m k hb
          cases h
          have hlt := scheme_lt s (s.size - (i + 2) + 1) (i + 2) (by omega) j' hs
          have hsl := sub_len (s := s) (i := i) (j := j') (by omega) hlt.2
          have hat : ∀ n, i + n < j' → bt (arr (pre ++ (sub s i j' ++ m ++ [62] ++ post))) (pre.length + n) = bt s (i + n) := by
            intro n hn
            obtain ⟨x, hx, hbx⟩ := sub_get hn hlt.2
            rw [hbx]
            apply bt_arr
            rw [List.getElem?_append_right (by omega), Nat.add_sub_cancel_left, List.append_assoc, List.append_assoc, List.getElem?_append_left (by omega)]
            exact hx
          have h0 := hat 0 (by omega)
          have h1 := hat 1 (by omega)
          simp only [Nat.add_zero] at h0
          have hsc := scheme_shift s (arr (pre ++ (sub s i j' ++ m ++ [62] ++ post))) (s.size - (i + 2) + 1) (i + 2) (pre.length + 2) j' (by omega) hs (fun k hk => by
            have := hat (k + 2) (by omega)
            rw [show pre.length + 2 + k = pre.length + (k + 2) by omega, show i + 2 + k = i + (k + 2) by omega]
            exact this)
          have hbb := body_back (body_VP s 62 inIri _ _ (Nat.lt_succ_self _) m _ hb) (pre ++ sub s i j') post
          rw [List.length_append, hsl] at hbb
          unfold iri
          rw [h0, if_neg h60, h1, if_neg hlet, hsc]
          have e1 : pre.length + 2 + (j' - (i + 2)) = pre.length + (j' - i) := by omega
          have e2 : pre ++ (sub s i j' ++ m ++ [62] ++ post) = pre ++ sub s i j' ++ (m ++ 62 :: post) := by simp [List.append_assoc]
          have e3 : sub (arr (pre ++ (sub s i j' ++ m ++ [62] ++ post))) pre.length (pre.length + (j' - i)) = sub s i j' := by
            have := sub_pre pre (sub s i j') (m ++ ([62] ++ post))
            rw [hsl] at this
            rw [List.append_assoc (sub s i j' ++ m), List.append_assoc (sub s i j')]
            exact this
          simp only [e1]
          rw [e3, e2, hbb]
          exact congrArg (R.ok _) (by simp only [List.length_append, hsl, List.length_cons, List.length_nil]; omega)

end Back
end Go.Proofs.YtnffjoipinhojaaGreatDoor

namespace Go.Proofs.YtnffjoipinhojaaGreatDoor
namespace Back

def lowI (c : Int) : Int := if 65 ≤ c ∧ c ≤ 90 then c + 32 else c
theorem letter_low (c : Int) : letter (lowI c) = letter c := by
  unfold lowI letter
  rw [Bool.eq_iff_iff, decide_eq_true_iff, decide_eq_true_iff]
  split <;> omega
theorem digit_low (c : Int) : digit (lowI c) = digit c := by
  unfold lowI digit
  rw [Bool.eq_iff_iff, decide_eq_true_iff, decide_eq_true_iff]
  split <;> omega
theorem alnum_low (c : Int) : alnum (lowI c) = alnum c := by unfold alnum; rw [letter_low, digit_low]
theorem dash_low (c : Int) : lowI c = 45 ↔ c = 45 := by unfold lowI; split <;> omega
theorem lowB_all : ∀ n < 256, ((Lib.lowerB (UInt8.ofNat n)).toNat : Int) = lowI ((UInt8.ofNat n).toNat : Int) ∧ Lib.lowerB (Lib.lowerB (UInt8.ofNat n)) = Lib.lowerB (UInt8.ofNat n) := by decide +kernel
theorem lowB_low (b : UInt8) : ((Lib.lowerB b).toNat : Int) = lowI (b.toNat : Int) := by
  have := (lowB_all b.toNat b.toNat_lt).1
  rwa [UInt8.ofNat_toNat] at this
theorem lowB_idem (b : UInt8) : Lib.lowerB (Lib.lowerB b) = Lib.lowerB b := by
  have := (lowB_all b.toNat b.toNat_lt).2
  rwa [UInt8.ofNat_toNat] at this
theorem toLower_idem (l : List UInt8) : Lib.toLowerA (Lib.toLowerA l) = Lib.toLowerA l := by
  unfold Lib.toLowerA
  rw [List.map_map]
  exact List.map_congr_left fun b _ => lowB_idem b
theorem toLower_len (l : List UInt8) : (Lib.toLowerA l).length = l.length := by unfold Lib.toLowerA; simp

theorem run_shift (p : Int → Bool) (hp : ∀ c, p (lowI c) = p c) (s s' : ByteArray) : ∀ (k i i' : Nat), (∀ n, bt s' (i' + n) = lowI (bt s (i + n))) → run p s' k i' = run p s k i := by
  intro k
  induction k with
  | zero => intro i i' _; rfl
  | succ k ih =>
    intro i i' h
    have h0 := h 0
    simp only [Nat.add_zero] at h0
    simp only [run]
    rw [h0, hp, ih (i + 1) (i' + 1) (fun n => by have := h (n + 1); rw [show i' + 1 + n = i' + (n + 1) by omega, show i + 1 + n = i + (n + 1) by omega]; exact this)]

theorem langTail_shift (s s' : ByteArray) : ∀ (n i i' k : Nat), s.size - i < n → (∀ n, bt s' (i' + n) = lowI (bt s (i + n))) → langTail s i = .ok () k → i ≤ k ∧ langTail s' i' = .ok () (i' + (k - i)) := by
  intro n
  induction n with
  | zero => intro i i' k h; omega
  | succ n ih =>
    intro i i' k hn h hl
    have h0 := h 0
    simp only [Nat.add_zero] at h0
    rw [langTail] at hl ⊢
    split at hl
    · rename_i hd
      have hin := bt_in hd (by omega)
      rw [dif_pos (by rw [h0, dash_low]; exact hd)]
      have h1 : ∀ n, bt s' (i' + 1 + n) = lowI (bt s (i + 1 + n)) := fun n => by have := h (n + 1); rw [show i' + 1 + n = i' + (n + 1) by omega, show i + 1 + n = i + (n + 1) by omega]; exact this
      rw [run_shift alnum alnum_low s s' 8 (i + 1) (i' + 1) h1]
      split at hl
      · cases hl
      · rename_i hr
        rw [if_neg hr]
        obtain ⟨a, b⟩ := ih (i + 1 + run alnum s 8 (i + 1)) (i' + 1 + run alnum s 8 (i + 1)) k (by omega) (fun n => by
          have := h1 (run alnum s 8 (i + 1) + n)
          rw [← Nat.add_assoc, ← Nat.add_assoc] at this
          exact this) hl
        refine ⟨by omega, ?_⟩
        rw [b]
        exact congrArg (R.ok _) (by omega)
    · rename_i hd
      rw [dif_neg (by rw [h0, dash_low]; exact hd)]
      cases hl
      exact ⟨Nat.le_refl _, congrArg (R.ok _) (by omega)⟩

theorem language_shift {s s' : ByteArray} {i i' k : Nat} (h : ∀ n, bt s' (i' + n) = lowI (bt s (i + n))) (hl : language s i = .ok () k) : i < k ∧ language s' i' = .ok () (i' + (k - i)) := by
  unfold language at hl ⊢
  rw [run_shift letter letter_low s s' 8 i i' h]
  split at hl
  · cases hl
  · rename_i hr
    rw [if_neg hr]
    obtain ⟨a, b⟩ := langTail_shift s s' (s.size - (i + run letter s 8 i) + 1) (i + run letter s 8 i) (i' + run letter s 8 i) k (by omega) (fun n => by
      have := h (run letter s 8 i + n)
      rw [← Nat.add_assoc, ← Nat.add_assoc] at this
      exact this) hl
    refine ⟨by omega, ?_⟩
    rw [b]
    exact congrArg (R.ok _) (by omega)

theorem low_at {s : ByteArray} {i : Nat} (pre : List UInt8) (hi : i ≤ s.size) (n : Nat) : bt (arr (pre ++ Lib.toLowerA (sub s i s.size))) (pre.length + n) = lowI (bt s (i + n)) := by
  by_cases hn : i + n < s.size
  · obtain ⟨x, hx, hb⟩ := sub_get (s := s) (i := i) (j := s.size) hn (Nat.le_refl _)
    rw [hb, ← lowB_low]
    apply bt_arr
    rw [List.getElem?_append_right (by omega), Nat.add_sub_cancel_left]
    unfold Lib.toLowerA
    rw [List.getElem?_map, hx]
    rfl
  · rw [bt_end (s := s) (by omega), bt_arr_none (by rw [List.length_append, toLower_len, sub_len hi (Nat.le_refl _)]; omega)]
    rfl

theorem language_back {s : ByteArray} {i : Nat} (pre : List UInt8) (hi : i ≤ s.size) (h : language s i = .ok () s.size) :
    i < s.size ∧ language (arr (pre ++ Lib.toLowerA (sub s i s.size))) pre.length = .ok () (pre.length + (Lib.toLowerA (sub s i s.size)).length) := by
  obtain ⟨a, b⟩ := language_shift (low_at pre hi) h
  refine ⟨a, ?_⟩
  rw [b, toLower_len, sub_len hi (Nat.le_refl _)]

/-- the parts that a literal's one form has -/
def oneParts (p : Lit) : Lit := ⟨p.text, Lib.toLowerA p.lang, if p.kind = stringKind then [] else p.kind⟩

/-- parts that a literal may have, in their one form -/
structure Fit (p : Lit) : Prop where
  text : VU p.text
  lang : p.lang = [] ∨ (p.kind = [] ∧ language (arr p.lang) 0 = .ok () p.lang.length)
  low : Lib.toLowerA p.lang = p.lang
  kind : p.kind = [] ∨ (p.lang = [] ∧ iri (arr p.kind) 0 = .ok p.kind p.kind.length)
  plain : p.kind ≠ stringKind

theorem toLower_nil {l : List UInt8} (h : Lib.toLowerA l = []) : l = [] := by
  have := toLower_len l
  rw [h] at this
  exact List.length_eq_zero_iff.1 this.symm

theorem form_one (p : Lit) (h : p.lang = [] ∨ p.kind = []) : form (oneParts p).text (oneParts p).lang (oneParts p).kind = form p.text p.lang p.kind := by
  unfold form oneParts
  simp only
  by_cases hl : p.lang = []
  · rw [hl]
    by_cases hk : p.kind = stringKind
    · simp [hk, Lib.toLowerA]
    · simp [hk, Lib.toLowerA]
  · rw [if_pos (fun e => hl (toLower_nil e)), if_pos hl, toLower_idem]

theorem quoted_one {t : List UInt8} (h : VU t) (post : List UInt8) : quoted (arr ([34] ++ (escaped t ++ 34 :: post))) 0 = .ok t (1 + (escaped t).length + 1) := by
  unfold quoted
  rw [if_neg (by rw [show ([34] ++ (escaped t ++ 34 :: post) : List UInt8) = [] ++ 34 :: (escaped t ++ 34 :: post) from rfl]; have := bt_at [] (escaped t ++ 34 :: post) 34; simp only [List.length_nil] at this; rw [this]; decide)]
  exact quoted_back h [34] post

theorem after_quoted (t post : List UInt8) (n : Nat) (x : UInt8) (h : post[n]? = some x) : bt (arr ([34] ++ (escaped t ++ 34 :: post))) (1 + (escaped t).length + 1 + n) = (x.toNat : Int) := by
  apply bt_arr
  rw [List.getElem?_append_right (by simp; omega), List.getElem?_append_right (by simp; omega)]
  rw [show 1 + (escaped t).length + 1 + n - [(34 : UInt8)].length - (escaped t).length = n + 1 by simp; omega, List.getElem?_cons_succ]
  exact h

theorem parts_back {s : ByteArray} {p : Lit} (h : parts s 0 = .ok p s.size) :
    parts (arr (form p.text p.lang p.kind)) 0 = .ok (oneParts p) (form p.text p.lang p.kind).length ∧ (p.lang = [] ∨ p.kind = []) ∧ Fit (oneParts p) := by
  unfold parts at h
  split at h
  · cases h
  · rename_i t j hq
    have hv := quoted_valid hq
    split at h
    · rename_i h64
      have hin := bt_in h64 (by omega)
      split at h
      · cases h
      · rename_i k hl
        cases h
        have hb0 := language_back [] (by omega) hl
        obtain ⟨hlt, hb⟩ := language_back ([34] ++ (escaped t ++ [34, 64])) (by omega) hl
        have hsl := sub_len (s := s) (i := j + 1) (j := s.size) (by omega) (Nat.le_refl _)
        have hne : sub s (j + 1) s.size ≠ [] := by intro e; rw [e] at hsl; simp at hsl; omega
        generalize sub s (j + 1) s.size = L at *
        have ef : form t L [] = [34] ++ (escaped t ++ 34 :: 64 :: Lib.toLowerA L) := by
          unfold form
          rw [if_pos hne]
          simp [List.append_assoc]
        refine ⟨?_, Or.inr rfl, ⟨hv.1, Or.inr ⟨by simp [oneParts, stringKind], ?_⟩, toLower_idem _, Or.inl (by simp [oneParts, stringKind]), by simp [oneParts, stringKind]⟩⟩
        · simp only
          rw [ef]
          unfold parts
          rw [quoted_one hv.1]
          simp only
          rw [if_pos (by have := after_quoted t (64 :: Lib.toLowerA L) 0 64 rfl; simp only [Nat.add_zero] at this; rw [this]; rfl)]
          have e1 : ([34] ++ (escaped t ++ 34 :: 64 :: Lib.toLowerA L) : List UInt8) = [34] ++ (escaped t ++ [34, 64]) ++ Lib.toLowerA L := by simp [List.append_assoc]
          have e2 : ([34] ++ (escaped t ++ [34, 64]) : List UInt8).length = 1 + (escaped t).length + 1 + 1 := by simp; omega
          have e3 := sub_pre ([34] ++ (escaped t ++ [34, 64])) (Lib.toLowerA L) []
          rw [List.append_nil] at e3
          rw [e2] at hb e3
          rw [e1, hb]
          simp only
          rw [e3, List.length_append, e2]
          rfl
        · simpa [oneParts] using hb0.2
    · split at h
      · rename_i h64 h94
        split at h
        · cases h
        · rename_i h95
          split at h
          · cases h
          · rename_i m k hi
            cases h
            have hm := (iri_len hi).2.2.2
            by_cases hk : m = stringKind
            · have ef : form t [] m = [34] ++ (escaped t ++ 34 :: []) := by
                unfold form
                rw [if_neg (by simp), if_neg (by rw [hk]; simp)]
                simp [List.append_assoc]
              refine ⟨?_, Or.inl rfl, ⟨hv.1, Or.inl rfl, rfl, Or.inl (by simp [oneParts, hk]), by simp [oneParts, hk, stringKind]⟩⟩
              simp only
              rw [ef]
              unfold parts
              rw [quoted_one hv.1]
              simp only
              have hend : bt (arr ([34] ++ (escaped t ++ 34 :: []))) (1 + (escaped t).length + 1) = 256 := bt_arr_none (by simp; omega)
              rw [hend, if_neg (by omega), if_neg (by omega)]
              simp [oneParts, hk, Lib.toLowerA]
              omega
            · have ef : form t [] m = [34] ++ (escaped t ++ 34 :: 94 :: 94 :: m) := by
                unfold form
                rw [if_neg (by simp), if_pos ⟨hm, hk⟩]
                simp [List.append_assoc]
              have hb0 := iri_back hi [] []
              have hb := iri_back hi ([34] ++ (escaped t ++ [34, 94, 94])) []
              rw [List.append_nil] at hb hb0
              refine ⟨?_, Or.inl rfl, ⟨hv.1, Or.inl rfl, rfl, Or.inr ⟨rfl, ?_⟩, by simp [oneParts, hk]⟩⟩
              · simp only
                rw [ef]
                unfold parts
                rw [quoted_one hv.1]
                simp only
                have a0 := after_quoted t (94 :: 94 :: m) 0 94 rfl
                have a1 := after_quoted t (94 :: 94 :: m) 1 94 rfl
                simp only [Nat.add_zero] at a0
                rw [if_neg (by rw [a0]; decide), if_pos (by rw [a0]; decide), if_neg (by rw [a1]; decide)]
                have e1 : ([34] ++ (escaped t ++ 34 :: 94 :: 94 :: m) : List UInt8) = [34] ++ (escaped t ++ [34, 94, 94]) ++ m := by simp [List.append_assoc]
                have e2 : ([34] ++ (escaped t ++ [34, 94, 94]) : List UInt8).length = 1 + (escaped t).length + 1 + 2 := by simp; omega
                rw [e2] at hb
                rw [e1, hb]
                simp only
                rw [List.length_append, e2]
                simp [oneParts, hk, Lib.toLowerA]
              · simpa [oneParts, hk] using hb0
      · cases h
        have ef : form t [] [] = [34] ++ (escaped t ++ 34 :: []) := by
          unfold form
          rw [if_neg (by simp), if_neg (by simp)]
          simp [List.append_assoc]
        refine ⟨?_, Or.inl rfl, ⟨hv.1, Or.inl rfl, rfl, Or.inl (by simp [oneParts, stringKind]), by simp [oneParts, stringKind]⟩⟩
        simp only
        rw [ef]
        unfold parts
        rw [quoted_one hv.1]
        simp only
        have hend : bt (arr ([34] ++ (escaped t ++ 34 :: []))) (1 + (escaped t).length + 1) = 256 := bt_arr_none (by simp; omega)
        rw [hend, if_neg (by omega), if_neg (by omega)]
        simp [oneParts, stringKind, Lib.toLowerA]
        omega

theorem whole_ok {α : Type} {s : ByteArray} {r : R α} {a : α} {j : Nat} (h : whole s r = .ok a j) : r = .ok a s.size ∧ j = s.size := by
  unfold whole at h
  split at h
  · cases h
  · split at h
    · rename_i e
      cases h
      exact ⟨by rw [e], e⟩
    · cases h

theorem sub_all (s : ByteArray) : arr (sub s 0 s.size) = s := by
  have e : sub s 0 s.size = s.data.toList := by
    unfold sub
    rw [List.drop_zero, Nat.sub_zero]
    exact List.take_of_length_le (Nat.le_of_eq Array.length_toList)
  rw [e, arr_data]

/-- what is read is a term in its one form, that is read as itself -/
theorem term_back {s : ByteArray} {k : Nat} {l : List UInt8} {j : Nat} (h : whole s (term s 0) = .ok (k, l) j) :
    whole (arr l) (term (arr l) 0) = .ok (k, l) l.length ∧ (k = 1 ∨ k = 2 ∨ k = 3) ∧
      (k = 3 → ∃ p, whole (arr l) (parts (arr l) 0) = .ok p l.length ∧ form p.text p.lang p.kind = l ∧ Fit p) := by
  obtain ⟨ht, rfl⟩ := whole_ok h
  unfold term at ht
  split at ht
  · rename_i h60
    split at ht
    · cases ht
    · rename_i l' j' hi
      cases ht
      have hb := iri_back hi [] []
      simp only [List.nil_append, List.append_nil, List.length_nil, Nat.zero_add] at hb
      have h0 : bt (arr l) 0 = 60 := by
        rw [iri] at hb
        by_cases hh : bt (arr l) 0 = 60
        · exact hh
        · rw [if_pos hh] at hb; cases hb
      refine ⟨?_, Or.inl rfl, fun e => by omega⟩
      unfold term
      rw [if_pos h0, hb]
      simp only [whole]
      rw [if_pos (arr_sz l).symm]
  · rename_i h60
    split at ht
    · rename_i h95
      split at ht
      · cases ht
      · rename_i l' j' hi
        cases ht
        have e : arr l = s := by
          have hi' := hi
          unfold blank at hi'
          rw [if_neg (by simp [h95])] at hi'
          split at hi'
          · cases hi'
          · split at hi'
            · cases hi'
            · simp only [R.ok.injEq] at hi'
              rw [← hi'.1, hi'.2]
              exact sub_all s
        refine ⟨?_, Or.inr (Or.inl rfl), fun e => by omega⟩
        rw [e]
        have el : l.length = s.size := by rw [← e, arr_sz]
        unfold term
        rw [if_neg h60, if_pos h95, hi]
        simp only [whole]
        rw [if_pos trivial, el]
    · rename_i h95
      split at ht
      · rename_i h34
        split at ht
        · cases ht
        · rename_i l' j' hi
          cases ht
          unfold literal at hi
          split at hi
          · cases hi
          · rename_i p j'' hp
            simp only [R.ok.injEq] at hi
            obtain ⟨rfl, rfl⟩ := hi
            obtain ⟨hb, hor, hf⟩ := parts_back hp
            have h0 : bt (arr (form p.text p.lang p.kind)) 0 = 34 := by
              by_cases hh : bt (arr (form p.text p.lang p.kind)) 0 = 34
              · exact hh
              · rw [parts, quoted, if_pos hh] at hb
                cases hb
            refine ⟨?_, Or.inr (Or.inr rfl), fun _ => ⟨oneParts p, ?_, form_one p hor, hf⟩⟩
            · unfold term literal
              rw [if_neg (by rw [h0]; decide), if_neg (by rw [h0]; decide), if_pos h0, hb]
              simp only [whole]
              rw [if_pos (arr_sz _).symm, form_one p hor]
            · rw [hb]
              simp only [whole]
              rw [if_pos (arr_sz _).symm]
      · cases ht

end Back
end Go.Proofs.YtnffjoipinhojaaGreatDoor

namespace Go.Proofs.YtnffjoipinhojaaGreatDoor
namespace Back

def sampleL : List UInt8 := [60, 97, 58, 92, 117, 48, 48, 54, 50, 62]
theorem sample : whole (arr sampleL) (term (arr sampleL) 0) = .ok (1, [60, 97, 58, 98, 62]) 10 := by
  have b0 : bt (arr sampleL) 0 = 60 := rfl
  have b1 : letter (bt (arr sampleL) (0 + 1)) = true := rfl
  have b2 : bt (arr sampleL) (0 + 2) = 58 := rfl
  have b3 : bt (arr sampleL) (0 + 2 + 1) = 92 := rfl
  have b9 : bt (arr sampleL) 9 = 62 := rfl
  have ho : one (arr sampleL) (0 + 2 + 1) inIri inIri false = .ok 98 9 := by
    unfold one
    rw [if_pos b3]
    unfold esc
    rw [if_pos (show bt (arr sampleL) (0 + 2 + 1 + 1) = 117 from rfl)]
    have hh : hexs (arr sampleL) 4 (0 + 2 + 1 + 2) 0 = .ok 98 9 := by
      have v5 : hexv (bt (arr sampleL) (0 + 2 + 1 + 2)) = 0 := by decide
      have v6 : hexv (bt (arr sampleL) (0 + 2 + 1 + 2 + 1)) = 0 := by decide
      have v7 : hexv (bt (arr sampleL) (0 + 2 + 1 + 2 + 1 + 1)) = 6 := by decide
      have v8 : hexv (bt (arr sampleL) (0 + 2 + 1 + 2 + 1 + 1 + 1)) = 2 := by decide
      simp only [hexs, v5, v6, v7, v8]
      simp
    unfold num
    rw [hh]
    simp only
    rw [if_pos (by decide)]
  have hb9 : body (arr sampleL) 62 inIri inIri false 9 = .ok [] 10 := by rw [body, if_pos b9]
  have hb : body (arr sampleL) 62 inIri inIri false (0 + 2 + 1) = .ok [98] 10 := by
    rw [body, if_neg (by rw [b3]; decide)]
    split
    · rename_i j e
      rw [ho] at e
      cases e
    · rename_i c j e
      rw [ho] at e
      cases e
      rw [hb9, enc_low (by omega)]
      rfl
  have hi : iri (arr sampleL) 0 = .ok [60, 97, 58, 98, 62] 10 := by
    unfold iri
    rw [if_neg (by rw [b0]; decide), if_neg (by rw [b1]; decide), scheme, if_pos b2]
    simp only
    rw [hb]
    rfl
  unfold term
  rw [if_pos b0, hi]
  rfl

end Back
end Go.Proofs.YtnffjoipinhojaaGreatDoor

namespace Go.Proofs.YtnffjoipinhojaaGreatDoor
namespace Back

/-- right characters alone, from a place on -/
def vfrom (s : ByteArray) (i : Nat) : Bool :=
  if h : i < s.size then (if h2 : (chr s i).2 = 0 then false else vfrom s (i + (chr s i).2)) else true
termination_by s.size - i
decreasing_by omega

theorem vfrom_end {s : ByteArray} {i : Nat} (h : ¬ i < s.size) : vfrom s i = true := by rw [vfrom, dif_neg h]
theorem vfrom_bad {s : ByteArray} {i : Nat} (h : i < s.size) (h2 : (chr s i).2 = 0) : vfrom s i = false := by rw [vfrom, dif_pos h, dif_pos h2]
theorem vfrom_on {s : ByteArray} {i : Nat} (h : i < s.size) (h2 : (chr s i).2 ≠ 0) : vfrom s i = vfrom s (i + (chr s i).2) := by rw [vfrom, dif_pos h, dif_neg h2]

theorem drop_arr (s : ByteArray) (i : Nat) : arr (s.data.toList.drop i) = s.extract i s.size := by
  apply ByteArray.ext
  apply Array.ext'
  rw [ByteArray.data_extract]
  simp
  refine (List.take_of_length_le ?_).symm
  have hl : s.data.toList.length = s.size := Array.length_toList
  rw [List.length_drop, hl]
  exact Nat.le_refl _

theorem decodeL_drop (s : ByteArray) (i : Nat) (h : i ≤ s.size) : Lib.decodeL (s.data.toList.drop i) = Utf8.decode s i := by
  unfold Lib.decodeL
  rw [← decode_extract s i h, ← drop_arr]

theorem valid_go (s : ByteArray) : ∀ (n i : Nat), i ≤ s.size → s.size - i ≤ n → Lib.validGoD n (s.data.toList.drop i) = vfrom s i := by
  have hl : s.data.toList.length = s.size := Array.length_toList
  intro n
  induction n with
  | zero =>
    intro i h1 h2
    rw [vfrom_end (by omega)]
    rfl
  | succ n ih =>
    intro i h1 h2
    by_cases hi : i < s.size
    · have hne : s.data.toList.drop i ≠ [] := by
        intro e
        have := congrArg List.length e
        simp only [List.length_drop, List.length_nil] at this
        omega
      rw [Lib.validGoD, if_neg hne, decodeL_drop s i h1]
      by_cases hd : (Utf8.decode s i).1 = 65533 ∧ (Utf8.decode s i).2 = 1
      · have hc : chr s i = (65533, 0) := by
          unfold chr
          rw [if_pos hi, if_pos (Prod.ext hd.1 hd.2)]
        rw [if_pos hd, vfrom_bad hi (by rw [hc])]
      · have hc : chr s i = Utf8.decode s i := by
          unfold chr
          rw [if_pos hi, if_neg (fun e => hd ⟨congrArg Prod.fst e, congrArg Prod.snd e⟩)]
        rw [if_neg hd, List.drop_drop]
        by_cases hz : (chr s i).2 = 0
        · exfalso
          have := Lib.width_pos s i
          rw [← hc] at this
          omega
        · have hle := chr_le s i
          rw [vfrom_on hi hz, ← hc]
          exact ih _ (by omega) (by omega)
    · have hnil : s.data.toList.drop i = [] := List.drop_eq_nil_of_le (by omega)
      rw [hnil, vfrom_end hi, Lib.validGoD, if_pos rfl]

theorem valid_from (s : ByteArray) : Lib.validD s.data.toList = vfrom s 0 := by
  have := valid_go s s.size 0 (by omega) (by omega)
  rw [List.drop_zero] at this
  unfold Lib.validD
  rw [show s.data.toList.length = s.size from Array.length_toList]
  exact this

theorem valid_VU {l : List UInt8} (h : VU l) : ∀ pre : List UInt8, vfrom (arr (pre ++ l)) pre.length = true := by
  induction h with
  | nil => intro pre; exact vfrom_end (by rw [arr_sz, List.append_nil]; omega)
  | cons c l hv hl ih =>
    intro pre
    have hp := enc_pos c
    have hc := chr_enc pre l c hv
    rw [vfrom_on (by rw [arr_sz]; simp only [List.length_append]; omega) (by rw [hc]; simp only; omega), hc]
    have := ih (pre ++ Lib.encodeRune c)
    rw [List.length_append, List.append_assoc] at this
    exact this

end Back
end Go.Proofs.YtnffjoipinhojaaGreatDoor

namespace Go.Proofs.YtnffjoipinhojaaGreatDoor
open Go.RowKit

set_option maxHeartbeats 4000000 in
set_option maxRecDepth 20000 in
/-- a list of the document's sentences as the program's -/
theorem triples_some (w : World) (g cap : Nat) (l : List Tri) (hg : g < w.heap.size) (hL : Lies w g l) (hn : l.length ≤ 1000000000) :
    Calls Tryz.prog 26 #[.slice (some ⟨g, 0, none⟩) l.length cap] w fun e w' => ∃ v, e = .returned v ∧ w'.ownsRow w.heap.size 33 3 v l.length (cellsOf l) ∧ Below w.heap.size w w' := by
  have HL : Hid (Lies w g l) := hL
  have HB0 : Hid (Below w.heap.size w w) := Below.refl _ w
  have HN0 : Hid (w.ownsRow w.heap.size 33 3 (.slice none 0 0) 0 []) := own_nil w _ _
  obtain ⟨i0, hi0, hz0, hz1, hz2⟩ := info_parts infoTri
  clear hL
  go_enter Tryz.func26, Tryz.ntmps26
  go_wp2_with fail
  go_loopw [3, 4] (fun t3 t4 wr => ∃ (q : Nat) (o : Option Addr) (c : Nat), q ≤ l.length ∧ t4 = .int .i64 q ∧ t3 = .slice o q c ∧ wr.ownsRow w.heap.size 33 3 (.slice o q c) q (cellsOf (l.take q)) ∧ Below w.heap.size w wr) (fun t3 t4 wr => l.length - (intOf t4).toNat)
  case atStart => exact ⟨0, none, 0, Nat.zero_le _, rfl, rfl, HN0.out, HB0.out⟩
  case round =>
    obtain ⟨q, o, c, hq, rfl, rfl, ho, hb⟩ := hrel
    have HO : Hid (wr.ownsRow w.heap.size 33 3 (.slice o q c) q (cellsOf (l.take q))) := ho
    have HB : Hid (Below w.heap.size w wr) := hb
    clear ho hb
    by_cases hlt : q < l.length
    · obtain ⟨x, hx⟩ : ∃ x, l[q]? = some x := ⟨_, List.getElem?_eq_getElem hlt⟩
      obtain ⟨q0, q1, q2⟩ := (HL.out.below hg HB.out) q x hx
      have hd : l.take (q + 1) = l.take q ++ [x] := by
        rw [List.take_add_one, hx]; rfl
      obtain ⟨Y1, k1⟩ : ∃ V : ByteArray, V = ⟨x.s.toArray⟩ := ⟨_, rfl⟩
      obtain ⟨Y2, k2⟩ : ∃ V : ByteArray, V = ⟨x.p.toArray⟩ := ⟨_, rfl⟩
      obtain ⟨Y3, k3⟩ : ∃ V : ByteArray, V = ⟨x.o.toArray⟩ := ⟨_, rfl⟩
      have HCy : Hid (cellsOf (l.take (q + 1)) = cellsOf (l.take q) ++ [.string Y1, .string Y2, .string Y3]) := by unfold Hid; rw [hd, cellsOf_app, k1, k2, k3]; rfl
      have q0' : wr.cell? ⟨g, q * 3, none⟩ = some (.string Y1) := by rw [k1]; exact q0
      have q1' : wr.cell? ⟨g, q * 3 + 1, none⟩ = some (.string Y2) := by rw [k2]; exact q1
      have q2' : wr.cell? ⟨g, q * 3 + 2, none⟩ = some (.string Y3) := by rw [k3]; exact q2
      clear q0 q1 q2 k1 k2 k3 hd hx
      have HT := triple_any wr Y1 Y2 Y3
      have HT2 : Hid (Calls Tryz.prog 15 #[.agg #[.string Y1, .string Y2, .string Y3]] wr fun e w' => e = .returned (.agg #[.string Y1, .string Y2, .string Y3]) ∧ Below wr.heap.size wr w') := HT
      clear HT
      go_wp2_with fail
      refine HT2.out.mono ?_
      rintro e w2 ⟨rfl, hb2⟩
      have HO2 : Hid (w2.ownsRow w.heap.size 33 3 (.slice o q c) q (cellsOf (l.take q))) := own_same HO.out fun k _ hlt => hb2.block k hlt
      have HB2 : Hid (Below w.heap.size w w2) := HB.out.trans (hb2.mono HB.out.size)
      clear hb2 q0' q1' q2' HT2
      have hoA := HO2.out.alloc (.cells #[.string Y1, .string Y2, .string Y3] 33)
      have hn2 := news_new w2 Y1 Y2 Y3 33
      have hbs : w.heap.size ≤ (w2.alloc (.cells #[.string Y1, .string Y2, .string Y3] 33)).heap.size := (HB2.out.alloc HB2.out.size _).size
      go_wp2_with (first
        | (at_builtin; refine wpList_append_own_at _ (by rfl) _ _ _ (by rfl) w.heap.size 33 i0 _ 3 48 Tryz.underlying46 hi0 hz0 hz1 hz2 rfl (by omega) (.slice o q c) q (cellsOf (l.take q)) (by rfl) hoA ⟨w2.heap.size, 0, none⟩ 1 1 [.string Y1, .string Y2, .string Y3] (by rfl) (by rfl) hn2 (by simp [Value.oneCell']) (by unfold maxLen; omega) (by omega) hbs ?_; intro v3 w3 ho3 hg3 hi3 hb3; have HB3 : Hid (Below w.heap.size w w3) := (Below.grown (HB2.out.alloc HB2.out.size _) hg3 hbs (fun k hk => own_block HO2.out hk)); have HO3 : Hid (w3.ownsRow w.heap.size 33 3 v3 (q + 1) (cellsOf (l.take (q + 1)))) := (by unfold Hid; rw [HCy.out]; exact ho3); clear ho3 hg3 hi3 hb3 hoA hn2 hbs))
      obtain ⟨o3, c3, hv3⟩ := own_form HO3.out
      subst hv3
      go_wp2_with fail
      go_roundw
      case rel => exact ⟨q + 1, o3, c3, by omega, by go_num, rfl, HO3.out, HB3.out⟩
      case measure => simp [intOf]; omega
    · obtain rfl : q = l.length := by omega
      rw [List.take_length] at HO
      go_wp2_with fail
      go_ret
      exact ⟨_, rfl, HO.out, HB.out⟩

end Go.Proofs.YtnffjoipinhojaaGreatDoor

namespace Go.Proofs.YtnffjoipinhojaaGreatDoor
open Go.RowKit

def soundT (x : Tri) : Bool := sound3 (kindOf ⟨x.s.toArray⟩) (kindOf ⟨x.p.toArray⟩) (kindOf ⟨x.o.toArray⟩)
/-- the first sentence that is not sound, from place q on -/
def badAt : Nat → List Tri → Option Nat
  | _, [] => none
  | q, x :: r => if soundT x then badAt (q + 1) r else some q

theorem at_any (w : World) (i n : Int) :
    Calls Tryz.prog 100 #[.int .i64 i, .iface 122 (.agg #[.int .i64 n])] w fun e w' => e = .returned (.iface 126 (.agg #[.int .i64 i, .iface 122 (.agg #[.int .i64 n])])) ∧ Below w.heap.size w w' := by
  go_enter Tryz.func100, Tryz.ntmps100
  go_wp2
  go_ret
  first | exact ⟨rfl, Below.refl _ w⟩ | exact ⟨rfl, (Below.refl _ w).alloc (Nat.le_refl _) _⟩

/-- what setOf ends in -/
def SoP (w : World) (l : List Tri) (e : Ending) (w' : World) : Prop := match badAt 0 l with
  | some i => e = .returned (.tuple #[.slice none 0 0, .iface 126 (.agg #[.int .i64 i, .iface 122 (.agg #[.int .i64 4])])]) ∧ Below w.heap.size w w'
  | none => RiP w (rise [] l) e w'

theorem riP_mono {w w1 w' : World} {r : Option (List Tri)} {e : Ending} (h : RiP w1 r e w') (hb : Below w.heap.size w w1) : RiP w r e w' := by
  unfold RiP at h ⊢
  cases r with
  | none => exact ⟨h.1, hb.trans (h.2.mono hb.size)⟩
  | some s =>
    obtain ⟨v, h1, h2, h3⟩ := h
    exact ⟨v, h1, own_mono h2 hb.size, hb.trans (h3.mono hb.size)⟩

set_option maxHeartbeats 4000000 in
set_option maxRecDepth 20000 in
theorem setOf_some (w : World) (g cap : Nat) (l : List Tri) (hg : g < w.heap.size) (hL : Lies w g l) (hn : l.length ≤ maxLen) (hT : Tabs w) (hG : 8 ≤ w.heap.size) :
    Calls Tryz.prog 56 #[.slice (some ⟨g, 0, none⟩) l.length cap] w (SoP w l) := by
  have HRi : Hid (∀ w1, Below w.heap.size w w1 → Calls Tryz.prog 52 #[.slice (some ⟨g, 0, none⟩) l.length cap] w1 (RiP w (rise [] l))) := fun w1 hb => (rising_some w1 g cap l (Nat.lt_of_lt_of_le hg hb.size) (hL.below hg hb) hn).mono fun e w' h => riP_mono h hb
  unfold maxLen at hn
  have HSo : Hid (∀ (w1 : World) (a b c : ByteArray) (w0 : World), Below w.heap.size w w0 → KS w0 w0.heap.size a b c w1 → Calls Tryz.prog 14 #[.agg #[.string a, .string b, .string c]] w1 fun e w' => e = .returned (.bool (sound3 (kindOf a) (kindOf b) (kindOf c))) ∧ KS w0 w0.heap.size a b c w') := by
    intro w1 a b c w0 hb0 hk
    have hb : Below w.heap.size w w1 := hb0.trans (hk.low.mono hb0.size)
    refine (sound_any kindOf w1 a b c (hT.below hb (by omega) (by omega)) (Nat.le_trans hG hb.size) (fun w2 s hT2 hG2 => kind_any w2 s hT2 hG2)).mono ?_
    rintro e w2 ⟨rfl, hb2⟩
    exact ⟨rfl, hk.on hb2⟩
  have HL : Hid (Lies w g l) := hL
  have HB0 : Hid (Below w.heap.size w w) := Below.refl _ w
  clear hL hT
  go_enter Tryz.func56, Tryz.ntmps56
  go_wp2_with fail
  go_loopw [8] (fun t8 wr => ∃ q : Nat, q ≤ l.length ∧ t8 = .int .i64 q ∧ Below w.heap.size w wr ∧ badAt 0 l = badAt q (l.drop q)) (fun t8 wr => l.length - (intOf t8).toNat)
  case atStart => exact ⟨0, Nat.zero_le _, rfl, HB0.out, by simp⟩
  case round =>
    obtain ⟨q, hq, rfl, hb, hbad⟩ := hrel
    have HB : Hid (Below w.heap.size w wr) := hb
    have HI : Hid (badAt 0 l = badAt q (l.drop q)) := hbad
    clear hb hbad
    by_cases hlt : q < l.length
    · obtain ⟨x, hx⟩ : ∃ x, l[q]? = some x := ⟨_, List.getElem?_eq_getElem hlt⟩
      obtain ⟨q0, q1, q2⟩ := (HL.out.below hg HB.out) q x hx
      have hd : l.drop q = x :: l.drop (q + 1) := by
        rw [List.drop_eq_getElem_cons hlt]
        congr 1
        exact (List.getElem?_eq_some_iff.1 hx).2
      have hst : badAt 0 l = if soundT x then badAt (q + 1) (l.drop (q + 1)) else some q := by rw [HI.out, hd, badAt]
      obtain ⟨Y1, k1⟩ : ∃ V : ByteArray, V = ⟨x.s.toArray⟩ := ⟨_, rfl⟩
      obtain ⟨Y2, k2⟩ : ∃ V : ByteArray, V = ⟨x.p.toArray⟩ := ⟨_, rfl⟩
      obtain ⟨Y3, k3⟩ : ∃ V : ByteArray, V = ⟨x.o.toArray⟩ := ⟨_, rfl⟩
      have q0' : wr.cell? ⟨g, q * 3, none⟩ = some (.string Y1) := by rw [k1]; exact q0
      have q1' : wr.cell? ⟨g, q * 3 + 1, none⟩ = some (.string Y2) := by rw [k2]; exact q1
      have q2' : wr.cell? ⟨g, q * 3 + 2, none⟩ = some (.string Y3) := by rw [k3]; exact q2
      obtain ⟨Bb, hBb⟩ : ∃ Bb, Bb = soundT x := ⟨_, rfl⟩
      have hS := HSo.out (wr.alloc (.cells #[.string Y1, .string Y2, .string Y3] 33)) Y1 Y2 Y3 wr HB.out (KS.mk wr Y1 Y2 Y3 _)
      have HS : Hid (Calls Tryz.prog 14 #[.agg #[.string Y1, .string Y2, .string Y3]] (wr.alloc (.cells #[.string Y1, .string Y2, .string Y3] 33)) fun e w' => e = .returned (.bool Bb) ∧ KS wr wr.heap.size Y1 Y2 Y3 w') := by
        refine Calls.mono hS ?_
        rintro e w' ⟨rfl, h2⟩
        exact ⟨by rw [hBb, soundT, k1, k2, k3], h2⟩
      rw [← hBb] at hst
      have HST : Hid (badAt 0 l = if Bb then badAt (q + 1) (l.drop (q + 1)) else some q) := hst
      obtain ⟨e0, e1, e2, e3⟩ := KS.mk wr Y1 Y2 Y3 33
      clear q0 q1 q2 k1 k2 k3 hd hx hst hS hBb HI
      go_wp2_with fail
      refine HS.out.mono ?_
      rintro e w2 ⟨rfl, hK2⟩
      have HB2 : Hid (Below w.heap.size w w2) := HB.out.trans (hK2.low.mono HB.out.size)
      clear hK2 e0 e1 e2 e3 q0' q1' q2' HS HSo
      cases Bb with
      | true =>
        have HI2 : Hid (badAt 0 l = badAt (q + 1) (l.drop (q + 1))) := HST.out
        clear HST
        go_wp2_with fail
        go_roundw
        case rel => exact ⟨q + 1, by omega, by go_num, HB2.out, HI2.out⟩
        case measure => simp [intOf]; omega
      | false =>
        have HI2 : Hid (badAt 0 l = some q) := HST.out
        have HNw : Hid (Calls Tryz.prog 95 #[.int .i64 4] w2 fun e w' => e = .returned (.iface 122 (.agg #[.int .i64 4])) ∧ Below w2.heap.size w2 w') := new_any w2 4
        have HAt : Hid (∀ w3, Calls Tryz.prog 100 #[.int .i64 q, .iface 122 (.agg #[.int .i64 4])] w3 fun e w' => e = .returned (.iface 126 (.agg #[.int .i64 q, .iface 122 (.agg #[.int .i64 4])])) ∧ Below w3.heap.size w3 w') := fun w3 => at_any w3 q 4
        clear HST
        go_wp2_with fail
        refine HNw.out.mono ?_
        rintro e w3 ⟨rfl, hb3⟩
        have HB3 : Hid (Below w.heap.size w w3) := HB2.out.trans (hb3.mono HB2.out.size)
        clear hb3
        go_wp2_with fail
        refine (HAt.out w3).mono ?_
        rintro e w4 ⟨rfl, hb4⟩
        have HB4 : Hid (Below w.heap.size w w4) := HB3.out.trans (hb4.mono HB3.out.size)
        clear hb4
        go_wp2_with fail
        refine bodyPost_ret (v := .tuple #[.slice none 0 0, .iface 126 (.agg #[.int .i64 q, .iface 122 (.agg #[.int .i64 4])])]) (by simp [results, Tryz.results56, go_sem]) rfl ?_
        show SoP w l _ _
        unfold SoP
        rw [HI2.out]
        exact ⟨rfl, HB4.out⟩
    · have HI2 : Hid (badAt 0 l = none) := by unfold Hid; rw [HI.out, List.drop_eq_nil_of_le (by omega)]; rfl
      have HRr : Hid (Calls Tryz.prog 52 #[.slice (some ⟨g, 0, none⟩) l.length cap] wr fun e w' => ∃ v1 v2, e = .returned (.tuple #[v1, v2]) ∧ SoP w l (.returned (.tuple #[v1, v2])) w') := by
        refine (HRi.out wr HB.out).mono ?_
        intro e w' h
        have hs : SoP w l e w' := by unfold SoP; rw [HI2.out]; exact h
        unfold RiP at h
        split at h
        · obtain ⟨v', rfl, _⟩ := h
          exact ⟨_, _, rfl, hs⟩
        · obtain ⟨rfl, _⟩ := h
          exact ⟨_, _, rfl, hs⟩
      clear HRi HI2 HI HSo
      go_wp2_with fail
      refine HRr.out.mono ?_
      rintro e w3 ⟨v1, v2, rfl, hs⟩
      have HSS : Hid (SoP w l (.returned (.tuple #[v1, v2])) w3) := hs
      clear hs
      go_wp2_with fail
      exact bodyPost_ret (v := .tuple #[v1, v2]) (by simp [results, Tryz.results56, go_sem]) rfl HSS.out

end Go.Proofs.YtnffjoipinhojaaGreatDoor

namespace Go.Proofs.YtnffjoipinhojaaGreatDoor
open Go.RowKit

/-- what either Set ends in -/
def SeV (w : World) (T : TypeId) (l : List Tri) (e : Ending) (w' : World) : Prop := match badAt 0 l with
  | some i => e = .returned (.tuple #[.slice none 0 0, .int .i64 4, .int .i64 i]) ∧ Below w.heap.size w w'
  | none => RisV w w.heap.size T (rise [] l) 10 e w'

set_option maxHeartbeats 4000000 in
set_option maxRecDepth 20000 in
/-- lines.Set, of what setOf answers -/
theorem set_of (w : World) (v : Value) (l : List Tri) (hS : Calls Tryz.prog 56 #[v] w (SoP w l)) (hH : Handle w) :
    Calls Tryz.prog 27 #[v] w (SeV w 33 l) := by
  have HH : Hid (∀ w', Below w.heap.size w w' → Handle w') := fun w' hb => hH.below hb
  cases hb : badAt 0 l with
  | some i =>
    have HS : Hid (Calls Tryz.prog 56 #[v] w fun e w' => e = .returned (.tuple #[.slice none 0 0, .iface 126 (.agg #[.int .i64 i, .iface 122 (.agg #[.int .i64 4])])]) ∧ Below w.heap.size w w') := hS.mono fun e w' h => by unfold SoP at h; rw [hb] at h; exact h
    have HV : Hid (badAt 0 l = some i) := hb
    clear hS hH hb
    go_enter Tryz.func27, Tryz.ntmps27
    go_wp2_with fail
    refine HS.out.mono ?_
    rintro e w2 ⟨rfl, hb2⟩
    have HB2 : Hid (Below w.heap.size w w2) := hb2
    have HN := number_placed i 4 w2 (HH.out w2 hb2)
    clear hb2
    go_wp2_with fail
    refine HN.mono ?_
    rintro e w3 ⟨rfl, hb3⟩
    have HB3 : Hid (Below w.heap.size w w3) := HB2.out.trans (hb3.mono HB2.out.size)
    have HPl := place_placed i 4 w3 (HH.out w3 HB3.out)
    clear hb3 HN
    go_wp2_with fail
    refine HPl.mono ?_
    rintro e w4 ⟨rfl, hb4⟩
    have HB4 : Hid (Below w.heap.size w w4) := HB3.out.trans (hb4.mono HB3.out.size)
    clear hb4 HPl
    go_wp2_with fail
    refine bodyPost_ret (v := .tuple #[.slice none 0 0, .int .i64 4, .int .i64 i]) (by simp [results, Tryz.results27, go_sem]) rfl ?_
    show SeV w _ l _ _
    unfold SeV
    rw [HV.out]
    exact ⟨rfl, HB4.out⟩
  | none =>
    cases hr : rise [] l with
    | none =>
      have HS : Hid (Calls Tryz.prog 56 #[v] w fun e w' => e = .returned (.tuple #[.slice none 0 0, .iface 122 (.agg #[.int .i64 10])]) ∧ Below w.heap.size w w') := hS.mono fun e w' h => by unfold SoP at h; rw [hb, hr] at h; exact h
      have HV : Hid (badAt 0 l = none) := hb
      have HW : Hid (rise [] l = none) := hr
      clear hS hH hb hr
      go_enter Tryz.func27, Tryz.ntmps27
      go_wp2_with fail
      refine HS.out.mono ?_
      rintro e w2 ⟨rfl, hb2⟩
      have HB2 : Hid (Below w.heap.size w w2) := hb2
      have HN := number_any 10 w2 (HH.out w2 hb2)
      clear hb2
      go_wp2_with fail
      refine HN.mono ?_
      rintro e w3 ⟨rfl, hb3⟩
      have HB3 : Hid (Below w.heap.size w w3) := HB2.out.trans (hb3.mono HB2.out.size)
      have HPl := place_refusal 10 w3 (HH.out w3 HB3.out)
      clear hb3 HN
      go_wp2_with fail
      refine HPl.mono ?_
      rintro e w4 ⟨rfl, hb4⟩
      have HB4 : Hid (Below w.heap.size w w4) := HB3.out.trans (hb4.mono HB3.out.size)
      clear hb4 HPl
      go_wp2_with fail
      refine bodyPost_ret (v := .tuple #[.slice none 0 0, .int .i64 10, .int .i64 0]) (by simp [results, Tryz.results27, go_sem]) rfl ?_
      show SeV w _ l _ _
      unfold SeV
      rw [HV.out, HW.out]
      exact ⟨rfl, HB4.out⟩
    | some set =>
      have HS : Hid (Calls Tryz.prog 56 #[v] w fun e w' => ∃ v', e = .returned (.tuple #[v', .nilIface]) ∧ w'.ownsRow w.heap.size 33 3 v' set.length (cellsOf set) ∧ Below w.heap.size w w') := hS.mono fun e w' h => by unfold SoP at h; rw [hb, hr] at h; exact h
      have HV : Hid (badAt 0 l = none) := hb
      have HW : Hid (rise [] l = some set) := hr
      clear hS hH hb hr
      go_enter Tryz.func27, Tryz.ntmps27
      go_wp2_with fail
      refine HS.out.mono ?_
      rintro e w2 ⟨v', rfl, ho2, hb2⟩
      have HO2 : Hid (w2.ownsRow w.heap.size 33 3 v' set.length (cellsOf set)) := ho2
      have HB2 : Hid (Below w.heap.size w w2) := hb2
      have HN := number_nil2 w2
      clear hb2 ho2
      go_wp2_with fail
      refine HN.mono ?_
      rintro e w3 ⟨rfl, hb3⟩
      have HB3 : Hid (Below w.heap.size w w3) := HB2.out.trans (hb3.mono HB2.out.size)
      have HO3 : Hid (w3.ownsRow w.heap.size 33 3 v' set.length (cellsOf set)) := own_same HO2.out fun k _ hlt => hb3.block k hlt
      have HPl := place_nil w3
      clear hb3 HN
      go_wp2_with fail
      refine HPl.mono ?_
      rintro e w4 ⟨rfl, hb4⟩
      have HB4 : Hid (Below w.heap.size w w4) := HB3.out.trans (hb4.mono HB3.out.size)
      have HO4 : Hid (w4.ownsRow w.heap.size 33 3 v' set.length (cellsOf set)) := own_same HO3.out fun k _ hlt => hb4.block k hlt
      clear hb4 HPl
      go_wp2_with fail
      refine bodyPost_ret (v := .tuple #[v', .int .i64 0, .int .i64 0]) (by simp [results, Tryz.results27, go_sem]) rfl ?_
      show SeV w _ l _ _
      unfold SeV
      rw [HV.out, HW.out]
      exact ⟨v', rfl, HO4.out, HB4.out⟩

end Go.Proofs.YtnffjoipinhojaaGreatDoor

namespace Go.Proofs.YtnffjoipinhojaaGreatDoor.Ref
open Go.RowKit

set_option maxHeartbeats 4000000 in
set_option maxRecDepth 20000 in
/-- the document's own Set -/
theorem set_some (w : World) (g cap : Nat) (l : List Tri) (hg : g < w.heap.size) (hL : Lies w g l) (hn : l.length ≤ 1099511627776) :
    Calls Tryz.prog 28 #[.slice (some ⟨g, 0, none⟩) l.length cap] w (SeV w 30 l) := by
  have HL : Hid (Lies w g l) := hL
  have HSo : Hid (∀ (w1 : World) (x : Tri), Calls Tryz.prog 17 #[.agg #[str x.s, str x.p, str x.o]] w1 fun e w' => e = .returned (.bool (soundT x)) ∧ Below w1.heap.size w1 w') := fun w1 x => Ref.sound_any kindOf w1 _ _ _ (fun w2 s => Ref.kind_any w2 s)
  have HAd : Hid (∀ (w1 : World) (v : Value) (l : List Tri) (t : Tri), Rising l → w1.ownsRow w.heap.size 30 3 v l.length (cellsOf l) → Below w.heap.size w w1 → l.length ≤ 1000 → Calls Tryz.prog 57 #[v, .agg #[str t.s, str t.p, str t.o]] w1 fun e w' => ∃ o c, e = .returned (.slice o (addL l t).length c) ∧ w'.ownsRow w.heap.size 30 3 (.slice o (addL l t).length c) (addL l t).length (cellsOf (addL l t)) ∧ Below w.heap.size w w') := by
    intro w1 v l t hr ho hb hl
    refine (Ref.add_all w1 w.heap.size v l t hr ho hb.size hl).mono ?_
    rintro e w2 ⟨v', rfl, ho2, hb2⟩
    obtain ⟨o, c, rfl⟩ := own_form ho2
    exact ⟨o, c, rfl, ho2, hb.trans (hb2.mono hb.size)⟩
  have HB0 : Hid (Below w.heap.size w w) := Below.refl _ w
  clear hL
  go_enter Tryz.func28, Tryz.ntmps28
  go_wp2_with fail
  go_loopw [5] (fun t5 wr => ∃ q : Nat, q ≤ l.length ∧ t5 = .int .i64 q ∧ Below w.heap.size w wr ∧ badAt 0 l = badAt q (l.drop q)) (fun t5 wr => l.length - (intOf t5).toNat)
  case atStart => exact ⟨0, Nat.zero_le _, rfl, HB0.out, by simp⟩
  case round =>
    obtain ⟨q, hq, rfl, hb, hbad⟩ := hrel
    have HB : Hid (Below w.heap.size w wr) := hb
    have HI : Hid (badAt 0 l = badAt q (l.drop q)) := hbad
    clear hb hbad
    by_cases hlt : q < l.length
    · obtain ⟨x, hx⟩ : ∃ x, l[q]? = some x := ⟨_, List.getElem?_eq_getElem hlt⟩
      obtain ⟨q0, q1, q2⟩ := (HL.out.below hg HB.out) q x hx
      have hd : l.drop q = x :: l.drop (q + 1) := by
        rw [List.drop_eq_getElem_cons hlt]
        congr 1
        exact (List.getElem?_eq_some_iff.1 hx).2
      have hst : badAt 0 l = if soundT x then badAt (q + 1) (l.drop (q + 1)) else some q := by rw [HI.out, hd, badAt]
      obtain ⟨Bb, hBb⟩ : ∃ Bb, Bb = soundT x := ⟨_, rfl⟩
      have hS := HSo.out wr x
      rw [← hBb] at hst hS
      have HS : Hid (Calls Tryz.prog 17 #[.agg #[str x.s, str x.p, str x.o]] wr fun e w' => e = .returned (.bool Bb) ∧ Below wr.heap.size wr w') := hS
      have HST : Hid (badAt 0 l = if Bb then badAt (q + 1) (l.drop (q + 1)) else some q) := hst
      clear hd hx hst hS hBb HI HAd
      go_wp2_with fail
      refine HS.out.mono ?_
      rintro e w2 ⟨rfl, hb2⟩
      have HB2 : Hid (Below w.heap.size w w2) := HB.out.trans (hb2.mono HB.out.size)
      clear hb2 q0 q1 q2 HS HSo
      cases Bb with
      | true =>
        have HI2 : Hid (badAt 0 l = badAt (q + 1) (l.drop (q + 1))) := HST.out
        clear HST
        go_wp2_with fail
        go_roundw
        case rel => exact ⟨q + 1, by omega, by go_num, HB2.out, HI2.out⟩
        case measure => simp [intOf]; omega
      | false =>
        have HI2 : Hid (badAt 0 l = some q) := HST.out
        clear HST
        go_wp2_with fail
        refine bodyPost_ret (v := .tuple #[.slice none 0 0, .int .i64 4, .int .i64 q]) (by simp [results, Tryz.results28, go_sem]) rfl ?_
        show SeV w _ l _ _
        unfold SeV
        rw [HI2.out]
        exact ⟨rfl, HB2.out⟩
    · have HBN : Hid (badAt 0 l = none) := by unfold Hid; rw [HI.out, List.drop_eq_nil_of_le (by omega)]; rfl
      have HN0 : Hid (wr.ownsRow w.heap.size 30 3 (.slice none 0 0) 0 []) := own_nil wr _ _
      have HBw : Hid (Below w.heap.size w wr) := HB.out
      clear HI HSo HB0 HB
      go_wp2_with fail
      go_loopw [7, 8] (fun t7 t8 wr => ∃ (q : Nat) (set : List Tri) (o : Option Addr) (c : Nat), q ≤ l.length ∧ t8 = .int .i64 q ∧ t7 = .slice o set.length c ∧ Rising set ∧ set.length ≤ 301 ∧ wr.ownsRow w.heap.size 30 3 (.slice o set.length c) set.length (cellsOf set) ∧ Below w.heap.size w wr ∧ rise [] l = if set.length ≤ 300 then rise set (l.drop q) else none) (fun t7 t8 wr => l.length - (intOf t8).toNat)
      case atStart => exact ⟨0, [], none, 0, Nat.zero_le _, rfl, rfl, List.Pairwise.nil, by simp, HN0.out, HBw.out, by simp⟩
      case round =>
        obtain ⟨q, set, o, c, hq, rfl, rfl, hr, h301, ho, hb, hri⟩ := hrel
        have HR : Hid (Rising set) := hr
        have HO : Hid (wr.ownsRow w.heap.size 30 3 (.slice o set.length c) set.length (cellsOf set)) := ho
        have HB : Hid (Below w.heap.size w wr) := hb
        have HI : Hid (rise [] l = if set.length ≤ 300 then rise set (l.drop q) else none) := hri
        clear hr ho hb hri
        by_cases hlt : q < l.length
        · by_cases h300 : set.length ≤ 300
          · obtain ⟨x, hx⟩ : ∃ x, l[q]? = some x := ⟨_, List.getElem?_eq_getElem hlt⟩
            obtain ⟨q0, q1, q2⟩ := (HL.out.below hg HB.out) q x hx
            have hd : l.drop q = x :: l.drop (q + 1) := by
              rw [List.drop_eq_getElem_cons hlt]
              congr 1
              exact (List.getElem?_eq_some_iff.1 hx).2
            have HI2 : Hid (rise [] l = if (addL set x).length ≤ 300 then rise (addL set x) (l.drop (q + 1)) else none) := by
              unfold Hid
              rw [HI.out, if_pos h300, hd, rise_step h300]
            have hal := addL_len set x
            have HR2 : Hid (Rising (addL set x)) := addL_rising HR.out
            have HA := HAd.out wr (.slice o set.length c) set x HR.out HO.out HB.out (by omega)
            have HA2 : Hid (Calls Tryz.prog 57 #[.slice o set.length c, .agg #[str x.s, str x.p, str x.o]] wr fun e w' => ∃ o' c', e = .returned (.slice o' (addL set x).length c') ∧ w'.ownsRow w.heap.size 30 3 (.slice o' (addL set x).length c') (addL set x).length (cellsOf (addL set x)) ∧ Below w.heap.size w w') := HA
            clear HA hx hd HI HR HAd
            generalize addL set x = S at *
            go_wp2_with fail
            refine HA2.out.mono ?_
            rintro e w2 ⟨o', c', rfl, ho2, hb2⟩
            have HO2 : Hid (w2.ownsRow w.heap.size 30 3 (.slice o' S.length c') S.length (cellsOf S)) := ho2
            have HB2 : Hid (Below w.heap.size w w2) := hb2
            clear ho2 hb2
            go_wp2_with fail
            go_roundw
            case rel => exact ⟨q + 1, S, o', c', by omega, by go_num, rfl, HR2.out, by omega, HO2.out, HB2.out, HI2.out⟩
            case measure => simp [intOf]; omega
          · have HI2 : Hid (rise [] l = none) := by unfold Hid; rw [HI.out, if_neg h300]
            go_wp2_with fail
            refine bodyPost_ret (v := .tuple #[.slice none 0 0, .int .i64 10, .int .i64 0]) (by simp [results, Tryz.results28, go_sem]) rfl ?_
            show SeV w _ l _ _
            unfold SeV
            rw [HBN.out, HI2.out]
            exact ⟨rfl, HB.out⟩
        · by_cases h300 : set.length ≤ 300
          · have HI2 : Hid (rise [] l = some set) := by unfold Hid; rw [HI.out, if_pos h300, List.drop_eq_nil_of_le (by omega)]; rfl
            go_wp2_with fail
            refine bodyPost_ret (v := .tuple #[.slice o set.length c, .int .i64 0, .int .i64 0]) (by simp [results, Tryz.results28, go_sem]) rfl ?_
            show SeV w _ l _ _
            unfold SeV
            rw [HBN.out, HI2.out]
            exact ⟨_, rfl, HO.out, HB.out⟩
          · have HI2 : Hid (rise [] l = none) := by unfold Hid; rw [HI.out, if_neg h300]
            go_wp2_with fail
            refine bodyPost_ret (v := .tuple #[.slice none 0 0, .int .i64 10, .int .i64 0]) (by simp [results, Tryz.results28, go_sem]) rfl ?_
            show SeV w _ l _ _
            unfold SeV
            rw [HBN.out, HI2.out]
            exact ⟨rfl, HB.out⟩

end Go.Proofs.YtnffjoipinhojaaGreatDoor.Ref

namespace Go.Proofs.YtnffjoipinhojaaGreatDoor
open Go.RowKit

theorem kindOf_len {s : ByteArray} (h : kindOf s ≠ 0) : s.size ≤ 200 := by
  unfold kindOf at h
  split at h
  · exact absurd rfl h
  · omega
theorem sound3_all {x y z : Nat} (h : sound3 x y z = true) : x ≠ 0 ∧ y ≠ 0 ∧ z ≠ 0 := by
  unfold sound3 at h
  simp at h
  omega
theorem badAt_none : ∀ {l : List Tri} {q : Nat}, badAt q l = none → ∀ x ∈ l, soundT x = true
  | [], _, _, x, hx => by cases hx
  | y :: r, q, h, x, hx => by
    unfold badAt at h
    split at h
    · rename_i hy
      rcases List.mem_cons.1 hx with rfl | hx
      · exact hy
      · exact badAt_none h x hx
    · cases h
theorem ins_mem {l : List Tri} {t x : Tri} (h : x ∈ ins l t) : x = t ∨ x ∈ l := by
  unfold ins at h
  rcases List.mem_append.1 h with h | h
  · exact .inr (List.mem_of_mem_take h)
  · rcases List.mem_cons.1 h with h | h
    · exact .inl h
    · exact .inr (List.mem_of_mem_drop h)
theorem rise_mem : ∀ {ts acc set : List Tri}, rise acc ts = some set → ∀ x ∈ set, x ∈ acc ∨ x ∈ ts
  | [], acc, set, e, x, hx => by
    rw [rise] at e
    cases e
    exact .inl hx
  | t :: r, acc, set, e, x, hx => by
    rw [rise] at e
    split at e
    · rcases rise_mem e x hx with h | h
      · exact .inl h
      · exact .inr (List.mem_cons_of_mem _ h)
    · split at e
      · cases e
      · rcases rise_mem e x hx with h | h
        · rcases ins_mem h with rfl | h
          · exact .inr (List.mem_cons_self ..)
          · exact .inl h
        · exact .inr (List.mem_cons_of_mem _ h)

/-- a sound sentence's terms are short -/
def ShortT (x : Tri) : Prop := x.s.length ≤ 200 ∧ x.p.length ≤ 200 ∧ x.o.length ≤ 200
theorem short_of {x : Tri} (h : soundT x = true) : ShortT x := by
  obtain ⟨h1, h2, h3⟩ := sound3_all h
  have g1 := kindOf_len h1
  have g2 := kindOf_len h2
  have g3 := kindOf_len h3
  have e : ∀ l : List UInt8, (ByteArray.mk l.toArray).size = l.length := fun l => by simp [ByteArray.size]
  rw [e] at g1 g2 g3
  exact ⟨g1, g2, g3⟩
theorem short_set {l set : List Tri} (hb : badAt 0 l = none) (hr : rise [] l = some set) : ∀ x ∈ set, ShortT x := fun x hx => by
  rcases rise_mem hr x hx with h | h
  · cases h
  · exact short_of (badAt_none hb x h)

theorem catL (a b : ByteArray) : (a ++ b).toList = a.toList ++ b.toList := by
  obtain ⟨⟨x⟩⟩ := a
  obtain ⟨⟨y⟩⟩ := b
  have := cat_str x y
  have e : (⟨⟨x⟩⟩ : ByteArray) ++ ⟨⟨y⟩⟩ = ⟨(x ++ y).toArray⟩ := this
  rw [e, ByteArray.toList_mk, ByteArray.toList_mk, ByteArray.toList_mk]

/-- a sentence's line -/
def lineT (x : Tri) : List UInt8 := x.s ++ [32] ++ x.p ++ [32] ++ x.o ++ [32, 46, 10]
def printT (l : List Tri) : List UInt8 := l.flatMap lineT
theorem printT_step {l : List Tri} {q : Nat} {x : Tri} (h : l[q]? = some x) : printT (l.take (q + 1)) = printT (l.take q) ++ lineT x := by
  rw [List.take_add_one, h]
  simp [printT]

/-- what either printer ends in -/
def PrV (w : World) (l : List Tri) (e : Ending) (w' : World) : Prop := match badAt 0 l with
  | some i => e = .returned (.tuple #[.string ⟨#[]⟩, .int .i64 4, .int .i64 i]) ∧ Below w.heap.size w w'
  | none => match rise [] l with
    | none => e = .returned (.tuple #[.string ⟨#[]⟩, .int .i64 10, .int .i64 0]) ∧ Below w.heap.size w w'
    | some set => (∃ V : ByteArray, V.toList = printT set ∧ e = .returned (.tuple #[.string V, .int .i64 0, .int .i64 0])) ∧ Below w.heap.size w w'

set_option maxHeartbeats 4000000 in
set_option maxRecDepth 20000 in
/-- the document's own PrintLines, of what its Set answers -/
theorem Ref.printLines_of (w : World) (v : Value) (l : List Tri) (hS : Calls Tryz.prog 28 #[v] w (SeV w 30 l)) :
    Calls Tryz.prog 30 #[v] w (PrV w l) := by
  cases hb : badAt 0 l with
  | some i =>
    have HS : Hid (Calls Tryz.prog 28 #[v] w fun e w' => e = .returned (.tuple #[.slice none 0 0, .int .i64 4, .int .i64 i]) ∧ Below w.heap.size w w') := hS.mono fun e w' h => by unfold SeV at h; rw [hb] at h; exact h
    have HV : Hid (badAt 0 l = some i) := hb
    clear hS hb
    go_enter Tryz.func30, Tryz.ntmps30
    go_wp2_with fail
    refine HS.out.mono ?_
    rintro e w2 ⟨rfl, hb2⟩
    have HB2 : Hid (Below w.heap.size w w2) := hb2
    clear hb2
    go_wp2_with fail
    refine bodyPost_ret (v := .tuple #[.string ⟨#[]⟩, .int .i64 4, .int .i64 i]) (by simp [results, Tryz.results30, go_sem]) rfl ?_
    show PrV w l _ _
    unfold PrV
    rw [HV.out]
    exact ⟨rfl, HB2.out⟩
  | none =>
    cases hr : rise [] l with
    | none =>
      have HS : Hid (Calls Tryz.prog 28 #[v] w fun e w' => e = .returned (.tuple #[.slice none 0 0, .int .i64 10, .int .i64 0]) ∧ Below w.heap.size w w') := hS.mono fun e w' h => by unfold SeV at h; rw [hb, hr] at h; exact h
      have HV : Hid (badAt 0 l = none) := hb
      have HW : Hid (rise [] l = none) := hr
      clear hS hb hr
      go_enter Tryz.func30, Tryz.ntmps30
      go_wp2_with fail
      refine HS.out.mono ?_
      rintro e w2 ⟨rfl, hb2⟩
      have HB2 : Hid (Below w.heap.size w w2) := hb2
      clear hb2
      go_wp2_with fail
      refine bodyPost_ret (v := .tuple #[.string ⟨#[]⟩, .int .i64 10, .int .i64 0]) (by simp [results, Tryz.results30, go_sem]) rfl ?_
      show PrV w l _ _
      unfold PrV
      rw [HV.out, HW.out]
      exact ⟨rfl, HB2.out⟩
    | some set =>
      have hlen := rise_len (by simp) hr
      have HSh : Hid (∀ x ∈ set, ShortT x) := short_set hb hr
      have HS : Hid (Calls Tryz.prog 28 #[v] w fun e w' => ∃ v', e = .returned (.tuple #[v', .int .i64 0, .int .i64 0]) ∧ w'.ownsRow w.heap.size 30 3 v' set.length (cellsOf set) ∧ Below w.heap.size w w') := hS.mono fun e w' h => by unfold SeV at h; rw [hb, hr] at h; exact h
      have HE : Hid (∀ (V : ByteArray) w', V.toList = printT set → Below w.heap.size w w' → PrV w l (.returned (.tuple #[.string V, .int .i64 0, .int .i64 0])) w') := fun V w' h1 h2 => by
        unfold PrV
        rw [hb, hr]
        exact ⟨⟨V, h1, rfl⟩, h2⟩
      clear hS hb hr
      go_enter Tryz.func30, Tryz.ntmps30
      go_wp2_with fail
      refine HS.out.mono ?_
      rintro e w2 ⟨v', rfl, ho2, hb2⟩
      have HB2 : Hid (Below w.heap.size w w2) := hb2
      obtain ⟨o, c, rfl⟩ := own_form ho2
      have HO : Hid (w2.ownsRow w.heap.size 30 3 (.slice o set.length c) set.length (cellsOf set)) := ho2
      clear hb2 ho2 HS
      go_wp2_with fail
      go_loopw [8, 9] (fun t8 t9 wr => ∃ (q : Nat) (V : ByteArray), q ≤ set.length ∧ t9 = .int .i64 q ∧ t8 = .string V ∧ V.toList = printT (set.take q) ∧ V.size ≤ q * 1000 ∧ Below w2.heap.size w2 wr) (fun t8 t9 wr => set.length - (intOf t9).toNat)
      case atStart => exact ⟨0, ⟨#[]⟩, Nat.zero_le _, rfl, rfl, by simp [printT], Nat.zero_le _, Below.refl _ w2⟩
      case round =>
        obtain ⟨q, V, hq, rfl, rfl, hV, hVs, hb⟩ := hrel
        have HB : Hid (Below w2.heap.size w2 wr) := hb
        have HVV : Hid (V.toList = printT (set.take q)) := hV
        clear hb hV
        by_cases hlt : q < set.length
        · obtain ⟨g, cap, hv, _, hgl⟩ := HO.out.form (by omega)
          cases hv
          obtain ⟨x, hx⟩ : ∃ x, set[q]? = some x := ⟨_, List.getElem?_eq_getElem hlt⟩
          obtain ⟨q0, q1, q2⟩ := ((own_lies HO.out).below hgl HB.out) q x hx
          have HST : Hid (printT (set.take (q + 1)) = printT (set.take q) ++ lineT x) := printT_step hx
          obtain ⟨Y1, k1⟩ : ∃ V : ByteArray, V = ⟨x.s.toArray⟩ := ⟨_, rfl⟩
          obtain ⟨Y2, k2⟩ : ∃ V : ByteArray, V = ⟨x.p.toArray⟩ := ⟨_, rfl⟩
          obtain ⟨Y3, k3⟩ : ∃ V : ByteArray, V = ⟨x.o.toArray⟩ := ⟨_, rfl⟩
          have q0' : wr.cell? ⟨g, q * 3, none⟩ = some (.string Y1) := by rw [k1]; exact q0
          have q1' : wr.cell? ⟨g, q * 3 + 1, none⟩ = some (.string Y2) := by rw [k2]; exact q1
          have q2' : wr.cell? ⟨g, q * 3 + 2, none⟩ = some (.string Y3) := by rw [k3]; exact q2
          have HK : Hid (lineT x = Y1.toList ++ [32] ++ Y2.toList ++ [32] ++ Y3.toList ++ [32, 46, 10]) := by unfold Hid lineT; rw [k1, k2, k3]; simp only [ByteArray.toList_mk]
          have hsh := HSh.out x (List.mem_of_getElem? hx)
          clear q0 q1 q2 hx
          have y1 : Y1.size ≤ 200 := by rw [k1]; simpa [ByteArray.size] using hsh.1
          have y2 : Y2.size ≤ 200 := by rw [k2]; simpa [ByteArray.size] using hsh.2.1
          have y3 : Y3.size ≤ 200 := by rw [k3]; simpa [ByteArray.size] using hsh.2.2
          clear k1 k2 k3 hsh
          have b3 := HB.out
          have mixed : Tryz.prog.follows Departure.mixedOrders = true := by kernel_rfl
          obtain ⟨C1, hC1⟩ : ∃ C : ByteArray, C = V ++ Y1 := ⟨_, rfl⟩
          have nC1 : C1.size = V.size + (Y1 : ByteArray).size := by rw [hC1]; exact ByteArray.size_append
          have eC1 : ∀ w, (Op.stringOp .add V Y1).run Tryz.prog w = .ok (.string C1) w := fun w => by
            rw [hC1]
            have s32 : (⟨#[32]⟩ : ByteArray).size = 1 := rfl
            have s3 : (⟨#[32, 46, 10]⟩ : ByteArray).size = 3 := rfl
            exact run_string_add w V Y1 (by omega) (by omega)
          have sC1 : C1.size ≤ q * 1000 + 700 := by
            have s32 : (⟨#[32]⟩ : ByteArray).size = 1 := rfl
            have s3 : (⟨#[32, 46, 10]⟩ : ByteArray).size = 3 := rfl
            omega
          obtain ⟨C2, hC2⟩ : ∃ C : ByteArray, C = C1 ++ ⟨#[32]⟩ := ⟨_, rfl⟩
          have nC2 : C2.size = C1.size + (⟨#[32]⟩ : ByteArray).size := by rw [hC2]; exact ByteArray.size_append
          have eC2 : ∀ w, (Op.stringOp .add C1 ⟨#[32]⟩).run Tryz.prog w = .ok (.string C2) w := fun w => by
            rw [hC2]
            have s32 : (⟨#[32]⟩ : ByteArray).size = 1 := rfl
            have s3 : (⟨#[32, 46, 10]⟩ : ByteArray).size = 3 := rfl
            exact run_string_add w C1 ⟨#[32]⟩ (by omega) (by omega)
          have sC2 : C2.size ≤ q * 1000 + 700 := by
            have s32 : (⟨#[32]⟩ : ByteArray).size = 1 := rfl
            have s3 : (⟨#[32, 46, 10]⟩ : ByteArray).size = 3 := rfl
            omega
          obtain ⟨C3, hC3⟩ : ∃ C : ByteArray, C = C2 ++ Y2 := ⟨_, rfl⟩
          have nC3 : C3.size = C2.size + (Y2 : ByteArray).size := by rw [hC3]; exact ByteArray.size_append
          have eC3 : ∀ w, (Op.stringOp .add C2 Y2).run Tryz.prog w = .ok (.string C3) w := fun w => by
            rw [hC3]
            have s32 : (⟨#[32]⟩ : ByteArray).size = 1 := rfl
            have s3 : (⟨#[32, 46, 10]⟩ : ByteArray).size = 3 := rfl
            exact run_string_add w C2 Y2 (by omega) (by omega)
          have sC3 : C3.size ≤ q * 1000 + 700 := by
            have s32 : (⟨#[32]⟩ : ByteArray).size = 1 := rfl
            have s3 : (⟨#[32, 46, 10]⟩ : ByteArray).size = 3 := rfl
            omega
          obtain ⟨C4, hC4⟩ : ∃ C : ByteArray, C = C3 ++ ⟨#[32]⟩ := ⟨_, rfl⟩
          have nC4 : C4.size = C3.size + (⟨#[32]⟩ : ByteArray).size := by rw [hC4]; exact ByteArray.size_append
          have eC4 : ∀ w, (Op.stringOp .add C3 ⟨#[32]⟩).run Tryz.prog w = .ok (.string C4) w := fun w => by
            rw [hC4]
            have s32 : (⟨#[32]⟩ : ByteArray).size = 1 := rfl
            have s3 : (⟨#[32, 46, 10]⟩ : ByteArray).size = 3 := rfl
            exact run_string_add w C3 ⟨#[32]⟩ (by omega) (by omega)
          have sC4 : C4.size ≤ q * 1000 + 700 := by
            have s32 : (⟨#[32]⟩ : ByteArray).size = 1 := rfl
            have s3 : (⟨#[32, 46, 10]⟩ : ByteArray).size = 3 := rfl
            omega
          obtain ⟨C5, hC5⟩ : ∃ C : ByteArray, C = C4 ++ Y3 := ⟨_, rfl⟩
          have nC5 : C5.size = C4.size + (Y3 : ByteArray).size := by rw [hC5]; exact ByteArray.size_append
          have eC5 : ∀ w, (Op.stringOp .add C4 Y3).run Tryz.prog w = .ok (.string C5) w := fun w => by
            rw [hC5]
            have s32 : (⟨#[32]⟩ : ByteArray).size = 1 := rfl
            have s3 : (⟨#[32, 46, 10]⟩ : ByteArray).size = 3 := rfl
            exact run_string_add w C4 Y3 (by omega) (by omega)
          have sC5 : C5.size ≤ q * 1000 + 700 := by
            have s32 : (⟨#[32]⟩ : ByteArray).size = 1 := rfl
            have s3 : (⟨#[32, 46, 10]⟩ : ByteArray).size = 3 := rfl
            omega
          obtain ⟨C6, hC6⟩ : ∃ C : ByteArray, C = C5 ++ ⟨#[32, 46, 10]⟩ := ⟨_, rfl⟩
          have nC6 : C6.size = C5.size + (⟨#[32, 46, 10]⟩ : ByteArray).size := by rw [hC6]; exact ByteArray.size_append
          have eC6 : ∀ w, (Op.stringOp .add C5 ⟨#[32, 46, 10]⟩).run Tryz.prog w = .ok (.string C6) w := fun w => by
            rw [hC6]
            have s32 : (⟨#[32]⟩ : ByteArray).size = 1 := rfl
            have s3 : (⟨#[32, 46, 10]⟩ : ByteArray).size = 3 := rfl
            exact run_string_add w C5 ⟨#[32, 46, 10]⟩ (by omega) (by omega)
          have sC6 : C6.size ≤ q * 1000 + 700 := by
            have s32 : (⟨#[32]⟩ : ByteArray).size = 1 := rfl
            have s3 : (⟨#[32, 46, 10]⟩ : ByteArray).size = 3 := rfl
            omega
          have HC : Hid (C6.toList = printT (set.take (q + 1)) ∧ C6.size ≤ (q + 1) * 1000) := by
            refine ⟨?_, by omega⟩
            rw [HST.out, HK.out, ← HVV.out, hC6, hC5, hC4, hC3, hC2, hC1]
            simp [catL, ByteArray.toList_mk]
          clear hC1 hC2 hC3 hC4 hC5 hC6 nC1 nC2 nC3 nC4 nC5 nC6 sC1 sC2 sC3 sC4 sC5 sC6 HST HK y1 y2 y3
          go_wp2_with fail
          go_region_held3 (fun w' => w'.cell? ⟨g, q * 3, none⟩ = some (.string Y1) ∧ w'.cell? ⟨g, q * 3 + 1, none⟩ = some (.string Y2) ∧ w'.cell? ⟨g, q * 3 + 2, none⟩ = some (.string Y3) ∧ Below w2.heap.size w2 w') (first | assumption | exact ⟨q0', q1', q2', b3⟩ | exact ⟨q0', q1', q2', b3.drew⟩) (fail)
          all_goals go_wp2_with fail
          all_goals go_roundw
          case rel => exact ⟨q + 1, C6, by omega, by go_num, rfl, HC.out.1, HC.out.2, b3.drew⟩
          case measure => simp [intOf]; omega
        · have HQ : Hid (V.toList = printT set) := by unfold Hid; rw [HVV.out, List.take_of_length_le (by omega)]
          go_wp2_with fail
          exact bodyPost_ret (v := .tuple #[.string V, .int .i64 0, .int .i64 0]) (by simp [results, Tryz.results30, go_sem]) rfl (HE.out V wr HQ.out (HB2.out.trans (HB.out.mono HB2.out.size)))

end Go.Proofs.YtnffjoipinhojaaGreatDoor

namespace Go.Proofs.YtnffjoipinhojaaGreatDoor
open Go.RowKit

set_option maxHeartbeats 4000000 in
set_option maxRecDepth 20000 in
/-- lines.Print of a set -/
theorem print_some (w : World) (v : Value) (l set : List Tri) (hb : badAt 0 l = none) (hr : rise [] l = some set) (hS : Calls Tryz.prog 56 #[v] w (SoP w l)) :
    Calls Tryz.prog 29 #[v] w (PrV w l) := by
  have hlen := rise_len (by simp) hr
  have HSh : Hid (∀ x ∈ set, ShortT x) := short_set hb hr
  have HS : Hid (Calls Tryz.prog 56 #[v] w fun e w' => ∃ v', e = .returned (.tuple #[v', .nilIface]) ∧ w'.ownsRow w.heap.size 33 3 v' set.length (cellsOf set) ∧ Below w.heap.size w w') := hS.mono fun e w' h => by unfold SoP at h; rw [hb, hr] at h; exact h
  have HE : Hid (∀ (V : ByteArray) w', V.toList = printT set → Below w.heap.size w w' → PrV w l (.returned (.tuple #[.string V, .int .i64 0, .int .i64 0])) w') := fun V w' h1 h2 => by
    unfold PrV
    rw [hb, hr]
    exact ⟨⟨V, h1, rfl⟩, h2⟩
  clear hS hb hr
  go_enter Tryz.func29, Tryz.ntmps29
  go_wp2_with fail
  refine HS.out.mono ?_
  rintro e w2 ⟨v', rfl, ho2, hb2⟩
  have HB2 : Hid (Below w.heap.size w w2) := hb2
  obtain ⟨o, c, rfl⟩ := own_form ho2
  have HO : Hid (w2.ownsRow w.heap.size 33 3 (.slice o set.length c) set.length (cellsOf set)) := ho2
  clear hb2 ho2 HS
  go_wp2_with fail
  have HF0 : Hid (Bu w2.heap.size w2.heap.size [] (w2.alloc (Obj.cells #[Value.pointer none, Value.slice none 0 0] 100))) := Bu.fresh w2
  have HL0 : Hid (Below w2.heap.size w2 (w2.alloc (Obj.cells #[Value.pointer none, Value.slice none 0 0] 100))) := (Below.refl _ w2).alloc (Nat.le_refl _) _
  go_loopw [23] (fun t23 wr => ∃ q : Nat, q ≤ set.length ∧ t23 = .int .i64 q ∧ (printT (set.take q)).length ≤ q * 1000 ∧ Bu w2.heap.size w2.heap.size (printT (set.take q)) wr ∧ Below w2.heap.size w2 wr) (fun t23 wr => set.length - (intOf t23).toNat)
  case atStart => exact ⟨0, Nat.zero_le _, rfl, by simp [printT], HF0.out, HL0.out⟩
  case round =>
    obtain ⟨q, hq, rfl, hpl, hbu, hb⟩ := hrel
    have HB : Hid (Below w2.heap.size w2 wr) := hb
    have HU : Hid (Bu w2.heap.size w2.heap.size (printT (set.take q)) wr) := hbu
    clear hb hbu
    by_cases hlt : q < set.length
    · obtain ⟨g, cap, hv, _, hgl⟩ := HO.out.form (by omega)
      cases hv
      obtain ⟨x, hx⟩ : ∃ x, set[q]? = some x := ⟨_, List.getElem?_eq_getElem hlt⟩
      obtain ⟨q0, q1, q2⟩ := ((own_lies HO.out).below hgl HB.out) q x hx
      have HST : Hid (printT (set.take (q + 1)) = printT (set.take q) ++ lineT x) := printT_step hx
      obtain ⟨Y1, k1⟩ : ∃ V : ByteArray, V = ⟨x.s.toArray⟩ := ⟨_, rfl⟩
      obtain ⟨Y2, k2⟩ : ∃ V : ByteArray, V = ⟨x.p.toArray⟩ := ⟨_, rfl⟩
      obtain ⟨Y3, k3⟩ : ∃ V : ByteArray, V = ⟨x.o.toArray⟩ := ⟨_, rfl⟩
      have q0' : wr.cell? ⟨g, q * 3, none⟩ = some (.string Y1) := by rw [k1]; exact q0
      have q1' : wr.cell? ⟨g, q * 3 + 1, none⟩ = some (.string Y2) := by rw [k2]; exact q1
      have q2' : wr.cell? ⟨g, q * 3 + 2, none⟩ = some (.string Y3) := by rw [k3]; exact q2
      have HK : Hid (lineT x = Y1.toList ++ [32] ++ Y2.toList ++ [32] ++ Y3.toList ++ [32, 46, 10]) := by unfold Hid lineT; rw [k1, k2, k3]; simp only [ByteArray.toList_mk]
      have hsh := HSh.out x (List.mem_of_getElem? hx)
      clear q0 q1 q2 hx
      have y1 : Y1.size ≤ 200 := by rw [k1]; simpa [ByteArray.size] using hsh.1
      have y2 : Y2.size ≤ 200 := by rw [k2]; simpa [ByteArray.size] using hsh.2.1
      have y3 : Y3.size ≤ 200 := by rw [k3]; simpa [ByteArray.size] using hsh.2.2
      clear k1 k2 k3 hsh
      obtain ⟨C2, hC2⟩ : ∃ C : ByteArray, C = Y1 ++ ⟨#[32]⟩ := ⟨_, rfl⟩
      have nC2 : C2.size = Y1.size + (⟨#[32]⟩ : ByteArray).size := by rw [hC2]; exact ByteArray.size_append
      have eC2 : ∀ w, (Op.stringOp .add Y1 ⟨#[32]⟩).run Tryz.prog w = .ok (.string C2) w := fun w => by
        rw [hC2]
        have s32 : (⟨#[32]⟩ : ByteArray).size = 1 := rfl
        have s3 : (⟨#[32, 46, 10]⟩ : ByteArray).size = 3 := rfl
        exact run_string_add w Y1 ⟨#[32]⟩ (by omega) (by omega)
      have sC2 : C2.size ≤ 700 := by
        have s32 : (⟨#[32]⟩ : ByteArray).size = 1 := rfl
        have s3 : (⟨#[32, 46, 10]⟩ : ByteArray).size = 3 := rfl
        omega
      obtain ⟨C3, hC3⟩ : ∃ C : ByteArray, C = C2 ++ Y2 := ⟨_, rfl⟩
      have nC3 : C3.size = C2.size + (Y2 : ByteArray).size := by rw [hC3]; exact ByteArray.size_append
      have eC3 : ∀ w, (Op.stringOp .add C2 Y2).run Tryz.prog w = .ok (.string C3) w := fun w => by
        rw [hC3]
        have s32 : (⟨#[32]⟩ : ByteArray).size = 1 := rfl
        have s3 : (⟨#[32, 46, 10]⟩ : ByteArray).size = 3 := rfl
        exact run_string_add w C2 Y2 (by omega) (by omega)
      have sC3 : C3.size ≤ 700 := by
        have s32 : (⟨#[32]⟩ : ByteArray).size = 1 := rfl
        have s3 : (⟨#[32, 46, 10]⟩ : ByteArray).size = 3 := rfl
        omega
      obtain ⟨C4, hC4⟩ : ∃ C : ByteArray, C = C3 ++ ⟨#[32]⟩ := ⟨_, rfl⟩
      have nC4 : C4.size = C3.size + (⟨#[32]⟩ : ByteArray).size := by rw [hC4]; exact ByteArray.size_append
      have eC4 : ∀ w, (Op.stringOp .add C3 ⟨#[32]⟩).run Tryz.prog w = .ok (.string C4) w := fun w => by
        rw [hC4]
        have s32 : (⟨#[32]⟩ : ByteArray).size = 1 := rfl
        have s3 : (⟨#[32, 46, 10]⟩ : ByteArray).size = 3 := rfl
        exact run_string_add w C3 ⟨#[32]⟩ (by omega) (by omega)
      have sC4 : C4.size ≤ 700 := by
        have s32 : (⟨#[32]⟩ : ByteArray).size = 1 := rfl
        have s3 : (⟨#[32, 46, 10]⟩ : ByteArray).size = 3 := rfl
        omega
      obtain ⟨C5, hC5⟩ : ∃ C : ByteArray, C = C4 ++ Y3 := ⟨_, rfl⟩
      have nC5 : C5.size = C4.size + (Y3 : ByteArray).size := by rw [hC5]; exact ByteArray.size_append
      have eC5 : ∀ w, (Op.stringOp .add C4 Y3).run Tryz.prog w = .ok (.string C5) w := fun w => by
        rw [hC5]
        have s32 : (⟨#[32]⟩ : ByteArray).size = 1 := rfl
        have s3 : (⟨#[32, 46, 10]⟩ : ByteArray).size = 3 := rfl
        exact run_string_add w C4 Y3 (by omega) (by omega)
      have sC5 : C5.size ≤ 700 := by
        have s32 : (⟨#[32]⟩ : ByteArray).size = 1 := rfl
        have s3 : (⟨#[32, 46, 10]⟩ : ByteArray).size = 3 := rfl
        omega
      obtain ⟨C6, hC6⟩ : ∃ C : ByteArray, C = C5 ++ ⟨#[32, 46, 10]⟩ := ⟨_, rfl⟩
      have nC6 : C6.size = C5.size + (⟨#[32, 46, 10]⟩ : ByteArray).size := by rw [hC6]; exact ByteArray.size_append
      have eC6 : ∀ w, (Op.stringOp .add C5 ⟨#[32, 46, 10]⟩).run Tryz.prog w = .ok (.string C6) w := fun w => by
        rw [hC6]
        have s32 : (⟨#[32]⟩ : ByteArray).size = 1 := rfl
        have s3 : (⟨#[32, 46, 10]⟩ : ByteArray).size = 3 := rfl
        exact run_string_add w C5 ⟨#[32, 46, 10]⟩ (by omega) (by omega)
      have sC6 : C6.size ≤ 700 := by
        have s32 : (⟨#[32]⟩ : ByteArray).size = 1 := rfl
        have s3 : (⟨#[32, 46, 10]⟩ : ByteArray).size = 3 := rfl
        omega
      have hcl : C6.toList = lineT x := by
        rw [HK.out, hC6, hC5, hC4, hC3, hC2]
        simp [catL, ByteArray.toList_mk]
      have hcd : C6.data.toList = lineT x := by rw [← hcl]; obtain ⟨a⟩ := C6; rw [ByteArray.toList_mk]
      have hll : (lineT x).length = C6.size := by rw [← hcd]; exact Array.length_toList
      have HC : Hid ((printT (set.take (q + 1))).length ≤ (q + 1) * 1000) := by
        unfold Hid
        rw [HST.out, List.length_append, hll]
        omega
      have HWs : Hid (Calls Tryz.prog 58 #[.pointer (some ⟨w2.heap.size, 0, none⟩), .string C6] (wr.alloc (.cells #[.string Y1, .string Y2, .string Y3] 33)) fun e w' => (∃ n, e = .returned (.tuple #[.int .i64 n, .nilIface])) ∧ Bu w2.heap.size w2.heap.size (printT (set.take (q + 1))) w' ∧ Below w2.heap.size w2 w') := by
        have hba := HB.out.alloc HB.out.size (.cells #[.string Y1, .string Y2, .string Y3] 33)
        refine (wstring_any _ w2.heap.size w2.heap.size (printT (set.take q)) C6 (HU.out.kept fun k _ hlt => Below.heap_alloc _ _ _ hlt) (by omega) hba.size).mono ?_
        rintro e w' ⟨h1, h2, h3⟩
        refine ⟨h1, ?_, hba.trans h3⟩
        rw [HST.out, ← hcd]
        exact h2
      obtain ⟨e0, e1, e2, e3⟩ := KS.mk wr Y1 Y2 Y3 33
      clear hcl hcd hll hC2 hC3 hC4 hC5 hC6 nC2 nC3 nC4 nC5 nC6 sC2 sC3 sC4 sC5 sC6 HST HK y1 y2 y3 hpl HU
      go_wp2_with fail
      refine HWs.out.mono ?_
      rintro e w3 ⟨⟨n, rfl⟩, hu3, hb3⟩
      have HU3 : Hid (Bu w2.heap.size w2.heap.size (printT (set.take (q + 1))) w3) := hu3
      have HB3 : Hid (Below w2.heap.size w2 w3) := hb3
      clear hu3 hb3 e0 e1 e2 e3 q0' q1' q2' HWs eC2 eC3 eC4 eC5 eC6
      go_wp2_with fail
      go_roundw
      case rel => exact ⟨q + 1, by omega, by go_num, HC.out, HU3.out, HB3.out⟩
      case measure => simp [intOf]; omega
    · have HQ : Hid (Bu w2.heap.size w2.heap.size (printT set) wr) := by
        have := HU.out
        rw [List.take_of_length_le (by omega)] at this
        exact this
      have HSt : Hid (Calls Tryz.prog 59 #[.pointer (some ⟨w2.heap.size, 0, none⟩)] wr fun e w' => e = .returned (.string ⟨(printT set).toArray⟩) ∧ Below w2.heap.size wr w') := bstring_any wr _ _ _ HQ.out HB.out.size
      obtain ⟨V, hV⟩ : ∃ V : ByteArray, V = ⟨(printT set).toArray⟩ := ⟨_, rfl⟩
      rw [← hV] at HSt
      have HVl : Hid (V.toList = printT set) := by unfold Hid; rw [hV, ByteArray.toList_mk]
      clear hV HU
      go_wp2_with fail
      refine HSt.out.mono ?_
      rintro e w3 ⟨rfl, hb3⟩
      have HB3 : Hid (Below w2.heap.size w2 w3) := HB.out.trans hb3
      clear hb3 HSt
      go_wp2_with fail
      exact bodyPost_ret (v := .tuple #[.string V, .int .i64 0, .int .i64 0]) (by simp [results, Tryz.results29, go_sem]) rfl (HE.out V w3 HVl.out (HB2.out.trans (HB3.out.mono HB2.out.size)))

end Go.Proofs.YtnffjoipinhojaaGreatDoor

namespace Go.Proofs.YtnffjoipinhojaaGreatDoor
open Go.RowKit

set_option maxHeartbeats 4000000 in
set_option maxRecDepth 20000 in
/-- lines.Print, of what setOf answers -/
theorem print_of (w : World) (v : Value) (l : List Tri) (hS : Calls Tryz.prog 56 #[v] w (SoP w l)) (hH : Handle w) :
    Calls Tryz.prog 29 #[v] w (PrV w l) := by
  have HH : Hid (∀ w', Below w.heap.size w w' → Handle w') := fun w' hb => hH.below hb
  cases hb : badAt 0 l with
  | some i =>
    have HS : Hid (Calls Tryz.prog 56 #[v] w fun e w' => e = .returned (.tuple #[.slice none 0 0, .iface 126 (.agg #[.int .i64 i, .iface 122 (.agg #[.int .i64 4])])]) ∧ Below w.heap.size w w') := hS.mono fun e w' h => by unfold SoP at h; rw [hb] at h; exact h
    have HV : Hid (badAt 0 l = some i) := hb
    clear hS hH hb
    go_enter Tryz.func29, Tryz.ntmps29
    go_wp2_with fail
    refine HS.out.mono ?_
    rintro e w2 ⟨rfl, hb2⟩
    have HB2 : Hid (Below w.heap.size w w2) := hb2
    have HN := number_placed i 4 w2 (HH.out w2 hb2)
    clear hb2
    go_wp2_with fail
    refine HN.mono ?_
    rintro e w3 ⟨rfl, hb3⟩
    have HB3 : Hid (Below w.heap.size w w3) := HB2.out.trans (hb3.mono HB2.out.size)
    have HPl := place_placed i 4 w3 (HH.out w3 HB3.out)
    clear hb3 HN
    go_wp2_with fail
    refine HPl.mono ?_
    rintro e w4 ⟨rfl, hb4⟩
    have HB4 : Hid (Below w.heap.size w w4) := HB3.out.trans (hb4.mono HB3.out.size)
    clear hb4 HPl
    go_wp2_with fail
    refine bodyPost_ret (v := .tuple #[.string ⟨#[]⟩, .int .i64 4, .int .i64 i]) (by simp [results, Tryz.results29, go_sem]) rfl ?_
    show PrV w l _ _
    unfold PrV
    rw [HV.out]
    exact ⟨rfl, HB4.out⟩
  | none =>
    cases hr : rise [] l with
    | none =>
      have HS : Hid (Calls Tryz.prog 56 #[v] w fun e w' => e = .returned (.tuple #[.slice none 0 0, .iface 122 (.agg #[.int .i64 10])]) ∧ Below w.heap.size w w') := hS.mono fun e w' h => by unfold SoP at h; rw [hb, hr] at h; exact h
      have HV : Hid (badAt 0 l = none) := hb
      have HW : Hid (rise [] l = none) := hr
      clear hS hH hb hr
      go_enter Tryz.func29, Tryz.ntmps29
      go_wp2_with fail
      refine HS.out.mono ?_
      rintro e w2 ⟨rfl, hb2⟩
      have HB2 : Hid (Below w.heap.size w w2) := hb2
      have HN := number_any 10 w2 (HH.out w2 hb2)
      clear hb2
      go_wp2_with fail
      refine HN.mono ?_
      rintro e w3 ⟨rfl, hb3⟩
      have HB3 : Hid (Below w.heap.size w w3) := HB2.out.trans (hb3.mono HB2.out.size)
      have HPl := place_refusal 10 w3 (HH.out w3 HB3.out)
      clear hb3 HN
      go_wp2_with fail
      refine HPl.mono ?_
      rintro e w4 ⟨rfl, hb4⟩
      have HB4 : Hid (Below w.heap.size w w4) := HB3.out.trans (hb4.mono HB3.out.size)
      clear hb4 HPl
      go_wp2_with fail
      refine bodyPost_ret (v := .tuple #[.string ⟨#[]⟩, .int .i64 10, .int .i64 0]) (by simp [results, Tryz.results29, go_sem]) rfl ?_
      show PrV w l _ _
      unfold PrV
      rw [HV.out, HW.out]
      exact ⟨rfl, HB4.out⟩
    | some set => exact print_some w v l set hb hr hS

end Go.Proofs.YtnffjoipinhojaaGreatDoor

namespace Go.Proofs.YtnffjoipinhojaaGreatDoor
open Go.RowKit

set_option maxHeartbeats 4000000 in
set_option maxRecDepth 20000 in
theorem triples_nil (w : World) : Calls Tryz.prog 26 #[.slice none 0 0] w fun e w' => ∃ v, e = .returned v ∧ w'.ownsRow w.heap.size 33 3 v ([] : List Tri).length (cellsOf []) ∧ Below w.heap.size w w' := by
  have HN0 : Hid (w.ownsRow w.heap.size 33 3 (.slice none 0 0) 0 []) := own_nil w _ _
  go_enter Tryz.func26, Tryz.ntmps26
  go_wp2_with fail
  go_loopw [3, 4] (fun t3 t4 wr => t3 = .slice none 0 0 ∧ t4 = .int .i64 0 ∧ wr = w) (fun t3 t4 wr => 0)
  case atStart => exact ⟨rfl, rfl, rfl⟩
  case round =>
    obtain ⟨rfl, rfl, rfl⟩ := hrel
    go_wp2_with fail
    go_ret
    exact ⟨_, rfl, HN0.out, Below.refl _ _⟩

set_option maxHeartbeats 4000000 in
set_option maxRecDepth 20000 in
theorem setOf_nil (w : World) : Calls Tryz.prog 56 #[.slice none 0 0] w (SoP w []) := by
  have HR : Hid (Calls Tryz.prog 52 #[.slice none 0 0] w fun e w' => ∃ v1, e = .returned (.tuple #[v1, .nilIface]) ∧ SoP w [] (.returned (.tuple #[v1, .nilIface])) w') := (rising_nil w).mono fun e w' h => by
    obtain ⟨v', rfl, h2, h3⟩ := h
    exact ⟨v', rfl, ⟨v', rfl, h2, h3⟩⟩
  go_enter Tryz.func56, Tryz.ntmps56
  go_wp2_with fail
  go_loopw [8] (fun t8 wr => t8 = .int .i64 0 ∧ wr = w) (fun t8 wr => 0)
  case atStart => exact ⟨rfl, rfl⟩
  case round =>
    obtain ⟨rfl, rfl⟩ := hrel
    go_wp2_with fail
    refine HR.out.mono ?_
    rintro e w3 ⟨v1, rfl, hs⟩
    have HSS : Hid (SoP wr [] (.returned (.tuple #[v1, .nilIface])) w3) := hs
    clear hs
    go_wp2_with fail
    exact bodyPost_ret (v := .tuple #[v1, .nilIface]) (by simp [results, Tryz.results56, go_sem]) rfl HSS.out

set_option maxHeartbeats 4000000 in
set_option maxRecDepth 20000 in
theorem Ref.set_nil (w : World) : Calls Tryz.prog 28 #[.slice none 0 0] w (SeV w 30 []) := by
  have HN0 : Hid (SeV w 30 [] (.returned (.tuple #[.slice none 0 0, .int .i64 0, .int .i64 0])) w) := ⟨_, rfl, own_nil w _ _, Below.refl _ w⟩
  go_enter Tryz.func28, Tryz.ntmps28
  go_wp2_with fail
  go_loopw [5] (fun t5 wr => t5 = .int .i64 0 ∧ wr = w) (fun t5 wr => 0)
  case atStart => exact ⟨rfl, rfl⟩
  case round =>
    obtain ⟨rfl, rfl⟩ := hrel
    go_wp2_with fail
    go_loopw [7, 8] (fun t7 t8 wr' => t7 = .slice none 0 0 ∧ t8 = .int .i64 0 ∧ wr' = wr) (fun t7 t8 wr' => 0)
    case atStart => exact ⟨rfl, rfl, rfl⟩
    case round =>
      obtain ⟨rfl, rfl, rfl⟩ := hrel
      go_wp2_with fail
      exact bodyPost_ret (v := .tuple #[.slice none 0 0, .int .i64 0, .int .i64 0]) (by simp [results, Tryz.results28, go_sem]) rfl HN0.out

end Go.Proofs.YtnffjoipinhojaaGreatDoor

namespace Go.Proofs.YtnffjoipinhojaaGreatDoor
open Go.RowKit

/-- what rise answers rises -/
theorem rise_rises : ∀ {ts acc set : List Tri}, Rising acc → rise acc ts = some set → Rising set
  | [], acc, set, h, e => by
    rw [rise] at e
    cases e
    exact h
  | t :: r, acc, set, h, e => by
    rw [rise] at e
    split at e
    · exact rise_rises h e
    · rename_i ht
      split at e
      · cases e
      · exact rise_rises (ins_rising h (fun x => ht (thereB_iff.2 x))) e

/-- a list that rises is its own set -/
theorem rise_self : ∀ (ts acc : List Tri), Rising (acc ++ ts) → (acc ++ ts).length ≤ 300 → rise acc ts = some (acc ++ ts)
  | [], acc, _, _ => by rw [rise, List.append_nil]
  | t :: r, acc, h, hn => by
    have hr : Rising acc := by
      unfold Rising at h ⊢
      exact (List.pairwise_append.1 h).1
    have hlt : ∀ x ∈ acc, triCmp x t < 0 := fun x hx => by
      unfold Rising at h
      exact (List.pairwise_append.1 h).2.2 x hx t (List.mem_cons_self ..)
    have hp : posT acc t = acc.length := (posT_eq hr (Nat.le_refl _) (fun k x hk _ => hlt x (List.mem_of_getElem? hk)) (fun k x hk hle => by have := (List.getElem?_eq_some_iff.1 hk).1; omega)).symm
    have hth : thereB acc t = false := by
      unfold thereB
      rw [hp, List.getElem?_eq_none (Nat.le_refl _)]
    have hi : ins acc t = acc ++ [t] := by
      unfold ins
      rw [hp, List.take_length, List.drop_length]
    have e : acc ++ t :: r = (acc ++ [t]) ++ r := by simp
    have hl : acc.length ≠ 300 := by
      simp at hn
      omega
    rw [rise, if_neg (by rw [hth]; simp), if_neg hl, hi, e]
    exact rise_self r (acc ++ [t]) (by rw [← e]; exact h) (by rw [← e]; exact hn)

end Go.Proofs.YtnffjoipinhojaaGreatDoor

namespace Go.Proofs.YtnffjoipinhojaaGreatDoor
namespace Back

/-! What stands in a text in its one form, with a blank behind it, is read there as itself. -/

theorem run_place (p : Int → Bool) (f : Int → Int) (hp : ∀ c, p (f c) = p c) (h32 : p 32 = false) (h256 : p 256 = false) (s s' : ByteArray) : ∀ (k i i' : Nat), i ≤ s.size → (∀ n, i + n < s.size → bt s' (i' + n) = f (bt s (i + n))) → bt s' (i' + (s.size - i)) = 32 → run p s' k i' = run p s k i := by
  intro k
  induction k with
  | zero => intro i i' _ _ _; rfl
  | succ k ih =>
    intro i i' hi h he
    by_cases hlt : i < s.size
    · have h0 := h 0 (by omega)
      simp only [Nat.add_zero] at h0
      simp only [run]
      rw [h0, hp, ih (i + 1) (i' + 1) (by omega) (fun n hn => by have := h (n + 1) (by omega); rw [show i' + 1 + n = i' + (n + 1) by omega, show i + 1 + n = i + (n + 1) by omega]; exact this) (by rw [show i' + 1 + (s.size - (i + 1)) = i' + (s.size - i) by omega]; exact he)]
    · have e : s.size - i = 0 := by omega
      rw [e, Nat.add_zero] at he
      simp only [run]
      rw [he, h32, bt_end (s := s) (by omega), h256]
      rfl

theorem langTail_place (s s' : ByteArray) : ∀ (n i i' : Nat), s.size - i < n → i ≤ s.size → (∀ n, i + n < s.size → bt s' (i' + n) = lowI (bt s (i + n))) → bt s' (i' + (s.size - i)) = 32 → langTail s i = .ok () s.size → langTail s' i' = .ok () (i' + (s.size - i)) := by
  intro n
  induction n with
  | zero => intro i i' h; omega
  | succ n ih =>
    intro i i' hn hi h he hl
    rw [langTail] at hl ⊢
    split at hl
    · rename_i hd
      have hin := bt_in hd (by omega)
      have h0 := h 0 (by omega)
      simp only [Nat.add_zero] at h0
      rw [dif_pos (by rw [h0, dash_low]; exact hd)]
      have h1 : ∀ n, i + 1 + n < s.size → bt s' (i' + 1 + n) = lowI (bt s (i + 1 + n)) := fun n hn => by have := h (n + 1) (by omega); rw [show i' + 1 + n = i' + (n + 1) by omega, show i + 1 + n = i + (n + 1) by omega]; exact this
      have he1 : bt s' (i' + 1 + (s.size - (i + 1))) = 32 := by rw [show i' + 1 + (s.size - (i + 1)) = i' + (s.size - i) by omega]; exact he
      rw [run_place alnum lowI alnum_low (by decide) (by decide) s s' 8 (i + 1) (i' + 1) (by omega) h1 he1]
      split at hl
      · cases hl
      · rename_i hr
        rw [if_neg hr]
        have hle := (run_le alnum (fun c hc => by have := alnum_lt hc; omega) s 8 (i + 1)).2
        have hle2 : i + 1 + run alnum s 8 (i + 1) ≤ s.size := by omega
        rw [ih (i + 1 + run alnum s 8 (i + 1)) (i' + 1 + run alnum s 8 (i + 1)) (by omega) hle2 (fun n hn => by
          have := h1 (run alnum s 8 (i + 1) + n) (by omega)
          rw [← Nat.add_assoc, ← Nat.add_assoc] at this
          exact this) (by rw [show i' + 1 + run alnum s 8 (i + 1) + (s.size - (i + 1 + run alnum s 8 (i + 1))) = i' + (s.size - i) by omega]; exact he) hl]
        exact congrArg (R.ok _) (by omega)
    · simp only [R.ok.injEq, true_and] at hl
      have e : s.size - i = 0 := by omega
      rw [e, Nat.add_zero] at he ⊢
      rw [dif_neg (by rw [he]; decide)]
      rfl

theorem language_place {s s' : ByteArray} {i i' : Nat} (hi : i ≤ s.size) (h : ∀ n, i + n < s.size → bt s' (i' + n) = lowI (bt s (i + n))) (he : bt s' (i' + (s.size - i)) = 32) (hl : language s i = .ok () s.size) : language s' i' = .ok () (i' + (s.size - i)) := by
  unfold language at hl ⊢
  rw [run_place letter lowI letter_low (by decide) (by decide) s s' 8 i i' hi h he]
  split at hl
  · cases hl
  · rename_i hr
    rw [if_neg hr]
    have hle := (run_le letter (fun c hc => by have := letter_lt hc; omega) s 8 i).2
    have hle2 : i + run letter s 8 i ≤ s.size := by omega
    rw [langTail_place s s' (s.size - (i + run letter s 8 i) + 1) (i + run letter s 8 i) (i' + run letter s 8 i) (by omega) hle2 (fun n hn => by
      have := h (run letter s 8 i + n) (by omega)
      rw [← Nat.add_assoc, ← Nat.add_assoc] at this
      exact this) (by rw [show i' + run letter s 8 i + (s.size - (i + run letter s 8 i)) = i' + (s.size - i) by omega]; exact he) hl]
    exact congrArg (R.ok _) (by omega)

theorem at_mid {pre a post : List UInt8} {n : Nat} {x : UInt8} (h : a[n]? = some x) : bt (arr (pre ++ (a ++ post))) (pre.length + n) = (x.toNat : Int) := by
  apply bt_arr
  have := (List.getElem?_eq_some_iff.1 h).1
  rw [List.getElem?_append_right (by omega), Nat.add_sub_cancel_left, List.getElem?_append_left this]
  exact h

theorem at_end (pre a post : List UInt8) (x : UInt8) : bt (arr (pre ++ (a ++ x :: post))) (pre.length + a.length) = (x.toNat : Int) := by
  have := bt_at (pre ++ a) post x
  rw [List.length_append, List.append_assoc] at this
  exact this

theorem at_same (pre t post : List UInt8) (n : Nat) (h : 0 + n < (arr t).size) : bt (arr (pre ++ (t ++ post))) (pre.length + n) = bt (arr t) (0 + n) := by
  rw [arr_sz, Nat.zero_add] at h
  have hx : t[n]? = some t[n] := List.getElem?_eq_getElem h
  rw [at_mid hx, Nat.zero_add, bt_arr hx]

theorem blank_place {t : List UInt8} (h : blank (arr t) 0 = .ok t t.length) (pre post : List UInt8) :
    blank (arr (pre ++ (t ++ 32 :: post))) pre.length = .ok t (pre.length + t.length) := by
  unfold blank at h
  split at h
  · cases h
  · rename_i h0
    split at h
    · cases h
    · rename_i h1
      split at h
      · cases h
      · rename_i hr
        simp only [R.ok.injEq] at h
        obtain ⟨hs, hl⟩ := h
        have hsz := arr_sz t
        have a0 := at_same pre t (32 :: post) 0 (by omega)
        have a1 := at_same pre t (32 :: post) 1 (by omega)
        simp only [Nat.add_zero] at a0
        have hrun := run_place alnum id (fun _ => rfl) (by decide) (by decide) (arr t) (arr (pre ++ (t ++ 32 :: post))) 20 (0 + 2) (pre.length + 2) (by omega) (fun n hn => by
          have := at_same pre t (32 :: post) (n + 2) (by omega)
          rw [show pre.length + 2 + n = pre.length + (n + 2) by omega, show 0 + 2 + n = 0 + (n + 2) by omega]
          exact this) (by
          have := at_end pre t post 32
          rw [show pre.length + 2 + ((arr t).size - (0 + 2)) = pre.length + t.length by omega]
          exact this)
        unfold blank
        rw [a0, if_neg (by simpa using h0), a1, if_neg h1, hrun, if_neg hr]
        have e : pre.length + 2 + run alnum (arr t) 20 (0 + 2) = pre.length + t.length := by omega
        rw [e, sub_pre]

theorem quoted_place {t : List UInt8} (h : VU t) (pre post : List UInt8) : quoted (arr (pre ++ ([34] ++ (escaped t ++ 34 :: post)))) pre.length = .ok t (pre.length + (1 + (escaped t).length + 1)) := by
  unfold quoted
  rw [if_neg (by have := bt_at pre (escaped t ++ 34 :: post) 34; simp only [List.singleton_append]; rw [this]; decide)]
  have := quoted_back h (pre ++ [34]) post
  rw [List.length_append, List.append_assoc] at this
  simp only [List.length_cons, List.length_nil, Nat.zero_add] at this
  rw [this]
  exact congrArg (R.ok _) (by omega)

theorem behind_quoted (t pre post : List UInt8) (n : Nat) (x : UInt8) (h : post[n]? = some x) : bt (arr (pre ++ ([34] ++ (escaped t ++ 34 :: post)))) (pre.length + (1 + (escaped t).length + 1) + n) = (x.toNat : Int) := by
  have e : pre ++ ([34] ++ (escaped t ++ 34 :: post)) = (pre ++ ([34] ++ (escaped t ++ [34]))) ++ (post ++ []) := by simp
  rw [e]
  have := at_mid (pre := pre ++ ([34] ++ (escaped t ++ [34]))) (post := []) h
  rw [← this]
  congr 1
  simp
  omega

theorem parts_place {s : ByteArray} {p : Lit} (h : parts s 0 = .ok p s.size) (pre post : List UInt8) :
    parts (arr (pre ++ (form p.text p.lang p.kind ++ 32 :: post))) pre.length = .ok (oneParts p) (pre.length + (form p.text p.lang p.kind).length) ∧ (p.lang = [] ∨ p.kind = []) := by
  unfold parts at h
  split at h
  · cases h
  · rename_i t j hq
    have hv := quoted_valid hq
    split at h
    · rename_i h64
      have hin := bt_in h64 (by omega)
      split at h
      · cases h
      · rename_i k hl
        cases h
        have hlt := (language_back [] (by omega) hl).1
        have hsl := sub_len (s := s) (i := j + 1) (j := s.size) (by omega) (Nat.le_refl _)
        have hne : sub s (j + 1) s.size ≠ [] := by intro e; rw [e] at hsl; simp at hsl; omega
        have ef : form t (sub s (j + 1) s.size) [] = [34] ++ (escaped t ++ 34 :: 64 :: Lib.toLowerA (sub s (j + 1) s.size)) := by
          unfold form
          rw [if_pos hne]
          simp [List.append_assoc]
        refine ⟨?_, Or.inr rfl⟩
        simp only
        rw [ef]
        have e0 : pre ++ ([34] ++ (escaped t ++ 34 :: 64 :: Lib.toLowerA (sub s (j + 1) s.size)) ++ 32 :: post) = pre ++ ([34] ++ (escaped t ++ 34 :: (64 :: (Lib.toLowerA (sub s (j + 1) s.size) ++ 32 :: post)))) := by simp
        rw [e0]
        unfold parts
        rw [quoted_place hv.1]
        simp only
        rw [if_pos (by have := behind_quoted t pre (64 :: (Lib.toLowerA (sub s (j + 1) s.size) ++ 32 :: post)) 0 64 rfl; simp only [Nat.add_zero] at this; rw [this]; rfl)]
        have e1 : pre ++ ([34] ++ (escaped t ++ 34 :: (64 :: (Lib.toLowerA (sub s (j + 1) s.size) ++ 32 :: post)))) = (pre ++ ([34] ++ (escaped t ++ [34, 64]))) ++ (Lib.toLowerA (sub s (j + 1) s.size) ++ 32 :: post) := by simp
        have e2 : (pre ++ ([34] ++ (escaped t ++ [34, 64]))).length = pre.length + (1 + (escaped t).length + 1) + 1 := by simp; omega
        rw [e1]
        have hb := language_place (s := s) (s' := arr ((pre ++ ([34] ++ (escaped t ++ [34, 64]))) ++ (Lib.toLowerA (sub s (j + 1) s.size) ++ 32 :: post))) (i := j + 1) (i' := (pre ++ ([34] ++ (escaped t ++ [34, 64]))).length) (by omega) (fun n hn => by
          obtain ⟨x, hx, hb⟩ := sub_get (s := s) (i := j + 1) (j := s.size) hn (Nat.le_refl _)
          rw [hb, ← lowB_low]
          apply at_mid
          unfold Lib.toLowerA
          rw [List.getElem?_map, hx]
          rfl) (by
          have := at_end (pre ++ ([34] ++ (escaped t ++ [34, 64]))) (Lib.toLowerA (sub s (j + 1) s.size)) post 32
          rw [toLower_len, hsl] at this
          exact this) hl
        have e3 := sub_pre (pre ++ ([34] ++ (escaped t ++ [34, 64]))) (Lib.toLowerA (sub s (j + 1) s.size)) (32 :: post)
        rw [toLower_len, hsl] at e3
        rw [e2] at hb e3
        rw [hb]
        simp only
        rw [e3]
        unfold oneParts
        simp only [R.ok.injEq]
        refine ⟨by simp [stringKind], ?_⟩
        simp only [List.length_append, List.length_cons, List.length_nil, toLower_len, hsl]
        omega
    · split at h
      · rename_i h64 h94
        split at h
        · cases h
        · rename_i h95
          split at h
          · cases h
          · rename_i m k hi
            cases h
            have hm := (iri_len hi).2.2.2
            by_cases hk : m = stringKind
            · have ef : form t [] m = [34] ++ (escaped t ++ 34 :: []) := by
                unfold form
                rw [if_neg (by simp), if_neg (by rw [hk]; simp)]
                simp [List.append_assoc]
              refine ⟨?_, Or.inl rfl⟩
              simp only
              rw [ef]
              have e0 : pre ++ ([34] ++ (escaped t ++ 34 :: []) ++ 32 :: post) = pre ++ ([34] ++ (escaped t ++ 34 :: (32 :: post))) := by simp
              rw [e0]
              unfold parts
              rw [quoted_place hv.1]
              simp only
              have hend := behind_quoted t pre (32 :: post) 0 32 rfl
              simp only [Nat.add_zero] at hend
              rw [hend, if_neg (by decide), if_neg (by decide)]
              simp [oneParts, hk, Lib.toLowerA]
              omega
            · have ef : form t [] m = [34] ++ (escaped t ++ 34 :: 94 :: 94 :: m) := by
                unfold form
                rw [if_neg (by simp), if_pos ⟨hm, hk⟩]
                simp [List.append_assoc]
              have hb := iri_back hi (pre ++ ([34] ++ (escaped t ++ [34, 94, 94]))) (32 :: post)
              refine ⟨?_, Or.inl rfl⟩
              simp only
              rw [ef]
              have e0 : pre ++ ([34] ++ (escaped t ++ 34 :: 94 :: 94 :: m) ++ 32 :: post) = pre ++ ([34] ++ (escaped t ++ 34 :: (94 :: 94 :: (m ++ 32 :: post)))) := by simp
              rw [e0]
              unfold parts
              rw [quoted_place hv.1]
              simp only
              have a0 := behind_quoted t pre (94 :: 94 :: (m ++ 32 :: post)) 0 94 rfl
              have a1 := behind_quoted t pre (94 :: 94 :: (m ++ 32 :: post)) 1 94 rfl
              simp only [Nat.add_zero] at a0
              rw [if_neg (by rw [a0]; decide), if_pos (by rw [a0]; decide), if_neg (by rw [a1]; decide)]
              have e1 : pre ++ ([34] ++ (escaped t ++ 34 :: (94 :: 94 :: (m ++ 32 :: post)))) = (pre ++ ([34] ++ (escaped t ++ [34, 94, 94]))) ++ (m ++ 32 :: post) := by simp
              have e2 : (pre ++ ([34] ++ (escaped t ++ [34, 94, 94]))).length = pre.length + (1 + (escaped t).length + 1) + 2 := by simp; omega
              rw [e2] at hb
              rw [e1, hb]
              simp only
              simp [oneParts, hk, Lib.toLowerA]
              omega
      · cases h
        have ef : form t [] [] = [34] ++ (escaped t ++ 34 :: []) := by
          unfold form
          rw [if_neg (by simp), if_neg (by simp)]
          simp [List.append_assoc]
        refine ⟨?_, Or.inl rfl⟩
        simp only
        rw [ef]
        have e0 : pre ++ ([34] ++ (escaped t ++ 34 :: []) ++ 32 :: post) = pre ++ ([34] ++ (escaped t ++ 34 :: (32 :: post))) := by simp
        rw [e0]
        unfold parts
        rw [quoted_place hv.1]
        simp only
        have hend := behind_quoted t pre (32 :: post) 0 32 rfl
        simp only [Nat.add_zero] at hend
        rw [hend, if_neg (by decide), if_neg (by decide)]
        simp [oneParts, stringKind, Lib.toLowerA]
        omega

/-- a term in its one form stands in a text with a blank behind it -/
theorem place {t : List UInt8} {k : Nat} (hk : kindOf (arr t) = k) (h0 : k ≠ 0) (pre post : List UInt8) :
    readK k (arr (pre ++ (t ++ 32 :: post))) pre.length = .ok t (pre.length + t.length) ∧ bt (arr (pre ++ (t ++ 32 :: post))) pre.length = firstB k ∧ (k = 1 ∨ k = 2 ∨ k = 3) := by
  unfold kindOf at hk
  split at hk
  · omega
  · split at hk
    · omega
    · rename_i p j hw
      split at hk
      · rename_i hp
        obtain ⟨ht, _⟩ := whole_ok hw
        rw [arr_sz] at ht
        obtain ⟨k', l⟩ := p
        simp only at hp hk
        subst hk
        have hl : l = t := hp
        subst hl
        unfold term at ht
        split at ht
        · rename_i h60
          split at ht
          · cases ht
          · rename_i l' j' hi
            cases ht
            have hb := iri_back hi pre (32 :: post)
            refine ⟨by simp only [readK, if_true]; exact hb, ?_, .inl rfl⟩
            rw [iri] at hb
            by_cases hh : bt (arr (pre ++ (l ++ 32 :: post))) pre.length = 60
            · rw [hh]; rfl
            · rw [if_pos hh] at hb; cases hb
        · rename_i h60
          split at ht
          · rename_i h95
            split at ht
            · cases ht
            · rename_i l' j' hi
              cases ht
              have hb := blank_place hi pre post
              refine ⟨by simpa [readK] using hb, ?_, .inr (.inl rfl)⟩
              rw [blank] at hb
              by_cases hh : bt (arr (pre ++ (l ++ 32 :: post))) pre.length = 95
              · rw [hh]; rfl
              · rw [if_pos hh] at hb; cases hb
          · split at ht
            · rename_i h34
              split at ht
              · cases ht
              · rename_i l' j' hi
                cases ht
                unfold literal at hi
                split at hi
                · cases hi
                · rename_i p j'' hp
                  simp only [R.ok.injEq] at hi
                  obtain ⟨hf, rfl⟩ := hi
                  have hsz := arr_sz l
                  obtain ⟨hb, hor⟩ := parts_place (s := arr l) (by rw [hsz]; exact hp) pre post
                  rw [hf] at hb
                  refine ⟨?_, ?_, .inr (.inr rfl)⟩
                  · simp only [readK]
                    rw [if_neg (by omega), if_neg (by omega)]
                    unfold literal
                    rw [hb]
                    simp only
                    rw [form_one p hor, hf]
                  · by_cases hh : bt (arr (pre ++ (l ++ 32 :: post))) pre.length = 34
                    · rw [hh]; rfl
                    · rw [parts, quoted, if_pos hh] at hb
                      cases hb
            · cases ht
      · omega

theorem lterm_place {t : List UInt8} {k : Nat} (hk : kindOf (arr t) = k) (h0 : k ≠ 0) (pre post : List UInt8) (ks : List Nat) (hks : ks = [1, 2] ∨ ks = [1] ∨ ks = [1, 2, 3]) (hin : k ∈ ks) :
    lterm (arr (pre ++ (t ++ 32 :: post))) pre.length ks = .ok t (pre.length + t.length) ∧ bt (arr (pre ++ (t ++ 32 :: post))) pre.length = firstB k := by
  obtain ⟨h1, h2, h3⟩ := place hk h0 pre post
  have hl : t.length ≤ 200 := by
    have := kindOf_len (s := arr t) (by rw [hk]; exact h0)
    rwa [arr_sz] at this
  refine ⟨?_, h2⟩
  have ht : termOf (arr (pre ++ (t ++ 32 :: post))) pre.length ks = .ok (k, t) (pre.length + t.length) := by
    rcases h3 with rfl | rfl | rfl
    · rcases hks with rfl | rfl | rfl <;> (unfold termOf; rw [if_pos h2, h1])
    · rcases hks with rfl | rfl | rfl
      · unfold termOf; rw [if_neg (by rw [h2]; decide)]; unfold termOf; rw [if_pos h2, h1]
      · simp at hin
      · unfold termOf; rw [if_neg (by rw [h2]; decide)]; unfold termOf; rw [if_pos h2, h1]
    · rcases hks with rfl | rfl | rfl
      · simp at hin
      · simp at hin
      · unfold termOf; rw [if_neg (by rw [h2]; decide)]; unfold termOf; rw [if_neg (by rw [h2]; decide)]; unfold termOf; rw [if_pos h2, h1]
  unfold lterm
  rw [ht]
  simp only
  rw [if_neg (by omega)]

theorem skipB_one {s : ByteArray} {j : Nat} (h : bt s j = 32) (h1 : bt s (j + 1) ≠ 32 ∧ bt s (j + 1) ≠ 9) : skipB s j = j + 1 := by
  rw [skipB_on (.inl h), skipB_end (by rintro (e | e); exact h1.1 e; exact h1.2 e)]

theorem firstB_no (k : Nat) : firstB k ≠ 32 ∧ firstB k ≠ 9 ∧ firstB k ≠ 10 ∧ firstB k ≠ 35 ∧ firstB k ≠ 256 := by
  unfold firstB
  split
  · omega
  · split <;> omega

/-- a sound sentence's line is read as itself -/
theorem line_place {x : Tri} (h : soundT x = true) (pre post : List UInt8) :
    lineR (arr (pre ++ (lineT x ++ post))) pre.length = .ok [x] (pre.length + (lineT x).length - 1) ∧ bt (arr (pre ++ (lineT x ++ post))) (pre.length + (lineT x).length - 1) = 10 ∧ 0 < (lineT x).length := by
  unfold soundT sound3 at h
  simp only [Bool.and_eq_true, Bool.or_eq_true, decide_eq_true_eq, Bool.not_eq_true', decide_eq_false_iff_not] at h
  obtain ⟨⟨hs, hp⟩, ho⟩ := h
  obtain ⟨⟨xs, xp, xo⟩, rfl⟩ : ∃ y : Tri, y = x := ⟨x, rfl⟩
  simp only at hs hp ho
  have e1 : pre ++ (lineT ⟨xs, xp, xo⟩ ++ post) = pre ++ (xs ++ 32 :: (xp ++ [32] ++ xo ++ [32, 46, 10] ++ post)) := by simp [lineT]
  have e2 : pre ++ (lineT ⟨xs, xp, xo⟩ ++ post) = (pre ++ xs ++ [32]) ++ (xp ++ 32 :: (xo ++ [32, 46, 10] ++ post)) := by simp [lineT]
  have e3 : pre ++ (lineT ⟨xs, xp, xo⟩ ++ post) = (pre ++ xs ++ [32] ++ xp ++ [32]) ++ (xo ++ 32 :: ([46, 10] ++ post)) := by simp [lineT]
  have e4 : pre ++ (lineT ⟨xs, xp, xo⟩ ++ post) = (pre ++ xs ++ [32] ++ xp ++ [32] ++ xo ++ [32]) ++ (46 :: (10 :: post)) := by simp [lineT]
  have n2 : (pre ++ xs ++ [32]).length = pre.length + xs.length + 1 := by simp; omega
  have n3 : (pre ++ xs ++ [32] ++ xp ++ [32]).length = pre.length + xs.length + 1 + xp.length + 1 := by simp; omega
  have n4 : (pre ++ xs ++ [32] ++ xp ++ [32] ++ xo ++ [32]).length = pre.length + xs.length + 1 + xp.length + 1 + xo.length + 1 := by simp; omega
  have nl : (lineT ⟨xs, xp, xo⟩).length = xs.length + 1 + xp.length + 1 + xo.length + 3 := by simp [lineT]; omega
  obtain ⟨a1, a2⟩ := lterm_place (t := xs) rfl (by rcases hs with h | h <;> (show kindOf (ByteArray.mk _) ≠ 0; rw [h]; decide)) pre (xp ++ [32] ++ xo ++ [32, 46, 10] ++ post) [1, 2] (.inl rfl) (by rcases hs with h | h <;> (show kindOf (ByteArray.mk _) ∈ _; rw [h]; decide))
  have a3 := at_end pre xs (xp ++ [32] ++ xo ++ [32, 46, 10] ++ post) 32
  obtain ⟨b1, b2⟩ := lterm_place (t := xp) hp (by decide) (pre ++ xs ++ [32]) (xo ++ [32, 46, 10] ++ post) [1] (.inr (.inl rfl)) (by decide)
  have b3 := at_end (pre ++ xs ++ [32]) xp (xo ++ [32, 46, 10] ++ post) 32
  obtain ⟨c1, c2⟩ := lterm_place (t := xo) rfl ho (pre ++ xs ++ [32] ++ xp ++ [32]) ([46, 10] ++ post) [1, 2, 3] (.inr (.inr rfl)) (by
    have := (place (t := xo) rfl ho [] []).2.2
    rcases this with h | h | h <;> (rw [h]; decide))
  have c3 := at_end (pre ++ xs ++ [32] ++ xp ++ [32]) xo ([46, 10] ++ post) 32
  have d1 := bt_at (pre ++ xs ++ [32] ++ xp ++ [32] ++ xo ++ [32]) (10 :: post) 46
  have d2 := bt_at1 (pre ++ xs ++ [32] ++ xp ++ [32] ++ xo ++ [32]) post 46 10
  rw [← e1] at a1 a2 a3
  rw [← e2, n2] at b1 b2 b3
  rw [← e3, n3] at c1 c2 c3
  rw [← e4, n4] at d1 d2
  generalize arr (pre ++ (lineT ⟨xs, xp, xo⟩ ++ post)) = s at *
  generalize kindOf (arr xs) = ka at *
  generalize kindOf (arr xo) = kc at *
  have f1 := firstB_no ka
  have f2 := firstB_no 1
  have f3 := firstB_no kc
  have s0 : skipB s pre.length = pre.length := skipB_end (by rw [a2]; omega)
  have s1 : skipB s (pre.length + xs.length) = pre.length + xs.length + 1 := skipB_one (by rw [a3]; rfl) (by rw [b2]; omega)
  have s2 : skipB s (pre.length + xs.length + 1 + xp.length) = pre.length + xs.length + 1 + xp.length + 1 := skipB_one (by rw [b3]; rfl) (by rw [c2]; omega)
  have s3 : skipB s (pre.length + xs.length + 1 + xp.length + 1 + xo.length) = pre.length + xs.length + 1 + xp.length + 1 + xo.length + 1 := skipB_one (by rw [c3]; rfl) (by rw [d1]; decide)
  have d2' : bt s (pre.length + xs.length + 1 + xp.length + 1 + xo.length + 1 + 1) = 10 := by rw [d2]; rfl
  have s4 : skipB s (pre.length + xs.length + 1 + xp.length + 1 + xo.length + 1 + 1) = pre.length + xs.length + 1 + xp.length + 1 + xo.length + 1 + 1 := skipB_end (by rw [d2']; omega)
  have el : pre.length + (lineT ⟨xs, xp, xo⟩).length - 1 = pre.length + xs.length + 1 + xp.length + 1 + xo.length + 1 + 1 := by omega
  rw [el]
  refine ⟨?_, d2', by omega⟩
  unfold lineR
  rw [s0, if_neg (by rw [a2]; omega)]
  unfold sentence
  rw [a1]
  simp only
  rw [s1, b1]
  simp only
  rw [s2, c1]
  simp only
  rw [s3, if_pos (by rw [d1]; rfl)]
  simp only
  rw [s4]
  unfold cmt
  rw [if_neg (by rw [d2']; decide)]

/-- what is printed is read back -/
theorem lines_place : ∀ (l : List Tri) (pre : List UInt8), (∀ x ∈ l, soundT x = true) → linesR (arr (pre ++ printT l)) pre.length = .ok l (pre.length + (printT l).length)
  | [], pre, _ => by
    have hb : bt (arr (pre ++ printT [])) pre.length = 256 := bt_arr_none (by simp [printT])
    have hs : skipB (arr (pre ++ printT [])) pre.length = pre.length := skipB_end (by rw [hb]; omega)
    have hl : lineR (arr (pre ++ printT [])) pre.length = .ok [] pre.length := by
      unfold lineR
      rw [hs, if_pos (.inl hb)]
      unfold cmt
      rw [if_neg (by rw [hb]; decide)]
    rw [linesR]
    split
    · rename_i n j e
      rw [hl] at e
      cases e
    · rename_i l j e
      rw [hl] at e
      cases e
      rw [dif_neg (by rw [hb]; omega), if_pos (by rw [arr_sz]; simp [printT])]
      simp [printT]
  | x :: r, pre, h => by
    obtain ⟨h1, h2, h3⟩ := line_place (h x (List.mem_cons_self ..)) pre (printT r)
    have ih := lines_place r (pre ++ lineT x) (fun y hy => h y (List.mem_cons_of_mem _ hy))
    have e : pre ++ printT (x :: r) = pre ++ (lineT x ++ printT r) := by simp [printT]
    rw [List.append_assoc, List.length_append] at ih
    rw [e, linesR]
    split
    · rename_i n j e
      rw [h1] at e
      cases e
    · rename_i l j e
      rw [h1] at e
      cases e
      rw [dif_pos ⟨h2, by rw [arr_sz]; simp⟩, show pre.length + (lineT x).length - 1 + 1 = pre.length + (lineT x).length by omega, ih]
      simp only [RL.pre, List.singleton_append]
      congr 1
      simp [printT]
      omega

end Back
end Go.Proofs.YtnffjoipinhojaaGreatDoor

namespace Go.Proofs.YtnffjoipinhojaaGreatDoor
open Go.RowKit

/-! A list that a caller hands in may lie anywhere in its block. -/

def LiesA (w : World) (g off : Nat) (l : List Tri) : Prop := ∀ k x, l[k]? = some x → w.cell? ⟨g, off + k * 3, none⟩ = some (str x.s) ∧ w.cell? ⟨g, off + k * 3 + 1, none⟩ = some (str x.p) ∧ w.cell? ⟨g, off + k * 3 + 2, none⟩ = some (str x.o)

theorem LiesA.below {w w' : World} {g off : Nat} {l : List Tri} {B : Nat} (h : LiesA w g off l) (hg : g < B) (hb : Below B w w') : LiesA w' g off l := fun k x hk => by
  obtain ⟨h0, h1, h2⟩ := h k x hk
  exact ⟨(hb.cell (p := ⟨g, _, none⟩) hg).trans h0, (hb.cell (p := ⟨g, _, none⟩) hg).trans h1, (hb.cell (p := ⟨g, _, none⟩) hg).trans h2⟩

set_option maxHeartbeats 4000000 in
set_option maxRecDepth 20000 in
/-- a list of the document's sentences as the program's -/
theorem triples_at (w : World) (g off cap : Nat) (l : List Tri) (hg : g < w.heap.size) (hL : LiesA w g off l) (hn : l.length ≤ 2932031007317) :
    Calls Tryz.prog 26 #[.slice (some ⟨g, off, none⟩) l.length cap] w fun e w' => ∃ v, e = .returned v ∧ w'.ownsRow w.heap.size 33 3 v l.length (cellsOf l) ∧ Below w.heap.size w w' := by
  have HL : Hid (LiesA w g off l) := hL
  have HB0 : Hid (Below w.heap.size w w) := Below.refl _ w
  have HN0 : Hid (w.ownsRow w.heap.size 33 3 (.slice none 0 0) 0 []) := own_nil w _ _
  obtain ⟨i0, hi0, hz0, hz1, hz2⟩ := info_parts infoTri
  clear hL
  go_enter Tryz.func26, Tryz.ntmps26
  go_wp2_with fail
  go_loopw [3, 4] (fun t3 t4 wr => ∃ (q : Nat) (o : Option Addr) (c : Nat), q ≤ l.length ∧ t4 = .int .i64 q ∧ t3 = .slice o q c ∧ wr.ownsRow w.heap.size 33 3 (.slice o q c) q (cellsOf (l.take q)) ∧ Below w.heap.size w wr) (fun t3 t4 wr => l.length - (intOf t4).toNat)
  case atStart => exact ⟨0, none, 0, Nat.zero_le _, rfl, rfl, HN0.out, HB0.out⟩
  case round =>
    obtain ⟨q, o, c, hq, rfl, rfl, ho, hb⟩ := hrel
    have HO : Hid (wr.ownsRow w.heap.size 33 3 (.slice o q c) q (cellsOf (l.take q))) := ho
    have HB : Hid (Below w.heap.size w wr) := hb
    clear ho hb
    by_cases hlt : q < l.length
    · obtain ⟨x, hx⟩ : ∃ x, l[q]? = some x := ⟨_, List.getElem?_eq_getElem hlt⟩
      obtain ⟨q0, q1, q2⟩ := (HL.out.below hg HB.out) q x hx
      have hd : l.take (q + 1) = l.take q ++ [x] := by
        rw [List.take_add_one, hx]; rfl
      obtain ⟨Y1, k1⟩ : ∃ V : ByteArray, V = ⟨x.s.toArray⟩ := ⟨_, rfl⟩
      obtain ⟨Y2, k2⟩ : ∃ V : ByteArray, V = ⟨x.p.toArray⟩ := ⟨_, rfl⟩
      obtain ⟨Y3, k3⟩ : ∃ V : ByteArray, V = ⟨x.o.toArray⟩ := ⟨_, rfl⟩
      have HCy : Hid (cellsOf (l.take (q + 1)) = cellsOf (l.take q) ++ [.string Y1, .string Y2, .string Y3]) := by unfold Hid; rw [hd, cellsOf_app, k1, k2, k3]; rfl
      have q0' : wr.cell? ⟨g, off + q * 3, none⟩ = some (.string Y1) := by rw [k1]; exact q0
      have q1' : wr.cell? ⟨g, off + q * 3 + 1, none⟩ = some (.string Y2) := by rw [k2]; exact q1
      have q2' : wr.cell? ⟨g, off + q * 3 + 2, none⟩ = some (.string Y3) := by rw [k3]; exact q2
      clear q0 q1 q2 k1 k2 k3 hd hx
      have HT := triple_any wr Y1 Y2 Y3
      have HT2 : Hid (Calls Tryz.prog 15 #[.agg #[.string Y1, .string Y2, .string Y3]] wr fun e w' => e = .returned (.agg #[.string Y1, .string Y2, .string Y3]) ∧ Below wr.heap.size wr w') := HT
      clear HT
      go_wp2_with fail
      refine HT2.out.mono ?_
      rintro e w2 ⟨rfl, hb2⟩
      have HO2 : Hid (w2.ownsRow w.heap.size 33 3 (.slice o q c) q (cellsOf (l.take q))) := own_same HO.out fun k _ hlt => hb2.block k hlt
      have HB2 : Hid (Below w.heap.size w w2) := HB.out.trans (hb2.mono HB.out.size)
      clear hb2 q0' q1' q2' HT2
      have hoA := HO2.out.alloc (.cells #[.string Y1, .string Y2, .string Y3] 33)
      have hn2 := news_new w2 Y1 Y2 Y3 33
      have hbs : w.heap.size ≤ (w2.alloc (.cells #[.string Y1, .string Y2, .string Y3] 33)).heap.size := (HB2.out.alloc HB2.out.size _).size
      go_wp2_with (first
        | (at_builtin; refine wpList_append_own_at _ (by rfl) _ _ _ (by rfl) w.heap.size 33 i0 _ 3 48 Tryz.underlying46 hi0 hz0 hz1 hz2 rfl (by omega) (.slice o q c) q (cellsOf (l.take q)) (by rfl) hoA ⟨w2.heap.size, 0, none⟩ 1 1 [.string Y1, .string Y2, .string Y3] (by rfl) (by rfl) hn2 (by simp [Value.oneCell']) (by unfold maxLen; omega) (by omega) hbs ?_; intro v3 w3 ho3 hg3 hi3 hb3; have HB3 : Hid (Below w.heap.size w w3) := (Below.grown (HB2.out.alloc HB2.out.size _) hg3 hbs (fun k hk => own_block HO2.out hk)); have HO3 : Hid (w3.ownsRow w.heap.size 33 3 v3 (q + 1) (cellsOf (l.take (q + 1)))) := (by unfold Hid; rw [HCy.out]; exact ho3); clear ho3 hg3 hi3 hb3 hoA hn2 hbs))
      obtain ⟨o3, c3, hv3⟩ := own_form HO3.out
      subst hv3
      go_wp2_with fail
      go_roundw
      case rel => exact ⟨q + 1, o3, c3, by omega, by go_num, rfl, HO3.out, HB3.out⟩
      case measure => simp [intOf]; omega
    · obtain rfl : q = l.length := by omega
      rw [List.take_length] at HO
      go_wp2_with fail
      go_ret
      exact ⟨_, rfl, HO.out, HB.out⟩


namespace Ref
set_option maxHeartbeats 4000000 in
set_option maxRecDepth 20000 in
/-- the document's own Set -/
theorem set_at (w : World) (g off cap : Nat) (l : List Tri) (hg : g < w.heap.size) (hL : LiesA w g off l) (hn : l.length ≤ 2932031007317) :
    Calls Tryz.prog 28 #[.slice (some ⟨g, off, none⟩) l.length cap] w (SeV w 30 l) := by
  have HL : Hid (LiesA w g off l) := hL
  have HSo : Hid (∀ (w1 : World) (x : Tri), Calls Tryz.prog 17 #[.agg #[str x.s, str x.p, str x.o]] w1 fun e w' => e = .returned (.bool (soundT x)) ∧ Below w1.heap.size w1 w') := fun w1 x => Ref.sound_any kindOf w1 _ _ _ (fun w2 s => Ref.kind_any w2 s)
  have HAd : Hid (∀ (w1 : World) (v : Value) (l : List Tri) (t : Tri), Rising l → w1.ownsRow w.heap.size 30 3 v l.length (cellsOf l) → Below w.heap.size w w1 → l.length ≤ 1000 → Calls Tryz.prog 57 #[v, .agg #[str t.s, str t.p, str t.o]] w1 fun e w' => ∃ o c, e = .returned (.slice o (addL l t).length c) ∧ w'.ownsRow w.heap.size 30 3 (.slice o (addL l t).length c) (addL l t).length (cellsOf (addL l t)) ∧ Below w.heap.size w w') := by
    intro w1 v l t hr ho hb hl
    refine (Ref.add_all w1 w.heap.size v l t hr ho hb.size hl).mono ?_
    rintro e w2 ⟨v', rfl, ho2, hb2⟩
    obtain ⟨o, c, rfl⟩ := own_form ho2
    exact ⟨o, c, rfl, ho2, hb.trans (hb2.mono hb.size)⟩
  have HB0 : Hid (Below w.heap.size w w) := Below.refl _ w
  clear hL
  go_enter Tryz.func28, Tryz.ntmps28
  go_wp2_with fail
  go_loopw [5] (fun t5 wr => ∃ q : Nat, q ≤ l.length ∧ t5 = .int .i64 q ∧ Below w.heap.size w wr ∧ badAt 0 l = badAt q (l.drop q)) (fun t5 wr => l.length - (intOf t5).toNat)
  case atStart => exact ⟨0, Nat.zero_le _, rfl, HB0.out, by simp⟩
  case round =>
    obtain ⟨q, hq, rfl, hb, hbad⟩ := hrel
    have HB : Hid (Below w.heap.size w wr) := hb
    have HI : Hid (badAt 0 l = badAt q (l.drop q)) := hbad
    clear hb hbad
    by_cases hlt : q < l.length
    · obtain ⟨x, hx⟩ : ∃ x, l[q]? = some x := ⟨_, List.getElem?_eq_getElem hlt⟩
      obtain ⟨q0, q1, q2⟩ := (HL.out.below hg HB.out) q x hx
      have hd : l.drop q = x :: l.drop (q + 1) := by
        rw [List.drop_eq_getElem_cons hlt]
        congr 1
        exact (List.getElem?_eq_some_iff.1 hx).2
      have hst : badAt 0 l = if soundT x then badAt (q + 1) (l.drop (q + 1)) else some q := by rw [HI.out, hd, badAt]
      obtain ⟨Bb, hBb⟩ : ∃ Bb, Bb = soundT x := ⟨_, rfl⟩
      have hS := HSo.out wr x
      rw [← hBb] at hst hS
      have HS : Hid (Calls Tryz.prog 17 #[.agg #[str x.s, str x.p, str x.o]] wr fun e w' => e = .returned (.bool Bb) ∧ Below wr.heap.size wr w') := hS
      have HST : Hid (badAt 0 l = if Bb then badAt (q + 1) (l.drop (q + 1)) else some q) := hst
      clear hd hx hst hS hBb HI HAd
      go_wp2_with fail
      refine HS.out.mono ?_
      rintro e w2 ⟨rfl, hb2⟩
      have HB2 : Hid (Below w.heap.size w w2) := HB.out.trans (hb2.mono HB.out.size)
      clear hb2 q0 q1 q2 HS HSo
      cases Bb with
      | true =>
        have HI2 : Hid (badAt 0 l = badAt (q + 1) (l.drop (q + 1))) := HST.out
        clear HST
        go_wp2_with fail
        go_roundw
        case rel => exact ⟨q + 1, by omega, by go_num, HB2.out, HI2.out⟩
        case measure => simp [intOf]; omega
      | false =>
        have HI2 : Hid (badAt 0 l = some q) := HST.out
        clear HST
        go_wp2_with fail
        refine bodyPost_ret (v := .tuple #[.slice none 0 0, .int .i64 4, .int .i64 q]) (by simp [results, Tryz.results28, go_sem]) rfl ?_
        show SeV w _ l _ _
        unfold SeV
        rw [HI2.out]
        exact ⟨rfl, HB2.out⟩
    · have HBN : Hid (badAt 0 l = none) := by unfold Hid; rw [HI.out, List.drop_eq_nil_of_le (by omega)]; rfl
      have HN0 : Hid (wr.ownsRow w.heap.size 30 3 (.slice none 0 0) 0 []) := own_nil wr _ _
      have HBw : Hid (Below w.heap.size w wr) := HB.out
      clear HI HSo HB0 HB
      go_wp2_with fail
      go_loopw [7, 8] (fun t7 t8 wr => ∃ (q : Nat) (set : List Tri) (o : Option Addr) (c : Nat), q ≤ l.length ∧ t8 = .int .i64 q ∧ t7 = .slice o set.length c ∧ Rising set ∧ set.length ≤ 301 ∧ wr.ownsRow w.heap.size 30 3 (.slice o set.length c) set.length (cellsOf set) ∧ Below w.heap.size w wr ∧ rise [] l = if set.length ≤ 300 then rise set (l.drop q) else none) (fun t7 t8 wr => l.length - (intOf t8).toNat)
      case atStart => exact ⟨0, [], none, 0, Nat.zero_le _, rfl, rfl, List.Pairwise.nil, by simp, HN0.out, HBw.out, by simp⟩
      case round =>
        obtain ⟨q, set, o, c, hq, rfl, rfl, hr, h301, ho, hb, hri⟩ := hrel
        have HR : Hid (Rising set) := hr
        have HO : Hid (wr.ownsRow w.heap.size 30 3 (.slice o set.length c) set.length (cellsOf set)) := ho
        have HB : Hid (Below w.heap.size w wr) := hb
        have HI : Hid (rise [] l = if set.length ≤ 300 then rise set (l.drop q) else none) := hri
        clear hr ho hb hri
        by_cases hlt : q < l.length
        · by_cases h300 : set.length ≤ 300
          · obtain ⟨x, hx⟩ : ∃ x, l[q]? = some x := ⟨_, List.getElem?_eq_getElem hlt⟩
            obtain ⟨q0, q1, q2⟩ := (HL.out.below hg HB.out) q x hx
            have hd : l.drop q = x :: l.drop (q + 1) := by
              rw [List.drop_eq_getElem_cons hlt]
              congr 1
              exact (List.getElem?_eq_some_iff.1 hx).2
            have HI2 : Hid (rise [] l = if (addL set x).length ≤ 300 then rise (addL set x) (l.drop (q + 1)) else none) := by
              unfold Hid
              rw [HI.out, if_pos h300, hd, rise_step h300]
            have hal := addL_len set x
            have HR2 : Hid (Rising (addL set x)) := addL_rising HR.out
            have HA := HAd.out wr (.slice o set.length c) set x HR.out HO.out HB.out (by omega)
            have HA2 : Hid (Calls Tryz.prog 57 #[.slice o set.length c, .agg #[str x.s, str x.p, str x.o]] wr fun e w' => ∃ o' c', e = .returned (.slice o' (addL set x).length c') ∧ w'.ownsRow w.heap.size 30 3 (.slice o' (addL set x).length c') (addL set x).length (cellsOf (addL set x)) ∧ Below w.heap.size w w') := HA
            clear HA hx hd HI HR HAd
            generalize addL set x = S at *
            go_wp2_with fail
            refine HA2.out.mono ?_
            rintro e w2 ⟨o', c', rfl, ho2, hb2⟩
            have HO2 : Hid (w2.ownsRow w.heap.size 30 3 (.slice o' S.length c') S.length (cellsOf S)) := ho2
            have HB2 : Hid (Below w.heap.size w w2) := hb2
            clear ho2 hb2
            go_wp2_with fail
            go_roundw
            case rel => exact ⟨q + 1, S, o', c', by omega, by go_num, rfl, HR2.out, by omega, HO2.out, HB2.out, HI2.out⟩
            case measure => simp [intOf]; omega
          · have HI2 : Hid (rise [] l = none) := by unfold Hid; rw [HI.out, if_neg h300]
            go_wp2_with fail
            refine bodyPost_ret (v := .tuple #[.slice none 0 0, .int .i64 10, .int .i64 0]) (by simp [results, Tryz.results28, go_sem]) rfl ?_
            show SeV w _ l _ _
            unfold SeV
            rw [HBN.out, HI2.out]
            exact ⟨rfl, HB.out⟩
        · by_cases h300 : set.length ≤ 300
          · have HI2 : Hid (rise [] l = some set) := by unfold Hid; rw [HI.out, if_pos h300, List.drop_eq_nil_of_le (by omega)]; rfl
            go_wp2_with fail
            refine bodyPost_ret (v := .tuple #[.slice o set.length c, .int .i64 0, .int .i64 0]) (by simp [results, Tryz.results28, go_sem]) rfl ?_
            show SeV w _ l _ _
            unfold SeV
            rw [HBN.out, HI2.out]
            exact ⟨_, rfl, HO.out, HB.out⟩
          · have HI2 : Hid (rise [] l = none) := by unfold Hid; rw [HI.out, if_neg h300]
            go_wp2_with fail
            refine bodyPost_ret (v := .tuple #[.slice none 0 0, .int .i64 10, .int .i64 0]) (by simp [results, Tryz.results28, go_sem]) rfl ?_
            show SeV w _ l _ _
            unfold SeV
            rw [HBN.out, HI2.out]
            exact ⟨rfl, HB.out⟩


end Ref

/-- a sentence of either list, and nothing older touched -/
def S6a (w : World) (ga gb off q : Nat) (X1 X2 X3 : ByteArray) (w' : World) : Prop :=
  w'.cell? ⟨ga, q * 3, none⟩ = some (.string X1) ∧ w'.cell? ⟨ga, q * 3 + 1, none⟩ = some (.string X2) ∧ w'.cell? ⟨ga, q * 3 + 2, none⟩ = some (.string X3) ∧ w'.cell? ⟨gb, off + q * 3, none⟩ = some (.string X1) ∧ w'.cell? ⟨gb, off + q * 3 + 1, none⟩ = some (.string X2) ∧ w'.cell? ⟨gb, off + q * 3 + 2, none⟩ = some (.string X3) ∧ Below w.heap.size w w'
theorem S6a.on {w w1 w2 : World} {ga gb off q : Nat} {X1 X2 X3 : ByteArray} (e : S6a w ga gb off q X1 X2 X3 w1) (hb : Below w1.heap.size w1 w2) : S6a w ga gb off q X1 X2 X3 w2 := by
  obtain ⟨e0, e1, e2, f0, f1, f2, e3⟩ := e
  have hg : ga < w1.heap.size := World.block_lt_of_cell? w1 ⟨_, _, none⟩ e0
  have hn : gb < w1.heap.size := World.block_lt_of_cell? w1 ⟨_, _, none⟩ f0
  exact ⟨(hb.cell (p := ⟨ga, _, none⟩) hg).trans e0, (hb.cell (p := ⟨ga, _, none⟩) hg).trans e1, (hb.cell (p := ⟨ga, _, none⟩) hg).trans e2, (hb.cell (p := ⟨gb, _, none⟩) hn).trans f0, (hb.cell (p := ⟨gb, _, none⟩) hn).trans f1, (hb.cell (p := ⟨gb, _, none⟩) hn).trans f2, e3.trans (hb.mono e3.size)⟩

theorem S6a.low {w w1 : World} {ga gb off q : Nat} {X1 X2 X3 : ByteArray} (e : S6a w ga gb off q X1 X2 X3 w1) : Below w.heap.size w w1 := e.2.2.2.2.2.2

set_option maxHeartbeats 4000000 in
set_option maxRecDepth 20000 in
theorem same_at (w : World) (ga gb off ca cb : Nat) (l : List Tri) (ha : Lies w ga l) (hb : LiesA w gb off l) (hga : ga < w.heap.size) (hgb : gb < w.heap.size) (hn : l.length ≤ 2932031007317) :
    Calls Tryz.prog 25 #[.slice (some ⟨ga, 0, none⟩) l.length ca, .slice (some ⟨gb, off, none⟩) l.length cb] w fun e w' => e = .returned (.bool true) ∧ Below w.heap.size w w' := by
  have HA : Hid (Lies w ga l) := ha
  have HBb : Hid (LiesA w gb off l) := hb
  have HB0 : Hid (Below w.heap.size w w) := Below.refl _ w
  have hgd := guardA
  have mixed : Tryz.prog.follows Departure.mixedOrders = true := by kernel_rfl
  clear ha hb
  go_enter Tryz.func25, Tryz.ntmps25
  go_wp2_with fail
  go_loopw [5] (fun t5 wr => ∃ q : Nat, q ≤ l.length ∧ t5 = .int .i64 q ∧ Below w.heap.size w wr) (fun t5 wr => l.length - (intOf t5).toNat)
  case atStart => exact ⟨0, Nat.zero_le _, rfl, HB0.out⟩
  case round =>
    obtain ⟨q, hq, rfl, hB⟩ := hrel
    by_cases hlt : q < l.length
    · obtain ⟨x, hx⟩ : ∃ x, l[q]? = some x := ⟨_, List.getElem?_eq_getElem hlt⟩
      obtain ⟨X1, k1⟩ : ∃ V : ByteArray, V = ⟨x.s.toArray⟩ := ⟨_, rfl⟩
      obtain ⟨X2, k2⟩ : ∃ V : ByteArray, V = ⟨x.p.toArray⟩ := ⟨_, rfl⟩
      obtain ⟨X3, k3⟩ : ∃ V : ByteArray, V = ⟨x.o.toArray⟩ := ⟨_, rfl⟩
      obtain ⟨a0, a1, a2⟩ := (HA.out.below hga hB) q x hx
      obtain ⟨b0, b1, b2⟩ := (HBb.out.below hgb hB) q x hx
      have hS0 : S6a w ga gb off q X1 X2 X3 wr := by
        rw [k1, k2, k3]
        exact ⟨a0, a1, a2, b0, b1, b2, hB⟩
      clear a0 a1 a2 b0 b1 b2 hx k1 k2 k3 HA HBb
      have HT : Hid (∀ w1, S6a w ga gb off q X1 X2 X3 w1 → Calls Tryz.prog 15 #[.agg #[.string X1, .string X2, .string X3]] w1 fun e w' => e = .returned (.agg #[.string X1, .string X2, .string X3]) ∧ S6a w ga gb off q X1 X2 X3 w') := fun w1 h1 => by
        refine (triple_any w1 X1 X2 X3).mono ?_
        rintro e w2 ⟨rfl, hb2⟩
        exact ⟨rfl, h1.on hb2⟩
      have heq := neqA X1 X2 X3
      obtain ⟨a0, a1, a2, b0, b1, b2, b3⟩ := hS0
      go_wp2_with fail
      go_region_held3 (fun w' => w'.cell? ⟨ga, q * 3, none⟩ = some (.string X1) ∧ w'.cell? ⟨ga, q * 3 + 1, none⟩ = some (.string X2) ∧ w'.cell? ⟨ga, q * 3 + 2, none⟩ = some (.string X3) ∧ w'.cell? ⟨gb, off + q * 3, none⟩ = some (.string X1) ∧ w'.cell? ⟨gb, off + q * 3 + 1, none⟩ = some (.string X2) ∧ w'.cell? ⟨gb, off + q * 3 + 2, none⟩ = some (.string X3) ∧ Below w.heap.size w w') (first | assumption | exact ⟨a0, a1, a2, b0, b1, b2, b3⟩ | exact ⟨a0, a1, a2, b0, b1, b2, b3.drew⟩) (first | (go_at_call 15; refine (HT.out _ (by first | assumption | exact ⟨by assumption, by assumption, by assumption, by assumption, by assumption, by assumption, by first | assumption | exact b3.drew⟩)).mono ?_; rintro e2 w2 ⟨rfl, hS⟩))
      all_goals go_wp2_with fail
      all_goals go_roundw
      case rel => exact ⟨q + 1, by omega, by go_num, S6a.low (by assumption)⟩
      case measure => simp [intOf]; omega
    · go_wp2_with fail
      go_ret
      exact ⟨rfl, hB⟩


set_option maxHeartbeats 4000000 in
set_option maxRecDepth 20000 in
theorem triples_zero (w : World) (o : Option Addr) (c : Nat) : Calls Tryz.prog 26 #[.slice o 0 c] w fun e w' => ∃ v, e = .returned v ∧ w'.ownsRow w.heap.size 33 3 v ([] : List Tri).length (cellsOf []) ∧ Below w.heap.size w w' := by
  have HN0 : Hid (w.ownsRow w.heap.size 33 3 (.slice none 0 0) 0 []) := own_nil w _ _
  go_enter Tryz.func26, Tryz.ntmps26
  go_wp2_with fail
  go_loopw [3, 4] (fun t3 t4 wr => t3 = .slice none 0 0 ∧ t4 = .int .i64 0 ∧ wr = w) (fun t3 t4 wr => 0)
  case atStart => exact ⟨rfl, rfl, rfl⟩
  case round =>
    obtain ⟨rfl, rfl, rfl⟩ := hrel
    go_wp2_with fail
    go_ret
    exact ⟨_, rfl, HN0.out, Below.refl _ _⟩

set_option maxHeartbeats 4000000 in
set_option maxRecDepth 20000 in
theorem Ref.set_zero (w : World) (o : Option Addr) (c : Nat) : Calls Tryz.prog 28 #[.slice o 0 c] w (SeV w 30 []) := by
  have HN0 : Hid (SeV w 30 [] (.returned (.tuple #[.slice none 0 0, .int .i64 0, .int .i64 0])) w) := ⟨_, rfl, own_nil w _ _, Below.refl _ w⟩
  go_enter Tryz.func28, Tryz.ntmps28
  go_wp2_with fail
  go_loopw [5] (fun t5 wr => t5 = .int .i64 0 ∧ wr = w) (fun t5 wr => 0)
  case atStart => exact ⟨rfl, rfl⟩
  case round =>
    obtain ⟨rfl, rfl⟩ := hrel
    go_wp2_with fail
    go_loopw [7, 8] (fun t7 t8 wr' => t7 = .slice none 0 0 ∧ t8 = .int .i64 0 ∧ wr' = wr) (fun t7 t8 wr' => 0)
    case atStart => exact ⟨rfl, rfl, rfl⟩
    case round =>
      obtain ⟨rfl, rfl, rfl⟩ := hrel
      go_wp2_with fail
      exact bodyPost_ret (v := .tuple #[.slice none 0 0, .int .i64 0, .int .i64 0]) (by simp [results, Tryz.results28, go_sem]) rfl HN0.out


end Go.Proofs.YtnffjoipinhojaaGreatDoor

namespace Go.Proofs.YtnffjoipinhojaaGreatDoor
open Go.RowKit

theorem toList_inj {V : ByteArray} {l : List UInt8} (h : V.toList = l) : V = ⟨l.toArray⟩ := by
  obtain ⟨⟨x⟩⟩ := V
  rw [ByteArray.toList_mk] at h
  rw [h]

/-- what both Sets and both printers answer of a list -/
theorem set_cases (l : List Tri) : (∃ (n j : Int), (n = 4 ∨ n = 10) ∧ (∀ w T e w', SeV w T l e w' → e = .returned (.tuple #[.slice none 0 0, .int .i64 n, .int .i64 j]) ∧ Below w.heap.size w w') ∧
      (∀ w e w', PrV w l e w' → e = .returned (.tuple #[.string ⟨#[]⟩, .int .i64 n, .int .i64 j]) ∧ Below w.heap.size w w')) ∨
    ∃ set : List Tri, set.length ≤ 300 ∧ Rising set ∧ (∀ x ∈ set, soundT x = true) ∧ (∀ w T e w', SeV w T l e w' → ∃ v, e = .returned (.tuple #[v, .int .i64 0, .int .i64 0]) ∧ w'.ownsRow w.heap.size T 3 v set.length (cellsOf set) ∧ Below w.heap.size w w') ∧
      (∀ w e w', PrV w l e w' → e = .returned (.tuple #[.string ⟨(printT set).toArray⟩, .int .i64 0, .int .i64 0]) ∧ Below w.heap.size w w') := by
  cases hb : badAt 0 l with
  | some i =>
    refine .inl ⟨4, i, .inl rfl, fun w T e w' h => ?_, fun w e w' h => ?_⟩
    · unfold SeV at h; rw [hb] at h; exact h
    · unfold PrV at h; rw [hb] at h; exact h
  | none =>
    cases hr : rise [] l with
    | none =>
      refine .inl ⟨10, 0, .inr rfl, fun w T e w' h => ?_, fun w e w' h => ?_⟩
      · unfold SeV at h; rw [hb, hr] at h; exact h
      · unfold PrV at h; rw [hb, hr] at h; exact h
    | some set =>
      refine .inr ⟨set, rise_len (by simp) hr, rise_rises List.Pairwise.nil hr, fun x hx => ?_, fun w T e w' h => ?_, fun w e w' h => ?_⟩
      · rcases rise_mem hr x hx with h | h
        · cases h
        · exact badAt_none hb x h
      · unfold SeV at h; rw [hb, hr] at h; exact h
      · unfold PrV at h; rw [hb, hr] at h
        obtain ⟨⟨V, h1, h2⟩, h3⟩ := h
        rw [toList_inj h1] at h2
        exact ⟨h2, h3⟩

theorem setOf_own (w : World) (base : Nat) (v : Value) (l : List Tri) (ho : w.ownsRow base 33 3 v l.length (cellsOf l)) (hn : l.length ≤ maxLen) (hT : Tabs w) (hG : 8 ≤ w.heap.size) :
    Calls Tryz.prog 56 #[v] w (SoP w l) := by
  by_cases h0 : ∃ g cap, v = .slice (some ⟨g, 0, none⟩) l.length cap ∧ g < w.heap.size
  · obtain ⟨g, cap, rfl, hg⟩ := h0
    exact setOf_some w g cap l hg (own_lies ho) hn hT hG
  · rcases ho.2 with ⟨rfl, hz⟩ | ⟨g, cap, cur, rfl, _, hg, _⟩
    · have : l = [] := List.length_eq_zero_iff.1 hz
      subst this
      exact setOf_nil w
    · exact absurd ⟨g, cap, rfl, (Array.getElem?_eq_some_iff.1 hg).1⟩ h0

set_option maxHeartbeats 4000000 in
set_option maxRecDepth 20000 in
/-- lists of different lengths are not the same -/
theorem same_not (w : World) (oa ob : Option Addr) (na nb ca cb : Nat) (hne : na ≠ nb) :
    Calls Tryz.prog 25 #[.slice oa na ca, .slice ob nb cb] w fun e w' => e = .returned (.bool false) ∧ w' = w := by
  go_enter Tryz.func25, Tryz.ntmps25
  go_wp2_with fail
  go_ret
  exact ⟨rfl, rfl⟩

end Go.Proofs.YtnffjoipinhojaaGreatDoor

namespace Go.Proofs.YtnffjoipinhojaaGreatDoor
open Go.RowKit

set_option maxHeartbeats 8000000 in
set_option maxRecDepth 20000 in
theorem lineSets_of (w : World) (v : Value) (l : List Tri) (hT : Tabs w) (hG : 8 ≤ w.heap.size) (hH : Handle w) (hn : l.length ≤ 2932031007317)
    (hTr : Calls Tryz.prog 26 #[v] w fun e w' => ∃ v, e = .returned v ∧ w'.ownsRow w.heap.size 33 3 v l.length (cellsOf l) ∧ Below w.heap.size w w')
    (hRS : ∀ w1, Below w.heap.size w w1 → Calls Tryz.prog 28 #[v] w1 (SeV w1 30 l))
    (hSm : ∀ w1 B a, Below w.heap.size w w1 → w1.ownsRow B 33 3 a l.length (cellsOf l) → Calls Tryz.prog 25 #[a, v] w1 fun e w' => e = .returned (.bool true) ∧ Below w1.heap.size w1 w') :
    Calls Tryz.prog 8 #[v] w fun e w' => e = .returned (.bool true) ∧ Below w.heap.size w w' := by
  have HTb : Hid (∀ w1, Below w.heap.size w w1 → Tabs w1 ∧ 8 ≤ w1.heap.size ∧ Handle w1) := fun w1 hb => ⟨hT.below hb (by omega) (by omega), Nat.le_trans hG hb.size, hH.below hb⟩
  have HSO : Hid (∀ w1 B a, Below w.heap.size w w1 → w1.ownsRow B 33 3 a l.length (cellsOf l) → Calls Tryz.prog 56 #[a] w1 (SoP w1 l)) := fun w1 B a hb ho => setOf_own w1 B a l ho (by unfold maxLen; omega) (HTb.out w1 hb).1 (HTb.out w1 hb).2.1
  have HTr : Hid (Calls Tryz.prog 26 #[v] w fun e w' => ∃ v, e = .returned v ∧ w'.ownsRow w.heap.size 33 3 v l.length (cellsOf l) ∧ Below w.heap.size w w') := hTr
  have HSm : Hid (∀ w1 B a, Below w.heap.size w w1 → w1.ownsRow B 33 3 a l.length (cellsOf l) → Calls Tryz.prog 25 #[a, v] w1 fun e w' => e = .returned (.bool true) ∧ Below w1.heap.size w1 w') := hSm
  have HRP : Hid (∀ w1, Below w.heap.size w w1 → Calls Tryz.prog 30 #[v] w1 (PrV w1 l)) := fun w1 hb => Ref.printLines_of w1 v l (hRS w1 hb)
  rcases set_cases l with ⟨n, j, hnn, hc, hp⟩ | ⟨set, hs300, hris, hsnd, hc, hp⟩
  · have HS : Hid (∀ w1 B a, Below w.heap.size w w1 → w1.ownsRow B 33 3 a l.length (cellsOf l) → Calls Tryz.prog 27 #[a] w1 fun e w' => e = .returned (.tuple #[.slice none 0 0, .int .i64 n, .int .i64 j]) ∧ Below w1.heap.size w1 w') := fun w1 B a hb ho => (set_of w1 a l (HSO.out w1 B a hb ho) (HTb.out w1 hb).2.2).mono fun e w' h => hc w1 _ e w' h
    have HP : Hid (∀ w1 B a, Below w.heap.size w w1 → w1.ownsRow B 33 3 a l.length (cellsOf l) → Calls Tryz.prog 29 #[a] w1 fun e w' => e = .returned (.tuple #[.string ⟨#[]⟩, .int .i64 n, .int .i64 j]) ∧ Below w1.heap.size w1 w') := fun w1 B a hb ho => (print_of w1 a l (HSO.out w1 B a hb ho) (HTb.out w1 hb).2.2).mono fun e w' h => hp w1 e w' h
    have HR : Hid (∀ w1, Below w.heap.size w w1 → Calls Tryz.prog 28 #[v] w1 fun e w' => e = .returned (.tuple #[.slice none 0 0, .int .i64 n, .int .i64 j]) ∧ Below w1.heap.size w1 w') := fun w1 hb => (hRS w1 hb).mono fun e w' h => hc w1 _ e w' h
    have HQ : Hid (∀ w1, Below w.heap.size w w1 → Calls Tryz.prog 30 #[v] w1 fun e w' => e = .returned (.tuple #[.string ⟨#[]⟩, .int .i64 n, .int .i64 j]) ∧ Below w1.heap.size w1 w') := fun w1 hb => (HRP.out w1 hb).mono fun e w' h => hp w1 e w' h
    have HSp : Hid (∀ w1, Calls Tryz.prog 23 #[.slice none 0 0] w1 fun e w' => e = .returned (.tuple #[]) ∧ Below w1.heap.size w1 w') := fun w1 => spoil_any w1 _ _ 0 [] (own_nil w1 _ _) (Nat.le_refl _)
    have HE : Hid (∀ w1, Calls Tryz.prog 25 #[.slice none 0 0, .slice none 0 0] w1 fun e w' => e = .returned (.bool true) ∧ Below w1.heap.size w1 w') := fun w1 => same_nil w1 none none 0 0
    have HN : Hid (∀ w1, Calls Tryz.prog 12 #[.int .i64 n] w1 fun e w' => e = .returned (.int .i64 n) ∧ w' = w1) := fun w1 => num_all w1 n (by omega)
    have hn0 : n ≠ 0 := by omega
    clear hT hH hTr hRS hSm hc hp HRP hn hnn HTb HSO
    go_enter Tryz.func8, Tryz.ntmps8
    go_wp2_with fail
    refine HTr.out.mono ?_
    rintro e w1 ⟨a, rfl, ho1, hb1⟩
    have HO1 : Hid (w1.ownsRow w.heap.size 33 3 a l.length (cellsOf l)) := ho1
    have HB1 : Hid (Below w.heap.size w w1) := hb1
    clear ho1 hb1
    go_wp2_with fail
    refine (HS.out w1 _ a HB1.out HO1.out).mono ?_
    rintro e w2 ⟨rfl, hb2⟩
    have HO2 : Hid (w2.ownsRow w.heap.size 33 3 a l.length (cellsOf l)) := own_same HO1.out fun k _ hlt => hb2.block k hlt
    have HB2 : Hid (Below w.heap.size w w2) := HB1.out.trans (hb2.mono HB1.out.size)
    clear hb2
    go_wp2_with fail
    refine (HS.out w2 _ a HB2.out HO2.out).mono ?_
    rintro e w3 ⟨rfl, hb3⟩
    have HO3 : Hid (w3.ownsRow w.heap.size 33 3 a l.length (cellsOf l)) := own_same HO2.out fun k _ hlt => hb3.block k hlt
    have HB3 : Hid (Below w.heap.size w w3) := HB2.out.trans (hb3.mono HB2.out.size)
    clear hb3
    go_wp2_with fail
    refine (HSp.out w3).mono ?_
    rintro e w4 ⟨rfl, hb4⟩
    have HO4 : Hid (w4.ownsRow w.heap.size 33 3 a l.length (cellsOf l)) := own_same HO3.out fun k _ hlt => hb4.block k hlt
    have HB4 : Hid (Below w.heap.size w w4) := HB3.out.trans (hb4.mono HB3.out.size)
    clear hb4
    go_wp2_with fail
    refine (HR.out w4 HB4.out).mono ?_
    rintro e w5 ⟨rfl, hb5⟩
    have HO5 : Hid (w5.ownsRow w.heap.size 33 3 a l.length (cellsOf l)) := own_same HO4.out fun k _ hlt => hb5.block k hlt
    have HB5 : Hid (Below w.heap.size w w5) := HB4.out.trans (hb5.mono HB4.out.size)
    clear hb5
    go_wp2_with fail
    refine (HE.out w5).mono ?_
    rintro e w6 ⟨rfl, hb6⟩
    have HO6 : Hid (w6.ownsRow w.heap.size 33 3 a l.length (cellsOf l)) := own_same HO5.out fun k _ hlt => hb6.block k hlt
    have HB6 : Hid (Below w.heap.size w w6) := HB5.out.trans (hb6.mono HB5.out.size)
    clear hb6
    go_wp2_with fail
    refine (HP.out w6 _ a HB6.out HO6.out).mono ?_
    rintro e w7 ⟨rfl, hb7⟩
    have HO7 : Hid (w7.ownsRow w.heap.size 33 3 a l.length (cellsOf l)) := own_same HO6.out fun k _ hlt => hb7.block k hlt
    have HB7 : Hid (Below w.heap.size w w7) := HB6.out.trans (hb7.mono HB6.out.size)
    clear hb7
    go_wp2_with fail
    refine (HQ.out w7 HB7.out).mono ?_
    rintro e w8 ⟨rfl, hb8⟩
    have HO8 : Hid (w8.ownsRow w.heap.size 33 3 a l.length (cellsOf l)) := own_same HO7.out fun k _ hlt => hb8.block k hlt
    have HB8 : Hid (Below w.heap.size w w8) := HB7.out.trans (hb8.mono HB7.out.size)
    clear hb8
    go_wp2_with fail
    refine (HSm.out w8 _ a HB8.out HO8.out).mono ?_
    rintro e w9 ⟨rfl, hb9⟩
    have HB9 : Hid (Below w.heap.size w w9) := HB8.out.trans (hb9.mono HB8.out.size)
    clear hb9
    go_wp2_with fail
    refine (HN.out w9).mono ?_
    rintro e w10 ⟨rfl, rfl⟩
    go_wp2_with fail
    refine (HN.out w10).mono ?_
    rintro e w11 ⟨rfl, rfl⟩
    go_wp2_with fail
    go_ret
    exact ⟨rfl, HB9.out⟩
  · obtain ⟨X, hX⟩ : ∃ X : ByteArray, X = ⟨(printT set).toArray⟩ := ⟨_, rfl⟩
    have HS : Hid (∀ w1 B a, Below w.heap.size w w1 → w1.ownsRow B 33 3 a l.length (cellsOf l) → Calls Tryz.prog 27 #[a] w1 fun e w' => ∃ v, e = .returned (.tuple #[v, .int .i64 0, .int .i64 0]) ∧ w'.ownsRow w1.heap.size 33 3 v set.length (cellsOf set) ∧ Below w1.heap.size w1 w') := fun w1 B a hb ho => (set_of w1 a l (HSO.out w1 B a hb ho) (HTb.out w1 hb).2.2).mono fun e w' h => hc w1 _ e w' h
    have HP : Hid (∀ w1 B a, Below w.heap.size w w1 → w1.ownsRow B 33 3 a l.length (cellsOf l) → Calls Tryz.prog 29 #[a] w1 fun e w' => e = .returned (.tuple #[.string X, .int .i64 0, .int .i64 0]) ∧ Below w1.heap.size w1 w') := fun w1 B a hb ho => (print_of w1 a l (HSO.out w1 B a hb ho) (HTb.out w1 hb).2.2).mono fun e w' h => by rw [hX]; exact hp w1 e w' h
    have HR : Hid (∀ w1, Below w.heap.size w w1 → Calls Tryz.prog 28 #[v] w1 fun e w' => ∃ v, e = .returned (.tuple #[v, .int .i64 0, .int .i64 0]) ∧ w'.ownsRow w1.heap.size 30 3 v set.length (cellsOf set) ∧ Below w1.heap.size w1 w') := fun w1 hb => (hRS w1 hb).mono fun e w' h => hc w1 _ e w' h
    have HQ : Hid (∀ w1, Below w.heap.size w w1 → Calls Tryz.prog 30 #[v] w1 fun e w' => e = .returned (.tuple #[.string X, .int .i64 0, .int .i64 0]) ∧ Below w1.heap.size w1 w') := fun w1 hb => (HRP.out w1 hb).mono fun e w' h => by rw [hX]; exact hp w1 e w' h
    have hXs : X.size = (printT set).length := by rw [hX]; exact Back.arr_sz _
    have HPa : Hid (∀ w1, Below w.heap.size w w1 → Calls Tryz.prog 22 #[.string X] w1 fun e w' => if 20000 < X.size then e = .returned (.tuple #[.slice none 0 0, .int .i64 1, .int .i64 0]) ∧ Below w1.heap.size w1 w' else ∃ v, e = .returned (.tuple #[v, .int .i64 0, .int .i64 0]) ∧ w'.ownsRow w1.heap.size 33 3 v set.length (cellsOf set) ∧ Below w1.heap.size w1 w') := fun w1 hb => by
      refine (parse_any w1 X (HTb.out w1 hb).1 (HTb.out w1 hb).2.1 (HTb.out w1 hb).2.2).mono ?_
      intro e w' h
      unfold Ref.RdV at h
      by_cases h2 : 20000 < X.size
      · rw [if_pos h2] at h ⊢
        exact h
      · rw [if_neg h2] at h ⊢
        have hl := Back.lines_place set [] hsnd
        simp only [List.nil_append, List.length_nil, Nat.zero_add] at hl
        rw [hX, hl] at h
        have hrs := rise_self set [] (by simpa using hris) (by simpa using hs300)
        rw [List.nil_append] at hrs
        simp only [hrs] at h
        exact h
    have hbig : 20000 < X.size → set.length ≠ 0 := by
      intro h2 h3
      have h4 : X.size = 0 := by rw [hXs, List.length_eq_zero_iff.1 h3]; rfl
      omega
    have hsz : X.size ≤ maxLen := by
      have : ∀ s : List Tri, (∀ x ∈ s, soundT x = true) → (printT s).length ≤ s.length * 1000 := by
        intro s
        induction s with
        | nil => intro _; simp [printT]
        | cons x r ih =>
          intro h
          have h1 := ih (fun y hy => h y (List.mem_cons_of_mem _ hy))
          obtain ⟨s1, s2, s3⟩ := short_of (h x (List.mem_cons_self ..))
          have e : printT (x :: r) = lineT x ++ printT r := by simp [printT]
          have e2 : (lineT x).length = x.s.length + 1 + x.p.length + 1 + x.o.length + 3 := by simp [lineT]; omega
          rw [e, List.length_append, e2, List.length_cons]
          omega
      have := this set hsnd
      unfold maxLen
      omega
    unfold maxLen at hsz
    have HN : Hid (∀ w1, Calls Tryz.prog 12 #[.int .i64 0] w1 fun e w' => e = .returned (.int .i64 0) ∧ w' = w1) := fun w1 => num_all w1 0 (by omega)
    have HN1 : Hid (∀ w1, Calls Tryz.prog 12 #[.int .i64 1] w1 fun e w' => e = .returned (.int .i64 1) ∧ w' = w1) := fun w1 => num_all w1 1 (by omega)
    clear hT hH hTr hRS hSm hc hp HRP hn HTb HSO hX hXs hris hsnd
    go_enter Tryz.func8, Tryz.ntmps8
    go_wp2_with fail
    refine HTr.out.mono ?_
    rintro e w1 ⟨a, rfl, ho1, hb1⟩
    have HO1 : Hid (w1.ownsRow w.heap.size 33 3 a l.length (cellsOf l)) := ho1
    have HB1 : Hid (Below w.heap.size w w1) := hb1
    clear ho1 hb1
    go_wp2_with fail
    refine (HS.out w1 _ a HB1.out HO1.out).mono ?_
    rintro e w2 ⟨v2, rfl, hv2, hb2⟩
    have HV2 : Hid (w2.ownsRow w1.heap.size 33 3 v2 set.length (cellsOf set)) := hv2
    have HO2 : Hid (w2.ownsRow w.heap.size 33 3 a l.length (cellsOf l)) := own_same HO1.out fun k _ hlt => hb2.block k hlt
    have HB2 : Hid (Below w.heap.size w w2) := HB1.out.trans (hb2.mono HB1.out.size)
    clear hb2 hv2
    go_wp2_with fail
    refine (HS.out w2 _ a HB2.out HO2.out).mono ?_
    rintro e w3 ⟨v3, rfl, hv3, hb3⟩
    have HSp : Hid (Calls Tryz.prog 23 #[v3] w3 fun e w' => e = .returned (.tuple #[]) ∧ Below w2.heap.size w3 w') := spoil_any w3 _ _ _ _ hv3 hb3.size
    have HB3 : Hid (Below w2.heap.size w2 w3) := hb3
    clear hb3 hv3
    go_wp2_with fail
    refine HSp.out.mono ?_
    rintro e w4 ⟨rfl, hb4⟩
    have hb24 : Below w2.heap.size w2 w4 := HB3.out.trans hb4
    have HV4 : Hid (w4.ownsRow w1.heap.size 33 3 v2 set.length (cellsOf set)) := own_same HV2.out fun k _ hlt => hb24.block k hlt
    have HO4 : Hid (w4.ownsRow w.heap.size 33 3 a l.length (cellsOf l)) := own_same HO2.out fun k _ hlt => hb24.block k hlt
    have HB4 : Hid (Below w.heap.size w w4) := HB2.out.trans (hb24.mono HB2.out.size)
    clear hb4 hb24 HSp HB3
    go_wp2_with fail
    refine (HR.out w4 HB4.out).mono ?_
    rintro e w5 ⟨v5, rfl, hv5, hb5⟩
    have HV5 : Hid (w5.ownsRow w4.heap.size 30 3 v5 set.length (cellsOf set)) := hv5
    have HO5 : Hid (w5.ownsRow w.heap.size 33 3 a l.length (cellsOf l)) := own_same HO4.out fun k _ hlt => hb5.block k hlt
    have HB5 : Hid (Below w.heap.size w w5) := HB4.out.trans (hb5.mono HB4.out.size)
    have HE : Hid (Calls Tryz.prog 25 #[v2, v5] w5 fun e w' => e = .returned (.bool true) ∧ Below w5.heap.size w5 w') := same_own w5 _ _ v2 v5 set (own_same HV4.out fun k _ hlt => hb5.block k hlt) hv5 (by omega)
    clear hb5 hv5
    go_wp2_with fail
    refine HE.out.mono ?_
    rintro e w6 ⟨rfl, hb6⟩
    have HV6 : Hid (w6.ownsRow w4.heap.size 30 3 v5 set.length (cellsOf set)) := own_same HV5.out fun k _ hlt => hb6.block k hlt
    have HO6 : Hid (w6.ownsRow w.heap.size 33 3 a l.length (cellsOf l)) := own_same HO5.out fun k _ hlt => hb6.block k hlt
    have HB6 : Hid (Below w.heap.size w w6) := HB5.out.trans (hb6.mono HB5.out.size)
    clear hb6 HE
    go_wp2_with fail
    refine (HP.out w6 _ a HB6.out HO6.out).mono ?_
    rintro e w7 ⟨rfl, hb7⟩
    have HV7 : Hid (w7.ownsRow w4.heap.size 30 3 v5 set.length (cellsOf set)) := own_same HV6.out fun k _ hlt => hb7.block k hlt
    have HO7 : Hid (w7.ownsRow w.heap.size 33 3 a l.length (cellsOf l)) := own_same HO6.out fun k _ hlt => hb7.block k hlt
    have HB7 : Hid (Below w.heap.size w w7) := HB6.out.trans (hb7.mono HB6.out.size)
    clear hb7
    go_wp2_with fail
    refine (HQ.out w7 HB7.out).mono ?_
    rintro e w8 ⟨rfl, hb8⟩
    have HV8 : Hid (w8.ownsRow w4.heap.size 30 3 v5 set.length (cellsOf set)) := own_same HV7.out fun k _ hlt => hb8.block k hlt
    have HO8 : Hid (w8.ownsRow w.heap.size 33 3 a l.length (cellsOf l)) := own_same HO7.out fun k _ hlt => hb8.block k hlt
    have HB8 : Hid (Below w.heap.size w w8) := HB7.out.trans (hb8.mono HB7.out.size)
    clear hb8
    go_wp2_with fail
    refine (HSm.out w8 _ a HB8.out HO8.out).mono ?_
    rintro e w9 ⟨rfl, hb9⟩
    have HV9 : Hid (w9.ownsRow w4.heap.size 30 3 v5 set.length (cellsOf set)) := own_same HV8.out fun k _ hlt => hb9.block k hlt
    have HB9 : Hid (Below w.heap.size w w9) := HB8.out.trans (hb9.mono HB8.out.size)
    clear hb9 HO1 HO2 HO4 HO5 HO6 HO7 HO8 HV2 HV4 HV5 HV6 HV7 HV8
    go_wp2_with fail
    refine (HN.out w9).mono ?_
    rintro e w10 ⟨rfl, rfl⟩
    go_wp2_with fail
    refine (HN.out w10).mono ?_
    rintro e w11 ⟨rfl, rfl⟩
    go_wp2_with fail
    refine (HPa.out w11 HB9.out).mono ?_
    intro e w12 h12
    by_cases hb : 20000 < X.size
    · rw [if_pos hb] at h12
      obtain ⟨rfl, hb12⟩ := h12
      have HB12 : Hid (Below w.heap.size w w12) := HB9.out.trans (hb12.mono HB9.out.size)
      obtain ⟨o5, c5, rfl⟩ := own_form HV9.out
      have HE : Hid (Calls Tryz.prog 25 #[.slice none 0 0, .slice o5 set.length c5] w12 fun e w' => e = .returned (.bool false) ∧ w' = w12) := same_not w12 none o5 0 set.length 0 c5 (fun e => hbig hb e.symm)
      clear hb12 hbig
      go_wp2_with fail
      refine HE.out.mono ?_
      rintro e w13 ⟨rfl, rfl⟩
      go_wp2_with fail
      refine (HN1.out w13).mono ?_
      rintro e w14 ⟨rfl, rfl⟩
      go_wp2_with fail
      go_ret
      exact ⟨rfl, HB12.out⟩
    · rw [if_neg hb] at h12
      obtain ⟨v12, rfl, ho12, hb12⟩ := h12
      have HB12 : Hid (Below w.heap.size w w12) := HB9.out.trans (hb12.mono HB9.out.size)
      have HE : Hid (Calls Tryz.prog 25 #[v12, v5] w12 fun e w' => e = .returned (.bool true) ∧ Below w12.heap.size w12 w') := same_own w12 _ _ v12 v5 set ho12 (own_same HV9.out fun k _ hlt => hb12.block k hlt) (by omega)
      clear hb12 ho12 hbig
      go_wp2_with fail
      refine HE.out.mono ?_
      rintro e w13 ⟨rfl, hb13⟩
      have HB13 : Hid (Below w.heap.size w w13) := HB12.out.trans (hb13.mono HB12.out.size)
      clear hb13
      go_wp2_with fail
      refine (HN.out w13).mono ?_
      rintro e w14 ⟨rfl, rfl⟩
      go_wp2_with fail
      go_ret
      exact ⟨rfl, HB13.out⟩

theorem lineSets_zero (w : World) (o : Option Addr) (c : Nat) (hT : Tabs w) (hG : 8 ≤ w.heap.size) (hH : Handle w) :
    Calls Tryz.prog 8 #[.slice o 0 c] w fun e w' => e = .returned (.bool true) ∧ Below w.heap.size w w' :=
  lineSets_of w _ [] hT hG hH (by simp) (triples_zero w o c) (fun w1 _ => Ref.set_zero w1 o c) (fun w1 B a hb ho => by
    obtain ⟨oa, ca, rfl⟩ := own_form ho
    exact same_nil w1 oa o ca c)

theorem lineSets_at (w : World) (g off cap : Nat) (l : List Tri) (hg : g < w.heap.size) (hL : LiesA w g off l) (hn : l.length ≤ 2932031007317) (hT : Tabs w) (hG : 8 ≤ w.heap.size) (hH : Handle w) :
    Calls Tryz.prog 8 #[.slice (some ⟨g, off, none⟩) l.length cap] w fun e w' => e = .returned (.bool true) ∧ Below w.heap.size w w' :=
  lineSets_of w _ l hT hG hH hn (triples_at w g off cap l hg hL hn) (fun w1 hb => Ref.set_at w1 g off cap l (Nat.lt_of_lt_of_le hg hb.size) (hL.below hg hb) (by omega)) (fun w1 B a hb ho => by
    by_cases h0 : l.length = 0
    · obtain ⟨oa, ca, rfl⟩ := own_form ho
      rw [h0]
      exact same_nil w1 oa _ ca cap
    · obtain ⟨ga, ca, rfl, _, hga⟩ := ho.form (by omega)
      exact same_at w1 ga g off ca cap l (own_lies ho) (hL.below hg hb) hga (Nat.lt_of_lt_of_le hg hb.size) hn)

end Go.Proofs.YtnffjoipinhojaaGreatDoor

