import Derived.Lib.Varint
import GoSem.Op.String
set_option linter.unusedSimpArgs false
set_option linter.unusedVariables false
namespace Go.Proofs.YtnffjoipinhojabDoor

/-! Dicts, plainly. -/

/-- how many bytes two texts have in common at their beginning -/
def comn : List UInt8 → List UInt8 → Nat
  | x :: a, y :: b => if x = y then comn a b + 1 else 0
  | _, _ => 0

theorem comn_le : ∀ a b : List UInt8, comn a b ≤ a.length ∧ comn a b ≤ b.length
  | x :: a, y :: b => by
    have := comn_le a b
    simp only [comn, List.length_cons]
    split <;> omega
  | [], b => by simp [comn]
  | x :: a, [] => by simp [comn]

/-- one byte more, or the end -/
theorem comn_on {a b : List UInt8} {n : Nat} {x : UInt8} (ha : a[n]? = some x) (hb : b[n]? = some x) : comn (a.drop n) (b.drop n) = comn (a.drop (n + 1)) (b.drop (n + 1)) + 1 := by
  obtain ⟨h1, e1⟩ := List.getElem?_eq_some_iff.1 ha
  obtain ⟨h2, e2⟩ := List.getElem?_eq_some_iff.1 hb
  rw [List.drop_eq_getElem_cons h1, List.drop_eq_getElem_cons h2, e1, e2]
  simp [comn]
theorem comn_ne {a b : List UInt8} {n : Nat} {x y : UInt8} (ha : a[n]? = some x) (hb : b[n]? = some y) (h : x ≠ y) : comn (a.drop n) (b.drop n) = 0 := by
  obtain ⟨h1, e1⟩ := List.getElem?_eq_some_iff.1 ha
  obtain ⟨h2, e2⟩ := List.getElem?_eq_some_iff.1 hb
  rw [List.drop_eq_getElem_cons h1, List.drop_eq_getElem_cons h2, e1, e2]
  simp [comn, h]
theorem comn_out {a b : List UInt8} {n : Nat} (h : a.length ≤ n ∨ b.length ≤ n) : comn (a.drop n) (b.drop n) = 0 := by
  have := comn_le (a.drop n) (b.drop n)
  simp only [List.length_drop] at this
  omega

/-- a text behind another one of its block -/
def enc4 (a t : List UInt8) : List UInt8 := Lib.uvarint (comn a t) ++ Lib.uvarint (t.length - comn a t) ++ t.drop (comn a t)
def tailE : List UInt8 → List (List UInt8) → List UInt8
  | _, [] => []
  | a, t :: r => enc4 a t ++ tailE t r
/-- a block -/
def blockE : List (List UInt8) → List UInt8
  | [] => []
  | t :: r => Lib.uvarint t.length ++ t ++ tailE t r
/-- all blocks -/
def dictE (l : List (List UInt8)) : List UInt8 := if h : l = [] then [] else blockE (l.take 4) ++ dictE (l.drop 4)
termination_by l.length
decreasing_by
  have := List.length_pos_iff.2 h
  simp only [List.length_drop]
  omega

theorem dictE_nil : dictE [] = [] := by rw [dictE, dif_pos rfl]
theorem dictE_cons (t : List UInt8) (r : List (List UInt8)) : dictE (t :: r) = Lib.uvarint t.length ++ t ++ tailE t (r.take 3) ++ dictE (r.drop 3) := by
  rw [dictE, dif_neg (by simp)]
  simp [blockE]

/-- what is left to be written, of the text at place i on -/
def restE (l : List (List UInt8)) (i : Nat) : List UInt8 := tailE (l.getD (i - 1) []) ((l.drop i).take ((4 - i % 4) % 4)) ++ dictE (l.drop (i + (4 - i % 4) % 4))

theorem rest_start (l : List (List UInt8)) : restE l 0 = dictE l := by simp [restE, tailE]
theorem rest_end (l : List (List UInt8)) {i : Nat} (h : l.length ≤ i) : restE l i = [] := by
  unfold restE
  rw [List.drop_eq_nil_of_le h, List.drop_eq_nil_of_le (by omega), dictE_nil]
  simp [tailE]
theorem drop_cons {l : List (List UInt8)} {i : Nat} {t : List UInt8} (h : l[i]? = some t) : l.drop i = t :: l.drop (i + 1) := by
  obtain ⟨h1, e1⟩ := List.getElem?_eq_some_iff.1 h
  rw [List.drop_eq_getElem_cons h1, e1]
theorem rest_zero {l : List (List UInt8)} {i : Nat} {t : List UInt8} (h : l[i]? = some t) (h4 : i % 4 = 0) : restE l i = Lib.uvarint t.length ++ t ++ restE l (i + 1) := by
  have e1 : (4 - i % 4) % 4 = 0 := by omega
  have e2 : (4 - (i + 1) % 4) % 4 = 3 := by omega
  have e3 : l.getD (i + 1 - 1) [] = t := by
    rw [Nat.add_sub_cancel, List.getD_eq_getElem?_getD, h]
    rfl
  unfold restE
  rw [e1, e2, e3, Nat.add_zero, drop_cons h, dictE_cons, List.drop_drop]
  simp [tailE, List.append_assoc]
theorem rest_in {l : List (List UInt8)} {i : Nat} {a t : List UInt8} (h : l[i]? = some t) (ha : l[i - 1]? = some a) (h4 : i % 4 ≠ 0) : restE l i = enc4 a t ++ restE l (i + 1) := by
  obtain ⟨r, hr⟩ : ∃ r, (4 - i % 4) % 4 = r + 1 := ⟨(4 - i % 4) % 4 - 1, by omega⟩
  have e2 : (4 - (i + 1) % 4) % 4 = r := by omega
  have e3 : l.getD (i + 1 - 1) [] = t := by
    rw [Nat.add_sub_cancel, List.getD_eq_getElem?_getD, h]
    rfl
  have e4 : l.getD (i - 1) [] = a := by
    rw [List.getD_eq_getElem?_getD, ha]
    rfl
  unfold restE
  rw [hr, e2, e3, e4, drop_cons h, List.take_succ_cons, tailE, List.append_assoc]
  rw [show i + (r + 1) = i + 1 + r by omega]

/-- a block more -/
theorem dict_block {l : List (List UInt8)} {i : Nat} (h : i < l.length) : dictE (l.drop i) = blockE ((l.drop i).take 4) ++ dictE (l.drop (i + 4)) := by
  rw [dictE, dif_neg (by intro e; have := congrArg List.length e; simp at this; omega), List.drop_drop]

/-! The order of texts. -/

theorem less_total : ∀ a b : List UInt8, (Op.bytesLess b a || (b == a)) = !Op.bytesLess a b
  | [], [] => by simp [Op.bytesLess]
  | [], y :: b => by simp [Op.bytesLess]
  | x :: a, [] => by simp [Op.bytesLess]
  | x :: a, y :: b => by
    have ih := less_total a b
    simp only [Op.bytesLess, List.cons_beq_cons]
    rcases Nat.lt_trichotomy x.toNat y.toNat with h | h | h
    · have h1 : x < y := h
      have h2 : ¬ y < x := fun e => Nat.lt_asymm h e
      have h3 : x ≠ y := fun e => by subst e; exact Nat.lt_irrefl _ h
      simp [h1, h2, h3, h3.symm]
    · have h1 : x = y := UInt8.toNat_inj.1 h
      subst h1
      have h2 : ¬ x < x := fun e => Nat.lt_irrefl _ e
      simp [h2, ih]
    · have h1 : y < x := h
      have h2 : ¬ x < y := fun e => Nat.lt_asymm h e
      have h3 : x ≠ y := fun e => by subst e; exact Nat.lt_irrefl _ h
      simp [h1, h2, h3, h3.symm]

/-- the first text that does not stand behind the one ahead of it: q is the place of the second one of the list -/
def orderAt : Nat → List (List UInt8) → Option Nat
  | q, a :: b :: r => if Op.bytesLess a b then orderAt (q + 1) (b :: r) else some q
  | _, _ => none
/-- the first text that is too long -/
def longAt : Nat → List (List UInt8) → Option Nat
  | _, [] => none
  | q, t :: r => if 200 < t.length then some q else longAt (q + 1) r

theorem order_step {l : List (List UInt8)} {q : Nat} {a b : List UInt8} (hq : 0 < q) (ha : l[q - 1]? = some a) (hb : l[q]? = some b) :
    orderAt q (l.drop (q - 1)) = if Op.bytesLess a b then orderAt (q + 1) (l.drop q) else some q := by
  rw [drop_cons ha, show q - 1 + 1 = q by omega, drop_cons hb, orderAt]
theorem order_end {l : List (List UInt8)} {q : Nat} (hq : 0 < q) (h : l.length ≤ q) : orderAt q (l.drop (q - 1)) = none := by
  cases e : l.drop (q - 1) with
  | nil => rfl
  | cons a r =>
    cases r with
    | nil => rfl
    | cons b r =>
      have := congrArg List.length e
      simp at this
      omega
theorem long_step {l : List (List UInt8)} {q : Nat} {t : List UInt8} (h : l[q]? = some t) : longAt q (l.drop q) = if 200 < t.length then some q else longAt (q + 1) (l.drop (q + 1)) := by
  rw [drop_cons h, longAt]
theorem long_end {l : List (List UInt8)} {q : Nat} (h : l.length ≤ q) : longAt q (l.drop q) = none := by
  rw [List.drop_eq_nil_of_le h, longAt]

end Go.Proofs.YtnffjoipinhojabDoor
