import Derived.Test.YtnffjoipinhojabDoorHb
set_option linter.unusedSimpArgs false
set_option linter.unusedVariables false
namespace Go.Proofs.YtnffjoipinhojabDoor
open Go.RowKit

/-! What the document's own opening knows on its way. -/

/-- the data are those of a good list -/
def DictOf (D : ByteArray) (L : List (List UInt8)) : Prop := refuse L = none ∧ L.length ≤ 1048576 ∧ D.data.toList = Lib.uvarint L.length ++ dictE L

/-- whatever list it is, so far it has been read -/
def Gh (D : ByteArray) (n i p : Nat) (bad : Bool) (acc : List (List UInt8)) : Prop :=
  ∀ L, DictOf D L → bad = false ∧ n = L.length ∧ i ≤ L.length ∧ acc = L.take i ∧ D.data.toList.drop p = restE L i

theorem gh_start {D : ByteArray} {n j : Nat} {bad : Bool} (h : ∀ x post, x ≤ 9223372036854775807 → D.data.toList.drop 0 = Lib.uvarint x ++ post → n = x ∧ j = 0 + (Lib.uvarint x).length ∧ bad = false) : Gh D n 0 j bad [] := fun L hL => by
  obtain ⟨h1, h2, h3⟩ := hL
  obtain ⟨e1, e2, e3⟩ := h L.length (dictE L) (by omega) (by rw [List.drop_zero]; exact h3)
  refine ⟨e3, e1, Nat.zero_le _, rfl, ?_⟩
  rw [e2, h3, Nat.zero_add, List.drop_left, rest_start]

theorem drop_on {X a b : List UInt8} {p : Nat} (h : X.drop p = a ++ b) : X.drop (p + a.length) = b := by
  rw [← List.drop_drop, h, List.drop_left]

theorem gh_zero {D : ByteArray} {n i p m j j2 : Nat} {bad b1 b2 : Bool} {acc : List (List UInt8)} {t : List UInt8} (h : Gh D n i p bad acc) (hi : i < n) (h4 : i % 4 = 0)
    (h1 : ∀ x post, x ≤ 9223372036854775807 → D.data.toList.drop p = Lib.uvarint x ++ post → m = x ∧ j = p + (Lib.uvarint x).length ∧ b1 = bad)
    (h2 : ∀ x post, x.length = m → b1 = false → D.data.toList.drop j = x ++ post → t = x ∧ j2 = j + x.length ∧ b2 = false) : Gh D n (i + 1) j2 b2 (acc ++ [t]) := fun L hL => by
  obtain ⟨g1, g2, g3, g4, g5⟩ := h L hL
  obtain ⟨y, hy⟩ : ∃ y, L[i]? = some y := ⟨_, List.getElem?_eq_getElem (by omega)⟩
  have hs := (good_parts hL.1).2 y (List.mem_of_getElem? hy)
  rw [rest_zero hy h4, List.append_assoc] at g5
  obtain ⟨e1, e2, e3⟩ := h1 _ _ (by omega) g5
  have g6 := drop_on g5
  rw [← e2] at g6
  obtain ⟨f1, f2, f3⟩ := h2 y _ e1.symm (by rw [e3, g1]) g6
  refine ⟨f3, g2, by omega, ?_, ?_⟩
  · rw [List.take_add_one, hy, g4, f1]
    rfl
  · rw [f2]
    exact drop_on g6

theorem gh_in {D : ByteArray} {n i p k p1 m j j2 : Nat} {bad b0 b1 b2 : Bool} {acc : List (List UInt8)} {a t : List UInt8} (h : Gh D n i p bad acc) (hi : i < n) (h4 : i % 4 ≠ 0) (ha : acc[i - 1]? = some a)
    (h0 : ∀ x post, x ≤ 9223372036854775807 → D.data.toList.drop p = Lib.uvarint x ++ post → k = x ∧ p1 = p + (Lib.uvarint x).length ∧ b0 = bad)
    (h1 : ∀ x post, x ≤ 9223372036854775807 → D.data.toList.drop p1 = Lib.uvarint x ++ post → m = x ∧ j = p1 + (Lib.uvarint x).length ∧ b1 = b0)
    (h2 : ∀ x post, x.length = m → b1 = false → D.data.toList.drop j = x ++ post → t = x ∧ j2 = j + x.length ∧ b2 = false) : Gh D n (i + 1) j2 b2 (acc ++ [a.take k ++ t]) := fun L hL => by
  obtain ⟨g1, g2, g3, g4, g5⟩ := h L hL
  obtain ⟨y, hy⟩ : ∃ y, L[i]? = some y := ⟨_, List.getElem?_eq_getElem (by omega)⟩
  have hs := (good_parts hL.1).2 y (List.mem_of_getElem? hy)
  have ha' : L[i - 1]? = some a := by
    rw [g4, List.getElem?_take_of_lt (by omega)] at ha
    exact ha
  have hc := comn_le a y
  rw [rest_in hy ha' h4, enc4] at g5
  simp only [List.append_assoc] at g5
  obtain ⟨d1, d2, d3⟩ := h0 _ _ (by omega) g5
  have g6 := drop_on g5
  rw [← d2] at g6
  obtain ⟨e1, e2, e3⟩ := h1 _ _ (by omega) g6
  have g7 := drop_on g6
  rw [← e2] at g7
  obtain ⟨f1, f2, f3⟩ := h2 (y.drop (comn a y)) _ (by rw [List.length_drop, e1]) (by rw [e3, d3, g1]) g7
  refine ⟨f3, g2, by omega, ?_, ?_⟩
  · rw [List.take_add_one, hy, g4, f1, d1, comn_take, List.take_append_drop]
    rfl
  · rw [f2]
    exact drop_on g7

theorem gh_over {D : ByteArray} {n i p k p1 : Nat} {bad b0 : Bool} {acc : List (List UInt8)} {a : List UInt8} (h : Gh D n i p bad acc) (hi : i < n) (h4 : i % 4 ≠ 0) (ha : acc[i - 1]? = some a)
    (h0 : ∀ x post, x ≤ 9223372036854775807 → D.data.toList.drop p = Lib.uvarint x ++ post → k = x ∧ p1 = p + (Lib.uvarint x).length ∧ b0 = bad) (hk : a.length < k) : ∀ L, ¬ DictOf D L := fun L hL => by
  obtain ⟨g1, g2, g3, g4, g5⟩ := h L hL
  obtain ⟨y, hy⟩ : ∃ y, L[i]? = some y := ⟨_, List.getElem?_eq_getElem (by omega)⟩
  have hs := (good_parts hL.1).2 y (List.mem_of_getElem? hy)
  have ha' : L[i - 1]? = some a := by
    rw [g4, List.getElem?_take_of_lt (by omega)] at ha
    exact ha
  have hc := comn_le a y
  rw [rest_in hy ha' h4, enc4] at g5
  simp only [List.append_assoc] at g5
  obtain ⟨d1, _⟩ := h0 _ _ (by omega) g5
  omega

theorem gh_bad {D : ByteArray} {n i p : Nat} {acc : List (List UInt8)} (h : Gh D n i p true acc) : ∀ L, ¬ DictOf D L := fun L hL => by
  have := (h L hL).1
  cases this
theorem gh_end {D : ByteArray} {n i p : Nat} {bad : Bool} {acc L : List (List UInt8)} (h : Gh D n i p bad acc) (hi : n ≤ i) (hL : DictOf D L) : acc = L := by
  obtain ⟨g1, g2, g3, g4, g5⟩ := h L hL
  rw [g4, List.take_of_length_le (by omega)]

/-- what BuildDict says of it in the end -/
theorem rbV_says {D : ByteArray} {l : List (List UInt8)} (hn : l.length ≤ 1048576) : ∃ (S : ByteArray) (n i : Int), rbV l = .tuple #[.string S, .int .i64 n, .int .i64 i] ∧ ((n = 0 ∧ S = D) ↔ DictOf D l) := by
  cases hr : refuse l with
  | some x =>
    refine ⟨_, _, _, rbV_some (n := x.1) (i := x.2) hr, ?_⟩
    have hx : x.1 ≠ 0 := by
      unfold refuse at hr
      split at hr
      · cases hr; simp
      · split at hr
        · cases hr; simp
        · cases hr
    exact ⟨fun e => absurd e.1 hx, fun e => by have := e.1; rw [hr] at this; cases this⟩
  | none =>
    refine ⟨_, _, _, rbV_none hr, ?_⟩
    constructor
    · rintro ⟨_, rfl⟩
      exact ⟨hr, hn, rfl⟩
    · rintro ⟨_, _, e⟩
      refine ⟨rfl, ?_⟩
      obtain ⟨⟨D⟩⟩ := D
      simp only at e
      rw [← e]
end Go.Proofs.YtnffjoipinhojabDoor
