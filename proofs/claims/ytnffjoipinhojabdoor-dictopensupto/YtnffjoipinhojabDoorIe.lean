import Derived.Test.YtnffjoipinhojabDoorId
set_option linter.unusedSimpArgs false
set_option linter.unusedVariables false
namespace Go.Proofs.YtnffjoipinhojabDoor
open Go.RowKit

/-! What the blocks say of the whole. -/

theorem dictE_step (l : List (List UInt8)) (h : l ≠ []) : dictE l = blockE (l.take 4) ++ dictE (l.drop 4) := by rw [dictE, dif_neg h]

theorem dictE_join : ∀ (q : Nat) (acc T : List (List UInt8)), acc.length = 4 * q → T ≠ [] → T.length ≤ 4 → dictE (acc ++ T) = dictE acc ++ blockE T
  | 0, acc, T, h, h0, h4 => by
    have : acc = [] := List.length_eq_zero_iff.1 (by omega)
    subst this
    rw [List.nil_append, dictE_nil, List.nil_append, dictE_step T h0, List.take_of_length_le h4, List.drop_eq_nil_of_le h4, dictE_nil, List.append_nil]
  | q + 1, acc, T, h, h0, h4 => by
    have hne : acc ≠ [] := fun e => by rw [e] at h; simp at h
    have ih := dictE_join q (acc.drop 4) T (by rw [List.length_drop]; omega) h0 h4
    rw [dictE_step (acc ++ T) (by simp [hne]), dictE_step acc hne, List.take_append_of_le_length (by omega), List.drop_append_of_le_length (by omega), ih, List.append_assoc]

theorem tailE_ge : ∀ (a : List UInt8) (T : List (List UInt8)), T.length ≤ (tailE a T).length
  | _, [] => by simp
  | a, t :: r => by
    have := tailE_ge t r
    have h1 := Lib.uvarint_pos (comn a t)
    simp only [tailE, enc4, List.length_append, List.length_cons]
    omega
theorem blockE_ge (T : List (List UInt8)) : T.length ≤ (blockE T).length := by
  cases T with
  | nil => simp
  | cons t r =>
    have := tailE_ge t r
    have h1 := Lib.uvarint_pos t.length
    simp only [blockE, List.length_append, List.length_cons]
    omega

/-- a rising list, and what rises behind its last one -/
theorem rise_join {acc ml T : List (List UInt8)} (h1 : Rise2 acc) (h2 : Rise2 (ml ++ T)) (hm : ml = acc.drop (acc.length - 1)) : Rise2 (acc ++ T) := Rise2.mk fun k a b ha hb => by
  by_cases hk : k + 1 < acc.length
  · rw [List.getElem?_append_left (by omega)] at ha
    rw [List.getElem?_append_left hk] at hb
    exact h1.at ha hb
  · rw [List.getElem?_append_right (by omega)] at hb
    by_cases hk2 : k < acc.length
    · rw [List.getElem?_append_left hk2] at ha
      have hml : ml.length = 1 := by rw [hm, List.length_drop]; omega
      refine h2.at (k := 0) ?_ ?_
      · rw [List.getElem?_append_left (by omega), hm, List.getElem?_drop, show acc.length - 1 + 0 = k by omega]
        exact ha
      · rw [List.getElem?_append_right (by omega), hml, show 0 + 1 - 1 = k + 1 - acc.length by omega]
        exact hb
    · rw [List.getElem?_append_right (by omega)] at ha
      refine h2.at (k := ml.length + (k - acc.length)) ?_ ?_
      · rw [List.getElem?_append_right (by omega), show ml.length + (k - acc.length) - ml.length = k - acc.length by omega]
        exact ha
      · rw [List.getElem?_append_right (by omega), show ml.length + (k - acc.length) + 1 - ml.length = k + 1 - acc.length by omega]
        exact hb

/-- as long as nothing is refused: what has been read -/
structure Ok (D : ByteArray) (n q p : Nat) (acc ml : List (List UInt8)) : Prop where
  len : acc.length = min n (4 * q)
  rise : Rise2 acc
  short : ∀ t ∈ acc, t.length ≤ 200
  data : D.data.toList = Lib.uvarint n ++ dictE acc ++ D.data.toList.drop p
  last : 4 * q < n → ml = acc.drop (acc.length - 1)
  some : acc.length ≤ p

theorem Ok.start {D : ByteArray} {n p : Nat} (h : D.data.toList.drop 0 = Lib.uvarint n ++ D.data.toList.drop p) : Ok D n 0 p [] [] :=
  ⟨by simp, trivial, (fun t ht => by cases ht), by rw [dictE_nil, List.append_nil]; rw [List.drop_zero] at h; exact h, fun _ => rfl, Nat.zero_le _⟩

theorem Ok.step {D : ByteArray} {n q p p2 : Nat} {acc ml T : List (List UInt8)} (h : Ok D n q p acc ml) (hlt : 4 * q < n) (hT : T.length = min (n - 4 * q) 4) (hr : refuse (ml ++ T) = none) (hb : D.data.toList.drop p = blockE T ++ D.data.toList.drop p2) (hp : p2 = p + (blockE T).length) :
    Ok D n (q + 1) p2 (acc ++ T) (T.drop (T.length - 1)) := by
  have hl : acc.length = 4 * q := by have := h.len; omega
  have hg := good_parts hr
  have hge := blockE_ge T
  have hs := h.some
  refine ⟨by rw [List.length_append]; omega, rise_join h.rise hg.1 (h.last hlt), fun t ht => ?_, ?_, fun h4 => ?_, by rw [List.length_append]; omega⟩
  · rcases List.mem_append.1 ht with h1 | h1
    · exact h.short t h1
    · exact hg.2 t (List.mem_append.2 (.inr h1))
  · rw [dictE_join q acc T hl (fun e => by rw [e] at hT; simp at hT; omega) (by omega)]
    have := h.data
    rw [hb] at this
    simp only [List.append_assoc] at this ⊢
    exact this
  · rw [List.drop_append]
    have e1 : List.drop ((acc ++ T).length - 1) acc = [] := List.drop_eq_nil_of_le (by rw [List.length_append]; omega)
    rw [e1, List.nil_append]
    congr 1
    rw [List.length_append]
    omega

theorem Ok.done {D : ByteArray} {n q : Nat} {acc ml : List (List UInt8)} (h : Ok D n q D.size acc ml) (hn : n ≤ 4 * q) (hD : D.size ≤ 1048576) : DictOf D acc := by
  have hl : acc.length = n := by have := h.len; omega
  refine ⟨refuse_good h.rise h.short, by have := h.some; omega, ?_⟩
  have := h.data
  rw [show D.data.toList.drop D.size = [] from List.drop_eq_nil_of_le (by rw [Array.length_toList]; exact Nat.le_refl _), List.append_nil] at this
  rw [hl]
  exact this

end Go.Proofs.YtnffjoipinhojabDoor
