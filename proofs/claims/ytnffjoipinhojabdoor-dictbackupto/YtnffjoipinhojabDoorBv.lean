import Derived.Lib.Varint
import Derived.Laws.BitsAllLaws
import Derived.Laws.Bits64
import Derived.RowKit
namespace Go.Proofs.YtnffjoipinhojabDoor.Plain

/-- The number that the first k groups of seven bits spell. -/
def grp : Nat → List UInt8 → Nat
  | 0, _ => 0
  | _ + 1, [] => 0
  | k + 1, c :: r => c.toNat % 128 + 128 * grp k r

theorem grp_lt : ∀ (k : Nat) (l : List UInt8), grp k l < 128 ^ k
  | 0, l => by simp [grp]
  | k + 1, [] => by simp [grp]; exact Nat.pow_pos (by decide)
  | k + 1, c :: r => by
    have h := grp_lt k r
    rw [grp, Nat.pow_succ]
    omega

theorem grp_succ : ∀ (k : Nat) (l : List UInt8), grp (k + 1) l = grp k l + (l.getD k 0).toNat % 128 * 128 ^ k
  | 0, [] => by simp [grp]
  | 0, c :: r => by simp [grp]
  | k + 1, [] => by simp [grp]
  | k + 1, c :: r => by
    have h := grp_succ k r
    rw [grp, h, grp, Nat.pow_succ]
    simp only [List.getD_cons_succ]
    rw [Nat.mul_add, ← Nat.add_assoc, Nat.mul_comm 128 (_ * _), Nat.mul_assoc]

theorem pow7 (k : Nat) : (128 : Nat) ^ k = 2 ^ (k * 7) := by
  rw [Nat.mul_comm, Nat.pow_mul]

theorem grp9 (k : Nat) (hk : k ≤ 9) (l : List UInt8) : grp k l < 9223372036854775808 := by
  have h := grp_lt k l
  have h2 : (128 : Nat) ^ k ≤ 128 ^ 9 := Nat.pow_le_pow_right (by decide) hk
  have h3 : (128 : Nat) ^ 9 = 9223372036854775808 := by decide
  omega

/-- One group more, in a uint64. -/
theorem step_u64 (k : Nat) (hk : k < 9) (l : List UInt8) (c : UInt8) (hc : l.getD k 0 = c) :
    bits .or .u64 (grp k l : Int) (IntKind.u64.wrap ((c.toNat : Int) % 128 * 2 ^ (k * 7))) = (grp (k + 1) l : Int) := by
  have e := grp_succ k l
  rw [hc, pow7] at e
  have hb := grp9 (k + 1) (by omega) l
  have hlt := grp_lt k l
  rw [pow7] at hlt
  have e1 : ((c.toNat : Int) % 128 * 2 ^ (k * 7)) = ((c.toNat % 128 * 2 ^ (k * 7) : Nat) : Int) := by simp
  rw [e1, IntKind.wrap_u64, Int.emod_eq_of_lt (by omega) (by omega), u64_or_nat _ _ (by omega) (by omega), Nat.or_comm, nat_join (k * 7) _ _ (Nat.mul_mod_left _ _) hlt, e]
  omega

theorem wraps_i64 (n : Int) (h0 : 0 ≤ n) (h1 : n < 2 ^ 63) : IntKind.i64.wrap n = n := by rw [IntKind.wrap_i64]; omega

/-- One group more, in an int. -/
theorem step_i64 (k : Nat) (hk : k < 9) (l : List UInt8) (c : UInt8) (hc : l.getD k 0 = c) :
    bits .or .i64 (grp k l : Int) (RowKit.wrap64 ((c.toNat : Int) % 128 * 2 ^ (7 * k))) = (grp (k + 1) l : Int) := by
  have e := grp_succ k l
  rw [hc, pow7] at e
  have hb := grp9 (k + 1) (by omega) l
  have hlt := grp_lt k l
  rw [pow7] at hlt
  have e1 : ((c.toNat : Int) % 128 * 2 ^ (7 * k)) = ((c.toNat % 128 * 2 ^ (k * 7) : Nat) : Int) := by rw [Nat.mul_comm k 7]; simp
  have e2 : RowKit.wrap64 ((c.toNat % 128 * 2 ^ (k * 7) : Nat) : Int) = ((c.toNat % 128 * 2 ^ (k * 7) : Nat) : Int) := by unfold RowKit.wrap64; omega
  have hn := (bits_nat .i64 63 (by decide) wraps_i64 (grp k l) (c.toNat % 128 * 2 ^ (k * 7)) (by omega) (by omega)).2
  rw [e1, e2, hn, Nat.or_comm, nat_join (k * 7) _ _ (Nat.mul_mod_left _ _) hlt, e]
  omega

/-- The k-th byte ends the least form of a number of at most nine groups. -/
structure Good (l : List UInt8) (k : Nat) : Prop where
  k9 : k < 9
  kl : k < l.length
  ahead : ∀ j, j < k → 128 ≤ (l.getD j 0).toNat
  last : (l.getD k 0).toNat < 128
  least : k = 0 ∨ (l.getD k 0).toNat ≠ 0

theorem Good.one {l : List UInt8} {k m : Nat} (h : Good l k) (g : Good l m) : k = m := by
  rcases Nat.lt_trichotomy k m with e | e | e
  · have := g.ahead k e; have := h.last; omega
  · exact e
  · have := h.ahead m e; have := g.last; omega

theorem no_of_bad {l : List UInt8} {k : Nat} (ha : ∀ j, j < k → 128 ≤ (l.getD j 0).toNat) (hk : 0 < k) (h0 : (l.getD k 0).toNat = 0) : ∀ m, ¬ Good l m := by
  intro m g
  rcases Nat.lt_trichotomy m k with e | e | e
  · have := ha m e; have := g.last; omega
  · subst e; rcases g.least with h | h <;> omega
  · have := g.ahead k e; omega

theorem no_of_end {l : List UInt8} {k : Nat} (ha : ∀ j, j < k → 128 ≤ (l.getD j 0).toNat) (hk : l.length ≤ k ∨ 9 ≤ k) : ∀ m, ¬ Good l m := by
  intro m g
  have h1 := g.k9
  have h2 := g.kl
  have := ha m (by omega)
  have := g.last
  omega

theorem ahead_snoc {l : List UInt8} {k : Nat} (ha : ∀ j, j < k → 128 ≤ (l.getD j 0).toNat) (h : 128 ≤ (l.getD k 0).toNat) : ∀ j, j < k + 1 → 128 ≤ (l.getD j 0).toNat := by
  intro j hj
  rcases Nat.lt_or_ge j k with e | e
  · exact ha j e
  · obtain rfl : j = k := by omega
    exact h

theorem uv_good : ∀ (n : Nat) (rest : List UInt8) (m : Nat), (Lib.uvarint n).length = m + 1 →
    (∀ j, j < m → 128 ≤ ((Lib.uvarint n ++ rest).getD j 0).toNat) ∧ ((Lib.uvarint n ++ rest).getD m 0).toNat < 128 ∧ (m = 0 ∨ ((Lib.uvarint n ++ rest).getD m 0).toNat ≠ 0) ∧ grp (m + 1) (Lib.uvarint n ++ rest) = n ∧ (0 < n → ((Lib.uvarint n ++ rest).getD m 0).toNat ≠ 0) := by
  intro n
  induction n using Nat.strongRecOn with
  | _ n ih =>
    intro rest m hm
    by_cases hn : n < 128
    · rw [Lib.uvarint_small hn] at hm ⊢
      have h0 : m = 0 := by simpa using hm.symm
      subst h0
      have e : n.toUInt8.toNat = n := by simp; omega
      refine ⟨fun j hj => by omega, ?_, .inl rfl, ?_, ?_⟩
      · simp; omega
      · simp [grp]; omega
      · intro hp; simp; omega
    · rw [Lib.uvarint_big (by omega)] at hm ⊢
      have h1 := Lib.uvarint_pos (n / 128)
      obtain ⟨m', rfl⟩ : ∃ m', m = m' + 1 := ⟨m - 1, by simp at hm; omega⟩
      obtain ⟨a, b, _, d, f⟩ := ih (n / 128) (by omega) rest m' (by simpa using hm)
      have hf := f (by omega)
      have e : (n % 128 + 128).toUInt8.toNat = n % 128 + 128 := by simp; omega
      refine ⟨?_, ?_, .inr ?_, ?_, fun _ => ?_⟩
      · intro j hj
        cases j with
        | zero => simp only [List.cons_append, List.getD_cons_zero, e]; omega
        | succ j => simp only [List.cons_append, List.getD_cons_succ]; exact a j (by omega)
      · simp only [List.cons_append, List.getD_cons_succ]; exact b
      · simp only [List.cons_append, List.getD_cons_succ]; exact hf
      · simp only [List.cons_append, grp, e, d]; omega
      · simp only [List.cons_append, List.getD_cons_succ]; exact hf

/-- What Varint writes is read again. -/
theorem good_of_uv (n : Nat) (hn : n < 9223372036854775808) (rest : List UInt8) :
    Good (Lib.uvarint n ++ rest) ((Lib.uvarint n).length - 1) ∧ grp (Lib.uvarint n).length (Lib.uvarint n ++ rest) = n := by
  have h9 := Lib.uvarint_length 8 n (Nat.lt_of_lt_of_le hn (by decide))
  have h1 := Lib.uvarint_pos n
  obtain ⟨a, b, c, d, _⟩ := uv_good n rest ((Lib.uvarint n).length - 1) (by omega)
  have e : (Lib.uvarint n).length - 1 + 1 = (Lib.uvarint n).length := by omega
  rw [e] at d
  exact ⟨⟨by omega, by rw [List.length_append]; omega, a, b, c⟩, d⟩

end Go.Proofs.YtnffjoipinhojabDoor.Plain
