import Derived.Test.YtnffjoipinhojaaDoorOc
import Derived.Lib.TrailingZeros
namespace Go.Proofs.YtnffjoipinhojaaDoor.Plain

theorem pop_mul : ∀ (k y r : Nat), pop (2 ^ k * y) r = if r ≤ k then 0 else pop y (r - k)
  | 0, y, r => by
    cases r with
    | zero => simp [pop]
    | succ r => simp
  | k + 1, y, r => by
    cases r with
    | zero => simp [pop]
    | succ r =>
      have e : 2 ^ (k + 1) * y = 2 * (2 ^ k * y) := by rw [Nat.pow_succ]; simp [Nat.mul_comm, Nat.mul_left_comm]
      have h1 : pop (2 ^ (k + 1) * y) (r + 1) = pop (2 ^ k * y) r := by
        rw [e, pop]
        have a : 2 * (2 ^ k * y) % 2 = 0 := by omega
        have b : 2 * (2 ^ k * y) / 2 = 2 ^ k * y := by omega
        rw [a, b]; omega
      rw [h1, pop_mul k y r]
      by_cases h : r ≤ k
      · rw [if_pos h, if_pos (by omega)]
      · rw [if_neg h, if_neg (by omega)]; congr 1; omega

theorem and_pred (k m : Nat) : (2 ^ k * (2 * m + 1)) &&& (2 ^ k * (2 * m + 1) - 1) = 2 ^ k * (2 * m) := by
  have p : 0 < 2 ^ k := Nat.two_pow_pos k
  have e1 : 2 ^ k * (2 * m + 1) = 2 ^ (k + 1) * m + 2 ^ k := by rw [Nat.pow_succ, Nat.mul_add, Nat.mul_one, Nat.mul_assoc]
  have e2 : 2 ^ k * (2 * m + 1) - 1 = 2 ^ (k + 1) * m + (2 ^ k - 1) := by rw [e1]; omega
  have e3 : 2 ^ k * (2 * m) = 2 ^ (k + 1) * m + 0 := by rw [Nat.pow_succ, Nat.mul_assoc]; rfl
  have hs : 2 ^ (k + 1) = 2 * 2 ^ k := by rw [Nat.pow_succ, Nat.mul_comm]
  rw [e2, e1, e3]
  apply Nat.eq_of_testBit_eq
  intro i
  rw [Nat.testBit_and, Nat.testBit_two_pow_mul_add _ (by omega), Nat.testBit_two_pow_mul_add _ (by omega), Nat.testBit_two_pow_mul_add _ (by omega)]
  split
  · rw [Nat.testBit_two_pow, Nat.testBit_two_pow_sub_one]
    simp
    omega
  · simp

theorem pop_clear (x : Nat) (h0 : x ≠ 0) (h : x < 2 ^ 64) (r : Nat) : pop (x &&& (x - 1)) r = pop x r - 1 := by
  obtain ⟨m, hm, hk⟩ := Lib.ctzFrom_spec 64 x (by omega) h
  obtain ⟨k, hk'⟩ : ∃ k, k = Lib.ctzFrom 64 x := ⟨_, rfl⟩
  rw [← hk'] at hm
  rw [hm, and_pred, pop_mul, pop_mul]
  split
  · rfl
  · obtain ⟨s, hs⟩ : ∃ s, r - k = s + 1 := ⟨r - k - 1, by omega⟩
    rw [hs, pop, pop]
    have a : 2 * m % 2 = 0 := by omega
    have b : 2 * m / 2 = m := by omega
    have c : (2 * m + 1) % 2 = 1 := by omega
    have d : (2 * m + 1) / 2 = m := by omega
    rw [a, b, c, d]; omega

/-- the lowest 1 of what is left, told of the whole -/
theorem nth_is (y x n : Nat) (h0 : x ≠ 0) (h : x < 2 ^ 64) (hp : ∀ r, pop x r = pop y r - n) :
    Lib.ctz 64 x < 64 ∧ pop y (Lib.ctz 64 x) = n ∧ y / 2 ^ Lib.ctz 64 x % 2 = 1 := by
  obtain ⟨m, hm, hk⟩ := Lib.ctzFrom_spec 64 x (by omega) h
  have e : Lib.ctz 64 x = Lib.ctzFrom 64 x := by simp [Lib.ctz, h0]
  obtain ⟨k, hk'⟩ : ∃ k, k = Lib.ctzFrom 64 x := ⟨_, rfl⟩
  rw [e, ← hk']
  rw [← hk'] at hm hk
  have a := hp k
  have b := hp (k + 1)
  rw [hm, pop_mul] at a b
  rw [if_pos (Nat.le_refl k)] at a
  rw [if_neg (by omega), show k + 1 - k = 0 + 1 by omega, pop] at b
  have c : (2 * m + 1) % 2 = 1 := by omega
  rw [c, pop] at b
  have d := pop_succ y k
  have f : y / 2 ^ k % 2 < 2 := Nat.mod_lt _ (by decide)
  refine ⟨hk, ?_, ?_⟩ <;> omega
end Go.Proofs.YtnffjoipinhojaaDoor.Plain
namespace Go.Proofs.YtnffjoipinhojaaDoor
open Go.RowKit

/-- the library's table, laid in its variable -/
def Tab (w : World) : Prop := ∀ j, j < 64 → w.cell? ⟨1, j, none⟩ = some (.int .u8 (Lib.deBruijn64tab.getD j 0 : Nat))

set_option maxHeartbeats 1000000 in
theorem tz_core (x k idx : Nat) (w : World) (hx0 : ((x : Int) == 0) = false)
    (key : IntKind.u64.wrap (bits BinOp.and IntKind.u64 (x : Int) (IntKind.u64.wrap (-(x : Int))) * 285870213051353865) / 288230376151711744 = (idx : Int))
    (hi : idx < 64) (hk : k < 64) (hcell : w.cell? ⟨1, idx, none⟩ = some (.int .u8 k)) :
    Calls Tryd.prog 46 #[.int .u64 x] w fun e w' => e = .returned (.int .i64 k) ∧ w = w' := by
  go_enter Tryd.func46, Tryd.ntmps46
  go_wp2_with (simp only [key])
  go_ret
  exact ⟨rfl, rfl⟩

/-- math/bits.TrailingZeros64, but at 0 -/
theorem tz_any (x : Nat) (w : World) (hx : x < 18446744073709551616) (h0 : x ≠ 0) (hT : Tab w) :
    Calls Tryd.prog 46 #[.int .u64 x] w fun e w' => e = .returned (.int .i64 (Lib.ctz 64 x : Nat)) ∧ w = w' := by
  obtain ⟨hlow, hk⟩ := Lib.lowest_bit 64 x h0 hx
  obtain ⟨hi, htab⟩ := Lib.deBruijn64_at _ hk
  have hcell := hT _ hi
  rw [htab] at hcell
  refine tz_core x _ _ w (by simp; omega) ?_ hi hk hcell
  have e1 : IntKind.u64.wrap (-(x : Int)) = ((18446744073709551616 - x : Nat) : Int) := by rw [IntKind.wrap_u64]; omega
  have e2 : x &&& (18446744073709551616 - x) = 2 ^ Lib.ctz 64 x := hlow
  rw [e1, andU (m := x) rfl hx (by omega), e2, IntKind.wrap_u64]
  generalize 2 ^ Lib.ctz 64 x = a
  simp only [Int.natCast_ediv, Int.natCast_emod, Int.natCast_mul]
  rfl
end Go.Proofs.YtnffjoipinhojaaDoor
