import Derived.Test.YtnffjoipinhojabDoorProg
import Derived.WalkKit
import Derived.WalkLawsBesides
import Derived.WalkSpells
namespace Go.Proofs.YtnffjoipinhojabDoor
open Go.RowKit

theorem ret_int {k : IntKind} {a b : Int} (h : a = b) : Ending.returned (.int k a) = .returned (.int k b) := by rw [h]
theorem ret_bool {a b : Bool} (h : a = b) : Ending.returned (.bool a) = .returned (.bool b) := by rw [h]

theorem mask64 (n c : Nat) (hn : n < 18446744073709551616) (hc : c ≤ 64) :
    bits .and .u64 (n : Int) (IntKind.u64.wrap (IntKind.u64.wrap (2 ^ c) - 1)) = ((n % 2 ^ c : Nat) : Int) := by
  have e : IntKind.u64.wrap (IntKind.u64.wrap (2 ^ c) - 1) = ((2 ^ c - 1 : Nat) : Int) := by
    rw [IntKind.wrap_u64, IntKind.wrap_u64]
    rcases Nat.lt_or_ge c 64 with h | h
    · have h1 : (2 : Nat) ^ c < 2 ^ 64 := Nat.pow_lt_pow_right (by decide) h
      have h2 : 0 < (2 : Nat) ^ c := Nat.two_pow_pos c
      have h3 : ((2 : Int) ^ c) = ((2 ^ c : Nat) : Int) := by simp
      rw [h3]
      omega
    · have : c = 64 := by omega
      subst this
      decide
  rw [e]
  have hm : 2 ^ c - 1 < 18446744073709551616 := by
    have h1 : (2 : Nat) ^ c ≤ 2 ^ 64 := Nat.pow_le_pow_right (by decide) hc
    have h2 : 0 < (2 : Nat) ^ c := Nat.two_pow_pos c
    omega
  rw [u64_and_nat n _ hn hm, Nat.and_two_pow_sub_one_eq_mod]

theorem mask8 (n c : Nat) (hn : n < 256) (hc : c ≤ 8) :
    bits .and .u8 (n : Int) ((2 ^ c - 1) % 256) = ((n % 2 ^ c : Nat) : Int) := by
  have e : ((2 : Int) ^ c - 1) % 256 = ((2 ^ c - 1 : Nat) : Int) := by
    have h1 : (2 : Nat) ^ c ≤ 2 ^ 8 := Nat.pow_le_pow_right (by decide) hc
    have h2 : 0 < (2 : Nat) ^ c := Nat.two_pow_pos c
    have h3 : ((2 : Int) ^ c) = ((2 ^ c : Nat) : Int) := by simp
    rw [h3]
    omega
  rw [e]
  have hm : 2 ^ c - 1 < 256 := by
    have h1 : (2 : Nat) ^ c ≤ 2 ^ 8 := Nat.pow_le_pow_right (by decide) hc
    have h2 : 0 < (2 : Nat) ^ c := Nat.two_pow_pos c
    omega
  rw [u8_and_nat n _ hn hm, Nat.and_two_pow_sub_one_eq_mod]

/-- fits[uint64] -/
theorem fits64 (n c : Int) (w : World) (hn : 0 ≤ n) (hc : 0 ≤ c) (hc2 : c ≤ 64) :
    Calls Tryd.prog 60 #[.int .u64 n, .int .i64 c] w fun e w' => e = .returned (.bool (n.toNat / 2 ^ c.toNat == 0)) ∧ w = w' := by
  go_enter Tryd.func60, Tryd.ntmps60
  go_wp2
  go_ret
  obtain ⟨m, rfl⟩ := Int.eq_ofNat_of_zero_le hn
  refine ⟨ret_bool ?_, rfl⟩
  rw [Bool.eq_iff_iff]
  have h3 : ((2 : Int) ^ c.toNat) = ((2 ^ c.toNat : Nat) : Int) := by simp
  simp only [beq_iff_eq, Int.toNat_natCast, h3]
  omega

/-- lowest[uint64] -/
theorem low64 (n c : Int) (w : World) (hn : 0 ≤ n) (hn2 : n < 18446744073709551616) (hc : 0 ≤ c) (hc2 : c ≤ 64) :
    Calls Tryd.prog 61 #[.int .u64 n, .int .i64 c] w fun e w' => e = .returned (.int .u64 ((n.toNat % 2 ^ c.toNat : Nat) : Int)) ∧ w = w' := by
  obtain ⟨m, rfl⟩ := Int.eq_ofNat_of_zero_le hn
  have hm := mask64 m c.toNat (by omega) (by omega)
  have HM : Hid (bits .and .u64 (m : Int) (IntKind.u64.wrap (IntKind.u64.wrap (2 ^ c.toNat) - 1)) = ((m % 2 ^ c.toNat : Nat) : Int)) := hm
  clear hm hn2
  go_enter Tryd.func61, Tryd.ntmps61
  go_wp2
  go_ret
  exact ⟨ret_int (by rw [HM.out]; simp), rfl⟩

/-- lowest[byte] -/
theorem low8 (n c : Int) (w : World) (hn : 0 ≤ n) (hn2 : n < 256) (hc : 0 ≤ c) (hc2 : c ≤ 8) :
    Calls Tryd.prog 72 #[.int .u8 n, .int .i64 c] w fun e w' => e = .returned (.int .u8 ((n.toNat % 2 ^ c.toNat : Nat) : Int)) ∧ w = w' := by
  obtain ⟨m, rfl⟩ := Int.eq_ofNat_of_zero_le hn
  have hm := mask8 m c.toNat (by omega) (by omega)
  have HM : Hid (bits .and .u8 (m : Int) ((2 ^ c.toNat - 1) % 256) = ((m % 2 ^ c.toNat : Nat) : Int)) := hm
  clear hm hn2
  go_enter Tryd.func72, Tryd.ntmps72
  go_wp2
  go_ret
  exact ⟨ret_int (by rw [HM.out]; simp), rfl⟩

/-- fits[byte] -/
theorem fits8 (n c : Int) (w : World) (hn : 0 ≤ n) (hc : 0 ≤ c) (hc2 : c ≤ 8) :
    Calls Tryd.prog 73 #[.int .u8 n, .int .i64 c] w fun e w' => e = .returned (.bool (n.toNat / 2 ^ c.toNat == 0)) ∧ w = w' := by
  go_enter Tryd.func73, Tryd.ntmps73
  go_wp2
  go_ret
  obtain ⟨m, rfl⟩ := Int.eq_ofNat_of_zero_le hn
  refine ⟨ret_bool ?_, rfl⟩
  rw [Bool.eq_iff_iff]
  have h3 : ((2 : Int) ^ c.toNat) = ((2 ^ c.toNat : Nat) : Int) := by simp
  simp only [beq_iff_eq, Int.toNat_natCast, h3]
  omega

/-- the law's own 'num' -/
theorem num_any (n : Int) (w : World) :
    Calls Tryd.prog 8 #[.int .i64 n] w fun e w' => e = .returned (.int .i64 n) ∧ w = w' := by
  go_enter Tryd.func8, Tryd.ntmps8
  go_wp2
  go_ret
  exact ⟨rfl, rfl⟩

/-- fault.New -/
theorem new_any (n : Int) (w : World) :
    Calls Tryd.prog 37 #[.int .i64 n] w fun e w' => e = .returned (.iface 80 (.agg #[.int .i64 n])) ∧ w = w' := by
  go_enter Tryd.func37, Tryd.ntmps37
  go_wp2
  go_ret
  exact ⟨rfl, rfl⟩
end Go.Proofs.YtnffjoipinhojabDoor
