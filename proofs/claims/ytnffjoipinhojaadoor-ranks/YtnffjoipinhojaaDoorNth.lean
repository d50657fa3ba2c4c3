import Derived.Test.YtnffjoipinhojaaDoorTz
namespace Go.Proofs.YtnffjoipinhojaaDoor
open Go.RowKit

theorem clear_u64 (x : Nat) (h0 : x ≠ 0) (hx : x < 18446744073709551616) : bits .and .u64 (x : Int) ((x : Int) - 1) = ((x &&& (x - 1) : Nat) : Int) := by
  rw [show (x : Int) - 1 = ((x - 1 : Nat) : Int) by omega]
  exact andU (m := x) (M := x - 1) rfl hx (by omega)

set_option maxHeartbeats 400000 in
/-- bits.nthOne: the n-th 1 of the word, which has as many -/
theorem nth_any (y n : Nat) (w : World) (hy : y < 18446744073709551616) (hn : 1 ≤ n) (hp : n ≤ Plain.pop y 64) (hT : Tab w) :
    Calls Tryd.prog 38 #[.int .u64 y, .int .i64 n] w fun e w' => (∃ r : Nat, e = .returned (.int .i64 r) ∧ r < 64 ∧ Plain.pop y r = n - 1 ∧ y / 2 ^ r % 2 = 1) ∧ w = w' := by
  have HT : Hid (Tab w) := hT
  have hn64 : n ≤ 64 := Nat.le_trans hp (Plain.pop_le 64 y)
  have HP : Hid (n ≤ Plain.pop y 64) := hp
  clear hT hp
  go_enter Tryd.func38, Tryd.ntmps38
  go_wp2_with fail
  go_loop [0, 7] (fun a i => ∃ x k : Nat, k + 1 ≤ n ∧ i = .int .i64 k ∧ a = .int .u64 x ∧ x < 18446744073709551616 ∧ ∀ r, Plain.pop x r = Plain.pop y r - k) (fun _ i => n - (intOf i).toNat)
  case atStart => exact ⟨y, 0, hn, rfl, rfl, hy, fun r => rfl⟩
  case round =>
    obtain ⟨x, k, hk, rfl, rfl, hx, hr⟩ := hrel
    have HR : Hid (∀ r, Plain.pop x r = Plain.pop y r - k) := hr
    have hx0 : x ≠ 0 := by
      intro h
      have a := hr 64
      rw [h, Plain.pop_zero] at a
      have := HP.out
      omega
    clear hr
    by_cases hlt : k + 1 < n
    · have hki : (k : Int) < (n : Int) - 1 := by omega
      have hcl := clear_u64 x hx0 hx
      have h1 : (1 : Int) ≤ x := by omega
      have hand : x &&& (x - 1) ≤ x := Nat.and_le_left
      go_wp2_with fail
      go_round
      case rel => exact ⟨x &&& (x - 1), k + 1, by omega, by go_num, rfl, by omega, fun r => by rw [Plain.pop_clear x hx0 hx, HR.out]; omega⟩
      case measure => simp [intOf]; omega
    · have hki : k + 1 = n := by omega
      have hki2 : ¬ ((k : Int) < (n : Int) - 1) := by omega
      go_wp2_with (first | (go_at_call 46; refine (tz_any x w hx hx0 HT.out).mono ?_; rintro e w' ⟨rfl, rfl⟩))
      go_ret
      obtain ⟨p1, p2, p3⟩ := Plain.nth_is y x k hx0 hx HR.out
      exact ⟨⟨_, rfl, p1, by omega, p3⟩, rfl⟩
end Go.Proofs.YtnffjoipinhojaaDoor
