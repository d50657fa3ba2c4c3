import Derived.Test.YtnffjoipinhojaaDoorN
import Derived.BigQuiet
import Derived.Deep.QuietTactic
namespace Go.Proofs.YtnffjoipinhojaaDoor
open Go.RowKit

theorem ints_len {w : World} {v : Value} {xs : List Int} (h : Ints w v xs) : ∀ u : World, (Builtin.len_ #[32] 3 #[v]).run Tryd.prog u = .ok (.int .i64 (xs.length : Int)) u := by
  intro u
  rcases h with ⟨a0, cap0, rfl, rfl⟩ | ⟨b, off, cap, rfl, _⟩
  · exact run_len_slice u 32 3 a0 0 cap0 (by kernel_rfl)
  · exact run_len_slice u 32 3 _ _ _ (by kernel_rfl)

set_option maxHeartbeats 400000 in
/-- the law's own 'ints': two that read as the same numbers -/
theorem ints_same (xs : List Int) (a b : Value) (w : World) (ha : Ints w a xs) (hb : Ints w b xs) (hl : xs.length ≤ 16000000000) :
    Calls Tryd.prog 14 #[a, b] w fun x w' => x = .returned (.bool true) ∧ Below w.heap.size w w' := by
  have la := ints_len ha
  have lb := ints_len hb
  have HA : Hid (Ints w a xs) := ha
  have HB : Hid (Ints w b xs) := hb
  obtain ⟨n, hn⟩ : ∃ n, n = xs.length := ⟨_, rfl⟩
  rw [← hn] at la lb hl
  have HN : Hid (n = xs.length) := hn
  clear ha hb hn
  go_enter Tryd.func14, Tryd.ntmps14
  go_wp2_with fail
  go_loopw [5] (fun i wr => ∃ k : Nat, k ≤ n ∧ i = .int .i64 k ∧ ∃ m, wr = w.drewN m) (fun i _ => n - (intOf i).toNat)
  case atStart => exact ⟨0, Nat.zero_le _, rfl, 0, rfl⟩
  case round =>
    obtain ⟨k, hk, rfl, m0, rfl⟩ := hrel
    by_cases hlt : k < n
    · have hkx : k < xs.length := by have := HN.out; omega
      have hki : (k : Int) < (xs.length : Int) := by omega
      obtain ⟨x, hx⟩ : ∃ x, x = xs.getD k 0 := ⟨_, rfl⟩
      rcases HA.out with ⟨_, _, _, h0⟩ | ⟨b1, o1, c1, rfl, h1⟩
      · rw [h0] at hkx; simp at hkx
      · rcases HB.out with ⟨_, _, _, h0⟩ | ⟨b2, o2, c2, rfl, h2⟩
        · rw [h0] at hkx; simp at hkx
        · have e1 := h1 k hkx
          have e2 := h2 k hkx
          rw [← hx] at e1 e2
          clear h1 h2 hx
          go_wp2_with fail
          go_quiet (fail)
          go_wp2
          go_roundw
          case rel => exact ⟨k + 1, by omega, by go_num, m0 + nq, rfl⟩
          case measure => simp [intOf]; omega
    · go_wp2_with fail
      go_ret
      exact ⟨rfl, below_drewN (Below.refl _ _) m0⟩
end Go.Proofs.YtnffjoipinhojaaDoor
