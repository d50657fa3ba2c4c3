import Derived.Test.YtnffjoipinhojaaDoorPk
import Derived.BigQuiet
import Derived.Deep.QuietTactic
namespace Go.Proofs.YtnffjoipinhojaaDoor
open Go.RowKit

/-- trineref.Pack at a width out of its bounds -/
theorem rpack_width (d : Int) (v : Value) (w : World) (h : d < 1 ∨ 62 < d) :
    Calls Tryd.prog 13 #[v, .int .i64 d] w fun x w' => x = .returned (.tuple #[.string ⟨#[]⟩, .int .i64 3, .int .i64 0]) ∧ w = w' := by
  rcases h with h | h
  · go_enter Tryd.func13, Tryd.ntmps13
    go_wp2
    go_ret3
    exact ⟨rfl, rfl⟩
  · have h1 : ¬ d < 1 := by omega
    go_enter Tryd.func13, Tryd.ntmps13
    go_wp2
    go_ret3
    exact ⟨rfl, rfl⟩

theorem wrap_pow (d : Nat) (h : d ≤ 62) : wrap64 (2 ^ d) = ((2 ^ d : Nat) : Int) := by
  have hp : (2 : Nat) ^ d ≤ 2 ^ 62 := Nat.pow_le_pow_right (by decide) h
  have hp0 : 0 < (2 : Nat) ^ d := Nat.two_pow_pos d
  have e : ((2 : Int) ^ d) = ((2 ^ d : Nat) : Int) := by simp
  rw [e]
  generalize 2 ^ d = P at *
  unfold wrap64
  omega
theorem fits_iff (x : Int) (d : Nat) (h : d ≤ 62) : fitsB x d = true ↔ 0 ≤ x ∧ x < wrap64 (2 ^ d) := by
  rw [wrap_pow d h]
  simp [fitsB]

set_option maxHeartbeats 800000 in
theorem rpack_bad (xs : List Int) (d i : Nat) (v : Value) (w : World) (hv : Ints w v xs) (hx : ∀ i, I64 (xs.getD i 0)) (hl : xs.length ≤ 16000000000) (h1 : 1 ≤ d) (h2 : d ≤ 62) (hb : bad d xs i) :
    Calls Tryd.prog 13 #[v, .int .i64 d] w fun x w' => x = .returned (.tuple #[.string ⟨#[]⟩, .int .i64 3, .int .i64 i]) ∧ ∃ n, w' = w.drewN n := by
  rcases hv with ⟨_, _, _, h0⟩ | ⟨b, off, cap, rfl, hc⟩
  · have := hb.1; rw [h0] at this; simp at this
  · have HC : Hid (∀ i, i < xs.length → w.cell? ⟨b, off + i, none⟩ = some (.int .i64 (xs.getD i 0))) := hc
    have HX : Hid (∀ i, I64 (xs.getD i 0)) := hx
    have HBad : Hid (bad d xs i) := hb
    clear hc hx hb
    obtain ⟨n, hn⟩ : ∃ n, n = xs.length := ⟨_, rfl⟩
    rw [← hn] at hl ⊢
    have HN : Hid (n = xs.length) := hn
    clear hn
    have hdw : ¬ (d : Int) < 1 := by omega
    have hdw2 : ¬ (62 : Int) < (d : Int) := by omega
    go_enter Tryd.func13, Tryd.ntmps13
    go_wp2_with fail
    go_loopw [7] (fun a wr => ∃ k : Nat, k ≤ i ∧ a = .int .i64 k ∧ ∃ m, wr = w.drewN m) (fun a _ => n - (intOf a).toNat)
    case atStart => exact ⟨0, Nat.zero_le _, rfl, 0, rfl⟩
    case round =>
      obtain ⟨k, hk, rfl, m0, rfl⟩ := hrel
      have hkn : k < n := by have := HBad.out.1; have := HN.out; omega
      have hki : (k : Int) < (n : Int) := by omega
      have hcell := HC.out k (by have := HN.out; omega)
      obtain ⟨x, hxx⟩ : ∃ x, x = xs.getD k 0 := ⟨_, rfl⟩
      rw [← hxx] at hcell
      have HXX : Hid (x = xs.getD k 0) := hxx
      clear hxx
      by_cases hx0 : x < 0
      · go_wp2_with fail
        go_quiet (fail)
        go_wp2
        go_ret3
        have e : k = i := by
          rcases Nat.lt_or_ge k i with h | h
          · have := HBad.out.2.1 k h
            rw [← HXX.out] at this
            simp [fitsB] at this
            omega
          · omega
        subst e
        exact ⟨rfl, m0 + nq, by simp⟩
      · have hxd : decide (x < 0) = false := by simp; omega
        go_wp2_with fail
        go_quiet (fail)
        go_wp2
        · have h3 : wrap64 (2 ^ d) ≤ x := by assumption
          go_ret3
          have e : k = i := by
            rcases Nat.lt_or_ge k i with h | h
            · have := HBad.out.2.1 k h
              rw [← HXX.out, fits_iff x d h2] at this
              omega
            · omega
          subst e
          exact ⟨rfl, m0 + nq, by simp⟩
        · have h3 : x < wrap64 (2 ^ d) := by assumption
          have e : k ≠ i := by
            intro e
            subst e
            have := HBad.out.2.2
            rw [← HXX.out] at this
            have h4 := (fits_iff x d h2).2 ⟨by omega, h3⟩
            rw [h4] at this
            cases this
          go_roundw
          case rel => exact ⟨k + 1, by omega, by go_num, m0 + nq, rfl⟩
          case measure => simp [intOf]; omega
end Go.Proofs.YtnffjoipinhojaaDoor
