import Derived.Test.YtnffjoipinhojaaGreatDoorPa
set_option linter.unusedSimpArgs false
set_option linter.unusedVariables false
namespace Go.Proofs.YtnffjoipinhojaaGreatDoor
open Go.RowKit
namespace Ref

set_option maxHeartbeats 4000000 in
theorem inIri_any (w : World) (c : Int) : Calls Tryz.prog 84 #[.int .i64 c] w fun e w' => e = .returned (.bool (inIri c)) ∧ w' = w := by
  have x0 : wrap64 ((((⟨#[60, 62, 34, 123, 125, 124, 94, 96, 92]⟩ : ByteArray)[0]'(by show _ < _; simp [ByteArray.size])).toNat : Nat) : Int) = 60 := by kernel_rfl
  have x1 : wrap64 ((((⟨#[60, 62, 34, 123, 125, 124, 94, 96, 92]⟩ : ByteArray)[1]'(by show _ < _; simp [ByteArray.size])).toNat : Nat) : Int) = 62 := by kernel_rfl
  have x2 : wrap64 ((((⟨#[60, 62, 34, 123, 125, 124, 94, 96, 92]⟩ : ByteArray)[2]'(by show _ < _; simp [ByteArray.size])).toNat : Nat) : Int) = 34 := by kernel_rfl
  have x3 : wrap64 ((((⟨#[60, 62, 34, 123, 125, 124, 94, 96, 92]⟩ : ByteArray)[3]'(by show _ < _; simp [ByteArray.size])).toNat : Nat) : Int) = 123 := by kernel_rfl
  have x4 : wrap64 ((((⟨#[60, 62, 34, 123, 125, 124, 94, 96, 92]⟩ : ByteArray)[4]'(by show _ < _; simp [ByteArray.size])).toNat : Nat) : Int) = 125 := by kernel_rfl
  have x5 : wrap64 ((((⟨#[60, 62, 34, 123, 125, 124, 94, 96, 92]⟩ : ByteArray)[5]'(by show _ < _; simp [ByteArray.size])).toNat : Nat) : Int) = 124 := by kernel_rfl
  have x6 : wrap64 ((((⟨#[60, 62, 34, 123, 125, 124, 94, 96, 92]⟩ : ByteArray)[6]'(by show _ < _; simp [ByteArray.size])).toNat : Nat) : Int) = 94 := by kernel_rfl
  have x7 : wrap64 ((((⟨#[60, 62, 34, 123, 125, 124, 94, 96, 92]⟩ : ByteArray)[7]'(by show _ < _; simp [ByteArray.size])).toNat : Nat) : Int) = 96 := by kernel_rfl
  have x8 : wrap64 ((((⟨#[60, 62, 34, 123, 125, 124, 94, 96, 92]⟩ : ByteArray)[8]'(by show _ < _; simp [ByteArray.size])).toNat : Nat) : Int) = 92 := by kernel_rfl
  by_cases h1 : c ≤ 32
  · have hr : inIri c = false := by simp [inIri, control, h1]
    rw [hr]
    go_enter Tryz.func84, Tryz.ntmps84
    go_wp2_with fail
    go_ret
    exact ⟨rfl, rfl⟩
  by_cases h2 : c = 127
  · subst h2
    go_enter Tryz.func84, Tryz.ntmps84
    go_wp2_with fail
    go_ret
    exact ⟨rfl, rfl⟩
  by_cases b0 : c = 60
  · subst b0
    clear h1 h2
    go_enter Tryz.func84, Tryz.ntmps84
    go_wp2_with fail
    refine wp_loop_rounds 10 ?_
    rw [rounds_succ]
    go_wp2_with fail
    go_ret
    exact ⟨rfl, rfl⟩
  by_cases b1 : c = 62
  · subst b1
    clear h1 h2
    go_enter Tryz.func84, Tryz.ntmps84
    go_wp2_with fail
    refine wp_loop_rounds 10 ?_
    rw [rounds_succ]
    go_wp2_with fail
    rw [rounds_succ]
    go_wp2_with fail
    go_ret
    exact ⟨rfl, rfl⟩
  by_cases b2 : c = 34
  · subst b2
    clear h1 h2
    go_enter Tryz.func84, Tryz.ntmps84
    go_wp2_with fail
    refine wp_loop_rounds 10 ?_
    rw [rounds_succ]
    go_wp2_with fail
    rw [rounds_succ]
    go_wp2_with fail
    rw [rounds_succ]
    go_wp2_with fail
    go_ret
    exact ⟨rfl, rfl⟩
  by_cases b3 : c = 123
  · subst b3
    clear h1 h2
    go_enter Tryz.func84, Tryz.ntmps84
    go_wp2_with fail
    refine wp_loop_rounds 10 ?_
    rw [rounds_succ]
    go_wp2_with fail
    rw [rounds_succ]
    go_wp2_with fail
    rw [rounds_succ]
    go_wp2_with fail
    rw [rounds_succ]
    go_wp2_with fail
    go_ret
    exact ⟨rfl, rfl⟩
  by_cases b4 : c = 125
  · subst b4
    clear h1 h2
    go_enter Tryz.func84, Tryz.ntmps84
    go_wp2_with fail
    refine wp_loop_rounds 10 ?_
    rw [rounds_succ]
    go_wp2_with fail
    rw [rounds_succ]
    go_wp2_with fail
    rw [rounds_succ]
    go_wp2_with fail
    rw [rounds_succ]
    go_wp2_with fail
    rw [rounds_succ]
    go_wp2_with fail
    go_ret
    exact ⟨rfl, rfl⟩
  by_cases b5 : c = 124
  · subst b5
    clear h1 h2
    go_enter Tryz.func84, Tryz.ntmps84
    go_wp2_with fail
    refine wp_loop_rounds 10 ?_
    rw [rounds_succ]
    go_wp2_with fail
    rw [rounds_succ]
    go_wp2_with fail
    rw [rounds_succ]
    go_wp2_with fail
    rw [rounds_succ]
    go_wp2_with fail
    rw [rounds_succ]
    go_wp2_with fail
    rw [rounds_succ]
    go_wp2_with fail
    go_ret
    exact ⟨rfl, rfl⟩
  by_cases b6 : c = 94
  · subst b6
    clear h1 h2
    go_enter Tryz.func84, Tryz.ntmps84
    go_wp2_with fail
    refine wp_loop_rounds 10 ?_
    rw [rounds_succ]
    go_wp2_with fail
    rw [rounds_succ]
    go_wp2_with fail
    rw [rounds_succ]
    go_wp2_with fail
    rw [rounds_succ]
    go_wp2_with fail
    rw [rounds_succ]
    go_wp2_with fail
    rw [rounds_succ]
    go_wp2_with fail
    rw [rounds_succ]
    go_wp2_with fail
    go_ret
    exact ⟨rfl, rfl⟩
  by_cases b7 : c = 96
  · subst b7
    clear h1 h2
    go_enter Tryz.func84, Tryz.ntmps84
    go_wp2_with fail
    refine wp_loop_rounds 10 ?_
    rw [rounds_succ]
    go_wp2_with fail
    rw [rounds_succ]
    go_wp2_with fail
    rw [rounds_succ]
    go_wp2_with fail
    rw [rounds_succ]
    go_wp2_with fail
    rw [rounds_succ]
    go_wp2_with fail
    rw [rounds_succ]
    go_wp2_with fail
    rw [rounds_succ]
    go_wp2_with fail
    rw [rounds_succ]
    go_wp2_with fail
    go_ret
    exact ⟨rfl, rfl⟩
  by_cases b8 : c = 92
  · subst b8
    clear h1 h2
    go_enter Tryz.func84, Tryz.ntmps84
    go_wp2_with fail
    refine wp_loop_rounds 10 ?_
    rw [rounds_succ]
    go_wp2_with fail
    rw [rounds_succ]
    go_wp2_with fail
    rw [rounds_succ]
    go_wp2_with fail
    rw [rounds_succ]
    go_wp2_with fail
    rw [rounds_succ]
    go_wp2_with fail
    rw [rounds_succ]
    go_wp2_with fail
    rw [rounds_succ]
    go_wp2_with fail
    rw [rounds_succ]
    go_wp2_with fail
    rw [rounds_succ]
    go_wp2_with fail
    go_ret
    exact ⟨rfl, rfl⟩
  have hr : inIri c = true := by simp [inIri, control, badIri]; omega
  rw [hr]
  clear hr
  go_enter Tryz.func84, Tryz.ntmps84
  go_wp2_with fail
  refine wp_loop_rounds 10 ?_
  rw [rounds_succ]
  go_wp2_with fail
  rw [rounds_succ]
  go_wp2_with fail
  rw [rounds_succ]
  go_wp2_with fail
  rw [rounds_succ]
  go_wp2_with fail
  rw [rounds_succ]
  go_wp2_with fail
  rw [rounds_succ]
  go_wp2_with fail
  rw [rounds_succ]
  go_wp2_with fail
  rw [rounds_succ]
  go_wp2_with fail
  rw [rounds_succ]
  go_wp2_with fail
  rw [rounds_succ]
  go_wp2_with fail
  go_ret
  exact ⟨rfl, rfl⟩

def sz (c : Int) : Int × Int × Int :=
  if c < 0 then (0, 0, 0) else if c < 128 then (1, 0, 0) else if c < 194 then (0, 0, 0) else if c ≤ 223 then (2, 128, 191) else if c = 224 then (3, 160, 191) else if c ≤ 236 then (3, 128, 191) else if c = 237 then (3, 128, 159)
  else if c ≤ 239 then (3, 128, 191) else if c = 240 then (4, 144, 191) else if c ≤ 243 then (4, 128, 191) else if c = 244 then (4, 128, 143) else (0, 0, 0)

set_option maxHeartbeats 4000000 in
theorem size_any (w : World) (c : Int) : Calls Tryz.prog 145 #[.int .i64 c] w fun e w' => e = .returned (.tuple #[.int .i64 (sz c).1, .int .i64 (sz c).2.1, .int .i64 (sz c).2.2]) ∧ w' = w := by
  unfold sz
  by_cases h0 : c < 0
  · simp only [if_pos h0]
    have n224 : ¬ (c = 224) := by omega
    have n237 : ¬ (c = 237) := by omega
    have n240 : ¬ (c = 240) := by omega
    have n244 : ¬ (c = 244) := by omega
    have g194 : ¬ (194 ≤ c) := by omega
    have g225 : ¬ (225 ≤ c) := by omega
    have g241 : ¬ (241 ≤ c) := by omega
    have k223 : c ≤ 223 := by omega
    have k239 : c ≤ 239 := by omega
    have k243 : c ≤ 243 := by omega
    have z0 : ¬ (0 ≤ c) := by omega
    have z1 : c < 128 := by omega
    go_enter Tryz.func145, Tryz.ntmps145
    go_wp2_with fail
    refine bodyPost_ret (v := .tuple #[.int .i64 0, .int .i64 0, .int .i64 0]) (by simp [results, Tryz.results145, go_sem]) rfl ⟨rfl, rfl⟩
  by_cases h1 : c < 128
  · simp only [if_pos h1, if_neg h0]
    have l : 0 ≤ c := by omega
    clear h0
    have n224 : ¬ (c = 224) := by omega
    have n237 : ¬ (c = 237) := by omega
    have n240 : ¬ (c = 240) := by omega
    have n244 : ¬ (c = 244) := by omega
    have g194 : ¬ (194 ≤ c) := by omega
    have g225 : ¬ (225 ≤ c) := by omega
    have g241 : ¬ (241 ≤ c) := by omega
    have k223 : c ≤ 223 := by omega
    have k239 : c ≤ 239 := by omega
    have k243 : c ≤ 243 := by omega
    have z0 : 0 ≤ c := by omega
    have z1 : c < 128 := by omega
    go_enter Tryz.func145, Tryz.ntmps145
    go_wp2_with fail
    refine bodyPost_ret (v := .tuple #[.int .i64 1, .int .i64 0, .int .i64 0]) (by simp [results, Tryz.results145, go_sem]) rfl ⟨rfl, rfl⟩
  by_cases h2 : c < 194
  · simp only [if_pos h2, if_neg h0, if_neg h1]
    have l : 128 ≤ c := by omega
    clear h0 h1
    have n224 : ¬ (c = 224) := by omega
    have n237 : ¬ (c = 237) := by omega
    have n240 : ¬ (c = 240) := by omega
    have n244 : ¬ (c = 244) := by omega
    have g194 : ¬ (194 ≤ c) := by omega
    have g225 : ¬ (225 ≤ c) := by omega
    have g241 : ¬ (241 ≤ c) := by omega
    have k223 : c ≤ 223 := by omega
    have k239 : c ≤ 239 := by omega
    have k243 : c ≤ 243 := by omega
    have z0 : 0 ≤ c := by omega
    have z1 : ¬ (c < 128) := by omega
    go_enter Tryz.func145, Tryz.ntmps145
    go_wp2_with fail
    refine bodyPost_ret (v := .tuple #[.int .i64 0, .int .i64 0, .int .i64 0]) (by simp [results, Tryz.results145, go_sem]) rfl ⟨rfl, rfl⟩
  by_cases h3 : c ≤ 223
  · simp only [if_pos h3, if_neg h0, if_neg h1, if_neg h2]
    have l : 194 ≤ c := by omega
    clear h0 h1 h2
    have n224 : ¬ (c = 224) := by omega
    have n237 : ¬ (c = 237) := by omega
    have n240 : ¬ (c = 240) := by omega
    have n244 : ¬ (c = 244) := by omega
    have g194 : 194 ≤ c := by omega
    have g225 : ¬ (225 ≤ c) := by omega
    have g241 : ¬ (241 ≤ c) := by omega
    have k223 : c ≤ 223 := by omega
    have k239 : c ≤ 239 := by omega
    have k243 : c ≤ 243 := by omega
    have z0 : 0 ≤ c := by omega
    have z1 : ¬ (c < 128) := by omega
    go_enter Tryz.func145, Tryz.ntmps145
    go_wp2_with fail
    refine bodyPost_ret (v := .tuple #[.int .i64 2, .int .i64 128, .int .i64 191]) (by simp [results, Tryz.results145, go_sem]) rfl ⟨rfl, rfl⟩
  by_cases h4 : c = 224
  · subst h4
    clear h0 h1 h2 h3
    go_enter Tryz.func145, Tryz.ntmps145
    go_wp2_with fail
    refine bodyPost_ret (v := .tuple #[.int .i64 3, .int .i64 160, .int .i64 191]) (by simp [results, Tryz.results145, go_sem]) rfl ⟨rfl, rfl⟩
  by_cases h5 : c ≤ 236
  · simp only [if_pos h5, if_neg h0, if_neg h1, if_neg h2, if_neg h3, if_neg h4]
    have l : 225 ≤ c := by omega
    clear h0 h1 h2 h3 h4
    have n224 : ¬ (c = 224) := by omega
    have n237 : ¬ (c = 237) := by omega
    have n240 : ¬ (c = 240) := by omega
    have n244 : ¬ (c = 244) := by omega
    have g194 : 194 ≤ c := by omega
    have g225 : 225 ≤ c := by omega
    have g241 : ¬ (241 ≤ c) := by omega
    have k223 : ¬ (c ≤ 223) := by omega
    have k239 : c ≤ 239 := by omega
    have k243 : c ≤ 243 := by omega
    have z0 : 0 ≤ c := by omega
    have z1 : ¬ (c < 128) := by omega
    go_enter Tryz.func145, Tryz.ntmps145
    go_wp2_with fail
    refine bodyPost_ret (v := .tuple #[.int .i64 3, .int .i64 128, .int .i64 191]) (by simp [results, Tryz.results145, go_sem]) rfl ⟨rfl, rfl⟩
  by_cases h6 : c = 237
  · subst h6
    clear h0 h1 h2 h3 h4 h5
    go_enter Tryz.func145, Tryz.ntmps145
    go_wp2_with fail
    refine bodyPost_ret (v := .tuple #[.int .i64 3, .int .i64 128, .int .i64 159]) (by simp [results, Tryz.results145, go_sem]) rfl ⟨rfl, rfl⟩
  by_cases h7 : c ≤ 239
  · simp only [if_pos h7, if_neg h0, if_neg h1, if_neg h2, if_neg h3, if_neg h4, if_neg h5, if_neg h6]
    have l : 238 ≤ c := by omega
    clear h0 h1 h2 h3 h4 h5 h6
    have n224 : ¬ (c = 224) := by omega
    have n237 : ¬ (c = 237) := by omega
    have n240 : ¬ (c = 240) := by omega
    have n244 : ¬ (c = 244) := by omega
    have g194 : 194 ≤ c := by omega
    have g225 : 225 ≤ c := by omega
    have g241 : ¬ (241 ≤ c) := by omega
    have k223 : ¬ (c ≤ 223) := by omega
    have k239 : c ≤ 239 := by omega
    have k243 : c ≤ 243 := by omega
    have z0 : 0 ≤ c := by omega
    have z1 : ¬ (c < 128) := by omega
    go_enter Tryz.func145, Tryz.ntmps145
    go_wp2_with fail
    refine bodyPost_ret (v := .tuple #[.int .i64 3, .int .i64 128, .int .i64 191]) (by simp [results, Tryz.results145, go_sem]) rfl ⟨rfl, rfl⟩
  by_cases h8 : c = 240
  · subst h8
    clear h0 h1 h2 h3 h4 h5 h6 h7
    go_enter Tryz.func145, Tryz.ntmps145
    go_wp2_with fail
    refine bodyPost_ret (v := .tuple #[.int .i64 4, .int .i64 144, .int .i64 191]) (by simp [results, Tryz.results145, go_sem]) rfl ⟨rfl, rfl⟩
  by_cases h9 : c ≤ 243
  · simp only [if_pos h9, if_neg h0, if_neg h1, if_neg h2, if_neg h3, if_neg h4, if_neg h5, if_neg h6, if_neg h7, if_neg h8]
    have l : 241 ≤ c := by omega
    clear h0 h1 h2 h3 h4 h5 h6 h7 h8
    have n224 : ¬ (c = 224) := by omega
    have n237 : ¬ (c = 237) := by omega
    have n240 : ¬ (c = 240) := by omega
    have n244 : ¬ (c = 244) := by omega
    have g194 : 194 ≤ c := by omega
    have g225 : 225 ≤ c := by omega
    have g241 : 241 ≤ c := by omega
    have k223 : ¬ (c ≤ 223) := by omega
    have k239 : ¬ (c ≤ 239) := by omega
    have k243 : c ≤ 243 := by omega
    have z0 : 0 ≤ c := by omega
    have z1 : ¬ (c < 128) := by omega
    go_enter Tryz.func145, Tryz.ntmps145
    go_wp2_with fail
    refine bodyPost_ret (v := .tuple #[.int .i64 4, .int .i64 128, .int .i64 191]) (by simp [results, Tryz.results145, go_sem]) rfl ⟨rfl, rfl⟩
  by_cases h10 : c = 244
  · subst h10
    clear h0 h1 h2 h3 h4 h5 h6 h7 h8 h9
    go_enter Tryz.func145, Tryz.ntmps145
    go_wp2_with fail
    refine bodyPost_ret (v := .tuple #[.int .i64 4, .int .i64 128, .int .i64 143]) (by simp [results, Tryz.results145, go_sem]) rfl ⟨rfl, rfl⟩
  simp only [if_neg h0, if_neg h1, if_neg h2, if_neg h3, if_neg h4, if_neg h5, if_neg h6, if_neg h7, if_neg h8, if_neg h9, if_neg h10]
  have l : 245 ≤ c := by omega
  clear h0 h1 h2 h3 h4 h5 h6 h7 h8 h9 h10
  have n224 : ¬ (c = 224) := by omega
  have n237 : ¬ (c = 237) := by omega
  have n240 : ¬ (c = 240) := by omega
  have n244 : ¬ (c = 244) := by omega
  have g194 : 194 ≤ c := by omega
  have g225 : 225 ≤ c := by omega
  have g241 : 241 ≤ c := by omega
  have k223 : ¬ (c ≤ 223) := by omega
  have k239 : ¬ (c ≤ 239) := by omega
  have k243 : ¬ (c ≤ 243) := by omega
  have z0 : 0 ≤ c := by omega
  have z1 : ¬ (c < 128) := by omega
  go_enter Tryz.func145, Tryz.ntmps145
  go_wp2_with fail
  refine bodyPost_ret (v := .tuple #[.int .i64 0, .int .i64 0, .int .i64 0]) (by simp [results, Tryz.results145, go_sem]) rfl ⟨rfl, rfl⟩
end Ref
end Go.Proofs.YtnffjoipinhojaaGreatDoor
