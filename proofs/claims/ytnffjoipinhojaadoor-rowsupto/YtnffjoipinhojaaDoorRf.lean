import Derived.Test.YtnffjoipinhojaaDoorRk
namespace Go.Proofs.YtnffjoipinhojaaDoor
open Go.RowKit

/-- The bits of V in a list, C of them. -/
def BitsIn (w : World) (v : Value) (V C : Nat) : Prop := ∃ ad cp, v = .slice ad C cp ∧ ∀ j, j < C → ∃ g o, ad = some ⟨g, o, none⟩ ∧ w.cell? ⟨g, o + j, none⟩ = some (.int .i64 (V / 2 ^ j % 2 : Nat))

theorem BitsIn.below {w w' : World} {v : Value} {V C : Nat} (h : BitsIn w v V C) (hb : Below w.heap.size w w') : BitsIn w' v V C := by
  obtain ⟨ad, cp, rfl, h⟩ := h
  refine ⟨ad, cp, rfl, fun j hj => ?_⟩
  obtain ⟨g, o, rfl, hc⟩ := h j hj
  exact ⟨g, o, rfl, (hb.cell (p := ⟨g, o + j, none⟩) (World.block_lt_of_cell? w _ hc)).trans hc⟩

set_option maxHeartbeats 800000 in
set_option maxRecDepth 20000 in
/-- trineref.Ones -/
theorem ref_ones {w : World} {v : Value} {V C : Nat} (i : Int) (hC : C ≤ 1000000000000) (h : BitsIn w v V C) :
    Calls Tryd.prog 21 #[v, .int .i64 i] w fun x w' => x = .returned (.int .i64 (OnesOf V C i : Nat)) ∧ w' = w := by
  obtain ⟨ad, cp, rfl, hc⟩ := h
  have HC : Hid (∀ j, j < C → ∃ g o, ad = some ⟨g, o, none⟩ ∧ w.cell? ⟨g, o + j, none⟩ = some (.int .i64 (V / 2 ^ j % 2 : Nat))) := hc
  obtain ⟨M, hM⟩ : ∃ M, M = min i.toNat C := ⟨_, rfl⟩
  have HM : Hid (M = min i.toNat C) := hM
  have hMC : M ≤ C := by omega
  clear hc hM
  go_enter Tryd.func21, Tryd.ntmps21
  go_wp2_with fail
  go_loop [5, 6] (fun a j => ∃ q : Nat, q ≤ M ∧ j = .int .i64 q ∧ a = .int .i64 (Plain.pop V q : Nat)) (fun _ j => M - (intOf j).toNat)
  case atStart => exact ⟨0, Nat.zero_le _, rfl, rfl⟩
  case round =>
    obtain ⟨q, hq, rfl, rfl⟩ := hrel
    by_cases hlt : q < M
    · have h1 : (q : Int) < i := by have := HM.out; omega
      have h2 : (q : Int) < (C : Int) := by omega
      have hq0 : (0 : Int) ≤ (q : Int) := by omega
      obtain ⟨g, o, rfl, kc⟩ := HC.out q (by omega)
      obtain ⟨A, hA⟩ : ∃ A, A = Plain.pop V q := ⟨_, rfl⟩
      have hAq : A ≤ q := by rw [hA]; exact Plain.pop_le _ _
      obtain ⟨B, hB⟩ : ∃ B, B = V / 2 ^ q % 2 := ⟨_, rfl⟩
      have hB2 : B < 2 := by rw [hB]; exact Nat.mod_lt _ (by decide)
      have HS : Hid (A + B = Plain.pop V (q + 1)) := by simp only [Hid]; rw [Plain.pop_succ, hA, hB]
      rw [← hA]
      rw [← hB] at kc
      clear hA hB
      go_wp2_with fail
      go_round
      case rel => exact ⟨q + 1, by omega, by go_num, by have := HS.out; go_num⟩
      case measure => simp [intOf]; omega
    · have hqM : q = M := by omega
      subst hqM
      by_cases h1 : (q : Int) < i
      · have h2 : ¬ (q : Int) < (C : Int) := by have := HM.out; omega
        go_wp2_with fail
        go_ret
        have e : OnesOf V C i = Plain.pop V q := by rw [OnesOf, ← HM.out]
        rw [e]
        exact ⟨rfl, rfl⟩
      · go_wp2_with fail
        go_ret
        have e : OnesOf V C i = Plain.pop V q := by rw [OnesOf, ← HM.out]
        rw [e]
        exact ⟨rfl, rfl⟩

theorem find_one {V C : Nat} {k F G : Int} (h1 : FindOf V C k F) (h2 : FindOf V C k G) : F = G := by
  rcases h1 with ⟨a1, rfl⟩ | ⟨a1, a2, i, rfl, _, a3, a4⟩
  · rcases h2 with ⟨_, rfl⟩ | ⟨b1, b2, _⟩
    · rfl
    · omega
  · rcases h2 with ⟨b1, _⟩ | ⟨_, _, j, rfl, _, b3, b4⟩
    · omega
    · rw [Plain.nth_uniq V i j (Plain.pop V j) (by omega) a4 rfl b4]

theorem find_none {V C : Nat} {k : Int} (h : ∀ j, j < C → V / 2 ^ j % 2 = 1 → ((Plain.pop V (j + 1) : Nat) : Int) ≠ k) : FindOf V C k (-1) := by
  refine .inl ⟨?_, rfl⟩
  rw [ones_nat V C C (Nat.le_refl _)]
  by_cases h1 : k < 1
  · exact .inl h1
  · right
    apply Int.lt_of_not_ge
    intro h2
    obtain ⟨n, rfl⟩ := Int.eq_ofNat_of_zero_le (show 0 ≤ k by omega)
    obtain ⟨r, hr, h3, h4⟩ := Plain.nth_ex V C n (by omega) (by omega)
    have := Plain.pop_succ V r
    exact h r hr h4 (by omega)

theorem find_here {V C q : Nat} {k : Int} (hq : q < C) (hb : V / 2 ^ q % 2 = 1) (hk : ((Plain.pop V (q + 1) : Nat) : Int) = k) : FindOf V C k (q : Int) := by
  have h1 := Plain.pop_succ V q
  have h2 := Plain.pop_mono V (q + 1) C hq
  refine .inr ⟨by omega, ?_, q, rfl, hq, by omega, hb⟩
  rw [ones_nat V C C (Nat.le_refl _)]
  omega

set_option maxHeartbeats 800000 in
set_option maxRecDepth 20000 in
/-- trineref.FindOne -/
theorem ref_find {w : World} {v : Value} {V C : Nat} (k : Int) (hC : C ≤ 1000000000000) (h : BitsIn w v V C) :
    Calls Tryd.prog 23 #[v, .int .i64 k] w fun x w' => (∃ F, x = .returned (.int .i64 F) ∧ FindOf V C k F) ∧ w' = w := by
  obtain ⟨ad, cp, rfl, hc⟩ := h
  have HC : Hid (∀ j, j < C → ∃ g o, ad = some ⟨g, o, none⟩ ∧ w.cell? ⟨g, o + j, none⟩ = some (.int .i64 (V / 2 ^ j % 2 : Nat))) := hc
  clear hc
  go_enter Tryd.func23, Tryd.ntmps23
  go_wp2_with fail
  go_loop [5, 6] (fun a j => ∃ q : Nat, q ≤ C ∧ j = .int .i64 q ∧ a = .int .i64 (Plain.pop V q : Nat) ∧ ∀ t, t < q → V / 2 ^ t % 2 = 1 → ((Plain.pop V (t + 1) : Nat) : Int) ≠ k) (fun _ j => C - (intOf j).toNat)
  case atStart => exact ⟨0, Nat.zero_le _, rfl, rfl, fun t ht => by omega⟩
  case round =>
    obtain ⟨q, hq, rfl, rfl, hno⟩ := hrel
    have HN : Hid (∀ t, t < q → V / 2 ^ t % 2 = 1 → ((Plain.pop V (t + 1) : Nat) : Int) ≠ k) := hno
    clear hno
    by_cases hlt : q < C
    · have h2 : (q : Int) < (C : Int) := by omega
      have hq0 : (0 : Int) ≤ (q : Int) := by omega
      obtain ⟨g, o, rfl, kc⟩ := HC.out q (by omega)
      obtain ⟨A, hA⟩ : ∃ A, A = Plain.pop V q := ⟨_, rfl⟩
      have hAq : A ≤ q := by rw [hA]; exact Plain.pop_le _ _
      obtain ⟨B, hB⟩ : ∃ B, B = V / 2 ^ q % 2 := ⟨_, rfl⟩
      have hB2 : B < 2 := by rw [hB]; exact Nat.mod_lt _ (by decide)
      have HS : Hid (A + B = Plain.pop V (q + 1)) := by simp only [Hid]; rw [Plain.pop_succ, hA, hB]
      have HBB : Hid (B = V / 2 ^ q % 2) := hB
      rw [← hA]
      rw [← hB] at kc
      clear hA hB
      by_cases hb1 : B = 1
      · subst hb1
        by_cases hk : (A : Int) + 1 = k
        · subst hk
          go_wp2_with fail
          go_ret
          exact ⟨⟨_, rfl, find_here hlt HBB.out.symm (by have := HS.out; omega)⟩, rfl⟩
        · have hkb : ((A : Int) + 1 == k) = false := by simp; omega
          go_wp2_with fail
          go_round
          case rel =>
            refine ⟨q + 1, by omega, by go_num, by have := HS.out; go_num, fun t ht hb => ?_⟩
            by_cases htq : t = q
            · subst htq
              have := HS.out
              omega
            · exact HN.out t (by omega) hb
          case measure => simp [intOf]; omega
      · have hB0 : B = 0 := by omega
        subst hB0
        go_wp2_with fail
        go_round
        case rel =>
          refine ⟨q + 1, by omega, by go_num, by have := HS.out; go_num, fun t ht hb => ?_⟩
          by_cases htq : t = q
          · subst htq
            have := HBB.out
            omega
          · exact HN.out t (by omega) hb
        case measure => simp [intOf]; omega
    · have hqC : q = C := by omega
      subst hqC
      go_wp2_with fail
      go_ret
      exact ⟨⟨_, rfl, find_none HN.out⟩, rfl⟩
end Go.Proofs.YtnffjoipinhojaaDoor
