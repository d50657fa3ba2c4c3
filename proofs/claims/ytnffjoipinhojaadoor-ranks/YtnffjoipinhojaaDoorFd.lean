import Derived.Test.YtnffjoipinhojaaDoorSe
namespace Go.Proofs.YtnffjoipinhojaaDoor.Plain
theorem nth_ex (y : Nat) : ∀ (m n : Nat), 1 ≤ n → n ≤ pop y m → ∃ r, r < m ∧ pop y r = n - 1 ∧ y / 2 ^ r % 2 = 1
  | 0, n, h1, h2 => by simp [pop] at h2; omega
  | m + 1, n, h1, h2 => by
    by_cases h : n ≤ pop y m
    · obtain ⟨r, hr, h3, h4⟩ := nth_ex y m n h1 h
      exact ⟨r, by omega, h3, h4⟩
    · have hs := pop_succ y m
      have : y / 2 ^ m % 2 < 2 := Nat.mod_lt _ (by decide)
      exact ⟨m, by omega, by omega, by omega⟩
theorem nth_uniq (y a b n : Nat) (h1 : pop y a = n) (h2 : y / 2 ^ a % 2 = 1) (h3 : pop y b = n) (h4 : y / 2 ^ b % 2 = 1) : a = b := by
  have sa := pop_succ y a
  have sb := pop_succ y b
  rcases Nat.lt_trichotomy a b with h | h | h
  · have := pop_mono y (a + 1) b h; omega
  · exact h
  · have := pop_mono y (b + 1) a h; omega
/-- The bit, by word and place in it. -/
theorem nth_row (V c r t n : Nat) (hV : V < 2 ^ c) (ht : t < 64) (h1 : pop (word V r) t = n) (h2 : word V r / 2 ^ t % 2 = 1) :
    64 * r + t < c ∧ pop V (64 * r + t) = pop V (64 * r) + n ∧ V / 2 ^ (64 * r + t) % 2 = 1 := by
  have hb := word_bit V (64 * r + t)
  rw [show (64 * r + t) / 64 = r by omega, show (64 * r + t) % 64 = t by omega, h2] at hb
  refine ⟨?_, ?_, hb.symm⟩
  · apply Nat.lt_of_not_le
    intro hle
    rw [Nat.div_eq_of_lt (Nat.lt_of_lt_of_le hV (Nat.pow_le_pow_right (by decide) hle))] at hb
    simp at hb
  · rw [pop_split, ← h1, pop_word _ _ _ (by omega)]
end Go.Proofs.YtnffjoipinhojaaDoor.Plain
namespace Go.Proofs.YtnffjoipinhojaaDoor
open Go.RowKit

theorem Tab.below {w w' : World} (h : Tab w) (hb : Below w.heap.size w w') : Tab w' := fun j hj => (hb.cell (p := ⟨1, j, none⟩) (World.block_lt_of_cell? w _ (h j hj))).trans (h j hj)

theorem nth_val {y n r : Nat} {w : World} (hy : y < 18446744073709551616) (hn : 1 ≤ n) (hr : r < 64) (h1 : Plain.pop y r = n - 1) (h2 : y / 2 ^ r % 2 = 1) (hT : Tab w) :
    Calls Tryd.prog 38 #[.int .u64 y, .int .i64 n] w fun e w' => e = .returned (.int .i64 (r : Int)) ∧ w' = w := by
  have hp : n ≤ Plain.pop y 64 := by
    have := Plain.pop_succ y r
    have := Plain.pop_mono y (r + 1) 64 hr
    omega
  refine (nth_any y n w hy hn hp hT).mono ?_
  rintro e w' ⟨⟨q, rfl, _, h3, h4⟩, rfl⟩
  rw [Plain.nth_uniq y q r (n - 1) h3 h4 h1 h2]
  exact ⟨rfl, rfl⟩

theorem nth_quiet {y n r q x : Nat} {W : World} (hy : y < 18446744073709551616) (hn : 1 ≤ n) (hr : r < 64) (h1 : Plain.pop y r = n - 1) (h2 : y / 2 ^ r % 2 = 1) (hT : Tab (W.drewN (q + x))) :
    Calls Tryd.prog 38 #[.int .u64 y, .int .i64 n] (W.drewN (q + x)) fun e w' => e = .returned (.int .i64 (r : Int)) ∧ ∃ m, w' = W.drewN (q + m) :=
  (nth_val hy hn hr h1 h2 hT).mono fun _ _ h => ⟨h.1, x, h.2⟩

/-- What Find answers. -/
def FindOf (V c : Nat) (k F : Int) : Prop := ((k < 1 ∨ (OnesOf V c (c : Int) : Int) < k) ∧ F = -1) ∨ (1 ≤ k ∧ k ≤ (OnesOf V c (c : Int) : Int) ∧ ∃ i : Nat, F = (i : Int) ∧ i < c ∧ ((Plain.pop V i : Nat) : Int) = k - 1 ∧ V / 2 ^ i % 2 = 1)

theorem find_num {V n r T : Nat} {k : Int} (h1 : 1 ≤ k) (h2 : k ≤ (T : Int)) (hT : T = Plain.pop V (64 * n)) (hr : r ≤ n) (hlo : ∀ a, a < r → ((Plain.pop V (64 * (a + 1)) : Nat) : Int) < k) (hhi : r < n → k ≤ ((Plain.pop V (64 * (r + 1)) : Nat) : Int)) :
    r < n ∧ ∃ A B t : Nat, A = Plain.pop V (64 * r) ∧ (A : Int) < k ∧ 1 ≤ B ∧ t < 64 ∧ Plain.pop (Plain.word V r) t = B - 1 ∧ Plain.word V r / 2 ^ t % 2 = 1 ∧ k = (A : Int) + (B : Int) := by
  have hA : ((Plain.pop V (64 * r) : Nat) : Int) < k := by
    by_cases h0 : r = 0
    · subst h0
      simp [Plain.pop]
      omega
    · have := hlo (r - 1) (by omega)
      rw [show r - 1 + 1 = r by omega] at this
      exact this
  have hrn : r < n := by
    apply Nat.lt_of_not_le
    intro hle
    have : r = n := by omega
    rw [this] at hA
    omega
  have hk := hhi hrn
  have hn := pop_next V r
  obtain ⟨B, hB⟩ : ∃ B : Nat, k = ((Plain.pop V (64 * r) : Nat) : Int) + (B : Int) := ⟨(k - ((Plain.pop V (64 * r) : Nat) : Int)).toNat, by omega⟩
  obtain ⟨t, ht, h3, h4⟩ := Plain.nth_ex (Plain.word V r) 64 B (by omega) (by omega)
  exact ⟨hrn, _, B, t, rfl, hA, by omega, ht, h3, h4, hB⟩
theorem ones_T {w : World} {b V c n T : Nat} (hT : Hid (T = OnesOf V c (c : Int))) (h : RowAt w b V c n) : Calls Tryd.prog 20 #[.pointer (some ⟨b, 0, none⟩), .int .i64 (c : Int)] w fun x w' => x = .returned (.int .i64 (T : Int)) ∧ ∃ m, w' = w.drewN m := by
  rw [hT.out]
  exact ones_row (c : Int) h
theorem sees_new {w : World} {b V c n : Nat} (k : Int) (h : RowAt w b V c n) : Sees ((w.alloc (.cells #[.pointer (some ⟨b, 0, none⟩)] 43)).alloc (.cells #[.int .i64 k] 3)) w.heap.size (w.heap.size + 1) b V c n k := by
  have hlt : w.heap.size < (w.alloc (.cells #[.pointer (some ⟨b, 0, none⟩)] 43)).heap.size := by simp
  refine ⟨h.below (((Below.refl _ _).alloc (Nat.le_refl _) _).alloc (by simp) _), ?_, ?_⟩
  · rw [World.cell?_alloc_lt _ _ _ hlt]; simp
  · have e : w.heap.size + 1 = (w.alloc (.cells #[.pointer (some ⟨b, 0, none⟩)] 43)).heap.size := by simp
    rw [e, World.cell?_alloc_at _ _ _ _ (by simp)]
    rfl

set_option maxHeartbeats 800000 in
set_option maxRecDepth 20000 in
theorem find_row {w : World} {b V c n : Nat} (k : Int) (hk : k ≤ 9223372036854775807) (h : RowAt w b V c n) (hT : Tab w) :
    Calls Tryd.prog 22 #[.pointer (some ⟨b, 0, none⟩), .int .i64 k] w fun x w' => (∃ F, x = .returned (.int .i64 F) ∧ FindOf V c k F) ∧ Below w.heap.size w w' := by
  have HS : Hid (Sees ((w.alloc (.cells #[.pointer (some ⟨b, 0, none⟩)] 43)).alloc (.cells #[.int .i64 k] 3)) w.heap.size (w.heap.size + 1) b V c n k) := sees_new k h
  have HB : Hid (Below w.heap.size w ((w.alloc (.cells #[.pointer (some ⟨b, 0, none⟩)] 43)).alloc (.cells #[.int .i64 k] 3))) := ((Below.refl _ _).alloc (Nat.le_refl _) _).alloc (by simp) _
  have HT : Hid (Tab w) := hT
  clear h hT
  go_enter Tryd.func22, Tryd.ntmps22
  go_wp2_with fail
  obtain ⟨rb, hrb⟩ : ∃ rb, rb = w.heap.size := ⟨_, rfl⟩
  obtain ⟨kb, hkb⟩ : ∃ kb, kb = w.heap.size + 1 := ⟨_, rfl⟩
  rw [← hkb, ← hrb] at HS
  rw [← hkb]
  generalize ((w.alloc (.cells #[.pointer (some ⟨b, 0, none⟩)] 43)).alloc (.cells #[.int .i64 k] 3)) = W at HS HB ⊢
  have kr := HS.out.r
  have kk := HS.out.k
  rw [← hrb]
  clear hrb hkb
  by_cases h1 : k < 1
  · clear HS HT
    go_quiet (fail)
    go_wp2
    go_ret
    exact ⟨⟨_, rfl, .inl ⟨.inl h1, rfl⟩⟩, below_drewN HB.out nq⟩
  · obtain ⟨T, hT⟩ : ∃ T, T = OnesOf V c (c : Int) := ⟨_, rfl⟩
    have HTT : Hid (T = OnesOf V c (c : Int)) := hT
    clear hT
    by_cases h2 : k > (T : Int)
    · go_quiet (first | (go_at_call 18; refine Calls.quiet_of_same (len_row (HS.out.drewN _).row)) | (go_at_call 20; refine Calls.quiet_of (ones_T HTT (HS.out.drewN _).row)))
      go_wp2
      go_ret
      refine ⟨⟨_, rfl, .inl ⟨.inr ?_, rfl⟩⟩, below_drewN HB.out nq⟩
      rw [← HTT.out]
      exact h2
    · go_quiet (first | (go_at_call 18; refine Calls.quiet_of_same (len_row (HS.out.drewN _).row)) | (go_at_call 20; refine Calls.quiet_of (ones_T HTT (HS.out.drewN _).row)))
      obtain ⟨adw, cpw, k1, k2⟩ := HS.out.row.c1
      obtain ⟨ga, cpa, a1, a2⟩ := HS.out.row.c2
      have K2 : Hid (∀ j, j < n → ∃ g, adw = some ⟨g, 0, none⟩ ∧ W.cell? ⟨g, j, none⟩ = some (.int .u64 (Plain.word V j : Nat))) := k2
      have A2 : Hid (∀ j, j ≤ n → W.cell? ⟨ga, j, none⟩ = some (.int .i64 (Plain.pop V (64 * j) : Nat))) := a2
      have hlim := HS.out.row.lim
      clear k2 a2
      go_wp2_with fail
      refine (search_any (HS.out.drewN nq)).mono ?_
      rintro e2 w2 ⟨⟨r, rfl, hrn, hlo, hhi⟩, m1, rfl⟩
      have hTn : T = Plain.pop V (64 * n) := by rw [HTT.out, OnesOf, Int.toNat_natCast, Nat.min_self, Plain.pop_all V c _ HS.out.row.small HS.out.row.fit]
      obtain ⟨hrn', A, B, t, hA, hAk, hkB, ht, hp, hb, hB⟩ := find_num (by omega) (by omega) hTn hrn hlo hhi
      have HF : Hid (Plain.pop (Plain.word V r) t = B - 1 ∧ Plain.word V r / 2 ^ t % 2 = 1 ∧ A = Plain.pop V (64 * r) ∧ k = (A : Int) + (B : Int)) := ⟨hp, hb, hA, hB⟩
      obtain ⟨gw, hgw, kw⟩ := K2.out r hrn'
      have a3 := A2.out r hrn
      subst hgw
      rw [← hA] at a3
      obtain ⟨x, hx⟩ : ∃ x, x = Plain.word V r := ⟨_, rfl⟩
      have hx64 : x < 18446744073709551616 := by rw [hx]; exact Plain.word_lt V r
      rw [← hx] at kw hp hb
      have HX : Hid (x = Plain.word V r) := hx
      have HQ : Hid (Plain.pop x t = B - 1 ∧ x / 2 ^ t % 2 = 1) := ⟨hp, hb⟩
      obtain ⟨N, hN⟩ : ∃ N, N = n + 1 := ⟨_, rfl⟩
      rw [← hN] at a1
      have hrN : (r : Int) < (N : Int) := by omega
      have hrn2 : (r : Int) < (n : Int) := by omega
      have hr0 : (0 : Int) ≤ (r : Int) := by omega
      have hsub : IntKind.i64.wrap (k - (A : Int)) = (B : Int) := by rw [IntKind.wrap_i64]; omega
      have hmul : IntKind.i64.wrap ((r : Int) * 64) = ((64 * r : Nat) : Int) := by rw [IntKind.wrap_i64]; omega
      obtain ⟨R, hR⟩ : ∃ R, R = 64 * r := ⟨_, rfl⟩
      rw [← hR] at hmul
      obtain ⟨S, hS⟩ : ∃ S, S = R + t := ⟨_, rfl⟩
      have hadd : IntKind.i64.wrap ((R : Int) + (t : Int)) = (S : Int) := by rw [IntKind.wrap_i64]; omega
      have HSS : Hid (S = 64 * r + t) := by simp only [Hid]; omega
      clear K2 A2 hlo hhi hTn hA hp hb hB hx hN hR hS
      go_wp2_with fail
      go_quiet (first | (go_at_call 38; exact nth_quiet hx64 hkB ht HQ.out.1 HQ.out.2 (HT.out.below (below_drewN HB.out _))))
      go_wp2
      go_ret
      refine ⟨⟨_, rfl, .inr ⟨by omega, by rw [← HTT.out]; exact h2, S, rfl, ?_⟩⟩, ?_⟩
      · obtain ⟨f1, f2, f3, f4⟩ := HF.out
        obtain ⟨g1, g2, g3⟩ := Plain.nth_row V c r t (B - 1) HS.out.row.small ht f1 f2
        rw [HSS.out]
        exact ⟨g1, by omega, g3⟩
      · exact below_drewN (below_drewN HB.out _) _
end Go.Proofs.YtnffjoipinhojaaDoor
