import Derived.Test.YtnffjoipinhojaaDoorWd
import Derived.Test.YtnffjoipinhojaaDoorUn
import Derived.Deep.RegionHeld3
import Derived.Deep.AppendLies
import Derived.Deep.RegionLaw
namespace Go.Proofs.YtnffjoipinhojaaDoor
open Go.RowKit

/-- How many bits are 1 ahead of each word, and at last in all. -/
def Ahd (V n : Nat) : List Int := (List.range (n + 1)).map fun j => ((Plain.pop V (64 * j) : Nat) : Int)
theorem ahd_len (V n : Nat) : (Ahd V n).length = n + 1 := by simp [Ahd]
theorem ahd_get (V n j : Nat) (h : j ≤ n) : (Ahd V n)[j]? = some ((Plain.pop V (64 * j) : Nat) : Int) := by
  have : j < n + 1 := by omega
  simp [Ahd, this]
theorem ahd_succ (V n : Nat) : Ahd V (n + 1) = Ahd V n ++ [((Plain.pop V (64 * (n + 1)) : Nat) : Int)] := by
  rw [Ahd, List.range_succ, List.map_append]; rfl
theorem pop_next (V k : Nat) : Plain.pop V (64 * k) + Plain.pop (Plain.word V k) 64 = Plain.pop V (64 * (k + 1)) := by
  rw [show 64 * (k + 1) = 64 * k + 64 by omega, Plain.pop_split (64 * k) 64 V, Plain.word, Plain.pop_mod]

theorem make_one (L : Nat) (h : L ≤ 20000000000000) (u : World) : (Instr.makeSlice 32 (.int .i64 1) (.int .i64 ((L : Int) + 1))).run Tryd.prog u =
      .ok (.slice (some ⟨u.heap.size, 0, none⟩) 1 (L + 1)) (u.alloc (.cells (madeCells #[.int .i64 0] (L + 1)) 3)) := by
  obtain ⟨i0, hi, hz0, hz1, hz2⟩ := info_parts info3
  have h := run_make (P := Tryd.prog) u 32 3 i0 (.int .i64 0) Tryd.underlying32 hi hz0 .i64 .i64 1 ((L : Int) + 1) (by omega) (by omega) (by rw [hz2]; omega) (by omega)
  rw [show ((L : Int) + 1).toNat = L + 1 by omega] at h
  simpa [hz1, Value.cells] using h

theorem own_made (u : World) (L base : Nat) (hb : base ≤ u.heap.size) (hL : L ≤ 20000000000000) (V : Nat) :
    Own (u.alloc (.cells (madeCells #[.int .i64 0] (L + 1)) 3)) base (.slice (some ⟨u.heap.size, 0, none⟩) 1 (L + 1)) (Ahd V 0) := by
  refine ⟨by simp [Ahd], .inr ⟨u.heap.size, L + 1, madeCells #[.int .i64 0] (L + 1), rfl, hb, heap_alloc_new u _, by simp [Ahd], by unfold maxLen; omega, by rw [size_madeCells, Nat.mul_one], ?_⟩⟩
  rw [toList_madeCells_one]
  simp [Ahd, List.replicate_succ, Plain.pop]

theorem own_form {w : World} {base : Nat} {v : Value} {xs : List Int} (h : Own w base v xs) (h0 : 0 < xs.length) : ∃ g cap, v = .slice (some ⟨g, 0, none⟩) xs.length cap ∧ base ≤ g ∧ g < w.heap.size := by
  obtain ⟨g, cap, rfl⟩ := Joins.ownsRow_form h h0
  exact ⟨g, cap, rfl, World.ownsRow.lt h g rfl⟩
theorem own_cell {w : World} {base : Nat} {v : Value} {xs : List Int} {g cap : Nat} (h : Own w base v xs) (hv : v = .slice (some ⟨g, 0, none⟩) xs.length cap) (j : Nat) (x : Int) (hx : xs[j]? = some x) : w.cell? ⟨g, j, none⟩ = some (.int .i64 x) := by
  subst hv
  have h : w.ownsRow base 3 1 (.slice (some ⟨g, 0, none⟩) xs.length cap) xs.length (xs.map (Value.int .i64)) := h
  have hj : j < xs.length := (List.getElem?_eq_some_iff.1 hx).1
  rw [World.ownsRow.cellAt h j (by omega), List.getElem?_map, hx]
  rfl

/-- Behind 'ahead = append(ahead, ..)'. -/
theorem ahd_grown {wr w1 : World} {base : Nat} {v v' : Value} {V k : Nat} {o : Obj} {x : Int} {N : Nat} (hN : N = k + 1) (hbs : base ≤ wr.heap.size) (h : wr.ownsRow base 3 1 v N ((Ahd V k).map (Value.int .i64))) (hx : x = ((Plain.pop V (64 * (k + 1)) : Nat) : Int))
    (hg : (wr.alloc o).drew.grownBy w1 v.ownBlock) (h1 : w1.ownsRow base 3 1 v' (N + 1) ((Ahd V k).map (Value.int .i64) ++ [.int .i64 x])) : Own w1 base v' (Ahd V (k + 1)) ∧ Below base wr w1 := by
  refine ⟨?_, Below.grown ((Below.refl base wr).alloc (by omega) _).drew hg (by simp; omega) (fun k hk => by have := (World.ownsRow.lt h k hk).1; omega)⟩
  unfold Own
  rw [ahd_len, ahd_succ, List.map_append, ← hx, ← hN]
  exact h1

theorem one_word_drew (w : World) (k : IntKind) (b : Int) (t : TypeId) : ∀ j v, [Value.int k b][j]? = some v → (w.alloc (.cells #[.int k b] t)).drew.cell? ((⟨w.heap.size, 0, none⟩ : Addr).add j) = some v := one_word w k b t
theorem oc_p (x p : Nat) (w : World) (hx : x < 18446744073709551616) (hp : Hid (p = Plain.pop x 64)) :
    Calls Tryd.prog 35 #[.int .u64 x] w fun e w' => e = .returned (.int .i64 (p : Int)) ∧ w = w' := by
  rw [hp.out]
  exact oc_any x w hx

set_option maxHeartbeats 1600000 in
set_option maxRecDepth 20000 in
/-- bits.onesAhead -/
theorem ahead_any (V n b0 : Nat) (u : Value) (w : World) (hn : n ≤ 17592186044000) (hw : Ws w b0 u (Plain.Wds V n)) :
    Calls Tryd.prog 34 #[u] w fun e w' => (∃ v, e = .returned v ∧ Own w' w.heap.size v (Ahd V n)) ∧ Below w.heap.size w w' := by
  obtain ⟨i0, hi, hz0, hz1, hz2⟩ := info_parts info3
  obtain ⟨ad, cp, hu, hc⟩ : ∃ ad cp, u = .slice ad n cp ∧ ∀ k, k < n → ∃ g, ad = some ⟨g, 0, none⟩ ∧ g < w.heap.size ∧ w.cell? ⟨g, k, none⟩ = some (.int .u64 (Plain.word V k : Nat)) := by
    by_cases h0 : n = 0
    · subst h0
      rcases hw.2 with ⟨rfl, _⟩ | ⟨g, cap, cur, rfl, _⟩
      · exact ⟨none, 0, rfl, fun k hk => by omega⟩
      · exact ⟨some ⟨g, 0, none⟩, cap, rfl, fun k hk => by omega⟩
    · obtain ⟨g, cap, hv, _, hg⟩ := ws_form hw (by rw [Plain.wds_len]; omega)
      have hcell := fun k hk => ws_cell hw hv k _ (Plain.wds_get V n k hk)
      rw [Plain.wds_len] at hv
      exact ⟨_, cap, hv, fun k hk => ⟨g, rfl, hg, hcell k hk⟩⟩
  subst hu
  have HC : Hid (∀ k, k < n → ∃ g, ad = some ⟨g, 0, none⟩ ∧ g < w.heap.size ∧ w.cell? ⟨g, k, none⟩ = some (.int .u64 (Plain.word V k : Nat))) := hc
  have hmk := make_one n (by omega) w
  have hni : (n : Int) ≤ 17592186044000 := by omega
  clear hw hc
  go_enter Tryd.func34, Tryd.ntmps34
  go_wp2_with fail
  clear hmk
  have HO0 : Hid (Own (w.alloc (.cells (madeCells #[.int .i64 0] (n + 1)) 3)) w.heap.size (.slice (some ⟨w.heap.size, 0, none⟩) 1 (n + 1)) (Ahd V 0)) := own_made w n _ (Nat.le_refl _) (by omega) V
  have HB0 : Hid (Below w.heap.size w (w.alloc (.cells (madeCells #[.int .i64 0] (n + 1)) 3))) := (Below.refl _ _).alloc (Nat.le_refl _) _
  generalize (w.alloc (.cells (madeCells #[.int .i64 0] (n + 1)) 3)) = w2 at HO0 HB0 ⊢
  go_loopw [3, 12] (fun v i wr => ∃ k : Nat, k ≤ n ∧ i = .int .i64 k ∧ Own wr w.heap.size v (Ahd V k) ∧ Below w.heap.size w wr) (fun _ i _ => n - (intOf i).toNat)
  case atStart => exact ⟨0, Nat.zero_le _, rfl, HO0.out, HB0.out⟩
  case round =>
    obtain ⟨k, hk, rfl, hown, hb⟩ := hrel
    have HO : Hid (Own wr w.heap.size u3 (Ahd V k)) := hown
    have HB : Hid (Below w.heap.size w wr) := hb
    clear hown hb HO0 HB0
    by_cases hlt : k < n
    · obtain ⟨gw, hgw, hgs, hcw⟩ := HC.out k hlt
      subst hgw
      have kcw : wr.cell? ⟨gw, k, none⟩ = some (.int .u64 (Plain.word V k : Nat)) := (HB.out.cell (p := ⟨gw, k, none⟩) hgs).trans hcw
      obtain ⟨g, cap, hv, hg1, hg2⟩ := own_form HO.out (by rw [ahd_len]; omega)
      have kca := own_cell HO.out hv k _ (ahd_get V k k (Nat.le_refl _))
      rw [ahd_len] at hv
      subst hv
      have HR : Hid (wr.ownsRow w.heap.size 3 1 (.slice (some ⟨g, 0, none⟩) (k + 1) cap) (k + 1) ((Ahd V k).map (Value.int .i64))) := by
        have h := HO.out
        unfold Own at h
        rw [ahd_len] at h
        exact h
      obtain ⟨x, hx⟩ : ∃ x, x = Plain.word V k := ⟨_, rfl⟩
      have hx64 : x < 18446744073709551616 := by rw [hx]; exact Plain.word_lt V k
      obtain ⟨A, hA⟩ : ∃ A, A = Plain.pop V (64 * k) := ⟨_, rfl⟩
      have hA64 : A ≤ 64 * k := by rw [hA]; exact Plain.pop_le _ _
      have hp64 : Plain.pop x 64 ≤ 64 := Plain.pop_le _ _
      have HS : Hid (((A : Int) + ((Plain.pop x 64 : Nat) : Int)) = ((Plain.pop V (64 * (k + 1)) : Nat) : Int)) := by
        have := pop_next V k
        rw [← hx, ← hA] at this
        simp only [Hid]
        omega
      rw [← hx] at kcw
      rw [← hA] at kca
      obtain ⟨p, hp⟩ : ∃ p, p = Plain.pop x 64 := ⟨_, rfl⟩
      rw [← hp] at HS hp64
      have HP : Hid (p = Plain.pop x 64) := hp
      have hki : (k : Int) < (n : Int) := by omega
      have hk0 : (0 : Int) ≤ (k : Int) := by omega
      obtain ⟨N, hN⟩ : ∃ N, N = k + 1 := ⟨_, rfl⟩
      rw [← hN] at HR ⊢
      have hkN : (k : Int) < (N : Int) := by omega
      obtain ⟨B, hB⟩ : ∃ B, B = A + p := ⟨_, rfl⟩
      have hAB : IntKind.i64.wrap ((A : Int) + (p : Int)) = (B : Int) := by rw [IntKind.wrap_i64]; omega
      have HS2 : Hid ((B : Int) = ((Plain.pop V (64 * (k + 1)) : Nat) : Int)) := by have := HS.out; simp only [Hid]; omega
      have HN : Hid (N = k + 1) := hN
      have hN2 : N ≤ 17592186044001 := by omega
      have hbs := HB.out.size
      clear hcw hx hA hp hN HC hB HS
      go_wp2_with fail
      go_region_law (first
        | (go_simp; go_at_call 35; refine (oc_p x p _ hx64 HP).mono ?_; rintro e w' ⟨rfl, rfl⟩)
        | (refine step_append_lies _ (by rfl) _ _ _ (by rfl) w.heap.size 3 i0 _ 1 8 Tryd.underlying32 hi hz0 hz1 hz2 rfl (by omega) (.slice (some ⟨g, 0, none⟩) N cap) N ((Ahd V k).map (Value.int .i64)) (by rfl) ((HR.out.alloc _).drew) ⟨wr.heap.size, 0, none⟩ 1 1 [.int .i64 (B : Int)] (by rfl) (by rfl) (one_word_drew _ _ _ _) (oneWord _ _) (by omega) (by unfold maxLen; omega) (by omega) (by simp; omega) (wr.heap.size + 1) (by simp) ?_; intro g2 cap2 w1 hown1 hgrow hat hlt2))
      all_goals
        obtain ⟨R1, R2⟩ := ahd_grown HN.out hbs HR.out HS2.out hgrow hown1
        go_wp2
        go_roundw
        case rel => exact ⟨k + 1, by omega, by go_num, R1, HB.out.trans R2⟩
        case measure => simp [intOf]; omega
    · have hke : k = n := by omega
      subst hke
      clear hi hz0 hz1 hz2 HC
      go_wp2_with fail
      go_ret
      exact ⟨⟨_, rfl, HO.out⟩, HB.out⟩
end Go.Proofs.YtnffjoipinhojaaDoor
