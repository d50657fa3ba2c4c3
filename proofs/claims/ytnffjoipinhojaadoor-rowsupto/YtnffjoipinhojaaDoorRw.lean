import Derived.Test.YtnffjoipinhojaaDoorOa
import Derived.Test.YtnffjoipinhojaaDoorNth
namespace Go.Proofs.YtnffjoipinhojaaDoor
open Go.RowKit

/-- A row at block b: the bits are V's, c of them, in n words. -/
structure RowAt (w : World) (b V c n : Nat) : Prop where
  c0 : w.cell? ⟨b, 0, none⟩ = some (.int .i64 (c : Int))
  c1 : ∃ ad cp, w.cell? ⟨b, 1, none⟩ = some (.slice ad n cp) ∧ ∀ j, j < n → ∃ g, ad = some ⟨g, 0, none⟩ ∧ w.cell? ⟨g, j, none⟩ = some (.int .u64 (Plain.word V j : Nat))
  c2 : ∃ g cp, w.cell? ⟨b, 2, none⟩ = some (.slice (some ⟨g, 0, none⟩) (n + 1) cp) ∧ ∀ j, j ≤ n → w.cell? ⟨g, j, none⟩ = some (.int .i64 (Plain.pop V (64 * j) : Nat))
  small : V < 2 ^ c
  fit : c ≤ 64 * n
  lim : n ≤ 17592186044000

theorem RowAt.below {w w' : World} {b V c n : Nat} (h : RowAt w b V c n) (hb : Below w.heap.size w w') : RowAt w' b V c n := by
  have k : ∀ {a : Addr} {v : Value}, w.cell? a = some v → w'.cell? a = some v := fun {a v} h => (hb.cell (p := a) (World.block_lt_of_cell? w _ h)).trans h
  obtain ⟨ad, cp, h1, h2⟩ := h.c1
  obtain ⟨g, cq, h3, h4⟩ := h.c2
  exact ⟨k h.c0, ⟨ad, cp, k h1, fun j hj => let ⟨g, hg⟩ := h2 j hj; ⟨g, hg.1, k hg.2⟩⟩, ⟨g, cq, k h3, fun j hj => k (h4 j hj)⟩, h.small, h.fit, h.lim⟩

theorem row_of {w2 w3 : World} {wv av : Value} {V c n b0 b1 : Nat} (hw : Ws w2 b0 wv (Plain.Wds V n)) (hb : Below w2.heap.size w2 w3) (ha : Own w3 b1 av (Ahd V n)) (hV : V < 2 ^ c) (hc : c ≤ 64 * n) (hn : n ≤ 17592186044000) :
    RowAt (w3.alloc (.cells #[.int .i64 (c : Int), wv, av] 74)) w3.heap.size V c n := by
  have k : ∀ {a : Addr} {v : Value}, w3.cell? a = some v → (w3.alloc (.cells #[.int .i64 (c : Int), wv, av] 74)).cell? a = some v := fun {a v} h => by
    rw [World.cell?_alloc_lt _ _ _ (World.block_lt_of_cell? w3 _ h)]
    exact h
  have k2 : ∀ {a : Addr} {v : Value}, w2.cell? a = some v → w3.cell? a = some v := fun {a v} h => (hb.cell (p := a) (World.block_lt_of_cell? w2 _ h)).trans h
  obtain ⟨g, cp, hv, _, _⟩ := own_form ha (by rw [ahd_len]; omega)
  have hcell := fun j hj => own_cell ha hv j _ (ahd_get V n j hj)
  rw [ahd_len] at hv
  refine ⟨by simp, ?_, ⟨g, cp, by simp [hv], fun j hj => k (hcell j hj)⟩, hV, hc, hn⟩
  by_cases h0 : n = 0
  · subst h0
    rcases hw.2 with ⟨rfl, _⟩ | ⟨g, cap, cur, rfl, _⟩
    · exact ⟨none, 0, by simp, fun k hk => by omega⟩
    · exact ⟨some ⟨g, 0, none⟩, cap, by simp [Plain.Wds], fun k hk => by omega⟩
  · obtain ⟨g, cap, hv, _, hg⟩ := ws_form hw (by rw [Plain.wds_len]; omega)
    have hcell := fun k hk => ws_cell hw hv k _ (Plain.wds_get V n k hk)
    rw [Plain.wds_len] at hv
    exact ⟨_, cap, by simp [hv], fun j hj => ⟨g, rfl, k (k2 (hcell j hj))⟩⟩

theorem row_slice {w : World} {b n e sz : Nat} {v : Value} {xs : List Value} (h : w.ownsRow b e sz v n xs) : ∃ ad l cp, v = .slice ad l cp := by
  rcases h.2 with ⟨rfl, _⟩ | ⟨g, cap, cur, rfl, _⟩
  · exact ⟨_, _, _, rfl⟩
  · exact ⟨_, _, _, rfl⟩

theorem fit_row {l : List UInt8} {c : Nat} (h : Fit l 1 c) : Plain.val l < 2 ^ c ∧ c ≤ 64 * ((l.length + 7) / 8) := by
  obtain ⟨h1, h2⟩ := h
  rw [Nat.mul_one] at h1 h2
  exact ⟨h2, by omega⟩

set_option maxHeartbeats 800000 in
set_option maxRecDepth 20000 in
theorem new_row_ok (s : ByteArray) (c : Nat) (w : World) (hs : s.size ≤ 140737488351232) (hf : Fit s.data.toList 1 c) :
    Calls Tryd.prog 17 #[.string s, .int .i64 c] w fun x w' => (∃ b, x = .returned (.tuple #[.pointer (some ⟨b, 0, none⟩), .int .i64 0]) ∧ RowAt w' b (Plain.val s.data.toList) c ((s.size + 7) / 8)) ∧ Below w.heap.size w w' := by
  have e : s.data.toList.length = s.size := by simp
  have HF : Hid (Fit s.data.toList 1 c) := hf
  obtain ⟨hV, hc⟩ := fit_row hf
  rw [e] at hc
  have HV : Hid (Plain.val s.data.toList < 2 ^ c ∧ c ≤ 64 * ((s.size + 7) / 8)) := ⟨hV, hc⟩
  have hcb : c ≤ 9223372036854775807 := by omega
  clear hf e hV hc
  go_enter Tryd.func17, Tryd.ntmps17
  go_wp2_with fail
  refine (cp_any s 1 c w (by omega) (by decide) (by decide) hcb).mono ?_
  rintro e w' ⟨ha, rfl⟩
  rcases ha with ⟨_, rfl⟩ | ⟨hn, _⟩
  · go_wp2_with fail
    refine (words_any s w hs).mono ?_
    rintro e w2 ⟨⟨wv, rfl, hw⟩, hb2⟩
    have HW : Hid (Ws w2 w.heap.size wv (Plain.Wds (Plain.val s.data.toList) ((s.size + 7) / 8))) := hw
    have HB2 : Hid (Below w.heap.size w w2) := hb2
    obtain ⟨adw, lw, cpw, rfl⟩ := row_slice hw
    clear hw hb2
    go_wp2_with fail
    refine (ahead_any _ _ _ _ w2 (by omega) HW.out).mono ?_
    rintro e w3 ⟨⟨av, rfl, ha⟩, hb3⟩
    have HA : Hid (Own w3 w2.heap.size av (Ahd (Plain.val s.data.toList) ((s.size + 7) / 8))) := ha
    have HB3 : Hid (Below w2.heap.size w2 w3) := hb3
    obtain ⟨ada, la, cpa, rfl⟩ := row_slice ha
    clear ha hb3
    go_wp2_with fail
    go_ret2
    have hsz := HB2.out.size
    refine ⟨⟨_, rfl, row_of HW.out HB3.out HA.out HV.out.1 HV.out.2 (by omega)⟩, ?_⟩
    exact (HB2.out.trans (HB3.out.mono hsz)).alloc (by have := HB3.out.size; omega) _
  · exact absurd HF.out hn

/-- NewRow where it refuses -/
theorem new_row_no (s : ByteArray) (c : Int) (n : Int) (w : World) (hg : Handle w)
    (h : Calls Tryd.prog 31 #[.string s, .int .i64 1, .int .i64 c] w fun x w' => x = .returned (.iface 82 (.agg #[.int .i64 n])) ∧ w = w') :
    Calls Tryd.prog 17 #[.string s, .int .i64 c] w fun x w' => x = .returned (.tuple #[.pointer none, .int .i64 n]) ∧ Below w.heap.size w w' := by
  have HG : Hid (Handle w) := hg
  have HC : Hid (Calls Tryd.prog 31 #[.string s, .int .i64 1, .int .i64 c] w fun x w' => x = .returned (.iface 82 (.agg #[.int .i64 n])) ∧ w = w') := h
  clear hg h
  go_enter Tryd.func17, Tryd.ntmps17
  go_wp2_with fail
  refine HC.out.mono ?_
  rintro e w' ⟨rfl, rfl⟩
  go_wp2_with fail
  refine (number_any n _ HG.out).mono ?_
  rintro e w1 ⟨rfl, hb1⟩
  have HB1 : Hid (Below w.heap.size w w1) := hb1
  clear hb1
  go_wp2_with fail
  go_ret2
  exact ⟨rfl, HB1.out⟩

/-- (*Row).Len -/
theorem len_row {w : World} {b V c n : Nat} (h : RowAt w b V c n) : Calls Tryd.prog 18 #[.pointer (some ⟨b, 0, none⟩)] w fun x w' => x = .returned (.int .i64 (c : Int)) ∧ w' = w := by
  have h0 := h.c0
  clear h
  go_enter Tryd.func18, Tryd.ntmps18
  go_wp2
  go_ret
  exact ⟨rfl, rfl⟩
theorem len_nil (w : World) : Calls Tryd.prog 18 #[.pointer none] w fun x w' => x = .returned (.int .i64 0) ∧ w' = w := by
  go_enter Tryd.func18, Tryd.ntmps18
  go_wp2
  go_ret
  exact ⟨rfl, rfl⟩
end Go.Proofs.YtnffjoipinhojaaDoor
