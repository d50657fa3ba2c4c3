import Derived.Test.YtklcakicihjbdaaGreatDoorSg
set_option linter.unusedSimpArgs false
set_option linter.unusedVariables false
namespace Go.Proofs.YtklcakicihjbdaaGreatDoor
open Go.RowKit

theorem set1_heap {w : World} {f : Nat} {T : TypeId} {a v0 : Value} (h : w.heap[f]? = some (.cells #[a] T (0, 0))) : (w.setCell ⟨f, 0, none⟩ v0).heap[f]? = some (.cells #[v0] T (0, 0)) := by
  rw [setCell_heap]
  simp [h]

set_option maxHeartbeats 1000000 in
/-- what Whole[string] runs -/
theorem whole1S (w : World) (b f k : Nat) (s : ByteArray) (r : R (List UInt8)) (g : Nat) (eg : ∀ args w, (callFunc g args).run Tryz.prog w = .ok (.enter g args) w)
    (h : Rd w b s 0) (hk : w.cell? ⟨k, 0, none⟩ = some (fnV g #[])) (hf : w.heap[f]? = some (.cells #[str []] 9 (0, 0))) (hbf : b ≠ f)
    (hr : Calls Tryz.prog g #[.pointer (some ⟨b, 0, none⟩)] w (Out b w str r)) (hj : ∀ x j, r = .ok x j → j ≤ s.size) :
    Calls Tryz.prog 186 #[.pointer (some ⟨k, 0, none⟩), .pointer (some ⟨b, 0, none⟩), .pointer (some ⟨f, 0, none⟩)] w fun e w' =>
      match whole s r with
      | .ok x j => e = .returned (.tuple #[]) ∧ But b f w w' ∧ w'.heap[f]? = some (.cells #[str x] 9 (0, 0))
      | .bad j => e = stopE 2 j ∧ But b f w w' := by
  have hfl : f < w.heap.size := (Array.getElem?_eq_some_iff.1 hf).1
  cases r with
  | bad j =>
    simp only [whole]
    go_enter Tryz.func186, Tryz.ntmps186
    go_wp2_with (go_at_fn g; refine hr.mono ?_; rintro e w2 ⟨rfl, m, hA2⟩)
    exact ⟨rfl, rfl, But.of_adv hA2⟩
  | ok x j =>
    have hjs := hj _ _ rfl
    have FB : Hid (∀ w2, Adv b j w w2 → w2.heap[f]? = some (.cells #[str []] 9 (0, 0))) := fun w2 a => by
      rw [a.other hfl (Ne.symm hbf)]; exact hf
    have HRD : Hid (Rd w b s 0) := h
    clear hj hf h
    by_cases he : j = s.size
    · simp only [whole, if_pos he]
      have HWE : Hid (∀ w2, Adv b j w w2 → ∀ w3, But b f w2 w3 → w3.heap[b]? = w2.heap[b]? → Calls Tryz.prog 68 #[.pointer (some ⟨b, 0, none⟩)] w3 fun e w' => e = .returned (.tuple #[]) ∧ Adv b j w3 w') := fun w2 a w3 bt hb3 => by
        have r2 := HRD.out.adv a hjs
        have r3 : Rd w3 b s j := ⟨(World.cell?_of_block (w := w2) (a := ⟨b, 0, none⟩) hb3).trans r2.c0, (World.cell?_of_block (w := w2) (a := ⟨b, 1, none⟩) hb3).trans r2.c1, (World.frozen?_of_block (w := w2) (a := ⟨b, 1, none⟩) hb3).trans r2.fz, r2.le, r2.ms⟩
        exact wantEnd_ok w3 b j s r3 he
      clear he
      go_enter Tryz.func186, Tryz.ntmps186
      go_wp2_with (go_at_fn g; refine hr.mono ?_; rintro e w2 ⟨rfl, hA2⟩; have hb2 := FB.out w2 hA2; have q0 : w2.cell? ⟨f, 0, none⟩ = some (str []) := (by rw [Lib.cell_of_heap hb2]; rfl); have qf : ∀ o, w2.frozen? ⟨f, o, none⟩ = false := (fun o => Lib.frozen_of_heap hb2 o); have HB2 : Hid (w2.heap[f]? = some (.cells #[str []] 9 (0, 0))) := hb2; clear hb2)
      have hbt : But b f w2 (w2.setCell ⟨f, 0, none⟩ (str x)) := (But.refl b f w2).set _
      have hfb := set1_heap (v0 := str x) HB2.out
      refine (HWE.out w2 hA2 _ hbt (by rw [Below.heap_setCell _ _ _ _ hbf])).mono ?_
      rintro e w4 ⟨rfl, hA4⟩
      go_wp2_with fail
      go_end0
      refine ⟨rfl, (But.of_adv hA2).trans (hbt.trans (But.of_adv hA4)), ?_⟩
      rw [hA4.other (Array.getElem?_eq_some_iff.1 hfb).1 (Ne.symm hbf)]
      exact hfb
    · simp only [whole, if_neg he]
      have HWE : Hid (∀ w2, Adv b j w w2 → ∀ w3, But b f w2 w3 → w3.heap[b]? = w2.heap[b]? → Calls Tryz.prog 68 #[.pointer (some ⟨b, 0, none⟩)] w3 fun e w' => e = stopE 2 j ∧ Adv b j w3 w') := fun w2 a w3 bt hb3 => by
        have r2 := HRD.out.adv a hjs
        have r3 : Rd w3 b s j := ⟨(World.cell?_of_block (w := w2) (a := ⟨b, 0, none⟩) hb3).trans r2.c0, (World.cell?_of_block (w := w2) (a := ⟨b, 1, none⟩) hb3).trans r2.c1, (World.frozen?_of_block (w := w2) (a := ⟨b, 1, none⟩) hb3).trans r2.fz, r2.le, r2.ms⟩
        exact wantEnd_bad w3 b j s r3 he
      clear he
      go_enter Tryz.func186, Tryz.ntmps186
      go_wp2_with (go_at_fn g; refine hr.mono ?_; rintro e w2 ⟨rfl, hA2⟩; have hb2 := FB.out w2 hA2; have q0 : w2.cell? ⟨f, 0, none⟩ = some (str []) := (by rw [Lib.cell_of_heap hb2]; rfl); have qf : ∀ o, w2.frozen? ⟨f, o, none⟩ = false := (fun o => Lib.frozen_of_heap hb2 o); have HB2 : Hid (w2.heap[f]? = some (.cells #[str []] 9 (0, 0))) := hb2; clear hb2)
      have hbt : But b f w2 (w2.setCell ⟨f, 0, none⟩ (str x)) := (But.refl b f w2).set _
      refine (HWE.out w2 hA2 _ hbt (by rw [Below.heap_setCell _ _ _ _ hbf])).mono ?_
      rintro e w4 ⟨rfl, hA4⟩
      go_wp2_with fail
      exact ⟨rfl, rfl, (But.of_adv hA2).trans (hbt.trans (But.of_adv hA4))⟩

/-- the world that Whole[string] hands to Catch -/
def whS (w : World) (s : ByteArray) (g : Nat) : World := (((w.alloc (.cells #[fnV g #[]] 130)).alloc (.cells #[str []] 9)).alloc (.cells #[.string s, .int .i64 0] 87)).alloc (.cells #[.string s, .int .i64 0] 87)

theorem whS_size (w : World) (s : ByteArray) (g : Nat) : (whS w s g).heap.size = w.heap.size + 4 := by simp [whS]
theorem whS_below (w : World) (s : ByteArray) (g : Nat) : Below w.heap.size w (whS w s g) := ((((Below.refl _ w).alloc (Nat.le_refl _) _).alloc (by simp) _).alloc (by simp; omega) _).alloc (by simp; omega) _

set_option maxHeartbeats 1000000 in
theorem wholeS (w : World) (s : ByteArray) (g : Nat) (r : R (List UInt8)) (eg : ∀ args w, (callFunc g args).run Tryz.prog w = .ok (.enter g args) w) (hT : Tabs w) (hG : 8 ≤ w.heap.size) (hsz : s.size ≤ 1099511627776)
    (hr : ∀ w2 b, Rd w2 b s 0 → Tabs w2 → 8 ≤ b → Calls Tryz.prog g #[.pointer (some ⟨b, 0, none⟩)] w2 (Out b w2 str r)) (hj : ∀ x j, r = .ok x j → j ≤ s.size) :
    Calls Tryz.prog 129 #[.string s, fnV g #[]] w fun e w' =>
      (match whole s r with
      | .ok x j => e = .returned (.tuple #[str x, .nilIface])
      | .bad j => e = .returned (.tuple #[str [], placedV 2 j])) ∧ Below w.heap.size w w' := by
  have e1 := enters_of Tryz.func186 (by kernel_rfl) rfl
  obtain ⟨u, hu⟩ : ∃ u, u = (whS w s g).alloc (.cells #[.nilIface] 64) := ⟨_, rfl⟩
  have hsu : u.heap.size = w.heap.size + 5 := by rw [hu]; simp [whS]
  have hlow : ∀ k, k < w.heap.size + 4 → u.heap[k]? = (whS w s g).heap[k]? := fun k hk => by rw [hu]; exact Below.heap_alloc _ _ _ (by rw [whS_size]; exact hk)
  have hB : Below w.heap.size w u := by rw [hu]; exact (whS_below w s g).alloc (by rw [whS_size]; omega) _
  have b3 : u.heap[w.heap.size + 3]? = some (.cells #[.string s, .int .i64 0] 87 (0, 0)) := by
    rw [hlow _ (by omega)]
    have := heap_new (((w.alloc (.cells #[fnV g #[]] 130)).alloc (.cells #[str []] 9)).alloc (.cells #[.string s, .int .i64 0] 87)) (.cells #[.string s, .int .i64 0] 87)
    simpa [whS] using this
  have b1 : u.heap[w.heap.size + 1]? = some (.cells #[str []] 9 (0, 0)) := by
    rw [hlow _ (by omega), whS, Below.heap_alloc _ _ _ (by simp), Below.heap_alloc _ _ _ (by simp)]
    have := heap_new (w.alloc (.cells #[fnV g #[]] 130)) (.cells #[str []] 9)
    simpa using this
  have b0 : u.heap[w.heap.size]? = some (.cells #[fnV g #[]] 130 (0, 0)) := by
    rw [hlow _ (by omega), whS, Below.heap_alloc _ _ _ (by simp; omega), Below.heap_alloc _ _ _ (by simp; omega), Below.heap_alloc _ _ _ (by simp)]
    exact heap_new _ _
  have b4 : u.heap[w.heap.size + 4]? = some (.cells #[.nilIface] 64 (0, 0)) := by
    rw [hu]
    have := heap_new (whS w s g) (.cells #[.nilIface] 64)
    rw [whS_size] at this
    exact this
  have hRd : Rd u (w.heap.size + 3) s 0 := ⟨by rw [Lib.cell_of_heap b3]; rfl, by rw [Lib.cell_of_heap b3]; rfl, Lib.frozen_of_heap b3 1, Nat.zero_le _, by omega⟩
  have hTu : Tabs u := hT.below hB (by omega) (by omega)
  have hW1 := whole1S u (w.heap.size + 3) (w.heap.size + 1) w.heap.size s r g eg hRd (by rw [Lib.cell_of_heap b0]; rfl) b1 (by omega) (hr u _ hRd hTu (by omega)) hj
  have CEL : Hid (∀ (w2 : World) (x : Nat) (c : Array Value) (T : TypeId), w2.heap[x]? = some (.cells c T (0, 0)) → (∀ o, w2.cell? ⟨x, o, none⟩ = c[o]?) ∧ ∀ o, w2.frozen? ⟨x, o, none⟩ = false) := fun w2 x c T hx => ⟨fun o => Lib.cell_of_heap hx o, fun o => Lib.frozen_of_heap hx o⟩
  have hmf := mkFunc
  cases hw : whole s r with
  | ok x j =>
    rw [hw] at hW1
    have hC := catch_ok (whS w s g) 186 #[.pointer (some ⟨w.heap.size, 0, none⟩), .pointer (some ⟨w.heap.size + 3, 0, none⟩), .pointer (some ⟨w.heap.size + 1, 0, none⟩)]
      (fun w' => But (w.heap.size + 3) (w.heap.size + 1) u w' ∧ w'.heap[w.heap.size + 1]? = some (.cells #[str x] 9 (0, 0))) e1 (by rw [← hu]; exact hW1)
      (fun w' hq => by rw [whS_size, hq.1.2.2 _ (by omega) (by omega) (by omega)]; exact b4)
    rw [whS_size] at hC
    have HC : Hid (Calls Tryz.prog 50 #[fnV 186 #[.pointer (some ⟨w.heap.size, 0, none⟩), .pointer (some ⟨w.heap.size + 3, 0, none⟩), .pointer (some ⟨w.heap.size + 1, 0, none⟩)]] (whS w s g) fun e w' => e = .returned .nilIface ∧ w'.heap[w.heap.size + 1]? = some (.cells #[str x] 9 (0, 0)) ∧ Below w.heap.size w w') := hC.mono (by
        rintro e w' ⟨rfl, w2, ⟨q1, q2⟩, rfl⟩
        refine ⟨rfl, ?_, ?_⟩
        · rw [Below.heap_setCell _ _ _ _ (by simp)]; exact q2
        · refine Below.setCell (hB.trans ⟨q1.2.1.1, q1.2.1.2.1, q1.2.1.2.2, q1.1, fun k hk => q1.2.2 k (by omega) (by omega) (by omega)⟩) (by simp) _)
    clear hC hW1 hr hj hu hlow hB b0 b1 b3 b4 hRd hTu hT hw
    go_enter Tryz.func129, Tryz.ntmps129
    go_wp2_with fail
    refine (over_any _ _).mono ?_
    rintro e w3 ⟨rfl, rfl⟩
    go_wp2_with fail
    refine HC.out.mono ?_
    rintro e w4 ⟨rfl, c1, hB4⟩
    have k1 := (CEL.out _ _ _ _ c1).1
    have k10 := k1 0
    simp at k10
    clear k1 c1
    go_wp2_with fail
    exact bodyPost_ret (v := .tuple #[str x, .nilIface]) (by simp [results, Tryz.results129, go_sem, k10]) rfl ⟨rfl, hB4⟩
  | bad j =>
    rw [hw] at hW1
    have hC := catch_stop (whS w s g) 186 #[.pointer (some ⟨w.heap.size, 0, none⟩), .pointer (some ⟨w.heap.size + 3, 0, none⟩), .pointer (some ⟨w.heap.size + 1, 0, none⟩)]
      (fun w' => But (w.heap.size + 3) (w.heap.size + 1) u w') 2 j e1 (by rw [← hu]; exact hW1)
      (fun w' hq => by rw [whS_size, hq.2.2 _ (by omega) (by omega) (by omega)]; exact b4)
    rw [whS_size] at hC
    have HC : Hid (Calls Tryz.prog 50 #[fnV 186 #[.pointer (some ⟨w.heap.size, 0, none⟩), .pointer (some ⟨w.heap.size + 3, 0, none⟩), .pointer (some ⟨w.heap.size + 1, 0, none⟩)]] (whS w s g) fun e w' => e = .returned (placedV 2 j) ∧ Below w.heap.size w w') := hC.mono (by
        rintro e w' ⟨rfl, w2, q1, rfl⟩
        have hz2 : w.heap.size + 5 ≤ w2.heap.size := by have := q1.1; omega
        refine ⟨rfl, ?_⟩
        refine Below.setCell (Below.alloc (hB.trans ⟨q1.2.1.1, q1.2.1.2.1, q1.2.1.2.2, q1.1, fun k hk => q1.2.2 k (by omega) (by omega) (by omega)⟩) (by omega) _) (by simp) _)
    clear hC hW1 hr hj hu hlow hB b0 b1 b3 b4 hRd hTu hT hw
    go_enter Tryz.func129, Tryz.ntmps129
    go_wp2_with fail
    refine (over_any _ _).mono ?_
    rintro e w3 ⟨rfl, rfl⟩
    go_wp2_with fail
    refine HC.out.mono ?_
    rintro e w4 ⟨rfl, hB4⟩
    go_wp2_with fail
    exact bodyPost_ret (v := .tuple #[str [], placedV 2 j]) (by simp [results, Tryz.results129, go_sem]) rfl ⟨rfl, hB4⟩

end Go.Proofs.YtklcakicihjbdaaGreatDoor

namespace Go.Proofs.YtklcakicihjbdaaGreatDoor
open Go.RowKit

theorem set3_heap {w : World} {f : Nat} {T : TypeId} {a c d v0 v1 v2 : Value} (h : w.heap[f]? = some (.cells #[a, c, d] T (0, 0))) : (((w.setCell ⟨f, 0, none⟩ v0).setCell ⟨f, 1, none⟩ v1).setCell ⟨f, 2, none⟩ v2).heap[f]? = some (.cells #[v0, v1, v2] T (0, 0)) := by
  rw [setCell_heap, setCell_heap, setCell_heap]
  simp [h]

abbrev partsZ : Array Value := #[str [], str [], str []]

set_option maxHeartbeats 1000000 in
/-- what Whole[Parts] runs -/
theorem whole1P (w : World) (b f k : Nat) (s : ByteArray) (r : R (Lit)) (g : Nat) (eg : ∀ args w, (callFunc g args).run Tryz.prog w = .ok (.enter g args) w)
    (h : Rd w b s 0) (hk : w.cell? ⟨k, 0, none⟩ = some (fnV g #[])) (hf : w.heap[f]? = some (.cells partsZ 79 (0, 0))) (hbf : b ≠ f)
    (hr : Calls Tryz.prog g #[.pointer (some ⟨b, 0, none⟩)] w (Out b w litV r)) (hj : ∀ x j, r = .ok x j → j ≤ s.size) :
    Calls Tryz.prog 86 #[.pointer (some ⟨k, 0, none⟩), .pointer (some ⟨b, 0, none⟩), .pointer (some ⟨f, 0, none⟩)] w fun e w' =>
      match whole s r with
      | .ok x j => e = .returned (.tuple #[]) ∧ But b f w w' ∧ w'.heap[f]? = some (.cells #[str x.text, str x.lang, str x.kind] 79 (0, 0))
      | .bad j => e = stopE 2 j ∧ But b f w w' := by
  have hfl : f < w.heap.size := (Array.getElem?_eq_some_iff.1 hf).1
  cases r with
  | bad j =>
    simp only [whole]
    go_enter Tryz.func86, Tryz.ntmps86
    go_wp2_with (go_at_fn g; refine hr.mono ?_; rintro e w2 ⟨rfl, m, hA2⟩)
    exact ⟨rfl, rfl, But.of_adv hA2⟩
  | ok x j =>
    obtain ⟨xt, xl, xk⟩ := x
    have hjs := hj _ _ rfl
    have FB : Hid (∀ w2, Adv b j w w2 → w2.heap[f]? = some (.cells partsZ 79 (0, 0))) := fun w2 a => by
      rw [a.other hfl (Ne.symm hbf)]; exact hf
    have HRD : Hid (Rd w b s 0) := h
    clear hj hf h
    by_cases he : j = s.size
    · simp only [whole, if_pos he]
      have HWE : Hid (∀ w2, Adv b j w w2 → ∀ w3, But b f w2 w3 → w3.heap[b]? = w2.heap[b]? → Calls Tryz.prog 68 #[.pointer (some ⟨b, 0, none⟩)] w3 fun e w' => e = .returned (.tuple #[]) ∧ Adv b j w3 w') := fun w2 a w3 bt hb3 => by
        have r2 := HRD.out.adv a hjs
        have r3 : Rd w3 b s j := ⟨(World.cell?_of_block (w := w2) (a := ⟨b, 0, none⟩) hb3).trans r2.c0, (World.cell?_of_block (w := w2) (a := ⟨b, 1, none⟩) hb3).trans r2.c1, (World.frozen?_of_block (w := w2) (a := ⟨b, 1, none⟩) hb3).trans r2.fz, r2.le, r2.ms⟩
        exact wantEnd_ok w3 b j s r3 he
      clear he
      go_enter Tryz.func86, Tryz.ntmps86
      go_wp2_with (go_at_fn g; refine hr.mono ?_; rintro e w2 ⟨rfl, hA2⟩; have hb2 := FB.out w2 hA2; have q0 : w2.cell? ⟨f, 0, none⟩ = some (str []) := (by rw [Lib.cell_of_heap hb2]; rfl); have q1 : w2.cell? ⟨f, 1, none⟩ = some (str []) := (by rw [Lib.cell_of_heap hb2]; rfl); have q2 : w2.cell? ⟨f, 2, none⟩ = some (str []) := (by rw [Lib.cell_of_heap hb2]; rfl); have qf : ∀ o, w2.frozen? ⟨f, o, none⟩ = false := (fun o => Lib.frozen_of_heap hb2 o); have HB2 : Hid (w2.heap[f]? = some (.cells partsZ 79 (0, 0))) := hb2; clear hb2)
      have hbt : But b f w2 (((w2.setCell ⟨f, 0, none⟩ (str xt)).setCell ⟨f, 1, none⟩ (str xl)).setCell ⟨f, 2, none⟩ (str xk)) := (((But.refl b f w2).set _).set _).set _
      have hfb := set3_heap (v0 := str xt) (v1 := str xl) (v2 := str xk) HB2.out
      refine (HWE.out w2 hA2 _ hbt (by rw [Below.heap_setCell _ _ _ _ hbf, Below.heap_setCell _ _ _ _ hbf, Below.heap_setCell _ _ _ _ hbf])).mono ?_
      rintro e w4 ⟨rfl, hA4⟩
      go_wp2_with fail
      go_end0
      refine ⟨rfl, (But.of_adv hA2).trans (hbt.trans (But.of_adv hA4)), ?_⟩
      rw [hA4.other (Array.getElem?_eq_some_iff.1 hfb).1 (Ne.symm hbf)]
      exact hfb
    · simp only [whole, if_neg he]
      have HWE : Hid (∀ w2, Adv b j w w2 → ∀ w3, But b f w2 w3 → w3.heap[b]? = w2.heap[b]? → Calls Tryz.prog 68 #[.pointer (some ⟨b, 0, none⟩)] w3 fun e w' => e = stopE 2 j ∧ Adv b j w3 w') := fun w2 a w3 bt hb3 => by
        have r2 := HRD.out.adv a hjs
        have r3 : Rd w3 b s j := ⟨(World.cell?_of_block (w := w2) (a := ⟨b, 0, none⟩) hb3).trans r2.c0, (World.cell?_of_block (w := w2) (a := ⟨b, 1, none⟩) hb3).trans r2.c1, (World.frozen?_of_block (w := w2) (a := ⟨b, 1, none⟩) hb3).trans r2.fz, r2.le, r2.ms⟩
        exact wantEnd_bad w3 b j s r3 he
      clear he
      go_enter Tryz.func86, Tryz.ntmps86
      go_wp2_with (go_at_fn g; refine hr.mono ?_; rintro e w2 ⟨rfl, hA2⟩; have hb2 := FB.out w2 hA2; have q0 : w2.cell? ⟨f, 0, none⟩ = some (str []) := (by rw [Lib.cell_of_heap hb2]; rfl); have q1 : w2.cell? ⟨f, 1, none⟩ = some (str []) := (by rw [Lib.cell_of_heap hb2]; rfl); have q2 : w2.cell? ⟨f, 2, none⟩ = some (str []) := (by rw [Lib.cell_of_heap hb2]; rfl); have qf : ∀ o, w2.frozen? ⟨f, o, none⟩ = false := (fun o => Lib.frozen_of_heap hb2 o); have HB2 : Hid (w2.heap[f]? = some (.cells partsZ 79 (0, 0))) := hb2; clear hb2)
      have hbt : But b f w2 (((w2.setCell ⟨f, 0, none⟩ (str xt)).setCell ⟨f, 1, none⟩ (str xl)).setCell ⟨f, 2, none⟩ (str xk)) := (((But.refl b f w2).set _).set _).set _
      refine (HWE.out w2 hA2 _ hbt (by rw [Below.heap_setCell _ _ _ _ hbf, Below.heap_setCell _ _ _ _ hbf, Below.heap_setCell _ _ _ _ hbf])).mono ?_
      rintro e w4 ⟨rfl, hA4⟩
      go_wp2_with fail
      exact ⟨rfl, rfl, (But.of_adv hA2).trans (hbt.trans (But.of_adv hA4))⟩

/-- the world that Whole[Parts] hands to Catch -/
def whP (w : World) (s : ByteArray) (g : Nat) : World := (((((w.alloc (.cells #[fnV g #[]] 84)).alloc (.cells partsZ 79)).alloc (.cells partsZ 79)).alloc (.cells partsZ 79)).alloc (.cells #[.string s, .int .i64 0] 87)).alloc (.cells #[.string s, .int .i64 0] 87)

theorem whP_size (w : World) (s : ByteArray) (g : Nat) : (whP w s g).heap.size = w.heap.size + 6 := by simp [whP]
theorem whP_below (w : World) (s : ByteArray) (g : Nat) : Below w.heap.size w (whP w s g) := ((((((Below.refl _ w).alloc (Nat.le_refl _) _).alloc (by simp) _).alloc (by simp; omega) _).alloc (by simp; omega) _).alloc (by simp; omega) _).alloc (by simp; omega) _

set_option maxHeartbeats 1000000 in
theorem wholeP (w : World) (s : ByteArray) (g : Nat) (r : R (Lit)) (eg : ∀ args w, (callFunc g args).run Tryz.prog w = .ok (.enter g args) w) (hT : Tabs w) (hG : 8 ≤ w.heap.size) (hsz : s.size ≤ 1099511627776)
    (hr : ∀ w2 b, Rd w2 b s 0 → Tabs w2 → 8 ≤ b → Calls Tryz.prog g #[.pointer (some ⟨b, 0, none⟩)] w2 (Out b w2 litV r)) (hj : ∀ x j, r = .ok x j → j ≤ s.size) :
    Calls Tryz.prog 46 #[.string s, fnV g #[]] w fun e w' =>
      (match whole s r with
      | .ok x j => e = .returned (.tuple #[litV x, .nilIface])
      | .bad j => e = .returned (.tuple #[.agg partsZ, placedV 2 j])) ∧ Below w.heap.size w w' := by
  have e1 := enters_of Tryz.func86 (by kernel_rfl) rfl
  obtain ⟨u, hu⟩ : ∃ u, u = (whP w s g).alloc (.cells #[.nilIface] 64) := ⟨_, rfl⟩
  have hsu : u.heap.size = w.heap.size + 7 := by rw [hu]; simp [whP]
  have hlow : ∀ k, k < w.heap.size + 6 → u.heap[k]? = (whP w s g).heap[k]? := fun k hk => by rw [hu]; exact Below.heap_alloc _ _ _ (by rw [whP_size]; exact hk)
  have hB : Below w.heap.size w u := by rw [hu]; exact (whP_below w s g).alloc (by rw [whP_size]; omega) _
  have b5 : u.heap[w.heap.size + 5]? = some (.cells #[.string s, .int .i64 0] 87 (0, 0)) := by
    rw [hlow _ (by omega)]
    have := heap_new (((((w.alloc (.cells #[fnV g #[]] 84)).alloc (.cells partsZ 79)).alloc (.cells partsZ 79)).alloc (.cells partsZ 79)).alloc (.cells #[.string s, .int .i64 0] 87)) (.cells #[.string s, .int .i64 0] 87)
    simpa [whP] using this
  have b2 : u.heap[w.heap.size + 2]? = some (.cells partsZ 79 (0, 0)) := by
    rw [hlow _ (by omega), whP, Below.heap_alloc _ _ _ (by simp), Below.heap_alloc _ _ _ (by simp), Below.heap_alloc _ _ _ (by simp)]
    have := heap_new ((w.alloc (.cells #[fnV g #[]] 84)).alloc (.cells partsZ 79)) (.cells partsZ 79)
    simpa using this
  have b1 : u.heap[w.heap.size + 1]? = some (.cells partsZ 79 (0, 0)) := by
    rw [hlow _ (by omega), whP, Below.heap_alloc _ _ _ (by simp), Below.heap_alloc _ _ _ (by simp), Below.heap_alloc _ _ _ (by simp), Below.heap_alloc _ _ _ (by simp)]
    have := heap_new (w.alloc (.cells #[fnV g #[]] 84)) (.cells partsZ 79)
    simpa using this
  have b3 : u.heap[w.heap.size + 3]? = some (.cells partsZ 79 (0, 0)) := by
    rw [hlow _ (by omega), whP, Below.heap_alloc _ _ _ (by simp), Below.heap_alloc _ _ _ (by simp)]
    have := heap_new (((w.alloc (.cells #[fnV g #[]] 84)).alloc (.cells partsZ 79)).alloc (.cells partsZ 79)) (.cells partsZ 79)
    simpa using this
  have b0 : u.heap[w.heap.size]? = some (.cells #[fnV g #[]] 84 (0, 0)) := by
    rw [hlow _ (by omega), whP, Below.heap_alloc _ _ _ (by simp; omega), Below.heap_alloc _ _ _ (by simp; omega), Below.heap_alloc _ _ _ (by simp; omega), Below.heap_alloc _ _ _ (by simp; omega), Below.heap_alloc _ _ _ (by simp)]
    exact heap_new _ _
  have b6 : u.heap[w.heap.size + 6]? = some (.cells #[.nilIface] 64 (0, 0)) := by
    rw [hu]
    have := heap_new (whP w s g) (.cells #[.nilIface] 64)
    rw [whP_size] at this
    exact this
  have hRd : Rd u (w.heap.size + 5) s 0 := ⟨by rw [Lib.cell_of_heap b5]; rfl, by rw [Lib.cell_of_heap b5]; rfl, Lib.frozen_of_heap b5 1, Nat.zero_le _, by omega⟩
  have hTu : Tabs u := hT.below hB (by omega) (by omega)
  have hW1 := whole1P u (w.heap.size + 5) (w.heap.size + 2) w.heap.size s r g eg hRd (by rw [Lib.cell_of_heap b0]; rfl) b2 (by omega) (hr u _ hRd hTu (by omega)) hj
  have CEL : Hid (∀ (w2 : World) (x : Nat) (c : Array Value) (T : TypeId), w2.heap[x]? = some (.cells c T (0, 0)) → (∀ o, w2.cell? ⟨x, o, none⟩ = c[o]?) ∧ ∀ o, w2.frozen? ⟨x, o, none⟩ = false) := fun w2 x c T hx => ⟨fun o => Lib.cell_of_heap hx o, fun o => Lib.frozen_of_heap hx o⟩
  have hmf := mkFunc
  cases hw : whole s r with
  | ok x j =>
    rw [hw] at hW1
    obtain ⟨xt, xl, xk⟩ := x
    have hC := catch_ok (whP w s g) 86 #[.pointer (some ⟨w.heap.size, 0, none⟩), .pointer (some ⟨w.heap.size + 5, 0, none⟩), .pointer (some ⟨w.heap.size + 2, 0, none⟩)]
      (fun w' => But (w.heap.size + 5) (w.heap.size + 2) u w' ∧ w'.heap[w.heap.size + 2]? = some (.cells #[str xt, str xl, str xk] 79 (0, 0))) e1 (by rw [← hu]; exact hW1)
      (fun w' hq => by rw [whP_size, hq.1.2.2 _ (by omega) (by omega) (by omega)]; exact b6)
    rw [whP_size] at hC
    have HC : Hid (Calls Tryz.prog 50 #[fnV 86 #[.pointer (some ⟨w.heap.size, 0, none⟩), .pointer (some ⟨w.heap.size + 5, 0, none⟩), .pointer (some ⟨w.heap.size + 2, 0, none⟩)]] (whP w s g) fun e w' => e = .returned .nilIface ∧ (w'.heap[w.heap.size + 2]? = some (.cells #[str xt, str xl, str xk] 79 (0, 0)) ∧ w'.heap[w.heap.size + 1]? = some (.cells partsZ 79 (0, 0))) ∧ Below w.heap.size w w' ∧ w.heap.size + 7 ≤ w'.heap.size) := hC.mono (by
        rintro e w' ⟨rfl, w2, ⟨q1, q2⟩, rfl⟩
        refine ⟨rfl, ⟨?_, ?_⟩, ?_, by have := q1.1; simp; omega⟩
        · rw [Below.heap_setCell _ _ _ _ (by simp)]; exact q2
        · rw [Below.heap_setCell _ _ _ _ (by simp), q1.2.2 _ (by omega) (by omega) (by omega)]; exact b1
        · refine Below.setCell (hB.trans ⟨q1.2.1.1, q1.2.1.2.1, q1.2.1.2.2, q1.1, fun k hk => q1.2.2 k (by omega) (by omega) (by omega)⟩) (by simp) _)
    clear hC hW1 hr hj hu hlow hB b0 b1 b2 b3 b5 b6 hRd hTu hT hw
    go_enter Tryz.func46, Tryz.ntmps46
    go_wp2_with fail
    refine (over_any _ _).mono ?_
    rintro e w3 ⟨rfl, rfl⟩
    go_wp2_with fail
    refine HC.out.mono ?_
    rintro e w4 ⟨rfl, ⟨c2, c1⟩, hB4, hz4⟩
    have k2 := (CEL.out _ _ _ _ c2).1
    have k20 := k2 0
    have k21 := k2 1
    have k22 := k2 2
    have k1 := (CEL.out _ _ _ _ c1).1
    have k10 := k1 0
    have k11 := k1 1
    have k12 := k1 2
    have kf := (CEL.out _ _ _ _ c1).2
    simp at k20 k21 k22 k10 k11 k12
    clear k2 k1 c1 c2
    go_wp2_with fail
    refine bodyPost_ret (v := .tuple #[.agg #[str xt, str xl, str xk], .nilIface]) (by simp [results, Tryz.results46, go_sem, k10, k11, k12]) rfl ⟨rfl, ?_⟩
    exact ((hB4.setCell (p := ⟨w.heap.size + 1, 0, none⟩) (by simp) _).setCell (p := ⟨w.heap.size + 1, 1, none⟩) (by simp) _).setCell (p := ⟨w.heap.size + 1, 2, none⟩) (by simp) _
  | bad j =>
    rw [hw] at hW1
    have hC := catch_stop (whP w s g) 86 #[.pointer (some ⟨w.heap.size, 0, none⟩), .pointer (some ⟨w.heap.size + 5, 0, none⟩), .pointer (some ⟨w.heap.size + 2, 0, none⟩)]
      (fun w' => But (w.heap.size + 5) (w.heap.size + 2) u w') 2 j e1 (by rw [← hu]; exact hW1)
      (fun w' hq => by rw [whP_size, hq.2.2 _ (by omega) (by omega) (by omega)]; exact b6)
    rw [whP_size] at hC
    have HC : Hid (Calls Tryz.prog 50 #[fnV 86 #[.pointer (some ⟨w.heap.size, 0, none⟩), .pointer (some ⟨w.heap.size + 5, 0, none⟩), .pointer (some ⟨w.heap.size + 2, 0, none⟩)]] (whP w s g) fun e w' => e = .returned (placedV 2 j) ∧ (w'.heap[w.heap.size + 3]? = some (.cells partsZ 79 (0, 0)) ∧ w'.heap[w.heap.size + 1]? = some (.cells partsZ 79 (0, 0))) ∧ Below w.heap.size w w' ∧ w.heap.size + 7 ≤ w'.heap.size) := hC.mono (by
        rintro e w' ⟨rfl, w2, q1, rfl⟩
        have hz2 : w.heap.size + 7 ≤ w2.heap.size := by have := q1.1; omega
        refine ⟨rfl, ⟨?_, ?_⟩, ?_, by simp; omega⟩
        · rw [Below.heap_setCell _ _ _ _ (by simp), Below.heap_alloc _ _ _ (by omega), q1.2.2 _ (by omega) (by omega) (by omega)]; exact b3
        · rw [Below.heap_setCell _ _ _ _ (by simp), Below.heap_alloc _ _ _ (by omega), q1.2.2 _ (by omega) (by omega) (by omega)]; exact b1
        · refine Below.setCell (Below.alloc (hB.trans ⟨q1.2.1.1, q1.2.1.2.1, q1.2.1.2.2, q1.1, fun k hk => q1.2.2 k (by omega) (by omega) (by omega)⟩) (by omega) _) (by simp) _)
    clear hC hW1 hr hj hu hlow hB b0 b1 b2 b3 b5 b6 hRd hTu hT hw
    go_enter Tryz.func46, Tryz.ntmps46
    go_wp2_with fail
    refine (over_any _ _).mono ?_
    rintro e w3 ⟨rfl, rfl⟩
    go_wp2_with fail
    refine HC.out.mono ?_
    rintro e w4 ⟨rfl, ⟨c2, c1⟩, hB4, hz4⟩
    have k2 := (CEL.out _ _ _ _ c2).1
    have k20 := k2 0
    have k21 := k2 1
    have k22 := k2 2
    have k1 := (CEL.out _ _ _ _ c1).1
    have k10 := k1 0
    have k11 := k1 1
    have k12 := k1 2
    have kf := (CEL.out _ _ _ _ c1).2
    simp at k20 k21 k22 k10 k11 k12
    clear k2 k1 c1 c2
    go_wp2_with fail
    refine bodyPost_ret (v := .tuple #[.agg partsZ, placedV 2 j]) (by simp [results, Tryz.results46, go_sem, k10, k11, k12]) rfl ⟨rfl, ?_⟩
    exact ((hB4.setCell (p := ⟨w.heap.size + 1, 0, none⟩) (by simp) _).setCell (p := ⟨w.heap.size + 1, 1, none⟩) (by simp) _).setCell (p := ⟨w.heap.size + 1, 2, none⟩) (by simp) _


theorem parts_le {s : ByteArray} {i : Nat} {x : Lit} {j : Nat} (h : parts s i = .ok x j) : j ≤ s.size := (parts_facts h).2.2.2.2.2.1

/-- scan.Whole of a literal's parts. -/
theorem wholeParts (w : World) (s : ByteArray) (hT : Tabs w) (hG : 8 ≤ w.heap.size) (hsz : s.size ≤ 1099511627776) :
    Calls Tryz.prog 46 #[.string s, fnV 47 #[]] w fun e w' =>
      (match whole s (parts s 0) with
      | .ok x j => e = .returned (.tuple #[litV x, .nilIface])
      | .bad j => e = .returned (.tuple #[.agg partsZ, placedV 2 j])) ∧ Below w.heap.size w w' :=
  wholeP w s 47 (parts s 0) (enters_of Tryz.func47 (by kernel_rfl) rfl) hT hG hsz (fun w2 b h1 h2 h3 => parts_any w2 b 0 s h1 h2 h3 hsz) (fun x j h => parts_le h)
end Go.Proofs.YtklcakicihjbdaaGreatDoor

