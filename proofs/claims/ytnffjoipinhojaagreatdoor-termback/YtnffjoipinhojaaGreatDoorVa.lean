import Derived.Test.YtnffjoipinhojaaGreatDoorSg
import Derived.Shelf.Unicode.ValidAny
import Derived.Test.YtnffjoipinhojaaGreatDoorProg
import Derived.Test.YtnffjoipinhojaaGreatDoorUa
import Derived.Test.YtnffjoipinhojaaGreatDoorTl
import Derived.Test.YtnffjoipinhojaaGreatDoorTk
set_option linter.unusedSimpArgs false
set_option linter.unusedVariables false
namespace Go.Proofs.YtnffjoipinhojaaGreatDoor
open Go.RowKit

theorem set1_heap {w : World} {f : Nat} {T : TypeId} {a v0 : Value} (h : w.heap[f]? = some (.cells #[a] T (0, 0))) : (w.setCell ⟨f, 0, none⟩ v0).heap[f]? = some (.cells #[v0] T (0, 0)) := by
  rw [setCell_heap]
  simp [h]

set_option maxHeartbeats 1000000 in
/-- what Whole[string] runs -/
theorem whole1S (w : World) (b f k : Nat) (s : ByteArray) (r : R (List UInt8)) (g : Nat) (eg : ∀ args w, (callFunc g args).run Tryz.prog w = .ok (.enter g args) w)
    (h : Rd w b s 0) (hk : w.cell? ⟨k, 0, none⟩ = some (fnV g #[])) (hf : w.heap[f]? = some (.cells #[str []] 9 (0, 0))) (hbf : b ≠ f)
    (hr : Calls Tryz.prog g #[.pointer (some ⟨b, 0, none⟩)] w (Out b w str r)) (hj : ∀ x j, r = .ok x j → j ≤ s.size) :
    Calls Tryz.prog 186 #[.pointer (some ⟨k, 0, none⟩), .pointer (some ⟨b, 0, none⟩), .pointer (some ⟨f, 0, none⟩)] w fun e w' =>
      match whole s r with
      | .ok x j => e = .returned (.tuple #[]) ∧ But b f w w' ∧ w'.heap[f]? = some (.cells #[str x] 9 (0, 0))
      | .bad j => e = stopE 2 j ∧ But b f w w' := by
  have hfl : f < w.heap.size := (Array.getElem?_eq_some_iff.1 hf).1
  cases r with
  | bad j =>
    simp only [whole]
    go_enter Tryz.func186, Tryz.ntmps186
    go_wp2_with (go_at_fn g; refine hr.mono ?_; rintro e w2 ⟨rfl, m, hA2⟩)
    exact ⟨rfl, rfl, But.of_adv hA2⟩
  | ok x j =>
    have hjs := hj _ _ rfl
    have FB : Hid (∀ w2, Adv b j w w2 → w2.heap[f]? = some (.cells #[str []] 9 (0, 0))) := fun w2 a => by
      rw [a.other hfl (Ne.symm hbf)]; exact hf
    have HRD : Hid (Rd w b s 0) := h
    clear hj hf h
    by_cases he : j = s.size
    · simp only [whole, if_pos he]
      have HWE : Hid (∀ w2, Adv b j w w2 → ∀ w3, But b f w2 w3 → w3.heap[b]? = w2.heap[b]? → Calls Tryz.prog 68 #[.pointer (some ⟨b, 0, none⟩)] w3 fun e w' => e = .returned (.tuple #[]) ∧ Adv b j w3 w') := fun w2 a w3 bt hb3 => by
        have r2 := HRD.out.adv a hjs
        have r3 : Rd w3 b s j := ⟨(World.cell?_of_block (w := w2) (a := ⟨b, 0, none⟩) hb3).trans r2.c0, (World.cell?_of_block (w := w2) (a := ⟨b, 1, none⟩) hb3).trans r2.c1, (World.frozen?_of_block (w := w2) (a := ⟨b, 1, none⟩) hb3).trans r2.fz, r2.le, r2.ms⟩
        exact wantEnd_ok w3 b j s r3 he
      clear he
      go_enter Tryz.func186, Tryz.ntmps186
      go_wp2_with (go_at_fn g; refine hr.mono ?_; rintro e w2 ⟨rfl, hA2⟩; have hb2 := FB.out w2 hA2; have q0 : w2.cell? ⟨f, 0, none⟩ = some (str []) := (by rw [Lib.cell_of_heap hb2]; rfl); have qf : ∀ o, w2.frozen? ⟨f, o, none⟩ = false := (fun o => Lib.frozen_of_heap hb2 o); have HB2 : Hid (w2.heap[f]? = some (.cells #[str []] 9 (0, 0))) := hb2; clear hb2)
      have hbt : But b f w2 (w2.setCell ⟨f, 0, none⟩ (str x)) := (But.refl b f w2).set _
      have hfb := set1_heap (v0 := str x) HB2.out
      refine (HWE.out w2 hA2 _ hbt (by rw [Below.heap_setCell _ _ _ _ hbf])).mono ?_
      rintro e w4 ⟨rfl, hA4⟩
      go_wp2_with fail
      go_end0
      refine ⟨rfl, (But.of_adv hA2).trans (hbt.trans (But.of_adv hA4)), ?_⟩
      rw [hA4.other (Array.getElem?_eq_some_iff.1 hfb).1 (Ne.symm hbf)]
      exact hfb
    · simp only [whole, if_neg he]
      have HWE : Hid (∀ w2, Adv b j w w2 → ∀ w3, But b f w2 w3 → w3.heap[b]? = w2.heap[b]? → Calls Tryz.prog 68 #[.pointer (some ⟨b, 0, none⟩)] w3 fun e w' => e = stopE 2 j ∧ Adv b j w3 w') := fun w2 a w3 bt hb3 => by
        have r2 := HRD.out.adv a hjs
        have r3 : Rd w3 b s j := ⟨(World.cell?_of_block (w := w2) (a := ⟨b, 0, none⟩) hb3).trans r2.c0, (World.cell?_of_block (w := w2) (a := ⟨b, 1, none⟩) hb3).trans r2.c1, (World.frozen?_of_block (w := w2) (a := ⟨b, 1, none⟩) hb3).trans r2.fz, r2.le, r2.ms⟩
        exact wantEnd_bad w3 b j s r3 he
      clear he
      go_enter Tryz.func186, Tryz.ntmps186
      go_wp2_with (go_at_fn g; refine hr.mono ?_; rintro e w2 ⟨rfl, hA2⟩; have hb2 := FB.out w2 hA2; have q0 : w2.cell? ⟨f, 0, none⟩ = some (str []) := (by rw [Lib.cell_of_heap hb2]; rfl); have qf : ∀ o, w2.frozen? ⟨f, o, none⟩ = false := (fun o => Lib.frozen_of_heap hb2 o); have HB2 : Hid (w2.heap[f]? = some (.cells #[str []] 9 (0, 0))) := hb2; clear hb2)
      have hbt : But b f w2 (w2.setCell ⟨f, 0, none⟩ (str x)) := (But.refl b f w2).set _
      refine (HWE.out w2 hA2 _ hbt (by rw [Below.heap_setCell _ _ _ _ hbf])).mono ?_
      rintro e w4 ⟨rfl, hA4⟩
      go_wp2_with fail
      exact ⟨rfl, rfl, (But.of_adv hA2).trans (hbt.trans (But.of_adv hA4))⟩

/-- the world that Whole[string] hands to Catch -/
def whS (w : World) (s : ByteArray) (g : Nat) : World := (((w.alloc (.cells #[fnV g #[]] 130)).alloc (.cells #[str []] 9)).alloc (.cells #[.string s, .int .i64 0] 87)).alloc (.cells #[.string s, .int .i64 0] 87)

theorem whS_size (w : World) (s : ByteArray) (g : Nat) : (whS w s g).heap.size = w.heap.size + 4 := by simp [whS]
theorem whS_below (w : World) (s : ByteArray) (g : Nat) : Below w.heap.size w (whS w s g) := ((((Below.refl _ w).alloc (Nat.le_refl _) _).alloc (by simp) _).alloc (by simp; omega) _).alloc (by simp; omega) _

set_option maxHeartbeats 1000000 in
theorem wholeS (w : World) (s : ByteArray) (g : Nat) (r : R (List UInt8)) (eg : ∀ args w, (callFunc g args).run Tryz.prog w = .ok (.enter g args) w) (hT : Tabs w) (hG : 8 ≤ w.heap.size) (hsz : s.size ≤ 1099511627776)
    (hr : ∀ w2 b, Rd w2 b s 0 → Tabs w2 → 8 ≤ b → Calls Tryz.prog g #[.pointer (some ⟨b, 0, none⟩)] w2 (Out b w2 str r)) (hj : ∀ x j, r = .ok x j → j ≤ s.size) :
    Calls Tryz.prog 129 #[.string s, fnV g #[]] w fun e w' =>
      (match whole s r with
      | .ok x j => e = .returned (.tuple #[str x, .nilIface])
      | .bad j => e = .returned (.tuple #[str [], placedV 2 j])) ∧ Below w.heap.size w w' := by
  have e1 := enters_of Tryz.func186 (by kernel_rfl) rfl
  obtain ⟨u, hu⟩ : ∃ u, u = (whS w s g).alloc (.cells #[.nilIface] 64) := ⟨_, rfl⟩
  have hsu : u.heap.size = w.heap.size + 5 := by rw [hu]; simp [whS]
  have hlow : ∀ k, k < w.heap.size + 4 → u.heap[k]? = (whS w s g).heap[k]? := fun k hk => by rw [hu]; exact Below.heap_alloc _ _ _ (by rw [whS_size]; exact hk)
  have hB : Below w.heap.size w u := by rw [hu]; exact (whS_below w s g).alloc (by rw [whS_size]; omega) _
  have b3 : u.heap[w.heap.size + 3]? = some (.cells #[.string s, .int .i64 0] 87 (0, 0)) := by
    rw [hlow _ (by omega)]
    have := heap_new (((w.alloc (.cells #[fnV g #[]] 130)).alloc (.cells #[str []] 9)).alloc (.cells #[.string s, .int .i64 0] 87)) (.cells #[.string s, .int .i64 0] 87)
    simpa [whS] using this
  have b1 : u.heap[w.heap.size + 1]? = some (.cells #[str []] 9 (0, 0)) := by
    rw [hlow _ (by omega), whS, Below.heap_alloc _ _ _ (by simp), Below.heap_alloc _ _ _ (by simp)]
    have := heap_new (w.alloc (.cells #[fnV g #[]] 130)) (.cells #[str []] 9)
    simpa using this
  have b0 : u.heap[w.heap.size]? = some (.cells #[fnV g #[]] 130 (0, 0)) := by
    rw [hlow _ (by omega), whS, Below.heap_alloc _ _ _ (by simp; omega), Below.heap_alloc _ _ _ (by simp; omega), Below.heap_alloc _ _ _ (by simp)]
    exact heap_new _ _
  have b4 : u.heap[w.heap.size + 4]? = some (.cells #[.nilIface] 64 (0, 0)) := by
    rw [hu]
    have := heap_new (whS w s g) (.cells #[.nilIface] 64)
    rw [whS_size] at this
    exact this
  have hRd : Rd u (w.heap.size + 3) s 0 := ⟨by rw [Lib.cell_of_heap b3]; rfl, by rw [Lib.cell_of_heap b3]; rfl, Lib.frozen_of_heap b3 1, Nat.zero_le _, by omega⟩
  have hTu : Tabs u := hT.below hB (by omega) (by omega)
  have hW1 := whole1S u (w.heap.size + 3) (w.heap.size + 1) w.heap.size s r g eg hRd (by rw [Lib.cell_of_heap b0]; rfl) b1 (by omega) (hr u _ hRd hTu (by omega)) hj
  have CEL : Hid (∀ (w2 : World) (x : Nat) (c : Array Value) (T : TypeId), w2.heap[x]? = some (.cells c T (0, 0)) → (∀ o, w2.cell? ⟨x, o, none⟩ = c[o]?) ∧ ∀ o, w2.frozen? ⟨x, o, none⟩ = false) := fun w2 x c T hx => ⟨fun o => Lib.cell_of_heap hx o, fun o => Lib.frozen_of_heap hx o⟩
  have hmf := mkFunc
  cases hw : whole s r with
  | ok x j =>
    rw [hw] at hW1
    have hC := catch_ok (whS w s g) 186 #[.pointer (some ⟨w.heap.size, 0, none⟩), .pointer (some ⟨w.heap.size + 3, 0, none⟩), .pointer (some ⟨w.heap.size + 1, 0, none⟩)]
      (fun w' => But (w.heap.size + 3) (w.heap.size + 1) u w' ∧ w'.heap[w.heap.size + 1]? = some (.cells #[str x] 9 (0, 0))) e1 (by rw [← hu]; exact hW1)
      (fun w' hq => by rw [whS_size, hq.1.2.2 _ (by omega) (by omega) (by omega)]; exact b4)
    rw [whS_size] at hC
    have HC : Hid (Calls Tryz.prog 50 #[fnV 186 #[.pointer (some ⟨w.heap.size, 0, none⟩), .pointer (some ⟨w.heap.size + 3, 0, none⟩), .pointer (some ⟨w.heap.size + 1, 0, none⟩)]] (whS w s g) fun e w' => e = .returned .nilIface ∧ w'.heap[w.heap.size + 1]? = some (.cells #[str x] 9 (0, 0)) ∧ Below w.heap.size w w') := hC.mono (by
        rintro e w' ⟨rfl, w2, ⟨q1, q2⟩, rfl⟩
        refine ⟨rfl, ?_, ?_⟩
        · rw [Below.heap_setCell _ _ _ _ (by simp)]; exact q2
        · refine Below.setCell (hB.trans ⟨q1.2.1.1, q1.2.1.2.1, q1.2.1.2.2, q1.1, fun k hk => q1.2.2 k (by omega) (by omega) (by omega)⟩) (by simp) _)
    clear hC hW1 hr hj hu hlow hB b0 b1 b3 b4 hRd hTu hT hw
    go_enter Tryz.func129, Tryz.ntmps129
    go_wp2_with fail
    refine (over_any _ _).mono ?_
    rintro e w3 ⟨rfl, rfl⟩
    go_wp2_with fail
    refine HC.out.mono ?_
    rintro e w4 ⟨rfl, c1, hB4⟩
    have k1 := (CEL.out _ _ _ _ c1).1
    have k10 := k1 0
    simp at k10
    clear k1 c1
    go_wp2_with fail
    exact bodyPost_ret (v := .tuple #[str x, .nilIface]) (by simp [results, Tryz.results129, go_sem, k10]) rfl ⟨rfl, hB4⟩
  | bad j =>
    rw [hw] at hW1
    have hC := catch_stop (whS w s g) 186 #[.pointer (some ⟨w.heap.size, 0, none⟩), .pointer (some ⟨w.heap.size + 3, 0, none⟩), .pointer (some ⟨w.heap.size + 1, 0, none⟩)]
      (fun w' => But (w.heap.size + 3) (w.heap.size + 1) u w') 2 j e1 (by rw [← hu]; exact hW1)
      (fun w' hq => by rw [whS_size, hq.2.2 _ (by omega) (by omega) (by omega)]; exact b4)
    rw [whS_size] at hC
    have HC : Hid (Calls Tryz.prog 50 #[fnV 186 #[.pointer (some ⟨w.heap.size, 0, none⟩), .pointer (some ⟨w.heap.size + 3, 0, none⟩), .pointer (some ⟨w.heap.size + 1, 0, none⟩)]] (whS w s g) fun e w' => e = .returned (placedV 2 j) ∧ Below w.heap.size w w') := hC.mono (by
        rintro e w' ⟨rfl, w2, q1, rfl⟩
        have hz2 : w.heap.size + 5 ≤ w2.heap.size := by have := q1.1; omega
        refine ⟨rfl, ?_⟩
        refine Below.setCell (Below.alloc (hB.trans ⟨q1.2.1.1, q1.2.1.2.1, q1.2.1.2.2, q1.1, fun k hk => q1.2.2 k (by omega) (by omega) (by omega)⟩) (by omega) _) (by simp) _)
    clear hC hW1 hr hj hu hlow hB b0 b1 b3 b4 hRd hTu hT hw
    go_enter Tryz.func129, Tryz.ntmps129
    go_wp2_with fail
    refine (over_any _ _).mono ?_
    rintro e w3 ⟨rfl, rfl⟩
    go_wp2_with fail
    refine HC.out.mono ?_
    rintro e w4 ⟨rfl, hB4⟩
    go_wp2_with fail
    exact bodyPost_ret (v := .tuple #[str [], placedV 2 j]) (by simp [results, Tryz.results129, go_sem]) rfl ⟨rfl, hB4⟩

end Go.Proofs.YtnffjoipinhojaaGreatDoor

namespace Go.Proofs.YtnffjoipinhojaaGreatDoor
open Go.RowKit

theorem set3_heap {w : World} {f : Nat} {T : TypeId} {a c d v0 v1 v2 : Value} (h : w.heap[f]? = some (.cells #[a, c, d] T (0, 0))) : (((w.setCell ⟨f, 0, none⟩ v0).setCell ⟨f, 1, none⟩ v1).setCell ⟨f, 2, none⟩ v2).heap[f]? = some (.cells #[v0, v1, v2] T (0, 0)) := by
  rw [setCell_heap, setCell_heap, setCell_heap]
  simp [h]

abbrev partsZ : Array Value := #[str [], str [], str []]

set_option maxHeartbeats 1000000 in
/-- what Whole[Parts] runs -/
theorem whole1P (w : World) (b f k : Nat) (s : ByteArray) (r : R (Lit)) (g : Nat) (eg : ∀ args w, (callFunc g args).run Tryz.prog w = .ok (.enter g args) w)
    (h : Rd w b s 0) (hk : w.cell? ⟨k, 0, none⟩ = some (fnV g #[])) (hf : w.heap[f]? = some (.cells partsZ 79 (0, 0))) (hbf : b ≠ f)
    (hr : Calls Tryz.prog g #[.pointer (some ⟨b, 0, none⟩)] w (Out b w litV r)) (hj : ∀ x j, r = .ok x j → j ≤ s.size) :
    Calls Tryz.prog 86 #[.pointer (some ⟨k, 0, none⟩), .pointer (some ⟨b, 0, none⟩), .pointer (some ⟨f, 0, none⟩)] w fun e w' =>
      match whole s r with
      | .ok x j => e = .returned (.tuple #[]) ∧ But b f w w' ∧ w'.heap[f]? = some (.cells #[str x.text, str x.lang, str x.kind] 79 (0, 0))
      | .bad j => e = stopE 2 j ∧ But b f w w' := by
  have hfl : f < w.heap.size := (Array.getElem?_eq_some_iff.1 hf).1
  cases r with
  | bad j =>
    simp only [whole]
    go_enter Tryz.func86, Tryz.ntmps86
    go_wp2_with (go_at_fn g; refine hr.mono ?_; rintro e w2 ⟨rfl, m, hA2⟩)
    exact ⟨rfl, rfl, But.of_adv hA2⟩
  | ok x j =>
    obtain ⟨xt, xl, xk⟩ := x
    have hjs := hj _ _ rfl
    have FB : Hid (∀ w2, Adv b j w w2 → w2.heap[f]? = some (.cells partsZ 79 (0, 0))) := fun w2 a => by
      rw [a.other hfl (Ne.symm hbf)]; exact hf
    have HRD : Hid (Rd w b s 0) := h
    clear hj hf h
    by_cases he : j = s.size
    · simp only [whole, if_pos he]
      have HWE : Hid (∀ w2, Adv b j w w2 → ∀ w3, But b f w2 w3 → w3.heap[b]? = w2.heap[b]? → Calls Tryz.prog 68 #[.pointer (some ⟨b, 0, none⟩)] w3 fun e w' => e = .returned (.tuple #[]) ∧ Adv b j w3 w') := fun w2 a w3 bt hb3 => by
        have r2 := HRD.out.adv a hjs
        have r3 : Rd w3 b s j := ⟨(World.cell?_of_block (w := w2) (a := ⟨b, 0, none⟩) hb3).trans r2.c0, (World.cell?_of_block (w := w2) (a := ⟨b, 1, none⟩) hb3).trans r2.c1, (World.frozen?_of_block (w := w2) (a := ⟨b, 1, none⟩) hb3).trans r2.fz, r2.le, r2.ms⟩
        exact wantEnd_ok w3 b j s r3 he
      clear he
      go_enter Tryz.func86, Tryz.ntmps86
      go_wp2_with (go_at_fn g; refine hr.mono ?_; rintro e w2 ⟨rfl, hA2⟩; have hb2 := FB.out w2 hA2; have q0 : w2.cell? ⟨f, 0, none⟩ = some (str []) := (by rw [Lib.cell_of_heap hb2]; rfl); have q1 : w2.cell? ⟨f, 1, none⟩ = some (str []) := (by rw [Lib.cell_of_heap hb2]; rfl); have q2 : w2.cell? ⟨f, 2, none⟩ = some (str []) := (by rw [Lib.cell_of_heap hb2]; rfl); have qf : ∀ o, w2.frozen? ⟨f, o, none⟩ = false := (fun o => Lib.frozen_of_heap hb2 o); have HB2 : Hid (w2.heap[f]? = some (.cells partsZ 79 (0, 0))) := hb2; clear hb2)
      have hbt : But b f w2 (((w2.setCell ⟨f, 0, none⟩ (str xt)).setCell ⟨f, 1, none⟩ (str xl)).setCell ⟨f, 2, none⟩ (str xk)) := (((But.refl b f w2).set _).set _).set _
      have hfb := set3_heap (v0 := str xt) (v1 := str xl) (v2 := str xk) HB2.out
      refine (HWE.out w2 hA2 _ hbt (by rw [Below.heap_setCell _ _ _ _ hbf, Below.heap_setCell _ _ _ _ hbf, Below.heap_setCell _ _ _ _ hbf])).mono ?_
      rintro e w4 ⟨rfl, hA4⟩
      go_wp2_with fail
      go_end0
      refine ⟨rfl, (But.of_adv hA2).trans (hbt.trans (But.of_adv hA4)), ?_⟩
      rw [hA4.other (Array.getElem?_eq_some_iff.1 hfb).1 (Ne.symm hbf)]
      exact hfb
    · simp only [whole, if_neg he]
      have HWE : Hid (∀ w2, Adv b j w w2 → ∀ w3, But b f w2 w3 → w3.heap[b]? = w2.heap[b]? → Calls Tryz.prog 68 #[.pointer (some ⟨b, 0, none⟩)] w3 fun e w' => e = stopE 2 j ∧ Adv b j w3 w') := fun w2 a w3 bt hb3 => by
        have r2 := HRD.out.adv a hjs
        have r3 : Rd w3 b s j := ⟨(World.cell?_of_block (w := w2) (a := ⟨b, 0, none⟩) hb3).trans r2.c0, (World.cell?_of_block (w := w2) (a := ⟨b, 1, none⟩) hb3).trans r2.c1, (World.frozen?_of_block (w := w2) (a := ⟨b, 1, none⟩) hb3).trans r2.fz, r2.le, r2.ms⟩
        exact wantEnd_bad w3 b j s r3 he
      clear he
      go_enter Tryz.func86, Tryz.ntmps86
      go_wp2_with (go_at_fn g; refine hr.mono ?_; rintro e w2 ⟨rfl, hA2⟩; have hb2 := FB.out w2 hA2; have q0 : w2.cell? ⟨f, 0, none⟩ = some (str []) := (by rw [Lib.cell_of_heap hb2]; rfl); have q1 : w2.cell? ⟨f, 1, none⟩ = some (str []) := (by rw [Lib.cell_of_heap hb2]; rfl); have q2 : w2.cell? ⟨f, 2, none⟩ = some (str []) := (by rw [Lib.cell_of_heap hb2]; rfl); have qf : ∀ o, w2.frozen? ⟨f, o, none⟩ = false := (fun o => Lib.frozen_of_heap hb2 o); have HB2 : Hid (w2.heap[f]? = some (.cells partsZ 79 (0, 0))) := hb2; clear hb2)
      have hbt : But b f w2 (((w2.setCell ⟨f, 0, none⟩ (str xt)).setCell ⟨f, 1, none⟩ (str xl)).setCell ⟨f, 2, none⟩ (str xk)) := (((But.refl b f w2).set _).set _).set _
      refine (HWE.out w2 hA2 _ hbt (by rw [Below.heap_setCell _ _ _ _ hbf, Below.heap_setCell _ _ _ _ hbf, Below.heap_setCell _ _ _ _ hbf])).mono ?_
      rintro e w4 ⟨rfl, hA4⟩
      go_wp2_with fail
      exact ⟨rfl, rfl, (But.of_adv hA2).trans (hbt.trans (But.of_adv hA4))⟩

/-- the world that Whole[Parts] hands to Catch -/
def whP (w : World) (s : ByteArray) (g : Nat) : World := (((((w.alloc (.cells #[fnV g #[]] 84)).alloc (.cells partsZ 79)).alloc (.cells partsZ 79)).alloc (.cells partsZ 79)).alloc (.cells #[.string s, .int .i64 0] 87)).alloc (.cells #[.string s, .int .i64 0] 87)

theorem whP_size (w : World) (s : ByteArray) (g : Nat) : (whP w s g).heap.size = w.heap.size + 6 := by simp [whP]
theorem whP_below (w : World) (s : ByteArray) (g : Nat) : Below w.heap.size w (whP w s g) := ((((((Below.refl _ w).alloc (Nat.le_refl _) _).alloc (by simp) _).alloc (by simp; omega) _).alloc (by simp; omega) _).alloc (by simp; omega) _).alloc (by simp; omega) _

set_option maxHeartbeats 1000000 in
theorem wholeP (w : World) (s : ByteArray) (g : Nat) (r : R (Lit)) (eg : ∀ args w, (callFunc g args).run Tryz.prog w = .ok (.enter g args) w) (hT : Tabs w) (hG : 8 ≤ w.heap.size) (hsz : s.size ≤ 1099511627776)
    (hr : ∀ w2 b, Rd w2 b s 0 → Tabs w2 → 8 ≤ b → Calls Tryz.prog g #[.pointer (some ⟨b, 0, none⟩)] w2 (Out b w2 litV r)) (hj : ∀ x j, r = .ok x j → j ≤ s.size) :
    Calls Tryz.prog 46 #[.string s, fnV g #[]] w fun e w' =>
      (match whole s r with
      | .ok x j => e = .returned (.tuple #[litV x, .nilIface])
      | .bad j => e = .returned (.tuple #[.agg partsZ, placedV 2 j])) ∧ Below w.heap.size w w' := by
  have e1 := enters_of Tryz.func86 (by kernel_rfl) rfl
  obtain ⟨u, hu⟩ : ∃ u, u = (whP w s g).alloc (.cells #[.nilIface] 64) := ⟨_, rfl⟩
  have hsu : u.heap.size = w.heap.size + 7 := by rw [hu]; simp [whP]
  have hlow : ∀ k, k < w.heap.size + 6 → u.heap[k]? = (whP w s g).heap[k]? := fun k hk => by rw [hu]; exact Below.heap_alloc _ _ _ (by rw [whP_size]; exact hk)
  have hB : Below w.heap.size w u := by rw [hu]; exact (whP_below w s g).alloc (by rw [whP_size]; omega) _
  have b5 : u.heap[w.heap.size + 5]? = some (.cells #[.string s, .int .i64 0] 87 (0, 0)) := by
    rw [hlow _ (by omega)]
    have := heap_new (((((w.alloc (.cells #[fnV g #[]] 84)).alloc (.cells partsZ 79)).alloc (.cells partsZ 79)).alloc (.cells partsZ 79)).alloc (.cells #[.string s, .int .i64 0] 87)) (.cells #[.string s, .int .i64 0] 87)
    simpa [whP] using this
  have b2 : u.heap[w.heap.size + 2]? = some (.cells partsZ 79 (0, 0)) := by
    rw [hlow _ (by omega), whP, Below.heap_alloc _ _ _ (by simp), Below.heap_alloc _ _ _ (by simp), Below.heap_alloc _ _ _ (by simp)]
    have := heap_new ((w.alloc (.cells #[fnV g #[]] 84)).alloc (.cells partsZ 79)) (.cells partsZ 79)
    simpa using this
  have b1 : u.heap[w.heap.size + 1]? = some (.cells partsZ 79 (0, 0)) := by
    rw [hlow _ (by omega), whP, Below.heap_alloc _ _ _ (by simp), Below.heap_alloc _ _ _ (by simp), Below.heap_alloc _ _ _ (by simp), Below.heap_alloc _ _ _ (by simp)]
    have := heap_new (w.alloc (.cells #[fnV g #[]] 84)) (.cells partsZ 79)
    simpa using this
  have b3 : u.heap[w.heap.size + 3]? = some (.cells partsZ 79 (0, 0)) := by
    rw [hlow _ (by omega), whP, Below.heap_alloc _ _ _ (by simp), Below.heap_alloc _ _ _ (by simp)]
    have := heap_new (((w.alloc (.cells #[fnV g #[]] 84)).alloc (.cells partsZ 79)).alloc (.cells partsZ 79)) (.cells partsZ 79)
    simpa using this
  have b0 : u.heap[w.heap.size]? = some (.cells #[fnV g #[]] 84 (0, 0)) := by
    rw [hlow _ (by omega), whP, Below.heap_alloc _ _ _ (by simp; omega), Below.heap_alloc _ _ _ (by simp; omega), Below.heap_alloc _ _ _ (by simp; omega), Below.heap_alloc _ _ _ (by simp; omega), Below.heap_alloc _ _ _ (by simp)]
    exact heap_new _ _
  have b6 : u.heap[w.heap.size + 6]? = some (.cells #[.nilIface] 64 (0, 0)) := by
    rw [hu]
    have := heap_new (whP w s g) (.cells #[.nilIface] 64)
    rw [whP_size] at this
    exact this
  have hRd : Rd u (w.heap.size + 5) s 0 := ⟨by rw [Lib.cell_of_heap b5]; rfl, by rw [Lib.cell_of_heap b5]; rfl, Lib.frozen_of_heap b5 1, Nat.zero_le _, by omega⟩
  have hTu : Tabs u := hT.below hB (by omega) (by omega)
  have hW1 := whole1P u (w.heap.size + 5) (w.heap.size + 2) w.heap.size s r g eg hRd (by rw [Lib.cell_of_heap b0]; rfl) b2 (by omega) (hr u _ hRd hTu (by omega)) hj
  have CEL : Hid (∀ (w2 : World) (x : Nat) (c : Array Value) (T : TypeId), w2.heap[x]? = some (.cells c T (0, 0)) → (∀ o, w2.cell? ⟨x, o, none⟩ = c[o]?) ∧ ∀ o, w2.frozen? ⟨x, o, none⟩ = false) := fun w2 x c T hx => ⟨fun o => Lib.cell_of_heap hx o, fun o => Lib.frozen_of_heap hx o⟩
  have hmf := mkFunc
  cases hw : whole s r with
  | ok x j =>
    rw [hw] at hW1
    obtain ⟨xt, xl, xk⟩ := x
    have hC := catch_ok (whP w s g) 86 #[.pointer (some ⟨w.heap.size, 0, none⟩), .pointer (some ⟨w.heap.size + 5, 0, none⟩), .pointer (some ⟨w.heap.size + 2, 0, none⟩)]
      (fun w' => But (w.heap.size + 5) (w.heap.size + 2) u w' ∧ w'.heap[w.heap.size + 2]? = some (.cells #[str xt, str xl, str xk] 79 (0, 0))) e1 (by rw [← hu]; exact hW1)
      (fun w' hq => by rw [whP_size, hq.1.2.2 _ (by omega) (by omega) (by omega)]; exact b6)
    rw [whP_size] at hC
    have HC : Hid (Calls Tryz.prog 50 #[fnV 86 #[.pointer (some ⟨w.heap.size, 0, none⟩), .pointer (some ⟨w.heap.size + 5, 0, none⟩), .pointer (some ⟨w.heap.size + 2, 0, none⟩)]] (whP w s g) fun e w' => e = .returned .nilIface ∧ (w'.heap[w.heap.size + 2]? = some (.cells #[str xt, str xl, str xk] 79 (0, 0)) ∧ w'.heap[w.heap.size + 1]? = some (.cells partsZ 79 (0, 0))) ∧ Below w.heap.size w w' ∧ w.heap.size + 7 ≤ w'.heap.size) := hC.mono (by
        rintro e w' ⟨rfl, w2, ⟨q1, q2⟩, rfl⟩
        refine ⟨rfl, ⟨?_, ?_⟩, ?_, by have := q1.1; simp; omega⟩
        · rw [Below.heap_setCell _ _ _ _ (by simp)]; exact q2
        · rw [Below.heap_setCell _ _ _ _ (by simp), q1.2.2 _ (by omega) (by omega) (by omega)]; exact b1
        · refine Below.setCell (hB.trans ⟨q1.2.1.1, q1.2.1.2.1, q1.2.1.2.2, q1.1, fun k hk => q1.2.2 k (by omega) (by omega) (by omega)⟩) (by simp) _)
    clear hC hW1 hr hj hu hlow hB b0 b1 b2 b3 b5 b6 hRd hTu hT hw
    go_enter Tryz.func46, Tryz.ntmps46
    go_wp2_with fail
    refine (over_any _ _).mono ?_
    rintro e w3 ⟨rfl, rfl⟩
    go_wp2_with fail
    refine HC.out.mono ?_
    rintro e w4 ⟨rfl, ⟨c2, c1⟩, hB4, hz4⟩
    have k2 := (CEL.out _ _ _ _ c2).1
    have k20 := k2 0
    have k21 := k2 1
    have k22 := k2 2
    have k1 := (CEL.out _ _ _ _ c1).1
    have k10 := k1 0
    have k11 := k1 1
    have k12 := k1 2
    have kf := (CEL.out _ _ _ _ c1).2
    simp at k20 k21 k22 k10 k11 k12
    clear k2 k1 c1 c2
    go_wp2_with fail
    refine bodyPost_ret (v := .tuple #[.agg #[str xt, str xl, str xk], .nilIface]) (by simp [results, Tryz.results46, go_sem, k10, k11, k12]) rfl ⟨rfl, ?_⟩
    exact ((hB4.setCell (p := ⟨w.heap.size + 1, 0, none⟩) (by simp) _).setCell (p := ⟨w.heap.size + 1, 1, none⟩) (by simp) _).setCell (p := ⟨w.heap.size + 1, 2, none⟩) (by simp) _
  | bad j =>
    rw [hw] at hW1
    have hC := catch_stop (whP w s g) 86 #[.pointer (some ⟨w.heap.size, 0, none⟩), .pointer (some ⟨w.heap.size + 5, 0, none⟩), .pointer (some ⟨w.heap.size + 2, 0, none⟩)]
      (fun w' => But (w.heap.size + 5) (w.heap.size + 2) u w') 2 j e1 (by rw [← hu]; exact hW1)
      (fun w' hq => by rw [whP_size, hq.2.2 _ (by omega) (by omega) (by omega)]; exact b6)
    rw [whP_size] at hC
    have HC : Hid (Calls Tryz.prog 50 #[fnV 86 #[.pointer (some ⟨w.heap.size, 0, none⟩), .pointer (some ⟨w.heap.size + 5, 0, none⟩), .pointer (some ⟨w.heap.size + 2, 0, none⟩)]] (whP w s g) fun e w' => e = .returned (placedV 2 j) ∧ (w'.heap[w.heap.size + 3]? = some (.cells partsZ 79 (0, 0)) ∧ w'.heap[w.heap.size + 1]? = some (.cells partsZ 79 (0, 0))) ∧ Below w.heap.size w w' ∧ w.heap.size + 7 ≤ w'.heap.size) := hC.mono (by
        rintro e w' ⟨rfl, w2, q1, rfl⟩
        have hz2 : w.heap.size + 7 ≤ w2.heap.size := by have := q1.1; omega
        refine ⟨rfl, ⟨?_, ?_⟩, ?_, by simp; omega⟩
        · rw [Below.heap_setCell _ _ _ _ (by simp), Below.heap_alloc _ _ _ (by omega), q1.2.2 _ (by omega) (by omega) (by omega)]; exact b3
        · rw [Below.heap_setCell _ _ _ _ (by simp), Below.heap_alloc _ _ _ (by omega), q1.2.2 _ (by omega) (by omega) (by omega)]; exact b1
        · refine Below.setCell (Below.alloc (hB.trans ⟨q1.2.1.1, q1.2.1.2.1, q1.2.1.2.2, q1.1, fun k hk => q1.2.2 k (by omega) (by omega) (by omega)⟩) (by omega) _) (by simp) _)
    clear hC hW1 hr hj hu hlow hB b0 b1 b2 b3 b5 b6 hRd hTu hT hw
    go_enter Tryz.func46, Tryz.ntmps46
    go_wp2_with fail
    refine (over_any _ _).mono ?_
    rintro e w3 ⟨rfl, rfl⟩
    go_wp2_with fail
    refine HC.out.mono ?_
    rintro e w4 ⟨rfl, ⟨c2, c1⟩, hB4, hz4⟩
    have k2 := (CEL.out _ _ _ _ c2).1
    have k20 := k2 0
    have k21 := k2 1
    have k22 := k2 2
    have k1 := (CEL.out _ _ _ _ c1).1
    have k10 := k1 0
    have k11 := k1 1
    have k12 := k1 2
    have kf := (CEL.out _ _ _ _ c1).2
    simp at k20 k21 k22 k10 k11 k12
    clear k2 k1 c1 c2
    go_wp2_with fail
    refine bodyPost_ret (v := .tuple #[.agg partsZ, placedV 2 j]) (by simp [results, Tryz.results46, go_sem, k10, k11, k12]) rfl ⟨rfl, ?_⟩
    exact ((hB4.setCell (p := ⟨w.heap.size + 1, 0, none⟩) (by simp) _).setCell (p := ⟨w.heap.size + 1, 1, none⟩) (by simp) _).setCell (p := ⟨w.heap.size + 1, 2, none⟩) (by simp) _


theorem parts_le {s : ByteArray} {i : Nat} {x : Lit} {j : Nat} (h : parts s i = .ok x j) : j ≤ s.size := (parts_facts h).2.2.2.2.2.1

/-- scan.Whole of a literal's parts. -/
theorem wholeParts (w : World) (s : ByteArray) (hT : Tabs w) (hG : 8 ≤ w.heap.size) (hsz : s.size ≤ 1099511627776) :
    Calls Tryz.prog 46 #[.string s, fnV 47 #[]] w fun e w' =>
      (match whole s (parts s 0) with
      | .ok x j => e = .returned (.tuple #[litV x, .nilIface])
      | .bad j => e = .returned (.tuple #[.agg partsZ, placedV 2 j])) ∧ Below w.heap.size w w' :=
  wholeP w s 47 (parts s 0) (enters_of Tryz.func47 (by kernel_rfl) rfl) hT hG hsz (fun w2 b h1 h2 h3 => parts_any w2 b 0 s h1 h2 h3 hsz) (fun x j h => parts_le h)
end Go.Proofs.YtnffjoipinhojaaGreatDoor

namespace Go.Proofs
open Go.Shelf
def Tryz.lays196_ren : Go.Shelf.Ren := ⟨fun | 196 => 74 | 259 => 128 | n => n, fun | 9 => 9 | 4 => 4 | 3 => 3 | 5 => 5 | 12 => 12 | 119 => 174 | 0 => 0 | 46 => 178 | 139 => 177 | 138 => 176 | 53 => 241 | n => n, fun | 3 => 1 | 4 => 2 | n => n⟩
theorem Tryz.lays196 : Go.Proofs.Lays.n196 Tryz.prog Tryz.lays196_ren := {
  mixed := by kernel_rfl
  f196 := Tryz.func74.trans (congrArg some (by kernel_rfl))
  f259 := Tryz.func128.trans (congrArg some (by kernel_rfl))
  t0 := Tryz.underlying0
  a0 := Tryz.isAgg0
  z0 := Tryz.sizeOf0
  v0 := Tryz.zeroValue0
  t3 := Tryz.underlying3
  a3 := Tryz.isAgg3
  z3 := Tryz.sizeOf3
  v3 := Tryz.zeroValue3
  t4 := Tryz.underlying4
  a4 := Tryz.isAgg4
  z4 := Tryz.sizeOf4
  v4 := Tryz.zeroValue4
  t5 := Tryz.underlying5
  a5 := Tryz.isAgg5
  z5 := Tryz.sizeOf5
  v5 := Tryz.zeroValue5
  t9 := Tryz.underlying9
  a9 := Tryz.isAgg9
  z9 := Tryz.sizeOf9
  v9 := Tryz.zeroValue9
  t12 := Tryz.underlying12
  a12 := Tryz.isAgg12
  z12 := Tryz.sizeOf12
  v12 := Tryz.zeroValue12
  t46 := Tryz.underlying178
  a46 := Tryz.isAgg178
  z46 := Tryz.sizeOf178
  v46 := Tryz.zeroValue178
  t53 := Tryz.underlying241
  a53 := Tryz.isAgg241
  z53 := Tryz.sizeOf241
  v53 := Tryz.zeroValue241
  t119 := Tryz.underlying174
  a119 := Tryz.isAgg174
  z119 := Tryz.sizeOf174
  t138 := Tryz.underlying176
  a138 := Tryz.isAgg176
  z138 := Tryz.sizeOf176
  v138 := Tryz.zeroValue176
  t139 := Tryz.underlying177
  a139 := Tryz.isAgg177
  z139 := Tryz.sizeOf177
  v139 := Tryz.zeroValue177
  g3 := by kernel_rfl
  g4 := by kernel_rfl }
end Go.Proofs

namespace Go.Proofs.YtnffjoipinhojaaGreatDoor
open Go.RowKit
open Back (vfrom)

theorem valid_any (w : World) (s : ByteArray) (hs : s.size ≤ 9223372036854775807) (hT : Tabs w) :
    Calls Tryz.prog 74 #[.string s] w fun e w' => e = .returned (.bool (vfrom s 0)) ∧ Below w.heap.size w w' := by
  have := Any.utf8_ValidString (ρ := Tryz.lays196_ren) Tryz.lays196 s w hs hT
  rw [Back.valid_from] at this
  exact this

/-- does reading take all of the text and answer it as it is? -/
def isW (s : ByteArray) (r : R (List UInt8)) : Bool := match whole s r with
  | .ok x _ => decide (x = s.data.toList)
  | .bad _ => false

set_option maxHeartbeats 1000000 in
theorem isWhole_any (w : World) (s : ByteArray) (g : Nat) (r : R (List UInt8)) (eg : ∀ args w, (callFunc g args).run Tryz.prog w = .ok (.enter g args) w) (hT : Tabs w) (hG : 8 ≤ w.heap.size) (hsz : s.size ≤ 1099511627776)
    (hr : ∀ w2 b, Rd w2 b s 0 → Tabs w2 → 8 ≤ b → Calls Tryz.prog g #[.pointer (some ⟨b, 0, none⟩)] w2 (Out b w2 str r)) (hj : ∀ x j, r = .ok x j → j ≤ s.size) :
    Calls Tryz.prog 75 #[.string s, fnV g #[]] w fun e w' => e = .returned (.bool (isW s r)) ∧ Below w.heap.size w w' := by
  have hW := wholeS w s g r eg hT hG hsz hr hj
  cases hw : whole s r with
  | bad j =>
    have HV : Hid (isW s r = false) := by unfold Hid isW; rw [hw]
    rw [hw] at hW
    have HW : Hid (Calls Tryz.prog 129 #[.string s, fnV g #[]] w fun e w' => e = .returned (.tuple #[str [], placedV 2 j]) ∧ Below w.heap.size w w') := hW
    rw [HV.out]
    clear hW hw hr hj hT
    go_enter Tryz.func75, Tryz.ntmps75
    go_wp2_with fail
    refine HW.out.mono ?_
    rintro e w2 ⟨rfl, hb⟩
    go_wp2_with fail
    go_ret
    exact ⟨rfl, hb⟩
  | ok x j =>
    obtain ⟨V, hV⟩ : ∃ V : ByteArray, V = ⟨x.toArray⟩ := ⟨_, rfl⟩
    have HV : Hid ((V.toList == s.toList) = isW s r) := by
      unfold Hid isW
      rw [hw, hV, ByteArray.toList_mk, ByteArray.toList_eq, Bool.eq_iff_iff]
      simp
    rw [hw] at hW
    have HW : Hid (Calls Tryz.prog 129 #[.string s, fnV g #[]] w fun e w' => e = .returned (.tuple #[.string V, .nilIface]) ∧ Below w.heap.size w w') := by unfold Hid; rw [hV]; exact hW
    clear hW hw hr hj hT hV
    generalize isW s r = v at *
    go_enter Tryz.func75, Tryz.ntmps75
    go_wp2_with fail
    refine HW.out.mono ?_
    rintro e w2 ⟨rfl, hb⟩
    go_wp2_with fail
    go_ret
    exact ⟨ret_bool HV.out, hb⟩

theorem langR_le {s : ByteArray} {i j : Nat} {x : List UInt8} (h : langR s i = .ok x j) : j ≤ s.size := by
  unfold langR at h
  split at h
  · rename_i k hl
    cases h
    exact (language_asc hl).2.1
  · cases h

theorem isIri_any (w : World) (s : ByteArray) (hT : Tabs w) (hG : 8 ≤ w.heap.size) (hsz : s.size ≤ 1099511627776) :
    Calls Tryz.prog 75 #[.string s, fnV 76 #[]] w fun e w' => e = .returned (.bool (isW s (iri s 0))) ∧ Below w.heap.size w w' :=
  isWhole_any w s 76 (iri s 0) (enters_of Tryz.func76 (by kernel_rfl) rfl) hT hG hsz (fun w2 b h1 h2 h3 => iri_any w2 b 0 s h1 h2 h3 hsz) (fun x j h => (iri_len h).2.2.1)

theorem isLang_any (w : World) (s : ByteArray) (hT : Tabs w) (hG : 8 ≤ w.heap.size) (hsz : s.size ≤ 1099511627776) :
    Calls Tryz.prog 75 #[.string s, fnV 77 #[]] w fun e w' => e = .returned (.bool (isW s (langR s 0))) ∧ Below w.heap.size w w' :=
  isWhole_any w s 77 (langR s 0) (enters_of Tryz.func77 (by kernel_rfl) rfl) hT hG hsz (fun w2 b h1 h2 h3 => language_any w2 b 0 s h1 h2 h3) (fun x j h => langR_le h)

/-- may these be a literal's parts? -/
def fits (t l k : ByteArray) : Bool :=
  vfrom t 0 && (if l.toList.isEmpty then (k.toList.isEmpty || isW k (iri k 0)) else (k.toList.isEmpty && isW l (langR l 0)))

theorem KS.tabs {w w1 : World} {n : Nat} {a b c : ByteArray} (h1 : KS w n a b c w1) (hT : Tabs w) : Tabs w1 :=
  hT.below h1.2.2.2 (World.block_lt_of_cell? w ⟨_, _, none⟩ (hT.1 0 (by omega))) (World.block_lt_of_cell? w ⟨_, _, none⟩ (hT.2 0 (by omega)).1)

set_option maxHeartbeats 2000000 in
set_option maxRecDepth 20000 in
theorem mayBe_any (w : World) (t l k : ByteArray) (hT : Tabs w) (hG : 8 ≤ w.heap.size) (ht : t.size ≤ 1099511627776) (hl : l.size ≤ 1099511627776) (hk : k.size ≤ 1099511627776) :
    Calls Tryz.prog 40 #[tripV t l k] w fun e w' => e = .returned (.bool (fits t l k)) ∧ Below w.heap.size w w' := by
  have HA : Hid (∀ w1, KS w w.heap.size t l k w1 → Calls Tryz.prog 74 #[.string t] w1 fun e w2 => e = .returned (.bool (vfrom t 0)) ∧ KS w w.heap.size t l k w2) := by
    intro w1 h1
    refine (valid_any w1 t (by omega) (h1.tabs hT)).mono ?_
    rintro e w2 ⟨rfl, hb⟩
    exact ⟨rfl, h1.on hb⟩
  have HB : Hid (∀ w1, KS w w.heap.size t l k w1 → Calls Tryz.prog 75 #[.string k, fnV 76 #[]] w1 fun e w2 => e = .returned (.bool (isW k (iri k 0))) ∧ KS w w.heap.size t l k w2) := by
    intro w1 h1
    refine (isIri_any w1 k (h1.tabs hT) (Nat.le_trans hG h1.2.2.2.size) hk).mono ?_
    rintro e w2 ⟨rfl, hb⟩
    exact ⟨rfl, h1.on hb⟩
  have HC : Hid (∀ w1, KS w w.heap.size t l k w1 → Calls Tryz.prog 75 #[.string l, fnV 77 #[]] w1 fun e w2 => e = .returned (.bool (isW l (langR l 0))) ∧ KS w w.heap.size t l k w2) := by
    intro w1 h1
    refine (isLang_any w1 l (h1.tabs hT) (Nat.le_trans hG h1.2.2.2.size) hl).mono ?_
    rintro e w2 ⟨rfl, hb⟩
    exact ⟨rfl, h1.on hb⟩
  have HM : Hid (KS w w.heap.size t l k (w.alloc (.cells #[.string t, .string l, .string k] 79))) := KS.mk w t l k _
  have HF : Hid (fits t l k = (vfrom t 0 && (if l.toList.isEmpty then (k.toList.isEmpty || isW k (iri k 0)) else (k.toList.isEmpty && isW l (langR l 0))))) := rfl
  generalize fits t l k = v at *
  generalize isW k (iri k 0) = vk at *
  generalize isW l (langR l 0) = vl at *
  cases hv : vfrom t 0 with
  | false =>
    rw [hv] at HA HF
    have HF2 : Hid (v = false) := by unfold Hid; rw [HF.out]; rfl
    rw [HF2.out]
    clear hT hG hv HF
    go_enter Tryz.func40, Tryz.ntmps40
    go_wp2_with fail
    have hM := HM.out
    generalize w.alloc (.cells #[.string t, .string l, .string k] 79) = w1 at hM ⊢
    have hMx := hM
    obtain ⟨m0, m1, m2, m3⟩ := hMx
    go_wp2_with fail
    clear m0 m1 m2 m3
    refine (HA.out _ hM).mono ?_
    rintro e w2 ⟨rfl, hM2⟩
    go_wp2_with fail
    go_ret
    exact ⟨rfl, hM2.low⟩
  | true =>
    rw [hv] at HA HF
    cases hle : l.toList.isEmpty with
    | true =>
      rw [hle] at HF
      cases hke : k.toList.isEmpty with
      | true =>
        rw [hke] at HF
        have HF2 : Hid (v = true) := by unfold Hid; rw [HF.out]; rfl
        rw [HF2.out]
        clear hT hG hv HF
        go_enter Tryz.func40, Tryz.ntmps40
        go_wp2_with fail
        have hM := HM.out
        generalize w.alloc (.cells #[.string t, .string l, .string k] 79) = w1 at hM ⊢
        have hMx := hM
        obtain ⟨m0, m1, m2, m3⟩ := hMx
        go_wp2_with fail
        clear m0 m1 m2 m3
        refine (HA.out _ hM).mono ?_
        rintro e w2 ⟨rfl, hM2⟩
        have hMx := hM2
        obtain ⟨m0, m1, m2, m3⟩ := hMx
        go_wp2_with fail
        go_ret
        exact ⟨rfl, hM2.low⟩
      | false =>
        rw [hke] at HF
        have HF2 : Hid (v = vk) := by unfold Hid; rw [HF.out]; rfl
        rw [HF2.out]
        clear hT hG hv HF
        go_enter Tryz.func40, Tryz.ntmps40
        go_wp2_with fail
        have hM := HM.out
        generalize w.alloc (.cells #[.string t, .string l, .string k] 79) = w1 at hM ⊢
        have hMx := hM
        obtain ⟨m0, m1, m2, m3⟩ := hMx
        go_wp2_with fail
        clear m0 m1 m2 m3
        refine (HA.out _ hM).mono ?_
        rintro e w2 ⟨rfl, hM2⟩
        have hMx := hM2
        obtain ⟨m0, m1, m2, m3⟩ := hMx
        go_wp2_with fail
        clear m0 m1 m2 m3
        refine (HB.out _ hM2).mono ?_
        rintro e w3 ⟨rfl, hM3⟩
        go_wp2_with fail
        go_ret
        exact ⟨rfl, hM3.low⟩
    | false =>
      rw [hle] at HF
      cases hke : k.toList.isEmpty with
      | true =>
        rw [hke] at HF
        have HF2 : Hid (v = vl) := by unfold Hid; rw [HF.out]; rfl
        rw [HF2.out]
        clear hT hG hv HF
        go_enter Tryz.func40, Tryz.ntmps40
        go_wp2_with fail
        have hM := HM.out
        generalize w.alloc (.cells #[.string t, .string l, .string k] 79) = w1 at hM ⊢
        have hMx := hM
        obtain ⟨m0, m1, m2, m3⟩ := hMx
        go_wp2_with fail
        clear m0 m1 m2 m3
        refine (HA.out _ hM).mono ?_
        rintro e w2 ⟨rfl, hM2⟩
        have hMx := hM2
        obtain ⟨m0, m1, m2, m3⟩ := hMx
        go_wp2_with fail
        clear m0 m1 m2 m3
        refine (HC.out _ hM2).mono ?_
        rintro e w3 ⟨rfl, hM3⟩
        go_wp2_with fail
        go_ret
        exact ⟨rfl, hM3.low⟩
      | false =>
        rw [hke] at HF
        have HF2 : Hid (v = false) := by unfold Hid; rw [HF.out]; rfl
        rw [HF2.out]
        clear hT hG hv HF
        go_enter Tryz.func40, Tryz.ntmps40
        go_wp2_with fail
        have hM := HM.out
        generalize w.alloc (.cells #[.string t, .string l, .string k] 79) = w1 at hM ⊢
        have hMx := hM
        obtain ⟨m0, m1, m2, m3⟩ := hMx
        go_wp2_with fail
        clear m0 m1 m2 m3
        refine (HA.out _ hM).mono ?_
        rintro e w2 ⟨rfl, hM2⟩
        have hMx := hM2
        obtain ⟨m0, m1, m2, m3⟩ := hMx
        go_wp2_with fail
        go_ret
        exact ⟨rfl, hM2.low⟩

end Go.Proofs.YtnffjoipinhojaaGreatDoor

