import Derived.Test.YtnffjoipinhojabGreatDoorK25
import Derived.Deep.RegionHeld3
import Derived.Lib.Bytealg
set_option linter.unusedSimpArgs false
set_option linter.unusedVariables false
namespace Go.Proofs.YtnffjoipinhojabGreatDoor
open Go.RowKit

def sound3 (x y z : Nat) : Bool := (decide (x = 1) || decide (x = 2)) && decide (y = 1) && !decide (z = 0)

abbrev tripV (a b c : ByteArray) : Value := .agg #[.string a, .string b, .string c]

theorem triple_any (w : World) (a b c : ByteArray) :
    Calls Tryz.prog 18 #[tripV a b c] w fun e w' => e = .returned (tripV a b c) ∧ Below w.heap.size w w' := by
  go_enter Tryz.func18, Tryz.ntmps18
  go_wp2
  exact bodyPost_ret (v := tripV a b c) (by simp [results, Tryz.results18, go_sem]) rfl ⟨rfl, by first | exact (Below.refl _ w).alloc (Nat.le_refl _) _ | exact ((Below.refl _ w).alloc (Nat.le_refl _) _).alloc (by simp) _⟩

/-- a sentence's three cells, and nothing older touched -/
def KS (w0 : World) (n : Nat) (a b c : ByteArray) (w : World) : Prop :=
  w.cell? ⟨n, 0, none⟩ = some (.string a) ∧ w.cell? ⟨n, 1, none⟩ = some (.string b) ∧ w.cell? ⟨n, 2, none⟩ = some (.string c) ∧ Below w0.heap.size w0 w

theorem KS.on {w0 w1 w2 : World} {n : Nat} {a b c : ByteArray} (h : KS w0 n a b c w1) (hb : Below w1.heap.size w1 w2) : KS w0 n a b c w2 := by
  obtain ⟨h0, h1, h2, h3⟩ := h
  have hn : n < w1.heap.size := World.block_lt_of_cell? w1 ⟨n, 0, none⟩ h0
  exact ⟨(hb.cell (p := ⟨n, 0, none⟩) hn).trans h0, (hb.cell (p := ⟨n, 1, none⟩) hn).trans h1, (hb.cell (p := ⟨n, 2, none⟩) hn).trans h2, h3.trans (hb.mono h3.size)⟩

theorem KS.low {w0 w : World} {n : Nat} {a b c : ByteArray} (h : KS w0 n a b c w) : Below w0.heap.size w0 w := h.2.2.2

theorem KS.mk (w : World) (a b c : ByteArray) (T : TypeId) : KS w w.heap.size a b c (w.alloc (.cells #[.string a, .string b, .string c] T)) := by
  have hh : (w.alloc (.cells #[.string a, .string b, .string c] T)).heap[w.heap.size]? = some (.cells #[.string a, .string b, .string c] T) := heap_new _ _
  exact ⟨by rw [Lib.cell_of_heap hh]; rfl, by rw [Lib.cell_of_heap hh]; rfl, by rw [Lib.cell_of_heap hh]; rfl, (Below.refl _ w).alloc (Nat.le_refl _) _⟩

set_option maxHeartbeats 4000000 in
set_option maxRecDepth 20000 in
theorem sound_any (k : ByteArray → Nat) (w : World) (a b c : ByteArray) (hT : Tabs w) (hG : 8 ≤ w.heap.size)
    (hK : ∀ (w1 : World) (s : ByteArray), Tabs w1 → 8 ≤ w1.heap.size → Calls Tryz.prog 80 #[.string s] w1 fun e w2 => e = .returned (.int .i64 (k s)) ∧ Below w1.heap.size w1 w2) :
    Calls Tryz.prog 61 #[tripV a b c] w fun e w' => e = .returned (.bool (sound3 (k a) (k b) (k c))) ∧ Below w.heap.size w w' := by
  have hTT : ∀ w1, KS w w.heap.size a b c w1 → Tabs w1 := by
    intro w1 h1
    exact hT.below h1.2.2.2 (World.block_lt_of_cell? w ⟨_, _, none⟩ (hT.1 0 (by omega))) (World.block_lt_of_cell? w ⟨_, _, none⟩ (hT.2 0 (by omega)).1)
  have hGG : ∀ w1, KS w w.heap.size a b c w1 → 8 ≤ w1.heap.size := by
    intro w1 h1
    exact Nat.le_trans hG h1.2.2.2.size
  have HK : Hid (∀ w1 s, KS w w.heap.size a b c w1 → Calls Tryz.prog 80 #[.string s] w1 fun e w2 => e = .returned (.int .i64 (k s)) ∧ KS w w.heap.size a b c w2) := by
    intro w1 s h1
    refine (hK w1 s (hTT w1 h1) (hGG w1 h1)).mono ?_
    rintro e w2 ⟨rfl, hb⟩
    exact ⟨rfl, h1.on hb⟩
  have HM : Hid (KS w w.heap.size a b c (w.alloc (.cells #[.string a, .string b, .string c] 44))) := KS.mk w a b c _
  clear hK hT hG hTT hGG
  by_cases hx1 : k a = 1
  · have fx : (((k a : Nat) : Int) == 1) = true := by simp [hx1]
    by_cases hy : k b = 1
    · by_cases hz : k c = 0
      · have fz : (((k c : Nat) : Int) != 0) = false := by simp [hz]
        have fy : (((k b : Nat) : Int) == 1) = true := by simp [hy]
        have HV : Hid (sound3 (k a) (k b) (k c) = false) := by unfold Hid sound3; simp [hx1, hy, hz]
        rw [HV.out]
        go_enter Tryz.func61, Tryz.ntmps61
        go_wp2_with fail
        have hM := HM.out
        generalize w.alloc (.cells #[.string a, .string b, .string c] 44) = w1 at hM ⊢
        obtain ⟨m0, m1, m2, m3⟩ := hM
        go_region_held3 (fun w' => w'.cell? ⟨w.heap.size, 0, none⟩ = some (.string a) ∧ w'.cell? ⟨w.heap.size, 1, none⟩ = some (.string b) ∧ w'.cell? ⟨w.heap.size, 2, none⟩ = some (.string c) ∧ Below w.heap.size w w') (first | assumption | exact ⟨m0, m1, m2, m3⟩ | exact ⟨m0, m1, m2, m3.drew⟩) (first | (go_at_call 80; refine (HK.out _ _ (by first | assumption | exact ⟨by assumption, by assumption, by assumption, by assumption⟩)).mono ?_; rintro e w2 ⟨rfl, hS⟩))
        all_goals go_wp2
        all_goals go_ret
        all_goals exact ⟨rfl, by refine KS.low (n := w.heap.size) (a := a) (b := b) (c := c) ?_; assumption⟩
      · have fz : (((k c : Nat) : Int) != 0) = true := by simp; omega
        have fy : (((k b : Nat) : Int) == 1) = true := by simp [hy]
        have HV : Hid (sound3 (k a) (k b) (k c) = true) := by unfold Hid sound3; simp [hx1, hy, hz]
        rw [HV.out]
        go_enter Tryz.func61, Tryz.ntmps61
        go_wp2_with fail
        have hM := HM.out
        generalize w.alloc (.cells #[.string a, .string b, .string c] 44) = w1 at hM ⊢
        obtain ⟨m0, m1, m2, m3⟩ := hM
        go_region_held3 (fun w' => w'.cell? ⟨w.heap.size, 0, none⟩ = some (.string a) ∧ w'.cell? ⟨w.heap.size, 1, none⟩ = some (.string b) ∧ w'.cell? ⟨w.heap.size, 2, none⟩ = some (.string c) ∧ Below w.heap.size w w') (first | assumption | exact ⟨m0, m1, m2, m3⟩ | exact ⟨m0, m1, m2, m3.drew⟩) (first | (go_at_call 80; refine (HK.out _ _ (by first | assumption | exact ⟨by assumption, by assumption, by assumption, by assumption⟩)).mono ?_; rintro e w2 ⟨rfl, hS⟩))
        all_goals go_wp2
        all_goals go_ret
        all_goals exact ⟨rfl, by refine KS.low (n := w.heap.size) (a := a) (b := b) (c := c) ?_; assumption⟩
    · have fy : (((k b : Nat) : Int) == 1) = false := by simp; omega
      have HV : Hid (sound3 (k a) (k b) (k c) = false) := by unfold Hid sound3; simp [hx1, hy]
      rw [HV.out]
      go_enter Tryz.func61, Tryz.ntmps61
      go_wp2_with fail
      have hM := HM.out
      generalize w.alloc (.cells #[.string a, .string b, .string c] 44) = w1 at hM ⊢
      obtain ⟨m0, m1, m2, m3⟩ := hM
      go_region_held3 (fun w' => w'.cell? ⟨w.heap.size, 0, none⟩ = some (.string a) ∧ w'.cell? ⟨w.heap.size, 1, none⟩ = some (.string b) ∧ w'.cell? ⟨w.heap.size, 2, none⟩ = some (.string c) ∧ Below w.heap.size w w') (first | assumption | exact ⟨m0, m1, m2, m3⟩ | exact ⟨m0, m1, m2, m3.drew⟩) (first | (go_at_call 80; refine (HK.out _ _ (by first | assumption | exact ⟨by assumption, by assumption, by assumption, by assumption⟩)).mono ?_; rintro e w2 ⟨rfl, hS⟩))
      all_goals go_wp2
      all_goals go_ret
      all_goals exact ⟨rfl, by refine KS.low (n := w.heap.size) (a := a) (b := b) (c := c) ?_; assumption⟩
  · have fx : (((k a : Nat) : Int) == 1) = false := by simp; omega
    by_cases hx2 : k a = 2
    · have fx2 : (((k a : Nat) : Int) == 2) = true := by simp [hx2]
      by_cases hy : k b = 1
      · by_cases hz : k c = 0
        · have fz : (((k c : Nat) : Int) != 0) = false := by simp [hz]
          have fy : (((k b : Nat) : Int) == 1) = true := by simp [hy]
          have HV : Hid (sound3 (k a) (k b) (k c) = false) := by unfold Hid sound3; simp [hx1, hx2, hy, hz]
          rw [HV.out]
          go_enter Tryz.func61, Tryz.ntmps61
          go_wp2_with fail
          have hM := HM.out
          generalize w.alloc (.cells #[.string a, .string b, .string c] 44) = w1 at hM ⊢
          obtain ⟨m0, m1, m2, m3⟩ := hM
          go_region_held3 (fun w' => w'.cell? ⟨w.heap.size, 0, none⟩ = some (.string a) ∧ w'.cell? ⟨w.heap.size, 1, none⟩ = some (.string b) ∧ w'.cell? ⟨w.heap.size, 2, none⟩ = some (.string c) ∧ Below w.heap.size w w') (first | assumption | exact ⟨m0, m1, m2, m3⟩ | exact ⟨m0, m1, m2, m3.drew⟩) (first | (go_at_call 80; refine (HK.out _ _ (by first | assumption | exact ⟨by assumption, by assumption, by assumption, by assumption⟩)).mono ?_; rintro e w2 ⟨rfl, hS⟩))
          all_goals go_wp2
          all_goals go_ret
          all_goals exact ⟨rfl, by refine KS.low (n := w.heap.size) (a := a) (b := b) (c := c) ?_; assumption⟩
        · have fz : (((k c : Nat) : Int) != 0) = true := by simp; omega
          have fy : (((k b : Nat) : Int) == 1) = true := by simp [hy]
          have HV : Hid (sound3 (k a) (k b) (k c) = true) := by unfold Hid sound3; simp [hx1, hx2, hy, hz]
          rw [HV.out]
          go_enter Tryz.func61, Tryz.ntmps61
          go_wp2_with fail
          have hM := HM.out
          generalize w.alloc (.cells #[.string a, .string b, .string c] 44) = w1 at hM ⊢
          obtain ⟨m0, m1, m2, m3⟩ := hM
          go_region_held3 (fun w' => w'.cell? ⟨w.heap.size, 0, none⟩ = some (.string a) ∧ w'.cell? ⟨w.heap.size, 1, none⟩ = some (.string b) ∧ w'.cell? ⟨w.heap.size, 2, none⟩ = some (.string c) ∧ Below w.heap.size w w') (first | assumption | exact ⟨m0, m1, m2, m3⟩ | exact ⟨m0, m1, m2, m3.drew⟩) (first | (go_at_call 80; refine (HK.out _ _ (by first | assumption | exact ⟨by assumption, by assumption, by assumption, by assumption⟩)).mono ?_; rintro e w2 ⟨rfl, hS⟩))
          all_goals go_wp2
          all_goals go_ret
          all_goals exact ⟨rfl, by refine KS.low (n := w.heap.size) (a := a) (b := b) (c := c) ?_; assumption⟩
      · have fy : (((k b : Nat) : Int) == 1) = false := by simp; omega
        have HV : Hid (sound3 (k a) (k b) (k c) = false) := by unfold Hid sound3; simp [hx1, hx2, hy]
        rw [HV.out]
        go_enter Tryz.func61, Tryz.ntmps61
        go_wp2_with fail
        have hM := HM.out
        generalize w.alloc (.cells #[.string a, .string b, .string c] 44) = w1 at hM ⊢
        obtain ⟨m0, m1, m2, m3⟩ := hM
        go_region_held3 (fun w' => w'.cell? ⟨w.heap.size, 0, none⟩ = some (.string a) ∧ w'.cell? ⟨w.heap.size, 1, none⟩ = some (.string b) ∧ w'.cell? ⟨w.heap.size, 2, none⟩ = some (.string c) ∧ Below w.heap.size w w') (first | assumption | exact ⟨m0, m1, m2, m3⟩ | exact ⟨m0, m1, m2, m3.drew⟩) (first | (go_at_call 80; refine (HK.out _ _ (by first | assumption | exact ⟨by assumption, by assumption, by assumption, by assumption⟩)).mono ?_; rintro e w2 ⟨rfl, hS⟩))
        all_goals go_wp2
        all_goals go_ret
        all_goals exact ⟨rfl, by refine KS.low (n := w.heap.size) (a := a) (b := b) (c := c) ?_; assumption⟩
    · have fx2 : (((k a : Nat) : Int) == 2) = false := by simp; omega
      have HV : Hid (sound3 (k a) (k b) (k c) = false) := by unfold Hid sound3; simp [hx1, hx2]
      rw [HV.out]
      go_enter Tryz.func61, Tryz.ntmps61
      go_wp2_with fail
      have hM := HM.out
      generalize w.alloc (.cells #[.string a, .string b, .string c] 44) = w1 at hM ⊢
      obtain ⟨m0, m1, m2, m3⟩ := hM
      go_region_held3 (fun w' => w'.cell? ⟨w.heap.size, 0, none⟩ = some (.string a) ∧ w'.cell? ⟨w.heap.size, 1, none⟩ = some (.string b) ∧ w'.cell? ⟨w.heap.size, 2, none⟩ = some (.string c) ∧ Below w.heap.size w w') (first | assumption | exact ⟨m0, m1, m2, m3⟩ | exact ⟨m0, m1, m2, m3.drew⟩) (first | (go_at_call 80; refine (HK.out _ _ (by first | assumption | exact ⟨by assumption, by assumption, by assumption, by assumption⟩)).mono ?_; rintro e w2 ⟨rfl, hS⟩))
      all_goals go_wp2
      all_goals go_ret
      all_goals exact ⟨rfl, by refine KS.low (n := w.heap.size) (a := a) (b := b) (c := c) ?_; assumption⟩

set_option maxHeartbeats 4000000 in
set_option maxRecDepth 20000 in
theorem Ref.sound_any (k : ByteArray → Nat) (w : World) (a b c : ByteArray) 
    (hK : ∀ (w1 : World) (s : ByteArray),  Calls Tryz.prog 51 #[.string s] w1 fun e w2 => e = .returned (.int .i64 (k s)) ∧ Below w1.heap.size w1 w2) :
    Calls Tryz.prog 46 #[tripV a b c] w fun e w' => e = .returned (.bool (sound3 (k a) (k b) (k c))) ∧ Below w.heap.size w w' := by
  have HK : Hid (∀ w1 s, KS w w.heap.size a b c w1 → Calls Tryz.prog 51 #[.string s] w1 fun e w2 => e = .returned (.int .i64 (k s)) ∧ KS w w.heap.size a b c w2) := by
    intro w1 s h1
    refine (hK w1 s ).mono ?_
    rintro e w2 ⟨rfl, hb⟩
    exact ⟨rfl, h1.on hb⟩
  have HM : Hid (KS w w.heap.size a b c (w.alloc (.cells #[.string a, .string b, .string c] 50))) := KS.mk w a b c _
  clear hK 
  by_cases hx1 : k a = 1
  · have fx : (((k a : Nat) : Int) == 1) = true := by simp [hx1]
    by_cases hy : k b = 1
    · by_cases hz : k c = 0
      · have fz : (((k c : Nat) : Int) != 0) = false := by simp [hz]
        have fy : (((k b : Nat) : Int) == 1) = true := by simp [hy]
        have HV : Hid (sound3 (k a) (k b) (k c) = false) := by unfold Hid sound3; simp [hx1, hy, hz]
        rw [HV.out]
        go_enter Tryz.func46, Tryz.ntmps46
        go_wp2_with fail
        have hM := HM.out
        generalize w.alloc (.cells #[.string a, .string b, .string c] 50) = w1 at hM ⊢
        have HM0 : Hid (KS w w.heap.size a b c w1) := hM
        obtain ⟨m0, m1, m2, m3⟩ := hM
        go_wp2_with fail
        refine (HK.out _ _ HM0.out).mono ?_
        clear m0 m1 m2 m3
        rintro e w2 ⟨rfl, hM⟩
        have hMx := hM
        obtain ⟨m0, m1, m2, m3⟩ := hMx
        go_wp2_with fail
        clear m0 m1 m2 m3
        have HM1 : Hid (KS w w.heap.size a b c w2) := hM
        obtain ⟨m0, m1, m2, m3⟩ := hM
        refine (HK.out _ _ HM1.out).mono ?_
        clear m0 m1 m2 m3
        rintro e w3 ⟨rfl, hM⟩
        have hMx := hM
        obtain ⟨m0, m1, m2, m3⟩ := hMx
        go_wp2_with fail
        clear m0 m1 m2 m3
        have HM2 : Hid (KS w w.heap.size a b c w3) := hM
        obtain ⟨m0, m1, m2, m3⟩ := hM
        refine (HK.out _ _ HM2.out).mono ?_
        clear m0 m1 m2 m3
        rintro e w4 ⟨rfl, hM⟩
        have hMx := hM
        obtain ⟨m0, m1, m2, m3⟩ := hMx
        go_wp2_with fail
        clear m0 m1 m2 m3
        go_ret
        exact ⟨rfl, hM.2.2.2⟩
      · have fz : (((k c : Nat) : Int) != 0) = true := by simp; omega
        have fy : (((k b : Nat) : Int) == 1) = true := by simp [hy]
        have HV : Hid (sound3 (k a) (k b) (k c) = true) := by unfold Hid sound3; simp [hx1, hy, hz]
        rw [HV.out]
        go_enter Tryz.func46, Tryz.ntmps46
        go_wp2_with fail
        have hM := HM.out
        generalize w.alloc (.cells #[.string a, .string b, .string c] 50) = w1 at hM ⊢
        have HM0 : Hid (KS w w.heap.size a b c w1) := hM
        obtain ⟨m0, m1, m2, m3⟩ := hM
        go_wp2_with fail
        refine (HK.out _ _ HM0.out).mono ?_
        clear m0 m1 m2 m3
        rintro e w2 ⟨rfl, hM⟩
        have hMx := hM
        obtain ⟨m0, m1, m2, m3⟩ := hMx
        go_wp2_with fail
        clear m0 m1 m2 m3
        have HM1 : Hid (KS w w.heap.size a b c w2) := hM
        obtain ⟨m0, m1, m2, m3⟩ := hM
        refine (HK.out _ _ HM1.out).mono ?_
        clear m0 m1 m2 m3
        rintro e w3 ⟨rfl, hM⟩
        have hMx := hM
        obtain ⟨m0, m1, m2, m3⟩ := hMx
        go_wp2_with fail
        clear m0 m1 m2 m3
        have HM2 : Hid (KS w w.heap.size a b c w3) := hM
        obtain ⟨m0, m1, m2, m3⟩ := hM
        refine (HK.out _ _ HM2.out).mono ?_
        clear m0 m1 m2 m3
        rintro e w4 ⟨rfl, hM⟩
        have hMx := hM
        obtain ⟨m0, m1, m2, m3⟩ := hMx
        go_wp2_with fail
        clear m0 m1 m2 m3
        go_ret
        exact ⟨rfl, hM.2.2.2⟩
    · have fy : (((k b : Nat) : Int) == 1) = false := by simp; omega
      have HV : Hid (sound3 (k a) (k b) (k c) = false) := by unfold Hid sound3; simp [hx1, hy]
      rw [HV.out]
      go_enter Tryz.func46, Tryz.ntmps46
      go_wp2_with fail
      have hM := HM.out
      generalize w.alloc (.cells #[.string a, .string b, .string c] 50) = w1 at hM ⊢
      have HM0 : Hid (KS w w.heap.size a b c w1) := hM
      obtain ⟨m0, m1, m2, m3⟩ := hM
      go_wp2_with fail
      refine (HK.out _ _ HM0.out).mono ?_
      clear m0 m1 m2 m3
      rintro e w2 ⟨rfl, hM⟩
      have hMx := hM
      obtain ⟨m0, m1, m2, m3⟩ := hMx
      go_wp2_with fail
      clear m0 m1 m2 m3
      have HM1 : Hid (KS w w.heap.size a b c w2) := hM
      obtain ⟨m0, m1, m2, m3⟩ := hM
      refine (HK.out _ _ HM1.out).mono ?_
      clear m0 m1 m2 m3
      rintro e w3 ⟨rfl, hM⟩
      have hMx := hM
      obtain ⟨m0, m1, m2, m3⟩ := hMx
      go_wp2_with fail
      clear m0 m1 m2 m3
      have HM2 : Hid (KS w w.heap.size a b c w3) := hM
      obtain ⟨m0, m1, m2, m3⟩ := hM
      refine (HK.out _ _ HM2.out).mono ?_
      clear m0 m1 m2 m3
      rintro e w4 ⟨rfl, hM⟩
      have hMx := hM
      obtain ⟨m0, m1, m2, m3⟩ := hMx
      go_wp2_with fail
      clear m0 m1 m2 m3
      go_ret
      exact ⟨rfl, hM.2.2.2⟩
  · have fx : (((k a : Nat) : Int) == 1) = false := by simp; omega
    by_cases hx2 : k a = 2
    · have fx2 : (((k a : Nat) : Int) == 2) = true := by simp [hx2]
      by_cases hy : k b = 1
      · by_cases hz : k c = 0
        · have fz : (((k c : Nat) : Int) != 0) = false := by simp [hz]
          have fy : (((k b : Nat) : Int) == 1) = true := by simp [hy]
          have HV : Hid (sound3 (k a) (k b) (k c) = false) := by unfold Hid sound3; simp [hx1, hx2, hy, hz]
          rw [HV.out]
          go_enter Tryz.func46, Tryz.ntmps46
          go_wp2_with fail
          have hM := HM.out
          generalize w.alloc (.cells #[.string a, .string b, .string c] 50) = w1 at hM ⊢
          have HM0 : Hid (KS w w.heap.size a b c w1) := hM
          obtain ⟨m0, m1, m2, m3⟩ := hM
          go_wp2_with fail
          refine (HK.out _ _ HM0.out).mono ?_
          clear m0 m1 m2 m3
          rintro e w2 ⟨rfl, hM⟩
          have hMx := hM
          obtain ⟨m0, m1, m2, m3⟩ := hMx
          go_wp2_with fail
          clear m0 m1 m2 m3
          have HM1 : Hid (KS w w.heap.size a b c w2) := hM
          obtain ⟨m0, m1, m2, m3⟩ := hM
          refine (HK.out _ _ HM1.out).mono ?_
          clear m0 m1 m2 m3
          rintro e w3 ⟨rfl, hM⟩
          have hMx := hM
          obtain ⟨m0, m1, m2, m3⟩ := hMx
          go_wp2_with fail
          clear m0 m1 m2 m3
          have HM2 : Hid (KS w w.heap.size a b c w3) := hM
          obtain ⟨m0, m1, m2, m3⟩ := hM
          refine (HK.out _ _ HM2.out).mono ?_
          clear m0 m1 m2 m3
          rintro e w4 ⟨rfl, hM⟩
          have hMx := hM
          obtain ⟨m0, m1, m2, m3⟩ := hMx
          go_wp2_with fail
          clear m0 m1 m2 m3
          go_ret
          exact ⟨rfl, hM.2.2.2⟩
        · have fz : (((k c : Nat) : Int) != 0) = true := by simp; omega
          have fy : (((k b : Nat) : Int) == 1) = true := by simp [hy]
          have HV : Hid (sound3 (k a) (k b) (k c) = true) := by unfold Hid sound3; simp [hx1, hx2, hy, hz]
          rw [HV.out]
          go_enter Tryz.func46, Tryz.ntmps46
          go_wp2_with fail
          have hM := HM.out
          generalize w.alloc (.cells #[.string a, .string b, .string c] 50) = w1 at hM ⊢
          have HM0 : Hid (KS w w.heap.size a b c w1) := hM
          obtain ⟨m0, m1, m2, m3⟩ := hM
          go_wp2_with fail
          refine (HK.out _ _ HM0.out).mono ?_
          clear m0 m1 m2 m3
          rintro e w2 ⟨rfl, hM⟩
          have hMx := hM
          obtain ⟨m0, m1, m2, m3⟩ := hMx
          go_wp2_with fail
          clear m0 m1 m2 m3
          have HM1 : Hid (KS w w.heap.size a b c w2) := hM
          obtain ⟨m0, m1, m2, m3⟩ := hM
          refine (HK.out _ _ HM1.out).mono ?_
          clear m0 m1 m2 m3
          rintro e w3 ⟨rfl, hM⟩
          have hMx := hM
          obtain ⟨m0, m1, m2, m3⟩ := hMx
          go_wp2_with fail
          clear m0 m1 m2 m3
          have HM2 : Hid (KS w w.heap.size a b c w3) := hM
          obtain ⟨m0, m1, m2, m3⟩ := hM
          refine (HK.out _ _ HM2.out).mono ?_
          clear m0 m1 m2 m3
          rintro e w4 ⟨rfl, hM⟩
          have hMx := hM
          obtain ⟨m0, m1, m2, m3⟩ := hMx
          go_wp2_with fail
          clear m0 m1 m2 m3
          go_ret
          exact ⟨rfl, hM.2.2.2⟩
      · have fy : (((k b : Nat) : Int) == 1) = false := by simp; omega
        have HV : Hid (sound3 (k a) (k b) (k c) = false) := by unfold Hid sound3; simp [hx1, hx2, hy]
        rw [HV.out]
        go_enter Tryz.func46, Tryz.ntmps46
        go_wp2_with fail
        have hM := HM.out
        generalize w.alloc (.cells #[.string a, .string b, .string c] 50) = w1 at hM ⊢
        have HM0 : Hid (KS w w.heap.size a b c w1) := hM
        obtain ⟨m0, m1, m2, m3⟩ := hM
        go_wp2_with fail
        refine (HK.out _ _ HM0.out).mono ?_
        clear m0 m1 m2 m3
        rintro e w2 ⟨rfl, hM⟩
        have hMx := hM
        obtain ⟨m0, m1, m2, m3⟩ := hMx
        go_wp2_with fail
        clear m0 m1 m2 m3
        have HM1 : Hid (KS w w.heap.size a b c w2) := hM
        obtain ⟨m0, m1, m2, m3⟩ := hM
        refine (HK.out _ _ HM1.out).mono ?_
        clear m0 m1 m2 m3
        rintro e w3 ⟨rfl, hM⟩
        have hMx := hM
        obtain ⟨m0, m1, m2, m3⟩ := hMx
        go_wp2_with fail
        clear m0 m1 m2 m3
        have HM2 : Hid (KS w w.heap.size a b c w3) := hM
        obtain ⟨m0, m1, m2, m3⟩ := hM
        refine (HK.out _ _ HM2.out).mono ?_
        clear m0 m1 m2 m3
        rintro e w4 ⟨rfl, hM⟩
        have hMx := hM
        obtain ⟨m0, m1, m2, m3⟩ := hMx
        go_wp2_with fail
        clear m0 m1 m2 m3
        go_ret
        exact ⟨rfl, hM.2.2.2⟩
    · have fx2 : (((k a : Nat) : Int) == 2) = false := by simp; omega
      have HV : Hid (sound3 (k a) (k b) (k c) = false) := by unfold Hid sound3; simp [hx1, hx2]
      rw [HV.out]
      go_enter Tryz.func46, Tryz.ntmps46
      go_wp2_with fail
      have hM := HM.out
      generalize w.alloc (.cells #[.string a, .string b, .string c] 50) = w1 at hM ⊢
      have HM0 : Hid (KS w w.heap.size a b c w1) := hM
      obtain ⟨m0, m1, m2, m3⟩ := hM
      go_wp2_with fail
      refine (HK.out _ _ HM0.out).mono ?_
      clear m0 m1 m2 m3
      rintro e w2 ⟨rfl, hM⟩
      have hMx := hM
      obtain ⟨m0, m1, m2, m3⟩ := hMx
      go_wp2_with fail
      clear m0 m1 m2 m3
      have HM1 : Hid (KS w w.heap.size a b c w2) := hM
      obtain ⟨m0, m1, m2, m3⟩ := hM
      refine (HK.out _ _ HM1.out).mono ?_
      clear m0 m1 m2 m3
      rintro e w3 ⟨rfl, hM⟩
      have hMx := hM
      obtain ⟨m0, m1, m2, m3⟩ := hMx
      go_wp2_with fail
      clear m0 m1 m2 m3
      have HM2 : Hid (KS w w.heap.size a b c w3) := hM
      obtain ⟨m0, m1, m2, m3⟩ := hM
      refine (HK.out _ _ HM2.out).mono ?_
      clear m0 m1 m2 m3
      rintro e w4 ⟨rfl, hM⟩
      have hMx := hM
      obtain ⟨m0, m1, m2, m3⟩ := hMx
      go_wp2_with fail
      clear m0 m1 m2 m3
      go_ret
      exact ⟨rfl, hM.2.2.2⟩

end Go.Proofs.YtnffjoipinhojabGreatDoor

set_option linter.unusedSimpArgs false
set_option linter.unusedVariables false
namespace Go.Proofs.YtnffjoipinhojabGreatDoor

/-! The order of texts and of sentences, and sets, plainly. -/

theorem u8_lt {a b : UInt8} : a < b ↔ a.toNat < b.toNat := UInt8.lt_iff_toNat_lt

theorem cmpB_refl (a : List UInt8) : Lib.compareBytes a a = 0 := by
  induction a with
  | nil => rfl
  | cons x l ih =>
    simp only [Lib.compareBytes]
    rw [if_neg (by rw [u8_lt]; omega), if_neg (by rw [u8_lt]; omega), ih]

theorem cmpB_zero : ∀ {a b : List UInt8}, Lib.compareBytes a b = 0 → a = b
  | [], [], _ => rfl
  | [], _ :: _, h => by simp [Lib.compareBytes] at h
  | _ :: _, [], h => by simp [Lib.compareBytes] at h
  | x :: l, y :: m, h => by
    simp only [Lib.compareBytes] at h
    split at h
    · omega
    · split at h
      · omega
      · rename_i h1 h2
        rw [u8_lt] at h1 h2
        have e : x = y := UInt8.toNat_inj.1 (by omega)
        rw [e, cmpB_zero h]

theorem cmpB_neg : ∀ (a b : List UInt8), Lib.compareBytes b a = - Lib.compareBytes a b
  | [], [] => rfl
  | [], _ :: _ => rfl
  | _ :: _, [] => rfl
  | x :: l, y :: m => by
    simp only [Lib.compareBytes]
    by_cases h1 : x < y
    · rw [if_pos h1, if_neg (by rw [u8_lt] at h1 ⊢; omega), if_pos h1]
      rfl
    · by_cases h2 : y < x
      · rw [if_pos h2, if_neg h1, if_pos h2]
      · rw [if_neg h2, if_neg h1, if_neg h1, if_neg h2]
        exact cmpB_neg l m

theorem cmpB_range : ∀ (a b : List UInt8), Lib.compareBytes a b = -1 ∨ Lib.compareBytes a b = 0 ∨ Lib.compareBytes a b = 1
  | [], [] => Or.inr (Or.inl rfl)
  | [], _ :: _ => Or.inl rfl
  | _ :: _, [] => Or.inr (Or.inr rfl)
  | x :: l, y :: m => by
    simp only [Lib.compareBytes]
    split
    · exact Or.inl rfl
    · split
      · exact Or.inr (Or.inr rfl)
      · exact cmpB_range l m

theorem cmpB_trans : ∀ {a b c : List UInt8}, Lib.compareBytes a b < 0 → Lib.compareBytes b c < 0 → Lib.compareBytes a c < 0
  | [], [], _, h, _ => by simp [Lib.compareBytes] at h
  | [], _ :: _, [], _, h => by simp [Lib.compareBytes] at h
  | [], _ :: _, _ :: _, _, _ => by simp [Lib.compareBytes]
  | _ :: _, [], _, h, _ => by simp [Lib.compareBytes] at h
  | _ :: _, _ :: _, [], _, h => by simp [Lib.compareBytes] at h
  | x :: l, y :: m, z :: n, h1, h2 => by
    simp only [Lib.compareBytes] at h1 h2 ⊢
    simp only [u8_lt] at h1 h2 ⊢
    split at h1
    · split at h2
      · rw [if_pos (by omega)]; omega
      · split at h2
        · omega
        · rw [if_pos (by omega)]; omega
    · split at h1
      · omega
      · split at h2
        · rw [if_pos (by omega)]; omega
        · split at h2
          · omega
          · rw [if_neg (by omega), if_neg (by omega)]
            exact cmpB_trans h1 h2

theorem less_cmp : ∀ (a b : List UInt8), Op.bytesLess a b = decide (Lib.compareBytes a b < 0)
  | [], [] => rfl
  | [], _ :: _ => by simp [Op.bytesLess, Lib.compareBytes]
  | _ :: _, [] => by simp [Op.bytesLess, Lib.compareBytes]
  | x :: l, y :: m => by
    simp only [Op.bytesLess, Lib.compareBytes, less_cmp l m]
    by_cases h1 : x < y
    · simp [h1]
    · by_cases h2 : y < x
      · have hne : (x == y) = false := by
          rw [beq_eq_false_iff_ne]
          rintro rfl
          exact h1 h2
        simp [h1, h2, hne]
      · have e : x = y := by
          rw [u8_lt] at h1 h2
          exact UInt8.toNat_inj.1 (by omega)
        subst e
        simp [h1]

/-- sentences compared -/
def triCmp (x y : Tri) : Int :=
  if Lib.compareBytes x.s y.s ≠ 0 then Lib.compareBytes x.s y.s
  else if Lib.compareBytes x.p y.p ≠ 0 then Lib.compareBytes x.p y.p
  else Lib.compareBytes x.o y.o

theorem triCmp_refl (x : Tri) : triCmp x x = 0 := by
  unfold triCmp
  rw [cmpB_refl, cmpB_refl, cmpB_refl]
  rfl
theorem triCmp_zero {x y : Tri} (h : triCmp x y = 0) : x = y := by
  unfold triCmp at h
  split at h
  · omega
  · rename_i h1
    split at h
    · omega
    · rename_i h2
      have e1 := cmpB_zero (by simpa using h1)
      have e2 := cmpB_zero (by simpa using h2)
      have e3 := cmpB_zero h
      cases x with | mk a b c => cases y with | mk d e f => simp_all
theorem triCmp_neg (x y : Tri) : triCmp y x = - triCmp x y := by
  unfold triCmp
  rw [cmpB_neg x.s y.s, cmpB_neg x.p y.p, cmpB_neg x.o y.o]
  generalize Lib.compareBytes x.s y.s = c
  generalize Lib.compareBytes x.p y.p = d
  generalize Lib.compareBytes x.o y.o = e
  repeat' split
  all_goals omega
theorem triCmp_trans {x y z : Tri} (h1 : triCmp x y < 0) (h2 : triCmp y z < 0) : triCmp x z < 0 := by
  unfold triCmp at *
  have tr := fun {a b c : List UInt8} (p : Lib.compareBytes a b < 0) (q : Lib.compareBytes b c < 0) => cmpB_trans p q
  by_cases a1 : Lib.compareBytes x.s y.s = 0
  · rw [if_neg (by omega)] at h1
    rw [cmpB_zero a1]
    by_cases b1 : Lib.compareBytes y.s z.s = 0
    · rw [if_neg (by omega)] at h2
      rw [if_neg (by omega)]
      by_cases a2 : Lib.compareBytes x.p y.p = 0
      · rw [if_neg (by omega)] at h1
        rw [cmpB_zero a2]
        by_cases b2 : Lib.compareBytes y.p z.p = 0
        · rw [if_neg (by omega)] at h2
          rw [if_neg (by omega)]
          exact tr h1 h2
        · rw [if_pos b2] at h2
          rw [if_pos b2]
          exact h2
      · rw [if_pos a2] at h1
        by_cases b2 : Lib.compareBytes y.p z.p = 0
        · rw [← cmpB_zero b2, if_pos a2]
          exact h1
        · rw [if_pos b2] at h2
          have := tr h1 h2
          rw [if_pos (by omega)]
          exact this
    · rw [if_pos b1] at h2
      rw [if_pos b1]
      exact h2
  · rw [if_pos a1] at h1
    by_cases b1 : Lib.compareBytes y.s z.s = 0
    · rw [← cmpB_zero b1, if_pos a1]
      exact h1
    · rw [if_pos b1] at h2
      have := tr h1 h2
      rw [if_pos (by omega)]
      exact this

/-- rising -/
def Rising (l : List Tri) : Prop := l.Pairwise fun x y => triCmp x y < 0

/-- how many are ahead of t -/
def posT : List Tri → Tri → Nat
  | [], _ => 0
  | x :: l, t => if triCmp x t < 0 then posT l t + 1 else 0

theorem posT_le (l : List Tri) (t : Tri) : posT l t ≤ l.length := by
  induction l with
  | nil => exact Nat.le_refl _
  | cons x l ih =>
    unfold posT
    split
    · simp; omega
    · exact Nat.zero_le _

theorem posT_lt {l : List Tri} {t : Tri} {k : Nat} {x : Tri} (h : l[k]? = some x) (hk : k < posT l t) : triCmp x t < 0 := by
  induction l generalizing k with
  | nil => cases h
  | cons y l ih =>
    unfold posT at hk
    split at hk
    · rename_i hy
      cases k with
      | zero => simp at h; rw [← h]; exact hy
      | succ k => exact ih (by simpa using h) (by omega)
    · omega

theorem posT_ge {l : List Tri} {t : Tri} (hr : Rising l) {k : Nat} {x : Tri} (h : l[k]? = some x) (hk : posT l t ≤ k) : ¬ triCmp x t < 0 := by
  induction l generalizing k with
  | nil => cases h
  | cons y l ih =>
    unfold Rising at hr
    rw [List.pairwise_cons] at hr
    unfold posT at hk
    split at hk
    · rename_i hy
      cases k with
      | zero => omega
      | succ k => exact ih hr.2 (by simpa using h) (by omega)
    · rename_i hy
      cases k with
      | zero => simp at h; rw [← h]; exact hy
      | succ k =>
        intro hx
        have hm : x ∈ l := List.mem_of_getElem? (by simpa using h)
        exact hy (triCmp_trans (hr.1 x hm) hx)

/-- where a search ends is how many are ahead -/
theorem posT_eq {l : List Tri} {t : Tri} (hr : Rising l) {q : Nat} (hq : q ≤ l.length) (h1 : ∀ k x, l[k]? = some x → k < q → triCmp x t < 0) (h2 : ∀ k x, l[k]? = some x → q ≤ k → ¬ triCmp x t < 0) : q = posT l t := by
  have hp := posT_le l t
  rcases Nat.lt_trichotomy q (posT l t) with h | h | h
  · have hl : q < l.length := by omega
    exact absurd (posT_lt (List.getElem?_eq_getElem hl) h) (h2 q _ (List.getElem?_eq_getElem hl) (Nat.le_refl _))
  · exact h
  · have hl : posT l t < l.length := by omega
    exact absurd (h1 _ _ (List.getElem?_eq_getElem hl) h) (posT_ge hr (List.getElem?_eq_getElem hl) (Nat.le_refl _))

/-- is it there? -/
def there (l : List Tri) (t : Tri) : Prop := l[posT l t]? = some t

/-- a sentence put where it belongs -/
def ins (l : List Tri) (t : Tri) : List Tri := l.take (posT l t) ++ t :: l.drop (posT l t)

theorem ins_len (l : List Tri) (t : Tri) : (ins l t).length = l.length + 1 := by
  have := posT_le l t
  unfold ins
  rw [List.length_append, List.length_take, List.length_cons, List.length_drop]
  omega

theorem ins_rising {l : List Tri} {t : Tri} (hr : Rising l) (ht : ¬ there l t) : Rising (ins l t) := by
  unfold Rising ins
  have hd := hr
  unfold Rising at hd
  rw [← List.take_append_drop (posT l t) l, List.pairwise_append] at hd
  rw [List.pairwise_append, List.pairwise_cons]
  have hlow : ∀ x ∈ l.take (posT l t), triCmp x t < 0 := by
    intro x hx
    obtain ⟨k, hk⟩ := List.getElem?_of_mem hx
    rw [List.getElem?_take] at hk
    split at hk
    · exact posT_lt hk (by assumption)
    · cases hk
  have hhigh : ∀ x ∈ l.drop (posT l t), triCmp t x < 0 := by
    intro x hx
    obtain ⟨k, hk⟩ := List.getElem?_of_mem hx
    rw [List.getElem?_drop] at hk
    have hge := posT_ge (t := t) hr hk (by omega)
    have hn := triCmp_neg x t
    by_cases h0 : triCmp x t = 0
    · exfalso
      have e := triCmp_zero h0
      subst e
      cases k with
      | zero => exact ht (by unfold there; simpa using hk)
      | succ k =>
        have hl : posT l x < l.length := by
          have := (List.getElem?_eq_some_iff.1 hk).1
          omega
        have h1 := posT_ge hr (List.getElem?_eq_getElem hl) (Nat.le_refl (posT l x))
        have h2 : triCmp l[posT l x] x < 0 := by
          unfold Rising at hr
          rw [List.pairwise_iff_getElem] at hr
          have hk2 := List.getElem?_eq_some_iff.1 hk
          have := hr (posT l x) (posT l x + (k + 1)) hl hk2.1 (by omega)
          rw [hk2.2] at this
          exact this
        exact h1 h2
    · omega
  refine ⟨hd.1, ⟨hhigh, hd.2.1⟩, ?_⟩
  intro x hx y hy
  rcases List.mem_cons.1 hy with rfl | hy
  · exact hlow x hx
  · exact triCmp_trans (hlow x hx) (hhigh y hy)

/-- is it there? as a test -/
def thereB (l : List Tri) (t : Tri) : Bool := match l[posT l t]? with
  | some x => decide (triCmp x t = 0)
  | none => false
theorem thereB_iff {l : List Tri} {t : Tri} : thereB l t = true ↔ there l t := by
  unfold thereB there
  cases h : l[posT l t]? with
  | none => simp
  | some x =>
    simp only [decide_eq_true_eq, Option.some.injEq]
    exact ⟨triCmp_zero, fun e => by rw [e]; exact triCmp_refl t⟩

/-- the set of a list; none: more than a set may have -/
def rise : List Tri → List Tri → Option (List Tri)
  | set, [] => some set
  | set, t :: r => if thereB set t = true then rise set r else if set.length = 300 then none else rise (ins set t) r

end Go.Proofs.YtnffjoipinhojabGreatDoor

namespace Go.Proofs.YtnffjoipinhojabGreatDoor
open Go.RowKit

/-- a sentence as a value -/
abbrev triV (t : Tri) : Value := .agg #[str t.s, str t.p, str t.o]

theorem beq_cmp (a b : List UInt8) : (a == b) = decide (Lib.compareBytes a b = 0) := by
  rw [Bool.eq_iff_iff, beq_iff_eq, decide_eq_true_iff]
  exact ⟨fun e => by rw [e]; exact cmpB_refl b, cmpB_zero⟩

set_option maxHeartbeats 1000000 in
theorem Ref.before_any (w : World) (x y : Tri) :
    Calls Tryz.prog 83 #[triV x, triV y] w fun e w' => e = .returned (.bool (decide (triCmp x y < 0))) ∧ Below w.heap.size w w' := by
  obtain ⟨X1, h1⟩ : ∃ V : ByteArray, V = ⟨x.s.toArray⟩ := ⟨_, rfl⟩
  obtain ⟨X2, h2⟩ : ∃ V : ByteArray, V = ⟨x.p.toArray⟩ := ⟨_, rfl⟩
  obtain ⟨X3, h3⟩ : ∃ V : ByteArray, V = ⟨x.o.toArray⟩ := ⟨_, rfl⟩
  obtain ⟨Y1, k1⟩ : ∃ V : ByteArray, V = ⟨y.s.toArray⟩ := ⟨_, rfl⟩
  obtain ⟨Y2, k2⟩ : ∃ V : ByteArray, V = ⟨y.p.toArray⟩ := ⟨_, rfl⟩
  obtain ⟨Y3, k3⟩ : ∃ V : ByteArray, V = ⟨y.o.toArray⟩ := ⟨_, rfl⟩
  have e1 : X1.toList = x.s := by rw [h1, ByteArray.toList_mk]
  have e2 : X2.toList = x.p := by rw [h2, ByteArray.toList_mk]
  have e3 : X3.toList = x.o := by rw [h3, ByteArray.toList_mk]
  have f1 : Y1.toList = y.s := by rw [k1, ByteArray.toList_mk]
  have f2 : Y2.toList = y.p := by rw [k2, ByteArray.toList_mk]
  have f3 : Y3.toList = y.o := by rw [k3, ByteArray.toList_mk]
  have HVx : (triV x) = .agg #[.string X1, .string X2, .string X3] := by rw [h1, h2, h3]
  have HVy : (triV y) = .agg #[.string Y1, .string Y2, .string Y3] := by rw [k1, k2, k3]
  have hB : Below w.heap.size w ((w.alloc (.cells #[.string X1, .string X2, .string X3] 50)).alloc (.cells #[.string Y1, .string Y2, .string Y3] 50)) := ((Below.refl _ w).alloc (Nat.le_refl _) _).alloc (by simp) _
  have HBw : Hid (Below w.heap.size w ((w.alloc (.cells #[.string X1, .string X2, .string X3] 50)).alloc (.cells #[.string Y1, .string Y2, .string Y3] 50))) := hB
  rw [HVx, HVy]
  by_cases c1 : Lib.compareBytes x.s y.s = 0
  · have q1 : (X1.toList == Y1.toList) = true := by rw [e1, f1, beq_cmp]; simpa using c1
    by_cases c2 : Lib.compareBytes x.p y.p = 0
    · have q2 : (X2.toList == Y2.toList) = true := by rw [e2, f2, beq_cmp]; simpa using c2
      have HR : Hid (decide (triCmp x y < 0) = Op.bytesLess X3.toList Y3.toList) := by
        unfold Hid triCmp
        rw [if_neg (by omega), if_neg (by omega), e3, f3, less_cmp]
      rw [HR.out]
      clear h1 h2 h3 k1 k2 k3 e1 e2 e3 f1 f2 f3 HVx HVy hB c1 c2
      go_enter Tryz.func83, Tryz.ntmps83
      go_wp2
      go_ret
      exact ⟨rfl, HBw.out⟩
    · have q2 : (X2.toList == Y2.toList) = false := by rw [e2, f2, beq_cmp]; simpa using c2
      have HR : Hid (decide (triCmp x y < 0) = Op.bytesLess X2.toList Y2.toList) := by
        unfold Hid triCmp
        rw [if_neg (by omega), if_pos c2, e2, f2, less_cmp]
      rw [HR.out]
      clear h1 h2 h3 k1 k2 k3 e1 e2 e3 f1 f2 f3 HVx HVy hB c1 c2
      go_enter Tryz.func83, Tryz.ntmps83
      go_wp2
      go_ret
      exact ⟨rfl, HBw.out⟩
  · have q1 : (X1.toList == Y1.toList) = false := by rw [e1, f1, beq_cmp]; simpa using c1
    have HR : Hid (decide (triCmp x y < 0) = Op.bytesLess X1.toList Y1.toList) := by
      unfold Hid triCmp
      rw [if_pos c1, e1, f1, less_cmp]
    rw [HR.out]
    clear h1 h2 h3 k1 k2 k3 e1 e2 e3 f1 f2 f3 HVx HVy hB c1
    go_enter Tryz.func83, Tryz.ntmps83
    go_wp2
    go_ret
    exact ⟨rfl, HBw.out⟩

theorem compareS_any (a b : ByteArray) (w : World) :
    Calls Tryz.prog 113 #[.string a, .string b] w fun e w' => e = .returned (.int .i64 (Lib.compareBytes a.data.toList b.data.toList)) ∧ w' = w := Any.strings_Compare Tryz.lays106 a b w

/-- the first that is not 0 -/
def orI (x y z : Int) : Int := if x ≠ 0 then x else if y ≠ 0 then y else z

set_option maxHeartbeats 1000000 in
theorem or_any (w : World) (m : Nat) (x y z : Int) (hx : w.cell? ⟨m, 0, none⟩ = some (.int .i64 x)) (hy : w.cell? ⟨m, 1, none⟩ = some (.int .i64 y)) (hz : w.cell? ⟨m, 2, none⟩ = some (.int .i64 z)) :
    Calls Tryz.prog 112 #[.slice (some ⟨m, 0, none⟩) 3 3] w fun e w' => e = .returned (.int .i64 (orI x y z)) ∧ w' = w := by
  obtain ⟨f, hf⟩ : ∃ f : Nat → Int, f = fun k => if k = 0 then x else if k = 1 then y else z := ⟨_, rfl⟩
  have hc : ∀ k, k < 3 → w.cell? ⟨m, k, none⟩ = some (.int .i64 (f k)) := by
    intro k hk
    rw [hf]
    rcases (by omega : k = 0 ∨ k = 1 ∨ k = 2) with rfl | rfl | rfl
    · exact hx
    · exact hy
    · exact hz
  have HR : Hid (∀ k, k ≤ 3 → (∀ i, i < k → f i = 0) → k < 3 → f k ≠ 0 → f k = orI x y z) := by
    intro k hk hz0 hlt hne
    rw [hf] at hz0 hne ⊢
    unfold orI
    rcases (by omega : k = 0 ∨ k = 1 ∨ k = 2) with rfl | rfl | rfl
    · simp at hne ⊢; intro h; exact absurd h hne
    · have := hz0 0 (by omega); simp at this hne ⊢; simp [this, hne]
    · have h0 := hz0 0 (by omega); have h1 := hz0 1 (by omega); simp at h0 h1 hne ⊢; simp [h0, h1]
  have HE : Hid ((∀ i, i < 3 → f i = 0) → orI x y z = 0) := by
    intro h
    have h0 := h 0 (by omega); have h1 := h 1 (by omega); have h2 := h 2 (by omega)
    rw [hf] at h0 h1 h2
    simp at h0 h1 h2
    unfold orI
    simp [h0, h1, h2]
  have HC : Hid (∀ k, k < 3 → w.cell? ⟨m, k, none⟩ = some (.int .i64 (f k))) := hc
  clear hf hx hy hz hc
  go_enter Tryz.func112, Tryz.ntmps112
  go_wp2_with fail
  go_loop [8] (fun t8 => ∃ q : Nat, q ≤ 3 ∧ t8 = .int .i64 q ∧ ∀ i, i < q → f i = 0) (fun t8 => 3 - (intOf t8).toNat)
  case atStart => exact ⟨0, by omega, rfl, fun i h => by omega⟩
  case round =>
    obtain ⟨q, hq, rfl, hz0⟩ := hrel
    by_cases hlt : q < 3
    · have hcq := HC.out q hlt
      by_cases hne : f q = 0
      · rw [hne] at hcq
        go_wp2_with fail
        go_round
        case rel => exact ⟨q + 1, by omega, by go_num, fun i hi => by rcases Nat.lt_succ_iff_lt_or_eq.1 hi with h | h; exact hz0 i h; rw [h]; exact hne⟩
        case measure => simp [intOf]; omega
      · have HV : Hid (f q = orI x y z) := HR.out q hq hz0 hlt hne
        have hb : (f q != 0) = true := by simpa using hne
        clear HR HE hz0 HC
        generalize f q = v at *
        go_wp2_with fail
        go_ret
        exact ⟨ret_int HV.out, rfl⟩
    · obtain rfl : q = 3 := by omega
      have HV : Hid (orI x y z = 0) := HE.out hz0
      clear HR HE hz0
      go_wp2_with fail
      go_ret
      exact ⟨ret_int HV.out.symm, rfl⟩

end Go.Proofs.YtnffjoipinhojabGreatDoor

namespace Go.Proofs.YtnffjoipinhojabGreatDoor
open Go.RowKit

set_option maxHeartbeats 4000000 in
set_option maxRecDepth 20000 in
theorem compare_any (w : World) (x y : Tri) :
    Calls Tryz.prog 67 #[triV x, triV y] w fun e w' => e = .returned (.int .i64 (triCmp x y)) ∧ Below w.heap.size w w' := by
  obtain ⟨X1, h1⟩ : ∃ V : ByteArray, V = ⟨x.s.toArray⟩ := ⟨_, rfl⟩
  obtain ⟨X2, h2⟩ : ∃ V : ByteArray, V = ⟨x.p.toArray⟩ := ⟨_, rfl⟩
  obtain ⟨X3, h3⟩ : ∃ V : ByteArray, V = ⟨x.o.toArray⟩ := ⟨_, rfl⟩
  obtain ⟨Y1, k1⟩ : ∃ V : ByteArray, V = ⟨y.s.toArray⟩ := ⟨_, rfl⟩
  obtain ⟨Y2, k2⟩ : ∃ V : ByteArray, V = ⟨y.p.toArray⟩ := ⟨_, rfl⟩
  obtain ⟨Y3, k3⟩ : ∃ V : ByteArray, V = ⟨y.o.toArray⟩ := ⟨_, rfl⟩
  have HVx : (triV x) = .agg #[.string X1, .string X2, .string X3] := by rw [h1, h2, h3]
  have HVy : (triV y) = .agg #[.string Y1, .string Y2, .string Y3] := by rw [k1, k2, k3]
  have HR : Hid (triCmp x y = orI (Lib.compareBytes X1.data.toList Y1.data.toList) (Lib.compareBytes X2.data.toList Y2.data.toList) (Lib.compareBytes X3.data.toList Y3.data.toList)) := by
    unfold Hid triCmp orI
    rw [h1, h2, h3, k1, k2, k3]
  have HC : Hid (∀ (a b : ByteArray) (w : World), Calls Tryz.prog 113 #[.string a, .string b] w fun e w' => e = .returned (.int .i64 (Lib.compareBytes a.data.toList b.data.toList)) ∧ w' = w) := compareS_any
  obtain ⟨wA, hwA⟩ : ∃ wA, wA = (w.alloc (.cells #[.string X1, .string X2, .string X3] 44)).alloc (.cells #[.string Y1, .string Y2, .string Y3] 44) := ⟨_, rfl⟩
  have hB : Below w.heap.size w wA := by rw [hwA]; exact ((Below.refl _ w).alloc (Nat.le_refl _) _).alloc (by simp) _
  have HB : Hid (Below w.heap.size w wA) := hB
  have b0 : wA.heap[w.heap.size]? = some (.cells #[.string X1, .string X2, .string X3] 44) := by rw [hwA, Below.heap_alloc _ _ _ (by simp)]; exact heap_new _ _
  have b1 : wA.heap[w.heap.size + 1]? = some (.cells #[.string Y1, .string Y2, .string Y3] 44) := by
    rw [hwA]
    have := heap_new (w.alloc (.cells #[.string X1, .string X2, .string X3] 44)) (.cells #[.string Y1, .string Y2, .string Y3] 44)
    simpa using this
  have HWA : Hid (wA = (w.alloc (.cells #[.string X1, .string X2, .string X3] 44)).alloc (.cells #[.string Y1, .string Y2, .string Y3] 44)) := hwA
  have m0 : wA.cell? ⟨w.heap.size, 0, none⟩ = some (.string X1) := by rw [Lib.cell_of_heap b0]; rfl
  have m1 : wA.cell? ⟨w.heap.size, 1, none⟩ = some (.string X2) := by rw [Lib.cell_of_heap b0]; rfl
  have m2 : wA.cell? ⟨w.heap.size, 2, none⟩ = some (.string X3) := by rw [Lib.cell_of_heap b0]; rfl
  have n0 : wA.cell? ⟨w.heap.size + 1, 0, none⟩ = some (.string Y1) := by rw [Lib.cell_of_heap b1]; rfl
  have n1 : wA.cell? ⟨w.heap.size + 1, 1, none⟩ = some (.string Y2) := by rw [Lib.cell_of_heap b1]; rfl
  have n2 : wA.cell? ⟨w.heap.size + 1, 2, none⟩ = some (.string Y3) := by rw [Lib.cell_of_heap b1]; rfl
  have HOr : Hid (∀ c1 c2 c3 : Int, Calls Tryz.prog 112 #[.slice (some ⟨wA.heap.size, 0, none⟩) 3 3] ((wA.alloc (.cells #[.int .i64 c1, .int .i64 c2, .int .i64 c3] 3)).drew) fun e w' => e = .returned (.int .i64 (orI c1 c2 c3)) ∧ w' = (wA.alloc (.cells #[.int .i64 c1, .int .i64 c2, .int .i64 c3] 3)).drew) := by
    intro c1 c2 c3
    have hh : ((wA.alloc (.cells #[.int .i64 c1, .int .i64 c2, .int .i64 c3] 3)).drew).heap[wA.heap.size]? = some (.cells #[.int .i64 c1, .int .i64 c2, .int .i64 c3] 3) := heap_new _ _
    exact or_any _ wA.heap.size c1 c2 c3 (by rw [Lib.cell_of_heap hh]; rfl) (by rw [Lib.cell_of_heap hh]; rfl) (by rw [Lib.cell_of_heap hh]; rfl)
  rw [HVx, HVy, HR.out]
  clear h1 h2 h3 k1 k2 k3 HVx HVy HR hwA b0 b1
  go_enter Tryz.func67, Tryz.ntmps67
  go_wp2_with fail
  rw [← HWA.out]
  have hlt0 : w.heap.size < wA.heap.size := World.block_lt_of_cell? wA ⟨_, _, none⟩ m0
  have hlt1 : w.heap.size + 1 < wA.heap.size := World.block_lt_of_cell? wA ⟨_, _, none⟩ n0
  clear HWA
  go_region_held3 (fun w' => w'.cell? ⟨w.heap.size, 0, none⟩ = some (.string X1) ∧ w'.cell? ⟨w.heap.size, 1, none⟩ = some (.string X2) ∧ w'.cell? ⟨w.heap.size, 2, none⟩ = some (.string X3) ∧ w'.cell? ⟨w.heap.size + 1, 0, none⟩ = some (.string Y1) ∧ w'.cell? ⟨w.heap.size + 1, 1, none⟩ = some (.string Y2) ∧ w'.cell? ⟨w.heap.size + 1, 2, none⟩ = some (.string Y3)) (first | assumption | exact ⟨m0, m1, m2, n0, n1, n2⟩ | go_keep) (first | (go_at_call 113; refine (HC.out _ _ _).mono ?_; rintro e w2 ⟨rfl, rfl⟩) | (go_at_call 112; refine (HOr.out _ _ _).mono ?_; rintro e w3 ⟨rfl, rfl⟩))
  all_goals go_wp2_with fail
  all_goals go_ret
  all_goals exact ⟨rfl, by first | exact (HB.out.alloc (by omega) _).drew | exact ((HB.out.alloc (by omega) _).drew).drew | exact HB.out.drew.alloc (by simp; omega) _⟩

end Go.Proofs.YtnffjoipinhojabGreatDoor

namespace Go.Proofs.YtnffjoipinhojabGreatDoor
open Go.RowKit

/-- the sentences l lie in block g -/
def Lies (w : World) (g : Nat) (l : List Tri) : Prop := ∀ k x, l[k]? = some x → w.cell? ⟨g, k * 3, none⟩ = some (str x.s) ∧ w.cell? ⟨g, k * 3 + 1, none⟩ = some (str x.p) ∧ w.cell? ⟨g, k * 3 + 2, none⟩ = some (str x.o)

theorem Lies.below {w w' : World} {g : Nat} {l : List Tri} {B : Nat} (h : Lies w g l) (hg : g < B) (hb : Below B w w') : Lies w' g l := fun k x hk => by
  obtain ⟨h1, h2, h3⟩ := h k x hk
  exact ⟨(hb.cell (p := ⟨g, _, none⟩) hg).trans h1, (hb.cell (p := ⟨g, _, none⟩) hg).trans h2, (hb.cell (p := ⟨g, _, none⟩) hg).trans h3⟩

theorem rise_lo {l : List Tri} {t : Tri} (hr : Rising l) {h : Nat} {x : Tri} (hx : l[h]? = some x) (hc : triCmp x t < 0) {k : Nat} {y : Tri} (hy : l[k]? = some y) (hk : k ≤ h) : triCmp y t < 0 := by
  rcases Nat.lt_or_eq_of_le hk with hlt | rfl
  · unfold Rising at hr
    rw [List.pairwise_iff_getElem] at hr
    have h1 := List.getElem?_eq_some_iff.1 hx
    have h2 := List.getElem?_eq_some_iff.1 hy
    have := hr k h h2.1 h1.1 hlt
    rw [h1.2, h2.2] at this
    exact triCmp_trans this hc
  · rw [hx] at hy
    cases hy
    exact hc
theorem rise_hi {l : List Tri} {t : Tri} (hr : Rising l) {h : Nat} {x : Tri} (hx : l[h]? = some x) (hc : ¬ triCmp x t < 0) {k : Nat} {y : Tri} (hy : l[k]? = some y) (hk : h ≤ k) : ¬ triCmp y t < 0 :=
  fun hlt => hc (rise_lo hr hy hlt hx hk)

/-- two sentences' cells, and nothing older touched -/
def ES (w : World) (g h : Nat) (x : Tri) (a b c : ByteArray) (w' : World) : Prop :=
  w'.cell? ⟨g, h * 3, none⟩ = some (str x.s) ∧ w'.cell? ⟨g, h * 3 + 1, none⟩ = some (str x.p) ∧ w'.cell? ⟨g, h * 3 + 2, none⟩ = some (str x.o) ∧ w'.cell? ⟨w.heap.size, 0, none⟩ = some (.string a) ∧ w'.cell? ⟨w.heap.size, 1, none⟩ = some (.string b) ∧ w'.cell? ⟨w.heap.size, 2, none⟩ = some (.string c) ∧ Below w.heap.size w w'

theorem ES.ks {w w' : World} {g h : Nat} {x : Tri} {a b c : ByteArray} (e : ES w g h x a b c w') : KS w w.heap.size a b c w' := ⟨e.2.2.2.1, e.2.2.2.2.1, e.2.2.2.2.2.1, e.2.2.2.2.2.2⟩

theorem ES.on {w w1 w2 : World} {g h : Nat} {x : Tri} {a b c : ByteArray} (e : ES w g h x a b c w1) (hb : Below w1.heap.size w1 w2) : ES w g h x a b c w2 := by
  obtain ⟨e0, e1, e2, f0, f1, f2, e3⟩ := e
  have hg : g < w1.heap.size := World.block_lt_of_cell? w1 ⟨_, _, none⟩ e0
  have hn : w.heap.size < w1.heap.size := World.block_lt_of_cell? w1 ⟨_, _, none⟩ f0
  exact ⟨(hb.cell (p := ⟨g, _, none⟩) hg).trans e0, (hb.cell (p := ⟨g, _, none⟩) hg).trans e1, (hb.cell (p := ⟨g, _, none⟩) hg).trans e2, (hb.cell (p := ⟨_, _, none⟩) hn).trans f0, (hb.cell (p := ⟨_, _, none⟩) hn).trans f1, (hb.cell (p := ⟨_, _, none⟩) hn).trans f2, e3.trans (hb.mono e3.size)⟩

set_option maxHeartbeats 4000000 in
set_option maxRecDepth 20000 in
/-- slices.BinarySearchFunc over sentences that rise -/
theorem search_any (w : World) (g cap : Nat) (l : List Tri) (t : Tri) (hr : Rising l) (hg : g < w.heap.size) (hL : Lies w g l) (hn : l.length ≤ 1099511627776) :
    Calls Tryz.prog 66 #[.slice (some ⟨g, 0, none⟩) l.length cap, triV t, fnV 67 #[]] w fun e w' =>
      e = .returned (.tuple #[.int .i64 (posT l t), .bool (thereB l t)]) ∧ Below w.heap.size w w' := by
  obtain ⟨Y1, k1⟩ : ∃ V : ByteArray, V = ⟨t.s.toArray⟩ := ⟨_, rfl⟩
  obtain ⟨Y2, k2⟩ : ∃ V : ByteArray, V = ⟨t.p.toArray⟩ := ⟨_, rfl⟩
  obtain ⟨Y3, k3⟩ : ∃ V : ByteArray, V = ⟨t.o.toArray⟩ := ⟨_, rfl⟩
  have HVy : (triV t) = .agg #[.string Y1, .string Y2, .string Y3] := by rw [k1, k2, k3]
  have eg : ∀ args w, (callFunc 67 args).run Tryz.prog w = .ok (.enter 67 args) w := enters_of Tryz.func67 (by kernel_rfl) rfl
  have HCm : Hid (∀ (x : Tri) (h : Nat) (w1 : World), ES w g h x Y1 Y2 Y3 w1 → Calls Tryz.prog 67 #[.agg #[str x.s, str x.p, str x.o], .agg #[.string Y1, .string Y2, .string Y3]] w1 fun e w' => e = .returned (.int .i64 (triCmp x t)) ∧ ES w g h x Y1 Y2 Y3 w') := by
    intro x h w1 he
    have := compare_any w1 x t
    rw [HVy] at this
    refine this.mono ?_
    rintro e w2 ⟨rfl, hb2⟩
    exact ⟨rfl, he.on hb2⟩
  have HL : Hid (Lies w g l) := hL
  have HP : Hid (∀ q, q ≤ l.length → (∀ k x, l[k]? = some x → k < q → triCmp x t < 0) → (∀ k x, l[k]? = some x → q ≤ k → 0 ≤ triCmp x t) → q = posT l t) := fun q h0 h1 h2 => posT_eq hr h0 h1 fun k x hk hq => Int.not_lt.2 (h2 k x hk hq)
  have HR : Hid (Rising l) := hr
  have HM : Hid (KS w w.heap.size Y1 Y2 Y3 (w.alloc (.cells #[.string Y1, .string Y2, .string Y3] 44))) := KS.mk w Y1 Y2 Y3 _
  rw [HVy]
  clear hr hL k1 k2 k3 HVy
  go_enter Tryz.func66, Tryz.ntmps66
  go_wp2_with fail
  go_loopw [9, 10] (fun t9 t10 wr => ∃ a e : Nat, a ≤ e ∧ e ≤ l.length ∧ t9 = .int .i64 a ∧ t10 = .int .i64 e ∧ KS w w.heap.size Y1 Y2 Y3 wr ∧ (∀ k x, l[k]? = some x → k < a → triCmp x t < 0) ∧ (∀ k x, l[k]? = some x → e ≤ k → 0 ≤ triCmp x t)) (fun t9 t10 wr => (intOf t10).toNat - (intOf t9).toNat)
  case atStart => exact ⟨0, l.length, by omega, by omega, rfl, rfl, HM.out, fun k x _ h => by omega, fun k x h h2 => by have := (List.getElem?_eq_some_iff.1 h).1; omega⟩
  case round =>
    obtain ⟨a, e, hae, hel, rfl, rfl, hK, hlo, hhi⟩ := hrel
    have HK : Hid (KS w w.heap.size Y1 Y2 Y3 wr) := hK
    have HLO : Hid (∀ k x, l[k]? = some x → k < a → triCmp x t < 0) := hlo
    have HHI : Hid (∀ k x, l[k]? = some x → e ≤ k → 0 ≤ triCmp x t) := hhi
    clear hlo hhi
    by_cases hlt : a < e
    · obtain ⟨h, hh⟩ : ∃ h, h = (a + e) / 2 := ⟨_, rfl⟩
      have hha : a ≤ h := by omega
      have hhe : h < e := by omega
      have hhl : h < l.length := by omega
      have hh2 : ((a : Int) + (e : Int)) / 2 = (h : Int) := by omega
      clear hh
      obtain ⟨x, hx⟩ : ∃ x, l[h]? = some x := ⟨_, List.getElem?_eq_getElem hhl⟩
      have hLr := (HL.out.below hg HK.out.low) h x hx
      obtain ⟨q0, q1, q2⟩ := hLr
      obtain ⟨m0, m1, m2, m3⟩ := hK
      by_cases hc : triCmp x t < 0
      · have HLO2 : Hid (∀ k y, l[k]? = some y → k < h + 1 → triCmp y t < 0) := fun k y hy hk => rise_lo HR.out hx hc hy (by omega)
        clear hx
        go_wp2_with fail
        go_region_held3 (fun w' => w'.cell? ⟨g, h * 3, none⟩ = some (str x.s) ∧ w'.cell? ⟨g, h * 3 + 1, none⟩ = some (str x.p) ∧ w'.cell? ⟨g, h * 3 + 2, none⟩ = some (str x.o) ∧ w'.cell? ⟨w.heap.size, 0, none⟩ = some (.string Y1) ∧ w'.cell? ⟨w.heap.size, 1, none⟩ = some (.string Y2) ∧ w'.cell? ⟨w.heap.size, 2, none⟩ = some (.string Y3) ∧ Below w.heap.size w w') (first | assumption | exact ⟨q0, q1, q2, m0, m1, m2, m3⟩ | exact ⟨q0, q1, q2, m0, m1, m2, m3.drew⟩) (first | (go_at_fn 67; refine (HCm.out x h _ (by first | assumption | exact ⟨by assumption, by assumption, by assumption, by assumption, by assumption, by assumption, by first | assumption | exact m3.drew⟩)).mono ?_; rintro e2 w2 ⟨rfl, hS⟩))
        all_goals go_wp2_with fail
        go_roundw
        case rel => exact ⟨h + 1, e, by omega, by omega, by go_num, rfl, ES.ks (by assumption), HLO2.out, HHI.out⟩
        case measure => simp [intOf]; omega
      · have HHI2 : Hid (∀ k y, l[k]? = some y → h ≤ k → 0 ≤ triCmp y t) := fun k y hy hk => Int.not_lt.1 (rise_hi HR.out hx hc hy hk)
        clear hx
        go_wp2_with fail
        go_region_held3 (fun w' => w'.cell? ⟨g, h * 3, none⟩ = some (str x.s) ∧ w'.cell? ⟨g, h * 3 + 1, none⟩ = some (str x.p) ∧ w'.cell? ⟨g, h * 3 + 2, none⟩ = some (str x.o) ∧ w'.cell? ⟨w.heap.size, 0, none⟩ = some (.string Y1) ∧ w'.cell? ⟨w.heap.size, 1, none⟩ = some (.string Y2) ∧ w'.cell? ⟨w.heap.size, 2, none⟩ = some (.string Y3) ∧ Below w.heap.size w w') (first | assumption | exact ⟨q0, q1, q2, m0, m1, m2, m3⟩ | exact ⟨q0, q1, q2, m0, m1, m2, m3.drew⟩) (first | (go_at_fn 67; refine (HCm.out x h _ (by first | assumption | exact ⟨by assumption, by assumption, by assumption, by assumption, by assumption, by assumption, by first | assumption | exact m3.drew⟩)).mono ?_; rintro e2 w2 ⟨rfl, hS⟩))
        all_goals go_wp2_with fail
        go_roundw
        case rel => exact ⟨a, h, by omega, by omega, rfl, rfl, ES.ks (by assumption), HLO.out, HHI2.out⟩
        case measure => simp [intOf]; omega
    · obtain rfl : a = e := by omega
      have HQ : Hid (posT l t = a) := (HP.out a hel HLO.out HHI.out).symm
      by_cases hla : a < l.length
      · obtain ⟨x, hx⟩ : ∃ x, l[a]? = some x := ⟨_, List.getElem?_eq_getElem hla⟩
        have HT : Hid (thereB l t = decide (triCmp x t = 0)) := by unfold Hid thereB; rw [HQ.out, hx]
        obtain ⟨q0, q1, q2⟩ := (HL.out.below hg HK.out.low) a x hx
        obtain ⟨m0, m1, m2, m3⟩ := hK
        clear hx HP HR HLO HHI
        by_cases hc : triCmp x t = 0
        · have hcb : (triCmp x t == 0) = true := by simpa using hc
          have HT2 : Hid (thereB l t = true) := by unfold Hid; rw [HT.out]; simpa using hc
          go_wp2_with fail
          go_region_held3 (fun w' => w'.cell? ⟨g, a * 3, none⟩ = some (str x.s) ∧ w'.cell? ⟨g, a * 3 + 1, none⟩ = some (str x.p) ∧ w'.cell? ⟨g, a * 3 + 2, none⟩ = some (str x.o) ∧ w'.cell? ⟨w.heap.size, 0, none⟩ = some (.string Y1) ∧ w'.cell? ⟨w.heap.size, 1, none⟩ = some (.string Y2) ∧ w'.cell? ⟨w.heap.size, 2, none⟩ = some (.string Y3) ∧ Below w.heap.size w w') (first | assumption | exact ⟨q0, q1, q2, m0, m1, m2, m3⟩ | exact ⟨q0, q1, q2, m0, m1, m2, m3.drew⟩) (first | (go_at_fn 67; refine (HCm.out x a _ (by first | assumption | exact ⟨by assumption, by assumption, by assumption, by assumption, by assumption, by assumption, by first | assumption | exact m3.drew⟩)).mono ?_; rintro e2 w2 ⟨rfl, hS⟩))
          all_goals go_wp2_with fail
          all_goals refine bodyPost_ret (v := .tuple #[.int .i64 a, .bool true]) (by simp [results, Tryz.results66, go_sem]) rfl ⟨by rw [HQ.out, HT2.out], (ES.ks (by assumption)).low⟩
        · have hcb : (triCmp x t == 0) = false := by simpa using hc
          have HT2 : Hid (thereB l t = false) := by unfold Hid; rw [HT.out]; simpa using hc
          go_wp2_with fail
          go_region_held3 (fun w' => w'.cell? ⟨g, a * 3, none⟩ = some (str x.s) ∧ w'.cell? ⟨g, a * 3 + 1, none⟩ = some (str x.p) ∧ w'.cell? ⟨g, a * 3 + 2, none⟩ = some (str x.o) ∧ w'.cell? ⟨w.heap.size, 0, none⟩ = some (.string Y1) ∧ w'.cell? ⟨w.heap.size, 1, none⟩ = some (.string Y2) ∧ w'.cell? ⟨w.heap.size, 2, none⟩ = some (.string Y3) ∧ Below w.heap.size w w') (first | assumption | exact ⟨q0, q1, q2, m0, m1, m2, m3⟩ | exact ⟨q0, q1, q2, m0, m1, m2, m3.drew⟩) (first | (go_at_fn 67; refine (HCm.out x a _ (by first | assumption | exact ⟨by assumption, by assumption, by assumption, by assumption, by assumption, by assumption, by first | assumption | exact m3.drew⟩)).mono ?_; rintro e2 w2 ⟨rfl, hS⟩))
          all_goals go_wp2_with fail
          all_goals refine bodyPost_ret (v := .tuple #[.int .i64 a, .bool false]) (by simp [results, Tryz.results66, go_sem]) rfl ⟨by rw [HQ.out, HT2.out], (ES.ks (by assumption)).low⟩
      · have HT2 : Hid (thereB l t = false) := by unfold Hid thereB; rw [HQ.out, List.getElem?_eq_none (by omega)]
        have hal : a = l.length := by omega
        clear HP HR HLO HHI hK
        go_wp2_with fail
        go_quiet (fail)
        go_wp2_with fail
        refine bodyPost_ret (v := .tuple #[.int .i64 a, .bool false]) (by simp [results, Tryz.results66, go_sem]) rfl ⟨by rw [HQ.out, HT2.out], below_drewN HK.out.low _⟩

end Go.Proofs.YtnffjoipinhojabGreatDoor

