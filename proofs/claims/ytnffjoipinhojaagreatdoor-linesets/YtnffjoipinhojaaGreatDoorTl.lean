import Derived.Test.YtnffjoipinhojaaGreatDoorRb
import Derived.Test.YtnffjoipinhojaaGreatDoorSd
import Derived.Deep.RegionHeld3
set_option linter.unusedSimpArgs false
set_option linter.unusedVariables false
namespace Go.Proofs.YtnffjoipinhojaaGreatDoor
open Go.RowKit

def sound3 (x y z : Nat) : Bool := (decide (x = 1) || decide (x = 2)) && decide (y = 1) && !decide (z = 0)

abbrev tripV (a b c : ByteArray) : Value := .agg #[.string a, .string b, .string c]

theorem triple_any (w : World) (a b c : ByteArray) :
    Calls Tryz.prog 15 #[tripV a b c] w fun e w' => e = .returned (tripV a b c) ∧ Below w.heap.size w w' := by
  go_enter Tryz.func15, Tryz.ntmps15
  go_wp2
  exact bodyPost_ret (v := tripV a b c) (by simp [results, Tryz.results15, go_sem]) rfl ⟨rfl, by first | exact (Below.refl _ w).alloc (Nat.le_refl _) _ | exact ((Below.refl _ w).alloc (Nat.le_refl _) _).alloc (by simp) _⟩

/-- a sentence's three cells, and nothing older touched -/
def KS (w0 : World) (n : Nat) (a b c : ByteArray) (w : World) : Prop :=
  w.cell? ⟨n, 0, none⟩ = some (.string a) ∧ w.cell? ⟨n, 1, none⟩ = some (.string b) ∧ w.cell? ⟨n, 2, none⟩ = some (.string c) ∧ Below w0.heap.size w0 w

theorem KS.on {w0 w1 w2 : World} {n : Nat} {a b c : ByteArray} (h : KS w0 n a b c w1) (hb : Below w1.heap.size w1 w2) : KS w0 n a b c w2 := by
  obtain ⟨h0, h1, h2, h3⟩ := h
  have hn : n < w1.heap.size := World.block_lt_of_cell? w1 ⟨n, 0, none⟩ h0
  exact ⟨(hb.cell (p := ⟨n, 0, none⟩) hn).trans h0, (hb.cell (p := ⟨n, 1, none⟩) hn).trans h1, (hb.cell (p := ⟨n, 2, none⟩) hn).trans h2, h3.trans (hb.mono h3.size)⟩

theorem KS.low {w0 w : World} {n : Nat} {a b c : ByteArray} (h : KS w0 n a b c w) : Below w0.heap.size w0 w := h.2.2.2

theorem KS.mk (w : World) (a b c : ByteArray) (T : TypeId) : KS w w.heap.size a b c (w.alloc (.cells #[.string a, .string b, .string c] T)) := by
  have hh : (w.alloc (.cells #[.string a, .string b, .string c] T)).heap[w.heap.size]? = some (.cells #[.string a, .string b, .string c] T) := heap_new _ _
  exact ⟨by rw [Lib.cell_of_heap hh]; rfl, by rw [Lib.cell_of_heap hh]; rfl, by rw [Lib.cell_of_heap hh]; rfl, (Below.refl _ w).alloc (Nat.le_refl _) _⟩

set_option maxHeartbeats 4000000 in
set_option maxRecDepth 20000 in
theorem sound_any (k : ByteArray → Nat) (w : World) (a b c : ByteArray) (hT : Tabs w) (hG : 8 ≤ w.heap.size)
    (hK : ∀ (w1 : World) (s : ByteArray), Tabs w1 → 8 ≤ w1.heap.size → Calls Tryz.prog 13 #[.string s] w1 fun e w2 => e = .returned (.int .i64 (k s)) ∧ Below w1.heap.size w1 w2) :
    Calls Tryz.prog 14 #[tripV a b c] w fun e w' => e = .returned (.bool (sound3 (k a) (k b) (k c))) ∧ Below w.heap.size w w' := by
  have hTT : ∀ w1, KS w w.heap.size a b c w1 → Tabs w1 := by
    intro w1 h1
    exact hT.below h1.2.2.2 (World.block_lt_of_cell? w ⟨_, _, none⟩ (hT.1 0 (by omega))) (World.block_lt_of_cell? w ⟨_, _, none⟩ (hT.2 0 (by omega)).1)
  have hGG : ∀ w1, KS w w.heap.size a b c w1 → 8 ≤ w1.heap.size := by
    intro w1 h1
    exact Nat.le_trans hG h1.2.2.2.size
  have HK : Hid (∀ w1 s, KS w w.heap.size a b c w1 → Calls Tryz.prog 13 #[.string s] w1 fun e w2 => e = .returned (.int .i64 (k s)) ∧ KS w w.heap.size a b c w2) := by
    intro w1 s h1
    refine (hK w1 s (hTT w1 h1) (hGG w1 h1)).mono ?_
    rintro e w2 ⟨rfl, hb⟩
    exact ⟨rfl, h1.on hb⟩
  have HM : Hid (KS w w.heap.size a b c (w.alloc (.cells #[.string a, .string b, .string c] 33))) := KS.mk w a b c _
  clear hK hT hG hTT hGG
  by_cases hx1 : k a = 1
  · have fx : (((k a : Nat) : Int) == 1) = true := by simp [hx1]
    by_cases hy : k b = 1
    · by_cases hz : k c = 0
      · have fz : (((k c : Nat) : Int) != 0) = false := by simp [hz]
        have fy : (((k b : Nat) : Int) == 1) = true := by simp [hy]
        have HV : Hid (sound3 (k a) (k b) (k c) = false) := by unfold Hid sound3; simp [hx1, hy, hz]
        rw [HV.out]
        go_enter Tryz.func14, Tryz.ntmps14
        go_wp2_with fail
        have hM := HM.out
        generalize w.alloc (.cells #[.string a, .string b, .string c] 33) = w1 at hM ⊢
        obtain ⟨m0, m1, m2, m3⟩ := hM
        go_region_held3 (fun w' => w'.cell? ⟨w.heap.size, 0, none⟩ = some (.string a) ∧ w'.cell? ⟨w.heap.size, 1, none⟩ = some (.string b) ∧ w'.cell? ⟨w.heap.size, 2, none⟩ = some (.string c) ∧ Below w.heap.size w w') (first | assumption | exact ⟨m0, m1, m2, m3⟩ | exact ⟨m0, m1, m2, m3.drew⟩) (first | (go_at_call 13; refine (HK.out _ _ (by first | assumption | exact ⟨by assumption, by assumption, by assumption, by assumption⟩)).mono ?_; rintro e w2 ⟨rfl, hS⟩))
        all_goals go_wp2
        all_goals go_ret
        all_goals exact ⟨rfl, by refine KS.low (n := w.heap.size) (a := a) (b := b) (c := c) ?_; assumption⟩
      · have fz : (((k c : Nat) : Int) != 0) = true := by simp; omega
        have fy : (((k b : Nat) : Int) == 1) = true := by simp [hy]
        have HV : Hid (sound3 (k a) (k b) (k c) = true) := by unfold Hid sound3; simp [hx1, hy, hz]
        rw [HV.out]
        go_enter Tryz.func14, Tryz.ntmps14
        go_wp2_with fail
        have hM := HM.out
        generalize w.alloc (.cells #[.string a, .string b, .string c] 33) = w1 at hM ⊢
        obtain ⟨m0, m1, m2, m3⟩ := hM
        go_region_held3 (fun w' => w'.cell? ⟨w.heap.size, 0, none⟩ = some (.string a) ∧ w'.cell? ⟨w.heap.size, 1, none⟩ = some (.string b) ∧ w'.cell? ⟨w.heap.size, 2, none⟩ = some (.string c) ∧ Below w.heap.size w w') (first | assumption | exact ⟨m0, m1, m2, m3⟩ | exact ⟨m0, m1, m2, m3.drew⟩) (first | (go_at_call 13; refine (HK.out _ _ (by first | assumption | exact ⟨by assumption, by assumption, by assumption, by assumption⟩)).mono ?_; rintro e w2 ⟨rfl, hS⟩))
        all_goals go_wp2
        all_goals go_ret
        all_goals exact ⟨rfl, by refine KS.low (n := w.heap.size) (a := a) (b := b) (c := c) ?_; assumption⟩
    · have fy : (((k b : Nat) : Int) == 1) = false := by simp; omega
      have HV : Hid (sound3 (k a) (k b) (k c) = false) := by unfold Hid sound3; simp [hx1, hy]
      rw [HV.out]
      go_enter Tryz.func14, Tryz.ntmps14
      go_wp2_with fail
      have hM := HM.out
      generalize w.alloc (.cells #[.string a, .string b, .string c] 33) = w1 at hM ⊢
      obtain ⟨m0, m1, m2, m3⟩ := hM
      go_region_held3 (fun w' => w'.cell? ⟨w.heap.size, 0, none⟩ = some (.string a) ∧ w'.cell? ⟨w.heap.size, 1, none⟩ = some (.string b) ∧ w'.cell? ⟨w.heap.size, 2, none⟩ = some (.string c) ∧ Below w.heap.size w w') (first | assumption | exact ⟨m0, m1, m2, m3⟩ | exact ⟨m0, m1, m2, m3.drew⟩) (first | (go_at_call 13; refine (HK.out _ _ (by first | assumption | exact ⟨by assumption, by assumption, by assumption, by assumption⟩)).mono ?_; rintro e w2 ⟨rfl, hS⟩))
      all_goals go_wp2
      all_goals go_ret
      all_goals exact ⟨rfl, by refine KS.low (n := w.heap.size) (a := a) (b := b) (c := c) ?_; assumption⟩
  · have fx : (((k a : Nat) : Int) == 1) = false := by simp; omega
    by_cases hx2 : k a = 2
    · have fx2 : (((k a : Nat) : Int) == 2) = true := by simp [hx2]
      by_cases hy : k b = 1
      · by_cases hz : k c = 0
        · have fz : (((k c : Nat) : Int) != 0) = false := by simp [hz]
          have fy : (((k b : Nat) : Int) == 1) = true := by simp [hy]
          have HV : Hid (sound3 (k a) (k b) (k c) = false) := by unfold Hid sound3; simp [hx1, hx2, hy, hz]
          rw [HV.out]
          go_enter Tryz.func14, Tryz.ntmps14
          go_wp2_with fail
          have hM := HM.out
          generalize w.alloc (.cells #[.string a, .string b, .string c] 33) = w1 at hM ⊢
          obtain ⟨m0, m1, m2, m3⟩ := hM
          go_region_held3 (fun w' => w'.cell? ⟨w.heap.size, 0, none⟩ = some (.string a) ∧ w'.cell? ⟨w.heap.size, 1, none⟩ = some (.string b) ∧ w'.cell? ⟨w.heap.size, 2, none⟩ = some (.string c) ∧ Below w.heap.size w w') (first | assumption | exact ⟨m0, m1, m2, m3⟩ | exact ⟨m0, m1, m2, m3.drew⟩) (first | (go_at_call 13; refine (HK.out _ _ (by first | assumption | exact ⟨by assumption, by assumption, by assumption, by assumption⟩)).mono ?_; rintro e w2 ⟨rfl, hS⟩))
          all_goals go_wp2
          all_goals go_ret
          all_goals exact ⟨rfl, by refine KS.low (n := w.heap.size) (a := a) (b := b) (c := c) ?_; assumption⟩
        · have fz : (((k c : Nat) : Int) != 0) = true := by simp; omega
          have fy : (((k b : Nat) : Int) == 1) = true := by simp [hy]
          have HV : Hid (sound3 (k a) (k b) (k c) = true) := by unfold Hid sound3; simp [hx1, hx2, hy, hz]
          rw [HV.out]
          go_enter Tryz.func14, Tryz.ntmps14
          go_wp2_with fail
          have hM := HM.out
          generalize w.alloc (.cells #[.string a, .string b, .string c] 33) = w1 at hM ⊢
          obtain ⟨m0, m1, m2, m3⟩ := hM
          go_region_held3 (fun w' => w'.cell? ⟨w.heap.size, 0, none⟩ = some (.string a) ∧ w'.cell? ⟨w.heap.size, 1, none⟩ = some (.string b) ∧ w'.cell? ⟨w.heap.size, 2, none⟩ = some (.string c) ∧ Below w.heap.size w w') (first | assumption | exact ⟨m0, m1, m2, m3⟩ | exact ⟨m0, m1, m2, m3.drew⟩) (first | (go_at_call 13; refine (HK.out _ _ (by first | assumption | exact ⟨by assumption, by assumption, by assumption, by assumption⟩)).mono ?_; rintro e w2 ⟨rfl, hS⟩))
          all_goals go_wp2
          all_goals go_ret
          all_goals exact ⟨rfl, by refine KS.low (n := w.heap.size) (a := a) (b := b) (c := c) ?_; assumption⟩
      · have fy : (((k b : Nat) : Int) == 1) = false := by simp; omega
        have HV : Hid (sound3 (k a) (k b) (k c) = false) := by unfold Hid sound3; simp [hx1, hx2, hy]
        rw [HV.out]
        go_enter Tryz.func14, Tryz.ntmps14
        go_wp2_with fail
        have hM := HM.out
        generalize w.alloc (.cells #[.string a, .string b, .string c] 33) = w1 at hM ⊢
        obtain ⟨m0, m1, m2, m3⟩ := hM
        go_region_held3 (fun w' => w'.cell? ⟨w.heap.size, 0, none⟩ = some (.string a) ∧ w'.cell? ⟨w.heap.size, 1, none⟩ = some (.string b) ∧ w'.cell? ⟨w.heap.size, 2, none⟩ = some (.string c) ∧ Below w.heap.size w w') (first | assumption | exact ⟨m0, m1, m2, m3⟩ | exact ⟨m0, m1, m2, m3.drew⟩) (first | (go_at_call 13; refine (HK.out _ _ (by first | assumption | exact ⟨by assumption, by assumption, by assumption, by assumption⟩)).mono ?_; rintro e w2 ⟨rfl, hS⟩))
        all_goals go_wp2
        all_goals go_ret
        all_goals exact ⟨rfl, by refine KS.low (n := w.heap.size) (a := a) (b := b) (c := c) ?_; assumption⟩
    · have fx2 : (((k a : Nat) : Int) == 2) = false := by simp; omega
      have HV : Hid (sound3 (k a) (k b) (k c) = false) := by unfold Hid sound3; simp [hx1, hx2]
      rw [HV.out]
      go_enter Tryz.func14, Tryz.ntmps14
      go_wp2_with fail
      have hM := HM.out
      generalize w.alloc (.cells #[.string a, .string b, .string c] 33) = w1 at hM ⊢
      obtain ⟨m0, m1, m2, m3⟩ := hM
      go_region_held3 (fun w' => w'.cell? ⟨w.heap.size, 0, none⟩ = some (.string a) ∧ w'.cell? ⟨w.heap.size, 1, none⟩ = some (.string b) ∧ w'.cell? ⟨w.heap.size, 2, none⟩ = some (.string c) ∧ Below w.heap.size w w') (first | assumption | exact ⟨m0, m1, m2, m3⟩ | exact ⟨m0, m1, m2, m3.drew⟩) (first | (go_at_call 13; refine (HK.out _ _ (by first | assumption | exact ⟨by assumption, by assumption, by assumption, by assumption⟩)).mono ?_; rintro e w2 ⟨rfl, hS⟩))
      all_goals go_wp2
      all_goals go_ret
      all_goals exact ⟨rfl, by refine KS.low (n := w.heap.size) (a := a) (b := b) (c := c) ?_; assumption⟩

set_option maxHeartbeats 4000000 in
set_option maxRecDepth 20000 in
theorem Ref.sound_any (k : ByteArray → Nat) (w : World) (a b c : ByteArray) 
    (hK : ∀ (w1 : World) (s : ByteArray),  Calls Tryz.prog 16 #[.string s] w1 fun e w2 => e = .returned (.int .i64 (k s)) ∧ Below w1.heap.size w1 w2) :
    Calls Tryz.prog 17 #[tripV a b c] w fun e w' => e = .returned (.bool (sound3 (k a) (k b) (k c))) ∧ Below w.heap.size w w' := by
  have HK : Hid (∀ w1 s, KS w w.heap.size a b c w1 → Calls Tryz.prog 16 #[.string s] w1 fun e w2 => e = .returned (.int .i64 (k s)) ∧ KS w w.heap.size a b c w2) := by
    intro w1 s h1
    refine (hK w1 s ).mono ?_
    rintro e w2 ⟨rfl, hb⟩
    exact ⟨rfl, h1.on hb⟩
  have HM : Hid (KS w w.heap.size a b c (w.alloc (.cells #[.string a, .string b, .string c] 30))) := KS.mk w a b c _
  clear hK 
  by_cases hx1 : k a = 1
  · have fx : (((k a : Nat) : Int) == 1) = true := by simp [hx1]
    by_cases hy : k b = 1
    · by_cases hz : k c = 0
      · have fz : (((k c : Nat) : Int) != 0) = false := by simp [hz]
        have fy : (((k b : Nat) : Int) == 1) = true := by simp [hy]
        have HV : Hid (sound3 (k a) (k b) (k c) = false) := by unfold Hid sound3; simp [hx1, hy, hz]
        rw [HV.out]
        go_enter Tryz.func17, Tryz.ntmps17
        go_wp2_with fail
        have hM := HM.out
        generalize w.alloc (.cells #[.string a, .string b, .string c] 30) = w1 at hM ⊢
        have HM0 : Hid (KS w w.heap.size a b c w1) := hM
        obtain ⟨m0, m1, m2, m3⟩ := hM
        go_wp2_with fail
        refine (HK.out _ _ HM0.out).mono ?_
        clear m0 m1 m2 m3
        rintro e w2 ⟨rfl, hM⟩
        have hMx := hM
        obtain ⟨m0, m1, m2, m3⟩ := hMx
        go_wp2_with fail
        clear m0 m1 m2 m3
        have HM1 : Hid (KS w w.heap.size a b c w2) := hM
        obtain ⟨m0, m1, m2, m3⟩ := hM
        refine (HK.out _ _ HM1.out).mono ?_
        clear m0 m1 m2 m3
        rintro e w3 ⟨rfl, hM⟩
        have hMx := hM
        obtain ⟨m0, m1, m2, m3⟩ := hMx
        go_wp2_with fail
        clear m0 m1 m2 m3
        have HM2 : Hid (KS w w.heap.size a b c w3) := hM
        obtain ⟨m0, m1, m2, m3⟩ := hM
        refine (HK.out _ _ HM2.out).mono ?_
        clear m0 m1 m2 m3
        rintro e w4 ⟨rfl, hM⟩
        have hMx := hM
        obtain ⟨m0, m1, m2, m3⟩ := hMx
        go_wp2_with fail
        clear m0 m1 m2 m3
        go_ret
        exact ⟨rfl, hM.2.2.2⟩
      · have fz : (((k c : Nat) : Int) != 0) = true := by simp; omega
        have fy : (((k b : Nat) : Int) == 1) = true := by simp [hy]
        have HV : Hid (sound3 (k a) (k b) (k c) = true) := by unfold Hid sound3; simp [hx1, hy, hz]
        rw [HV.out]
        go_enter Tryz.func17, Tryz.ntmps17
        go_wp2_with fail
        have hM := HM.out
        generalize w.alloc (.cells #[.string a, .string b, .string c] 30) = w1 at hM ⊢
        have HM0 : Hid (KS w w.heap.size a b c w1) := hM
        obtain ⟨m0, m1, m2, m3⟩ := hM
        go_wp2_with fail
        refine (HK.out _ _ HM0.out).mono ?_
        clear m0 m1 m2 m3
        rintro e w2 ⟨rfl, hM⟩
        have hMx := hM
        obtain ⟨m0, m1, m2, m3⟩ := hMx
        go_wp2_with fail
        clear m0 m1 m2 m3
        have HM1 : Hid (KS w w.heap.size a b c w2) := hM
        obtain ⟨m0, m1, m2, m3⟩ := hM
        refine (HK.out _ _ HM1.out).mono ?_
        clear m0 m1 m2 m3
        rintro e w3 ⟨rfl, hM⟩
        have hMx := hM
        obtain ⟨m0, m1, m2, m3⟩ := hMx
        go_wp2_with fail
        clear m0 m1 m2 m3
        have HM2 : Hid (KS w w.heap.size a b c w3) := hM
        obtain ⟨m0, m1, m2, m3⟩ := hM
        refine (HK.out _ _ HM2.out).mono ?_
        clear m0 m1 m2 m3
        rintro e w4 ⟨rfl, hM⟩
        have hMx := hM
        obtain ⟨m0, m1, m2, m3⟩ := hMx
        go_wp2_with fail
        clear m0 m1 m2 m3
        go_ret
        exact ⟨rfl, hM.2.2.2⟩
    · have fy : (((k b : Nat) : Int) == 1) = false := by simp; omega
      have HV : Hid (sound3 (k a) (k b) (k c) = false) := by unfold Hid sound3; simp [hx1, hy]
      rw [HV.out]
      go_enter Tryz.func17, Tryz.ntmps17
      go_wp2_with fail
      have hM := HM.out
      generalize w.alloc (.cells #[.string a, .string b, .string c] 30) = w1 at hM ⊢
      have HM0 : Hid (KS w w.heap.size a b c w1) := hM
      obtain ⟨m0, m1, m2, m3⟩ := hM
      go_wp2_with fail
      refine (HK.out _ _ HM0.out).mono ?_
      clear m0 m1 m2 m3
      rintro e w2 ⟨rfl, hM⟩
      have hMx := hM
      obtain ⟨m0, m1, m2, m3⟩ := hMx
      go_wp2_with fail
      clear m0 m1 m2 m3
      have HM1 : Hid (KS w w.heap.size a b c w2) := hM
      obtain ⟨m0, m1, m2, m3⟩ := hM
      refine (HK.out _ _ HM1.out).mono ?_
      clear m0 m1 m2 m3
      rintro e w3 ⟨rfl, hM⟩
      have hMx := hM
      obtain ⟨m0, m1, m2, m3⟩ := hMx
      go_wp2_with fail
      clear m0 m1 m2 m3
      have HM2 : Hid (KS w w.heap.size a b c w3) := hM
      obtain ⟨m0, m1, m2, m3⟩ := hM
      refine (HK.out _ _ HM2.out).mono ?_
      clear m0 m1 m2 m3
      rintro e w4 ⟨rfl, hM⟩
      have hMx := hM
      obtain ⟨m0, m1, m2, m3⟩ := hMx
      go_wp2_with fail
      clear m0 m1 m2 m3
      go_ret
      exact ⟨rfl, hM.2.2.2⟩
  · have fx : (((k a : Nat) : Int) == 1) = false := by simp; omega
    by_cases hx2 : k a = 2
    · have fx2 : (((k a : Nat) : Int) == 2) = true := by simp [hx2]
      by_cases hy : k b = 1
      · by_cases hz : k c = 0
        · have fz : (((k c : Nat) : Int) != 0) = false := by simp [hz]
          have fy : (((k b : Nat) : Int) == 1) = true := by simp [hy]
          have HV : Hid (sound3 (k a) (k b) (k c) = false) := by unfold Hid sound3; simp [hx1, hx2, hy, hz]
          rw [HV.out]
          go_enter Tryz.func17, Tryz.ntmps17
          go_wp2_with fail
          have hM := HM.out
          generalize w.alloc (.cells #[.string a, .string b, .string c] 30) = w1 at hM ⊢
          have HM0 : Hid (KS w w.heap.size a b c w1) := hM
          obtain ⟨m0, m1, m2, m3⟩ := hM
          go_wp2_with fail
          refine (HK.out _ _ HM0.out).mono ?_
          clear m0 m1 m2 m3
          rintro e w2 ⟨rfl, hM⟩
          have hMx := hM
          obtain ⟨m0, m1, m2, m3⟩ := hMx
          go_wp2_with fail
          clear m0 m1 m2 m3
          have HM1 : Hid (KS w w.heap.size a b c w2) := hM
          obtain ⟨m0, m1, m2, m3⟩ := hM
          refine (HK.out _ _ HM1.out).mono ?_
          clear m0 m1 m2 m3
          rintro e w3 ⟨rfl, hM⟩
          have hMx := hM
          obtain ⟨m0, m1, m2, m3⟩ := hMx
          go_wp2_with fail
          clear m0 m1 m2 m3
          have HM2 : Hid (KS w w.heap.size a b c w3) := hM
          obtain ⟨m0, m1, m2, m3⟩ := hM
          refine (HK.out _ _ HM2.out).mono ?_
          clear m0 m1 m2 m3
          rintro e w4 ⟨rfl, hM⟩
          have hMx := hM
          obtain ⟨m0, m1, m2, m3⟩ := hMx
          go_wp2_with fail
          clear m0 m1 m2 m3
          go_ret
          exact ⟨rfl, hM.2.2.2⟩
        · have fz : (((k c : Nat) : Int) != 0) = true := by simp; omega
          have fy : (((k b : Nat) : Int) == 1) = true := by simp [hy]
          have HV : Hid (sound3 (k a) (k b) (k c) = true) := by unfold Hid sound3; simp [hx1, hx2, hy, hz]
          rw [HV.out]
          go_enter Tryz.func17, Tryz.ntmps17
          go_wp2_with fail
          have hM := HM.out
          generalize w.alloc (.cells #[.string a, .string b, .string c] 30) = w1 at hM ⊢
          have HM0 : Hid (KS w w.heap.size a b c w1) := hM
          obtain ⟨m0, m1, m2, m3⟩ := hM
          go_wp2_with fail
          refine (HK.out _ _ HM0.out).mono ?_
          clear m0 m1 m2 m3
          rintro e w2 ⟨rfl, hM⟩
          have hMx := hM
          obtain ⟨m0, m1, m2, m3⟩ := hMx
          go_wp2_with fail
          clear m0 m1 m2 m3
          have HM1 : Hid (KS w w.heap.size a b c w2) := hM
          obtain ⟨m0, m1, m2, m3⟩ := hM
          refine (HK.out _ _ HM1.out).mono ?_
          clear m0 m1 m2 m3
          rintro e w3 ⟨rfl, hM⟩
          have hMx := hM
          obtain ⟨m0, m1, m2, m3⟩ := hMx
          go_wp2_with fail
          clear m0 m1 m2 m3
          have HM2 : Hid (KS w w.heap.size a b c w3) := hM
          obtain ⟨m0, m1, m2, m3⟩ := hM
          refine (HK.out _ _ HM2.out).mono ?_
          clear m0 m1 m2 m3
          rintro e w4 ⟨rfl, hM⟩
          have hMx := hM
          obtain ⟨m0, m1, m2, m3⟩ := hMx
          go_wp2_with fail
          clear m0 m1 m2 m3
          go_ret
          exact ⟨rfl, hM.2.2.2⟩
      · have fy : (((k b : Nat) : Int) == 1) = false := by simp; omega
        have HV : Hid (sound3 (k a) (k b) (k c) = false) := by unfold Hid sound3; simp [hx1, hx2, hy]
        rw [HV.out]
        go_enter Tryz.func17, Tryz.ntmps17
        go_wp2_with fail
        have hM := HM.out
        generalize w.alloc (.cells #[.string a, .string b, .string c] 30) = w1 at hM ⊢
        have HM0 : Hid (KS w w.heap.size a b c w1) := hM
        obtain ⟨m0, m1, m2, m3⟩ := hM
        go_wp2_with fail
        refine (HK.out _ _ HM0.out).mono ?_
        clear m0 m1 m2 m3
        rintro e w2 ⟨rfl, hM⟩
        have hMx := hM
        obtain ⟨m0, m1, m2, m3⟩ := hMx
        go_wp2_with fail
        clear m0 m1 m2 m3
        have HM1 : Hid (KS w w.heap.size a b c w2) := hM
        obtain ⟨m0, m1, m2, m3⟩ := hM
        refine (HK.out _ _ HM1.out).mono ?_
        clear m0 m1 m2 m3
        rintro e w3 ⟨rfl, hM⟩
        have hMx := hM
        obtain ⟨m0, m1, m2, m3⟩ := hMx
        go_wp2_with fail
        clear m0 m1 m2 m3
        have HM2 : Hid (KS w w.heap.size a b c w3) := hM
        obtain ⟨m0, m1, m2, m3⟩ := hM
        refine (HK.out _ _ HM2.out).mono ?_
        clear m0 m1 m2 m3
        rintro e w4 ⟨rfl, hM⟩
        have hMx := hM
        obtain ⟨m0, m1, m2, m3⟩ := hMx
        go_wp2_with fail
        clear m0 m1 m2 m3
        go_ret
        exact ⟨rfl, hM.2.2.2⟩
    · have fx2 : (((k a : Nat) : Int) == 2) = false := by simp; omega
      have HV : Hid (sound3 (k a) (k b) (k c) = false) := by unfold Hid sound3; simp [hx1, hx2]
      rw [HV.out]
      go_enter Tryz.func17, Tryz.ntmps17
      go_wp2_with fail
      have hM := HM.out
      generalize w.alloc (.cells #[.string a, .string b, .string c] 30) = w1 at hM ⊢
      have HM0 : Hid (KS w w.heap.size a b c w1) := hM
      obtain ⟨m0, m1, m2, m3⟩ := hM
      go_wp2_with fail
      refine (HK.out _ _ HM0.out).mono ?_
      clear m0 m1 m2 m3
      rintro e w2 ⟨rfl, hM⟩
      have hMx := hM
      obtain ⟨m0, m1, m2, m3⟩ := hMx
      go_wp2_with fail
      clear m0 m1 m2 m3
      have HM1 : Hid (KS w w.heap.size a b c w2) := hM
      obtain ⟨m0, m1, m2, m3⟩ := hM
      refine (HK.out _ _ HM1.out).mono ?_
      clear m0 m1 m2 m3
      rintro e w3 ⟨rfl, hM⟩
      have hMx := hM
      obtain ⟨m0, m1, m2, m3⟩ := hMx
      go_wp2_with fail
      clear m0 m1 m2 m3
      have HM2 : Hid (KS w w.heap.size a b c w3) := hM
      obtain ⟨m0, m1, m2, m3⟩ := hM
      refine (HK.out _ _ HM2.out).mono ?_
      clear m0 m1 m2 m3
      rintro e w4 ⟨rfl, hM⟩
      have hMx := hM
      obtain ⟨m0, m1, m2, m3⟩ := hMx
      go_wp2_with fail
      clear m0 m1 m2 m3
      go_ret
      exact ⟨rfl, hM.2.2.2⟩

end Go.Proofs.YtnffjoipinhojaaGreatDoor
