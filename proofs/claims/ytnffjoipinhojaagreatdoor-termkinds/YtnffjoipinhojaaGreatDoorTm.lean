import Derived.Test.YtnffjoipinhojaaGreatDoorTk
import Derived.Test.YtnffjoipinhojaaGreatDoorTl
set_option linter.unusedSimpArgs false
set_option linter.unusedVariables false
namespace Go.Proofs.YtnffjoipinhojaaGreatDoor
open Go.RowKit

set_option maxHeartbeats 4000000 in
set_option maxRecDepth 20000 in
theorem termKinds_any (w : World) (s a b c : ByteArray) (hT : Tabs w) (hG : 8 ≤ w.heap.size) :
    Calls Tryz.prog 4 #[.string s, tripV a b c] w fun e w' => e = .returned (.bool true) ∧ Below w.heap.size w w' := by
  have hTT : ∀ w1, KS w w.heap.size a b c w1 → Tabs w1 := by
    intro w1 h1
    exact hT.below h1.2.2.2 (World.block_lt_of_cell? w ⟨_, _, none⟩ (hT.1 0 (by omega))) (World.block_lt_of_cell? w ⟨_, _, none⟩ (hT.2 0 (by omega)).1)
  have hGG : ∀ w1, KS w w.heap.size a b c w1 → 8 ≤ w1.heap.size := by
    intro w1 h1
    exact Nat.le_trans hG h1.2.2.2.size
  have HA : Hid (∀ w1, KS w w.heap.size a b c w1 → Calls Tryz.prog 13 #[.string s] w1 fun e w2 => e = .returned (.int .i64 (kindOf s)) ∧ KS w w.heap.size a b c w2) := by
    intro w1 h1
    refine (kind_any w1 s (hTT w1 h1) (hGG w1 h1)).mono ?_
    rintro e w2 ⟨rfl, hb⟩
    exact ⟨rfl, h1.on hb⟩
  have HB : Hid (∀ w1, KS w w.heap.size a b c w1 → Calls Tryz.prog 15 #[tripV a b c] w1 fun e w2 => e = .returned (tripV a b c) ∧ KS w w.heap.size a b c w2) := by
    intro w1 h1
    refine (triple_any w1 a b c).mono ?_
    rintro e w2 ⟨rfl, hb⟩
    exact ⟨rfl, h1.on hb⟩
  have HC : Hid (∀ w1, KS w w.heap.size a b c w1 → Calls Tryz.prog 14 #[tripV a b c] w1 fun e w2 => e = .returned (.bool (sound3 (kindOf a) (kindOf b) (kindOf c))) ∧ KS w w.heap.size a b c w2) := by
    intro w1 h1
    refine (sound_any kindOf w1 a b c (hTT w1 h1) (hGG w1 h1) (fun w2 s hT2 hG2 => kind_any w2 s hT2 hG2)).mono ?_
    rintro e w2 ⟨rfl, hb⟩
    exact ⟨rfl, h1.on hb⟩
  have HD : Hid (∀ w1, KS w w.heap.size a b c w1 → Calls Tryz.prog 16 #[.string s] w1 fun e w2 => e = .returned (.int .i64 (kindOf s)) ∧ KS w w.heap.size a b c w2) := by
    intro w1 h1
    refine (Ref.kind_any w1 s).mono ?_
    rintro e w2 ⟨rfl, hb⟩
    exact ⟨rfl, h1.on hb⟩
  have HE : Hid (∀ w1, KS w w.heap.size a b c w1 → Calls Tryz.prog 17 #[tripV a b c] w1 fun e w2 => e = .returned (.bool (sound3 (kindOf a) (kindOf b) (kindOf c))) ∧ KS w w.heap.size a b c w2) := by
    intro w1 h1
    refine (Ref.sound_any kindOf w1 a b c (fun w2 s => Ref.kind_any w2 s)).mono ?_
    rintro e w2 ⟨rfl, hb⟩
    exact ⟨rfl, h1.on hb⟩
  have HM : Hid (KS w w.heap.size a b c (w.alloc (.cells #[.string a, .string b, .string c] 30))) := KS.mk w a b c _
  generalize kindOf s = k at *
  generalize sound3 (kindOf a) (kindOf b) (kindOf c) = v at *
  clear hT hG hTT hGG
  go_enter Tryz.func4, Tryz.ntmps4
  go_wp2_with fail
  have hM := HM.out
  generalize w.alloc (.cells #[.string a, .string b, .string c] 30) = w1 at hM ⊢
  refine (HA.out _ hM).mono ?_
  rintro e w2 ⟨rfl, hM2⟩
  have hMx := hM2
  obtain ⟨m0, m1, m2, m3⟩ := hMx
  go_wp2_with fail
  clear m0 m1 m2 m3
  refine (HB.out _ hM2).mono ?_
  rintro e w3 ⟨rfl, hM3⟩
  go_wp2_with fail
  refine (HC.out _ hM3).mono ?_
  rintro e w4 ⟨rfl, hM4⟩
  go_wp2_with fail
  refine (HD.out _ hM4).mono ?_
  rintro e w5 ⟨rfl, hM5⟩
  have hMx := hM5
  obtain ⟨m0, m1, m2, m3⟩ := hMx
  go_wp2_with fail
  clear m0 m1 m2 m3
  refine (HE.out _ hM5).mono ?_
  rintro e w6 ⟨rfl, hM6⟩
  go_wp2_with fail
  go_ret
  exact ⟨ret_bool (by simp), hM6.low⟩

end Go.Proofs.YtnffjoipinhojaaGreatDoor
