import Derived.Test.YtnffjoipinhojaaGreatDoorPb
import Derived.Lib.DecodeNEq
set_option linter.unusedSimpArgs false
set_option linter.unusedVariables false
namespace Go.Proofs.YtnffjoipinhojaaGreatDoor
open Go.RowKit
namespace Ref

theorem chr_slow {s : ByteArray} {i : Nat} (hi : i < s.size) (z lo up : Nat) (hz : 2 ≤ z)
    (h : Lib.slowN (s.size - i) (s.get! i).toNat (s.get! (i + 1)).toNat (s.get! (i + 2)).toNat (s.get! (i + 3)).toNat z lo up = Lib.decodeN (s.size - i) (s.get! i).toNat (s.get! (i + 1)).toNat (s.get! (i + 2)).toNat (s.get! (i + 3)).toNat) :
    (chr s i).2 = if s.size - i < z then 0 else if (s.get! (i + 1)).toNat < lo ∨ up < (s.get! (i + 1)).toNat then 0 else if z ≤ 2 then 2 else if (s.get! (i + 2)).toNat < 128 ∨ 191 < (s.get! (i + 2)).toNat then 0
      else if z ≤ 3 then 3 else if (s.get! (i + 3)).toNat < 128 ∨ 191 < (s.get! (i + 3)).toNat then 0 else 4 := by
  unfold chr
  rw [if_pos hi, Lib.decode_at, ← h]
  unfold Lib.slowN
  repeat' split
  all_goals simp_all

theorem szc {c : Int} {n l u : Int} (h : sz c = (n, l, u)) : (sz c).1 = n ∧ (sz c).2.1 = l ∧ (sz c).2.2 = u := by rw [h]; exact ⟨rfl, rfl, rfl⟩

theorem sz_2 {c : Int} (h1 : 194 ≤ c) (h2 : c ≤ 223) : sz c = (2, 128, 191) := by
  unfold sz
  rw [if_neg (by omega), if_neg (by omega), if_neg (by omega), if_pos (by omega)]
theorem sz_E0 {c : Int} (h1 : 224 ≤ c) (h2 : c ≤ 224) : sz c = (3, 160, 191) := by
  unfold sz
  rw [if_neg (by omega), if_neg (by omega), if_neg (by omega), if_neg (by omega), if_pos (by omega)]
theorem sz_E1 {c : Int} (h1 : 225 ≤ c) (h2 : c ≤ 236) : sz c = (3, 128, 191) := by
  unfold sz
  rw [if_neg (by omega), if_neg (by omega), if_neg (by omega), if_neg (by omega), if_neg (by omega), if_pos (by omega)]
theorem sz_ED {c : Int} (h1 : 237 ≤ c) (h2 : c ≤ 237) : sz c = (3, 128, 159) := by
  unfold sz
  rw [if_neg (by omega), if_neg (by omega), if_neg (by omega), if_neg (by omega), if_neg (by omega), if_neg (by omega), if_pos (by omega)]
theorem sz_EE {c : Int} (h1 : 238 ≤ c) (h2 : c ≤ 239) : sz c = (3, 128, 191) := by
  unfold sz
  rw [if_neg (by omega), if_neg (by omega), if_neg (by omega), if_neg (by omega), if_neg (by omega), if_neg (by omega), if_neg (by omega), if_pos (by omega)]
theorem sz_F0 {c : Int} (h1 : 240 ≤ c) (h2 : c ≤ 240) : sz c = (4, 144, 191) := by
  unfold sz
  rw [if_neg (by omega), if_neg (by omega), if_neg (by omega), if_neg (by omega), if_neg (by omega), if_neg (by omega), if_neg (by omega), if_neg (by omega), if_pos (by omega)]
theorem sz_F1 {c : Int} (h1 : 241 ≤ c) (h2 : c ≤ 243) : sz c = (4, 128, 191) := by
  unfold sz
  rw [if_neg (by omega), if_neg (by omega), if_neg (by omega), if_neg (by omega), if_neg (by omega), if_neg (by omega), if_neg (by omega), if_neg (by omega), if_neg (by omega), if_pos (by omega)]
theorem sz_F4 {c : Int} (h1 : 244 ≤ c) (h2 : c ≤ 244) : sz c = (4, 128, 143) := by
  unfold sz
  rw [if_neg (by omega), if_neg (by omega), if_neg (by omega), if_neg (by omega), if_neg (by omega), if_neg (by omega), if_neg (by omega), if_neg (by omega), if_neg (by omega), if_neg (by omega), if_pos (by omega)]
theorem sz_hi {c : Int} (h1 : 245 ≤ c) : sz c = (0, 0, 0) := by
  unfold sz
  rw [if_neg (by omega), if_neg (by omega), if_neg (by omega), if_neg (by omega), if_neg (by omega), if_neg (by omega), if_neg (by omega), if_neg (by omega), if_neg (by omega), if_neg (by omega), if_neg (by omega)]

/-- which lead byte it is -/
theorem lead (s : ByteArray) (i : Nat) (hi : i < s.size) :
    (sz (bt s i) = (1, 0, 0) ∧ (chr s i).2 = 1) ∨ (sz (bt s i) = (0, 0, 0) ∧ (chr s i).2 = 0) ∨
    ∃ z lo up : Nat, sz (bt s i) = ((z : Int), (lo : Int), (up : Int)) ∧ (z = 2 ∨ z = 3 ∨ z = 4) ∧ 128 ≤ lo ∧ up ≤ 191 ∧
      (chr s i).2 = if s.size - i < z then 0 else if (s.get! (i + 1)).toNat < lo ∨ up < (s.get! (i + 1)).toNat then 0 else if z ≤ 2 then 2 else if (s.get! (i + 2)).toNat < 128 ∨ 191 < (s.get! (i + 2)).toNat then 0
        else if z ≤ 3 then 3 else if (s.get! (i + 3)).toNat < 128 ∨ 191 < (s.get! (i + 3)).toNat then 0 else 4 := by
  have hb := get!_bt hi
  have hr := bt_range s i
  have l0 := (s.get! i).toNat_lt
  have l1 := (s.get! (i + 1)).toNat_lt
  have l2 := (s.get! (i + 2)).toNat_lt
  have l3 := (s.get! (i + 3)).toNat_lt
  have hn : 1 ≤ s.size - i := by omega
  by_cases h1 : bt s i < 128
  · refine .inl ⟨?_, by rw [chr_ascii h1]⟩
    unfold sz
    rw [if_neg (by omega), if_pos h1]
  refine .inr ?_
  have bad : (s.get! i).toNat < 194 ∨ 244 < (s.get! i).toNat → (chr s i).2 = 0 := by
    intro hx
    have e : Utf8.decode s i = (65533, 1) := by
      rw [Lib.decode_at]
      exact Lib.bad_eq _ _ _ _ _ l0 (by unfold Lib.firstT; (repeat' split) <;> omega)
    unfold chr
    rw [if_pos hi, if_pos e]
  by_cases h2 : bt s i < 194
  · refine .inl ⟨?_, bad (by omega)⟩
    unfold sz
    rw [if_neg (by omega), if_neg h1, if_pos h2]
  by_cases h3 : 244 < bt s i
  · refine .inl ⟨?_, bad (by omega)⟩
    exact sz_hi (by omega)
  refine .inr ?_
  by_cases k0 : bt s i ≤ 223
  · exact ⟨2, 128, 191, sz_2 (by omega) (by omega), by omega, by omega, by omega, chr_slow hi 2 128 191 (by omega) (Lib.slow_C2 _ _ _ _ _ hn l1 l2 l3 ⟨by omega, by omega⟩)⟩
  by_cases k1 : bt s i = 224
  · exact ⟨3, 160, 191, sz_E0 (by omega) (by omega), by omega, by omega, by omega, chr_slow hi 3 160 191 (by omega) (Lib.slow_E0 _ _ _ _ _ hn l1 l2 l3 (by omega))⟩
  by_cases k2 : bt s i ≤ 236
  · exact ⟨3, 128, 191, sz_E1 (by omega) (by omega), by omega, by omega, by omega, chr_slow hi 3 128 191 (by omega) (Lib.slow_E1 _ _ _ _ _ hn l1 l2 l3 (by omega))⟩
  by_cases k3 : bt s i = 237
  · exact ⟨3, 128, 159, sz_ED (by omega) (by omega), by omega, by omega, by omega, chr_slow hi 3 128 159 (by omega) (Lib.slow_ED _ _ _ _ _ hn l1 l2 l3 (by omega))⟩
  by_cases k4 : bt s i ≤ 239
  · exact ⟨3, 128, 191, sz_EE (by omega) (by omega), by omega, by omega, by omega, chr_slow hi 3 128 191 (by omega) (Lib.slow_E1 _ _ _ _ _ hn l1 l2 l3 (by omega))⟩
  by_cases k5 : bt s i = 240
  · exact ⟨4, 144, 191, sz_F0 (by omega) (by omega), by omega, by omega, by omega, chr_slow hi 4 144 191 (by omega) (Lib.slow_F0 _ _ _ _ _ hn l1 l2 l3 (by omega))⟩
  by_cases k6 : bt s i ≤ 243
  · exact ⟨4, 128, 191, sz_F1 (by omega) (by omega), by omega, by omega, by omega, chr_slow hi 4 128 191 (by omega) (Lib.slow_F1 _ _ _ _ _ hn l1 l2 l3 ⟨by omega, by omega⟩)⟩
  exact ⟨4, 128, 143, sz_F4 (by omega) (by omega), by omega, by omega, by omega, chr_slow hi 4 128 143 (by omega) (Lib.slow_F4 _ _ _ _ _ hn l1 l2 l3 (by omega))⟩

end Ref
end Go.Proofs.YtnffjoipinhojaaGreatDoor
