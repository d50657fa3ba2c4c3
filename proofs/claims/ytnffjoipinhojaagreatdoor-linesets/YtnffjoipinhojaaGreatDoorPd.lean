import Derived.Test.YtnffjoipinhojaaGreatDoorPc
set_option linter.unusedSimpArgs false
set_option linter.unusedVariables false
namespace Go.Proofs.YtnffjoipinhojaaGreatDoor
open Go.RowKit
namespace Ref

set_option maxHeartbeats 1000000 in
theorem wh_2_128_191 (w : World) (s : ByteArray) (i : Nat) (B0 : Int) (hi : i < s.size) (hs : s.size ≤ 1099511627776)
    (HS : Hid (Calls Tryz.prog 145 #[.int .i64 B0] w fun e w' => e = .returned (.tuple #[.int .i64 2, .int .i64 128, .int .i64 191]) ∧ w' = w))
    (w0 : wrap64 (s[i].toNat : Int) = B0)
    (hc : (chr s i).2 = if s.size - i < 2 then 0 else if (s.get! (i + 1)).toNat < 128 ∨ 191 < (s.get! (i + 1)).toNat then 0 else if 2 ≤ 2 then 2 else if (s.get! (i + 2)).toNat < 128 ∨ 191 < (s.get! (i + 2)).toNat then 0
      else if 2 ≤ 3 then 3 else if (s.get! (i + 3)).toNat < 128 ∨ 191 < (s.get! (i + 3)).toNat then 0 else 4) :
    Calls Tryz.prog 80 #[.string s, .int .i64 i] w fun e w' => e = .returned (.int .i64 (chr s i).2) ∧ w' = w := by
  by_cases c0 : s.size - i < 2
  · rw [if_pos c0] at hc
    rw [hc]
    have d0 : s.size < i + 2 := by omega
    clear hc c0
    go_enter Tryz.func80, Tryz.ntmps80
    go_wp2_with fail
    refine HS.out.mono ?_
    rintro e w2 ⟨rfl, rfl⟩
    go_wp2_with fail
    go_ret
    exact ⟨rfl, rfl⟩
  rw [if_neg c0] at hc
  have d0 : ¬ (s.size < i + 2) := by omega
  have i1 : i + 1 < s.size := by omega
  obtain ⟨B1, e1⟩ : ∃ B1, (s.get! (i + 1)).toNat = B1 := ⟨_, rfl⟩
  rw [e1] at hc
  have w1 : wrap64 (s[i + 1].toNat : Int) = (B1 : Int) := by
    have := get!_bt i1
    rw [bt_lt i1] at this
    have := s[i + 1].toNat_lt
    unfold wrap64
    omega
  by_cases c1 : B1 < 128
  · rw [if_pos (show B1 < 128 ∨ 191 < B1 from .inl c1)] at hc
    rw [hc]
    clear hc c0 e1
    go_enter Tryz.func80, Tryz.ntmps80
    go_wp2_with fail
    refine HS.out.mono ?_
    rintro e w2 ⟨rfl, rfl⟩
    go_wp2_with fail
    go_ret
    exact ⟨rfl, rfl⟩
  by_cases c2 : 191 < B1
  · rw [if_pos (show B1 < 128 ∨ 191 < B1 from .inr c2)] at hc
    rw [hc]
    clear hc c0 e1
    go_enter Tryz.func80, Tryz.ntmps80
    go_wp2_with fail
    refine HS.out.mono ?_
    rintro e w2 ⟨rfl, rfl⟩
    go_wp2_with fail
    go_ret
    exact ⟨rfl, rfl⟩
  rw [if_neg (show ¬ (B1 < 128 ∨ 191 < B1) from fun h => h.elim c1 c2)] at hc
  rw [if_pos (show 2 ≤ 2 from Nat.le_refl 2)] at hc
  rw [hc]
  clear hc c0 e1
  go_enter Tryz.func80, Tryz.ntmps80
  go_wp2_with fail
  refine HS.out.mono ?_
  rintro e w2 ⟨rfl, rfl⟩
  go_wp2_with fail
  refine wp_loop_rounds 1 ?_
  rw [rounds_succ]
  go_wp2_with fail
  go_ret
  exact ⟨rfl, rfl⟩

set_option maxHeartbeats 1000000 in
theorem wh_3_160_191 (w : World) (s : ByteArray) (i : Nat) (B0 : Int) (hi : i < s.size) (hs : s.size ≤ 1099511627776)
    (HS : Hid (Calls Tryz.prog 145 #[.int .i64 B0] w fun e w' => e = .returned (.tuple #[.int .i64 3, .int .i64 160, .int .i64 191]) ∧ w' = w))
    (w0 : wrap64 (s[i].toNat : Int) = B0)
    (hc : (chr s i).2 = if s.size - i < 3 then 0 else if (s.get! (i + 1)).toNat < 160 ∨ 191 < (s.get! (i + 1)).toNat then 0 else if 3 ≤ 2 then 2 else if (s.get! (i + 2)).toNat < 128 ∨ 191 < (s.get! (i + 2)).toNat then 0
      else if 3 ≤ 3 then 3 else if (s.get! (i + 3)).toNat < 128 ∨ 191 < (s.get! (i + 3)).toNat then 0 else 4) :
    Calls Tryz.prog 80 #[.string s, .int .i64 i] w fun e w' => e = .returned (.int .i64 (chr s i).2) ∧ w' = w := by
  by_cases c0 : s.size - i < 3
  · rw [if_pos c0] at hc
    rw [hc]
    have d0 : s.size < i + 3 := by omega
    clear hc c0
    go_enter Tryz.func80, Tryz.ntmps80
    go_wp2_with fail
    refine HS.out.mono ?_
    rintro e w2 ⟨rfl, rfl⟩
    go_wp2_with fail
    go_ret
    exact ⟨rfl, rfl⟩
  rw [if_neg c0] at hc
  have d0 : ¬ (s.size < i + 3) := by omega
  have i1 : i + 1 < s.size := by omega
  obtain ⟨B1, e1⟩ : ∃ B1, (s.get! (i + 1)).toNat = B1 := ⟨_, rfl⟩
  rw [e1] at hc
  have w1 : wrap64 (s[i + 1].toNat : Int) = (B1 : Int) := by
    have := get!_bt i1
    rw [bt_lt i1] at this
    have := s[i + 1].toNat_lt
    unfold wrap64
    omega
  by_cases c1 : B1 < 160
  · rw [if_pos (show B1 < 160 ∨ 191 < B1 from .inl c1)] at hc
    rw [hc]
    clear hc c0 e1
    go_enter Tryz.func80, Tryz.ntmps80
    go_wp2_with fail
    refine HS.out.mono ?_
    rintro e w2 ⟨rfl, rfl⟩
    go_wp2_with fail
    go_ret
    exact ⟨rfl, rfl⟩
  by_cases c2 : 191 < B1
  · rw [if_pos (show B1 < 160 ∨ 191 < B1 from .inr c2)] at hc
    rw [hc]
    clear hc c0 e1
    go_enter Tryz.func80, Tryz.ntmps80
    go_wp2_with fail
    refine HS.out.mono ?_
    rintro e w2 ⟨rfl, rfl⟩
    go_wp2_with fail
    go_ret
    exact ⟨rfl, rfl⟩
  rw [if_neg (show ¬ (B1 < 160 ∨ 191 < B1) from fun h => h.elim c1 c2)] at hc
  rw [if_neg (show ¬ (3 ≤ 2) from by decide)] at hc
  have i2 : i + 2 < s.size := by omega
  obtain ⟨B2, e2⟩ : ∃ B2, (s.get! (i + 2)).toNat = B2 := ⟨_, rfl⟩
  rw [e2] at hc
  have w2 : wrap64 (s[i + 2].toNat : Int) = (B2 : Int) := by
    have := get!_bt i2
    rw [bt_lt i2] at this
    have := s[i + 2].toNat_lt
    unfold wrap64
    omega
  by_cases c3 : B2 < 128
  · rw [if_pos (show B2 < 128 ∨ 191 < B2 from .inl c3)] at hc
    rw [hc]
    clear hc c0 e1 e2
    go_enter Tryz.func80, Tryz.ntmps80
    go_wp2_with fail
    refine HS.out.mono ?_
    rintro e w2 ⟨rfl, rfl⟩
    go_wp2_with fail
    refine wp_loop_rounds 1 ?_
    rw [rounds_succ]
    go_wp2_with fail
    go_ret
    exact ⟨rfl, rfl⟩
  by_cases c4 : 191 < B2
  · rw [if_pos (show B2 < 128 ∨ 191 < B2 from .inr c4)] at hc
    rw [hc]
    clear hc c0 e1 e2
    go_enter Tryz.func80, Tryz.ntmps80
    go_wp2_with fail
    refine HS.out.mono ?_
    rintro e w2 ⟨rfl, rfl⟩
    go_wp2_with fail
    refine wp_loop_rounds 1 ?_
    rw [rounds_succ]
    go_wp2_with fail
    go_ret
    exact ⟨rfl, rfl⟩
  rw [if_neg (show ¬ (B2 < 128 ∨ 191 < B2) from fun h => h.elim c3 c4)] at hc
  rw [if_pos (show 3 ≤ 3 from Nat.le_refl 3)] at hc
  rw [hc]
  clear hc c0 e1 e2
  go_enter Tryz.func80, Tryz.ntmps80
  go_wp2_with fail
  refine HS.out.mono ?_
  rintro e w2 ⟨rfl, rfl⟩
  go_wp2_with fail
  refine wp_loop_rounds 2 ?_
  rw [rounds_succ]
  go_wp2_with fail
  rw [rounds_succ]
  go_wp2_with fail
  go_ret
  exact ⟨rfl, rfl⟩

end Ref
end Go.Proofs.YtnffjoipinhojaaGreatDoor
