import Derived.Test.YtnffjoipinhojaaGreatDoorTa
set_option linter.unusedSimpArgs false
set_option linter.unusedVariables false
namespace Go.Proofs.YtnffjoipinhojaaGreatDoor
open Go.RowKit

theorem num_any (w : World) (n : Int) (h : n = 0 ∨ n = 1 ∨ n = 2 ∨ n = 4) : Calls Tryz.prog 12 #[.int .i64 n] w fun e w' => e = .returned (.int .i64 n) ∧ w' = w := by
  go_enter Tryz.func12, Tryz.ntmps12
  go_wp2
  go_ret
  exact ⟨rfl, rfl⟩

theorem readT_num (s : ByteArray) : (Ref.readT s).2.1 = 0 ∨ (Ref.readT s).2.1 = 1 ∨ (Ref.readT s).2.1 = 2 ∨ (Ref.readT s).2.1 = 4 := by
  unfold Ref.readT
  split
  · simp
  · split
    · simp
    · split <;> simp

set_option maxHeartbeats 2000000 in
theorem termReads_any (w : World) (s : ByteArray) (hT : Tabs w) (hG : 8 ≤ w.heap.size) (hH : Handle w) :
    Calls Tryz.prog 3 #[.string s] w fun e w' => e = .returned (.bool true) ∧ Below w.heap.size w w' := by
  have HA := termRead_any w s hT hG hH
  have HB := fun w2 => Ref.read_any w2 s
  have hn := readT_num s
  generalize (Ref.readT s) = r at HA HB hn
  obtain ⟨l, n, a⟩ := r
  obtain ⟨V, hV⟩ : ∃ V : ByteArray, V = ⟨l.toArray⟩ := ⟨_, rfl⟩
  have H1 : Hid (Calls Tryz.prog 10 #[.string s] w fun e w' => e = .returned (.tuple #[.string V, .int .i64 n, .int .i64 a]) ∧ Below w.heap.size w w') := by unfold Hid; rw [hV]; exact HA
  have H2 : Hid (∀ w2, Calls Tryz.prog 11 #[.string s] w2 fun e w' => e = .returned (.tuple #[.string V, .int .i64 n, .int .i64 a]) ∧ Below w2.heap.size w2 w') := by unfold Hid; rw [hV]; exact HB
  have H3 : Hid (∀ w2, Calls Tryz.prog 12 #[.int .i64 n] w2 fun e w' => e = .returned (.int .i64 n) ∧ w' = w2) := fun w2 => num_any w2 n hn
  clear HA HB hV hT hH hn
  go_enter Tryz.func3, Tryz.ntmps3
  go_wp2_with fail
  refine H1.out.mono ?_
  rintro e w2 ⟨rfl, hB⟩
  go_wp2_with fail
  refine (H2.out _).mono ?_
  rintro e w3 ⟨rfl, hB2⟩
  go_wp2_with fail
  refine (H3.out _).mono ?_
  rintro e w4 ⟨rfl, rfl⟩
  go_wp2_with fail
  go_ret
  exact ⟨rfl, hB.trans (hB2.mono hB.size)⟩

end Go.Proofs.YtnffjoipinhojaaGreatDoor
