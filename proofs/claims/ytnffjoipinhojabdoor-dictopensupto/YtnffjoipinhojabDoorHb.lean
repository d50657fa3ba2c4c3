import Derived.Test.YtnffjoipinhojabDoorHa
set_option linter.unusedSimpArgs false
set_option linter.unusedVariables false
namespace Go.Proofs.YtnffjoipinhojabDoor
open Go.RowKit

/-- Get at a number that is no text's -/
theorem get_out (w : World) (base b j : Nat) (k : Int) (l : List (List UInt8)) (h : DictR base b l j w) (hk : k < 0 ∨ (l.length : Int) ≤ k) :
    Calls Tryd.prog 12 #[.pointer (some ⟨b, 0, none⟩), .int .i64 k] w fun e w' => e = .returned (.string ⟨#[]⟩) ∧ w' = w := by
  have HLn : Hid (Calls Tryd.prog 11 #[.pointer (some ⟨b, 0, none⟩)] w fun e w' => e = .returned (.int .i64 l.length) ∧ w' = w) := len_any w base b _ l h
  clear h
  by_cases h0 : k < 0
  · go_enter Tryd.func12, Tryd.ntmps12
    go_wp2_with fail
    go_ret
    exact ⟨rfl, rfl⟩
  · have h1 : ¬ k < (l.length : Int) := by omega
    clear hk
    go_enter Tryd.func12, Tryd.ntmps12
    go_wp2_with (first | (go_at_call 11; refine HLn.out.mono ?_; rintro e w2 ⟨rfl, rfl⟩))
    go_ret
    exact ⟨rfl, rfl⟩

end Go.Proofs.YtnffjoipinhojabDoor
