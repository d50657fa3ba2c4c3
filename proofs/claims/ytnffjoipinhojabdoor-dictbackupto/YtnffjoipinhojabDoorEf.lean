import Derived.Test.YtnffjoipinhojabDoorEe
import Derived.Shelf.Pu.Clone
set_option linter.unusedSimpArgs false
set_option linter.unusedVariables false
namespace Go.Proofs.YtnffjoipinhojabDoor
open Go.RowKit Go.Shelf

/-- where the shelf's stringslite.Clone lies here -/
def renC : Ren := ⟨fun k => if k = 25 then 44 else k, fun k => if k = 37 then 46 else if k = 47 then 90 else k, fun k => k⟩
set_option maxRecDepth 100000 in
theorem laysC : LaysPu.n25 Tryd.prog renC := by
  constructor
  all_goals first | kernel_rfl | (intro w; kernel_rfl)

theorem clone_any (s : ByteArray) (w : World) (hlim : s.size ≤ 140737488355328) :
    Calls Tryd.prog 26 #[.string s] w fun e w' => e = .returned (.string s) ∧ Below w.heap.size w w' := by
  have H : Calls Tryd.prog 44 #[.string s] w fun e w' => e = .returned (.string s) ∧ Below w.heap.size w w' := AnyPu.stringslite_Clone laysC s w (by omega)
  go_enter Tryd.func26, Tryd.ntmps26
  go_wp2_with fail
  refine H.mono ?_
  rintro e w1 ⟨rfl, hb⟩
  go_wp2_with fail
  go_ret
  exact ⟨rfl, hb⟩

end Go.Proofs.YtnffjoipinhojabDoor
