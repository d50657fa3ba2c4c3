import Derived.Test.YtnffjoipinhojaaGreatDoorCards
import Derived.Test.YtnffjoipinhojaaGreatDoorTie
import Derived.Test.YtnffjoipinhojaaGreatDoorTm
import Derived.Test.YtnffjoipinhojaaGreatDoorLr
import Derived.Carry
import Derived.Lib.SmallJoins
namespace Go.Proofs.YtnffjoipinhojaaGreatDoor.termKinds
open Go.ChangeShapes Go.WideShapes Go.ChangeAt Go.RowKit
open Go.ChangeMaps (open_string shut_string)
open Go.Joins (open_agg3 shut_agg3)

set_option maxRecDepth 100000 in
theorem contract (H : Type) (enc : TypeId × Value → H) (W : World) (base : Nat) (args : Array Value) (ds gs : List (DataW H)) (before : List MemPlace)
    (hval : ∀ (j : Nat) t v, Tryz.f4.params[j]? = some t → args[j]? = some v → Value.okWide Tryz.prog W .any base t v)
    (hW : DataW.Whole enc Tryz.prog Tryz.f4.params.toList Rows.termKindsSpec.vars false W args.toList ds gs before)
    (hL : laidMetH Tryz.prog Rows.termKindsRow.laid W) (hG : 8 ≤ W.heap.size) :
    Calls Tryz.prog 4 args W fun e W' => ∃ v, e = .returned v ∧ Rows.termKindsSpec.post enc Tryz.prog Tryz.f4 false true false false W args v W' := by
  have hW' := hW
  obtain ⟨p, q, hA0, hV, rfl, hfz, hnd⟩ := hW
  have hA : DataW.TrodAll enc Tryz.prog W 0 (fun _ => true) true Tryz.f4.params.toList args.toList ds p := hA0
  rw [Tryz.params4] at hA hval
  obtain ⟨v0, v1, d0, d1, p0, p1, rfl, rfl, rfl, h0, h1⟩ := trodAll_two hA
  obtain ⟨rfl, rfl⟩ := trodVars_none hV
  obtain ⟨s0, rfl, rfl, rfl, hs0⟩ := open_string Tryz.underlying9 (hval 0 9 v0 rfl rfl) h0
  obtain ⟨c0, c1, c2, y0, y1, y2, n, rfl, rfl, rfl, t0, t1, t2⟩ := open_agg3 Tryz.underlying30 (by kernel_rfl) (by kernel_rfl) (hval 1 30 v1 rfl rfl) h1
  obtain ⟨a, ea, rfl, ha⟩ := DataW.trod_string Tryz.underlying9 t0
  obtain ⟨b, eb, rfl, hb⟩ := DataW.trod_string Tryz.underlying9 t1
  obtain ⟨c, ec, rfl, hc⟩ := DataW.trod_string Tryz.underlying9 t2
  obtain rfl := List.singleton_inj.1 ea
  obtain rfl := List.singleton_inj.1 eb
  obtain rfl := List.singleton_inj.1 ec
  have hT := laid.tabs_of (laid.parts3 hL)
  refine (termKinds_any W s0 a b c hT hG).mono fun e W' ⟨he, hbl⟩ => ?_
  subst he
  refine ⟨_, rfl, _, _, _, [], [], [], hW', ?_, ?_, rfl, hbl.frame _, fun h => by cases h⟩
  · exact trodAll_mk1 (shut_bool Tryz.underlying4 true)
  · exact trodAll_cons_mk (shut_string Tryz.underlying9 hs0) (trodAll_cons_mk (shut_agg3 Tryz.underlying30 (by kernel_rfl) (by kernel_rfl) (shut_string Tryz.underlying9 ha) (shut_string Tryz.underlying9 hb) (shut_string Tryz.underlying9 hc)) trodAll_mk0)

theorem reads (os : Os) {H : Type} (enc : TypeId × Value → H) : ∃ places, DataW.whole enc Tryz.prog ((laid.laidWorld os).forCall (fun _ _ => 0) ⟨#[], #[.string .empty, .agg #[.string .empty, .string .empty, .string .empty]], []⟩).memory Tryz.f4.params.toList Rows.termKindsSpec.vars false #[Value.string .empty, .agg #[.string .empty, .string .empty, .string .empty]].toList 8 = some ([.lit (.string []), .agg [.lit (.string []), .lit (.string []), .lit (.string [])]], [], places) :=
  ⟨[], by kernel_rfl⟩

set_option maxRecDepth 100000 in
theorem lifted (os : Os) (started : os.Started) (H : Type) (enc : TypeId × Value → H) (F : Stop.Interp) :
    ReturnsInHanded {} Tryz.checked os 4 .any ((OpenSpec.ofChange Rows.termKindsSpec).preRow enc Tryz.prog Tryz.f4 Rows.termKindsRow.domain false Rows.termKindsRow.laid) (((OpenSpec.ofChange Rows.termKindsSpec).at F).post enc Tryz.prog Tryz.f4 false true false false) := by
  obtain ⟨places, hx⟩ := reads os enc
  refine returnsInHanded_of_row (C := Tryz.checked) (s := OpenSpec.ofChange Rows.termKindsSpec) laid.own started (by kernel_rfl) Tryz.func4
    (witness_row_atRef (enc := enc) (C := Tryz.checked) false (laid.laidWorld os) #[.string .empty, .agg #[.string .empty, .string .empty, .string .empty]] rfl (by kernel_rfl) (by kernel_rfl) (by kernel_rfl)
      (OpenSpec.preRow_of_cond 8 hx (by kernel_rfl) (fun k hk => by cases hk) (by kernel_rfl) (show laidMetH _ laid.L3 _ from laid.laid_met3 os _))) ?_
  intro W base args ds gs before hval hW _ _ hsz hL hsh _
  exact contract H enc W base args ds gs before hval hW hL (laid.globals_le hsh)

theorem said : Rows.TermKindsSaid :=
  OpenClaim.holds_of_cond 4 Tryz.f4 rfl rfl rfl rfl rfl rfl rfl ⟨rfl, rfl, rfl, rfl, rfl⟩ rfl rfl rfl rfl rfl (by kernel_rfl) Tryz.func4 (by kernel_rfl)
    (of_decide_eq_true (by kernel_rfl)) (by unfold Func.isWrapper; first | (rw [if_pos (by decide +kernel)]; kernel_rfl) | (rw [if_neg (by decide +kernel)]; exact ⟨rfl, rfl⟩))
    (fun os started H enc _ F => by rw [OpenClaim.pre_eq_preRow]; exact lifted os started H enc F)

theorem plain (f : FuncId) (fn : Func) (hf : Tryz.pinned.checked.prog.funcNamed "trine/trinelaw.TermKinds" = some f) (hfn : Tryz.pinned.checked.prog.funcs[f]? = some fn) :
    true = Tryz.pinned.checked.prog.looks [] ∧ ∀ (j : Nat) t, fn.params[j]? = some t → Tryz.pinned.checked.prog.wantsStandIn t = false := by
  obtain rfl : f = 4 := Option.some.inj ((show Tryz.prog.funcNamed "trine/trinelaw.TermKinds" = some 4 by kernel_rfl).symm.trans hf) |>.symm
  obtain rfl : fn = Tryz.f4 := (Option.some.inj (Tryz.func4.symm.trans hfn)).symm
  refine ⟨by kernel_rfl, fun j t ht => ?_⟩
  rw [Tryz.params4] at ht
  have hm := Array.mem_of_getElem? ht
  simp only [List.mem_toArray, List.mem_cons, List.not_mem_nil, or_false] at hm
  rcases hm with rfl | rfl
  · exact (show Tryz.prog.wantsStandIn 9 = false by kernel_rfl)
  · exact (show Tryz.prog.wantsStandIn 30 = false by kernel_rfl)

end Go.Proofs.YtnffjoipinhojaaGreatDoor.termKinds

namespace Go.Proofs.YtnffjoipinhojaaGreatDoor
/-- THE CARD -/
theorem termKinds_card : Rows.TermKindsCardSaid :=
  Claim7.holds_tied_plain_at .later [] _ _ _ _ termKinds.said (fun _ h => by cases h) (by kernel_rfl) (fun _ h => by cases h) termKinds_row_tie rfl ⟨rfl, rfl⟩ (by kernel_rfl) rfl termKinds.plain (by kernel_rfl)
end Go.Proofs.YtnffjoipinhojaaGreatDoor
