import Derived.Test.YtnffjoipinhojabDoorCards
import Derived.Test.YtnffjoipinhojabDoorTie
import Derived.Test.YtnffjoipinhojabDoorEi
import Derived.Test.YtnffjoipinhojabDoorLh
import Derived.Carry
import Derived.Lib.SmallJoins
import Derived.Deep.Slices
import Derived.Deep.Strs
namespace Go.Proofs.YtnffjoipinhojabDoor.dictBackUpto
open Go.ChangeShapes Go.WideShapes Go.ChangeAt Go.RowKit
open Go.ChangeMaps (open_string shut_string)
open Go.Joins (open_agg3 shut_agg3)

theorem bulk_cons {H : Type} {d : DataW H} {l : List (DataW H)} {n : Nat} (h : Rows.uptoBulkAll (d :: l) ≤ n) : Rows.uptoBulk d ≤ n ∧ Rows.uptoBulkAll l ≤ n := by
  simp only [Rows.uptoBulkAll] at h
  omega
theorem bulk_len {H : Type} (l : List (DataW H)) : l.length ≤ Rows.uptoBulkAll l := by
  induction l with
  | nil => simp [Rows.uptoBulkAll]
  | cons x r ih =>
    have h1 : 1 ≤ Rows.uptoBulk x := by
      cases x with
      | lit l => cases l <;> simp [Rows.uptoBulk]
      | _ => simp [Rows.uptoBulk]
    simp only [Rows.uptoBulkAll, List.length_cons]
    omega

theorem laidOut : laidOutB Tryd.prog = true := by kernel_rfl
theorem cells9 : Tryd.prog.cellsOf 9 = 1 := by kernel_rfl

theorem str_data (s : ByteArray) : strT s.data.toList = .string s := by
  cases s with | mk d => rfl

theorem bulk_mem {H : Type} : ∀ {l : List (DataW H)} {d : DataW H}, d ∈ l → Rows.uptoBulk d ≤ Rows.uptoBulkAll l
  | x :: r, d, h => by
    simp only [Rows.uptoBulkAll]
    rcases List.mem_cons.1 h with rfl | h
    · omega
    · have := bulk_mem h
      omega

set_option maxRecDepth 100000 in
/-- a list of texts, opened -/
theorem open_texts {H : Type} {enc : TypeId × Value → H} {w : World} {base : Nat} {spare : Nat → Bool} {held : Bool} {fuel : Nat} {cs : List Value} {x : DataW H × List MemPlace}
    (h : DataW.trod enc Tryd.prog w base spare held fuel 22 cs = some x) :
    (cs = [.slice none 0 0] ∧ x = (.nil, [])) ∨ ∃ (a : Addr) (len cap : Nat) (l : List (List UInt8)) (es rs : List (DataW H)), cs = [.slice (some a) len cap] ∧ x.1 = .slice es rs ∧ es.length = len ∧ l.length = len ∧ len ≤ cap ∧ cap ≤ maxLen ∧
      (∀ k t, l[k]? = some t → w.cell? (a.add k) = some (strT t)) ∧ ∀ t ∈ l, t.length ≤ Rows.uptoBulkAll es := by
  rcases Go.Deep.open_slice1 Tryd.underlying22 cells9 h with h0 | ⟨a, len, cap, m, n, V, D, Pl, rfl, hb, hl, hm, hmm, rfl, hx⟩
  · exact .inl h0
  right
  have hlm : len ≤ m := by rw [hmm]; split <;> omega
  have each : ∀ i, i < m → ∃ t : List UInt8, w.cell? (a.add i) = some (strT t) ∧ D i = .lit (.string t) := by
    intro i hi
    obtain ⟨h1, h2⟩ := hx i hi
    obtain ⟨s0, e0, e1, _⟩ := DataW.trod_string Tryd.underlying9 h2
    simp at e0
    simp only [Prod.mk.injEq] at e1
    exact ⟨s0.data.toList, by rw [str_data, ← e0]; exact h1, e1.1⟩
  obtain ⟨q, hq⟩ := Go.Deep.choose_lt each
  refine ⟨a, len, cap, (List.range len).map q, _, _, rfl, rfl, by simp, by simp, hl, hm, fun k t hk => ?_, fun t ht => ?_⟩
  · have hlt := (List.getElem?_eq_some_iff.1 hk).1
    simp at hlt
    rw [List.getElem?_map, List.getElem?_range hlt] at hk
    cases hk
    exact (hq k (by omega)).1
  · obtain ⟨k, hk, rfl⟩ := List.mem_map.1 ht
    have hk' := List.mem_range.1 hk
    have hm2 : D k ∈ (List.range len).map D := List.mem_map.2 ⟨k, hk, rfl⟩
    have := bulk_mem hm2
    rw [(hq k (by omega)).2] at this
    simp only [Rows.uptoBulk] at this
    omega

set_option maxRecDepth 100000 in
theorem contract (H : Type) (enc : TypeId × Value → H) (W : World) (base : Nat) (args : Array Value) (ds gs : List (DataW H)) (before : List MemPlace)
    (hval : ∀ (j : Nat) t v, Tryd.f5.params[j]? = some t → args[j]? = some v → Value.okWide Tryd.prog W .any base t v)
    (hW : DataW.Whole enc Tryd.prog Tryd.f5.params.toList Rows.dictBackSpec.vars false W args.toList ds gs before)
    (hk : Rows.uptoSmall H (ds ++ gs) = true)
    (hL : laidMetH Tryd.prog Rows.dictBackUptoRow.laid W) :
    Calls Tryd.prog 5 args W fun e W' => ∃ v, e = .returned v ∧ Rows.dictBackSpec.post enc Tryd.prog Tryd.f5 false true false false W args v W' := by
  have hW' := hW
  obtain ⟨p, q, hA0, hV, rfl, hfz, hnd⟩ := hW
  have hA : DataW.TrodAll enc Tryd.prog W 0 (fun _ => true) true Tryd.f5.params.toList args.toList ds p := hA0
  rw [Tryd.params5] at hA hval
  obtain ⟨v0, d0, rfl, rfl, h0⟩ := trodAll_one hA
  obtain ⟨rfl, rfl⟩ := trodVars_none hV
  obtain ⟨a0, len, cap, rfl⟩ := okWide_slice Tryd.underlying22 (hval 0 22 v0 rfl rfl)
  have h0k := h0
  obtain ⟨fuel, hf⟩ := h0
  clear hA0
  simp only [List.append_nil] at hW' hk
  have hlt : ∀ x ∈ p, x.block < W.heap.size := fun x hx => by simpa using hW'.lt x hx
  have hbulk : Rows.uptoBulkAll [d0] ≤ 1048576 := of_decide_eq_true hk
  have hargs : ∀ (W' : World), Below W.heap.size W W' → DataW.Trod enc Tryd.prog W' 0 (fun b => decide (b < W.heap.size)) true 22 (.slice a0 len cap) d0 p :=
    fun W' hn => Below.trod laidOut (by kernel_rfl) (of_decide_eq_true (by kernel_rfl)) h0k hn hlt
  have hH := laid.handle_of hL
  have hc : Calls Tryd.prog 5 #[.slice a0 len cap] W fun e w' => e = .returned (.bool true) ∧ Below W.heap.size W w' := by
    rcases open_texts hf with ⟨hcs, hx⟩ | ⟨a, len', cap', l, es, rs, hcs, hx, hes, hll, hlc, hcm, hcell, hsz⟩
    · simp [Value.cells] at hcs
      obtain ⟨rfl, rfl, rfl⟩ := hcs
      exact dictBack_any W _ [] (.inl ⟨none, 0, rfl, by unfold maxLen; omega, rfl⟩) (by simp) (fun t ht => by cases ht) hH
    · simp [Value.cells] at hcs
      obtain ⟨rfl, rfl, rfl⟩ := hcs
      simp only at hx
      rw [hx] at hbulk
      simp only [Rows.uptoBulkAll, Rows.uptoBulk] at hbulk
      have hlen : len ≤ 1048576 := by
        have := bulk_len es
        omega
      have hz : ∀ t ∈ l, t.length ≤ 1000000000 := fun t ht => by have := hsz t ht; omega
      by_cases hl0 : len = 0
      · subst hl0
        have : l = [] := List.length_eq_zero_iff.1 hll
        subst this
        exact dictBack_any W _ [] (.inl ⟨some a, cap, rfl, hcm, rfl⟩) (by simp) (fun t ht => by cases ht) hH
      · obtain ⟨b, off, spot⟩ := a
        obtain ⟨y, hy⟩ : ∃ y, l[0]? = some y := ⟨_, List.getElem?_eq_getElem (by omega)⟩
        have hspot : spot = none := by simpa [Addr.add] using World.cell?_spot (hcell 0 y hy)
        subst hspot
        have hcell' : Strs W b off l := fun k x hk => by
          have := hcell k x hk
          rw [add_plain] at this
          exact this
        have hb : b < W.heap.size := World.block_lt_of_cell? W ⟨b, _, none⟩ (hcell' 0 y hy)
        subst hll
        exact dictBack_any W _ l (.inr ⟨b, off, cap, rfl, hb, hlc, hcm, hcell'⟩) (by omega) hz hH
  refine hc.mono fun e W' ⟨he, hbl⟩ => ?_
  subst he
  refine ⟨_, rfl, _, _, _, [], p, [], hW', ?_, ?_, rfl, hbl.frame _, fun h => by cases h⟩
  · exact trodAll_mk1 (shut_bool Tryd.underlying4 true)
  · exact trodAll_mk1 (hargs _ hbl)

theorem reads (os : Os) {H : Type} (enc : TypeId × Value → H) : ∃ places, DataW.whole enc Tryd.prog ((laid.laidWorld os).forCall (fun _ _ => 0) ⟨#[], #[.slice none 0 0], []⟩).memory Tryd.f5.params.toList Rows.dictBackSpec.vars false #[Value.slice none 0 0].toList 8 = some ([.nil], [], places) :=
  ⟨[], by kernel_rfl⟩

set_option maxRecDepth 100000 in
theorem lifted (os : Os) (started : os.Started) (H : Type) (enc : TypeId × Value → H) (F : Stop.Interp) :
    ReturnsInHanded {} Tryd.checked os 5 .any ((Rows.OpenSpec.upto Rows.dictBackSpec).preRow enc Tryd.prog Tryd.f5 Rows.dictBackUptoRow.domain false Rows.dictBackUptoRow.laid) (((Rows.OpenSpec.upto Rows.dictBackSpec).at F).post enc Tryd.prog Tryd.f5 false true false false) := by
  obtain ⟨places, hx⟩ := reads os enc
  refine returnsInHanded_of_row (C := Tryd.checked) (s := Rows.OpenSpec.upto Rows.dictBackSpec) laid.own started (by kernel_rfl) Tryd.func5
    (witness_row_at (enc := enc) (C := Tryd.checked) false (laid.laidWorld os) #[.slice none 0 0] rfl (by kernel_rfl) (by kernel_rfl) (by kernel_rfl)
      (OpenSpec.preRow_of_cond 8 hx (by kernel_rfl) (fun k hk => by cases hk; kernel_rfl) (by kernel_rfl) (laid.laid_met os _))) ?_
  intro W base args ds gs before hval hW _ hcond _ hL hsh _
  exact contract H enc W base args ds gs before hval hW (hcond _ rfl) hL

theorem said : Rows.DictBackUptoSaid :=
  OpenClaim.holds_of_cond 5 Tryd.f5 rfl rfl rfl rfl rfl rfl rfl ⟨rfl, rfl, rfl, rfl, rfl⟩ rfl rfl rfl rfl rfl (by kernel_rfl) Tryd.func5 (by kernel_rfl)
    (of_decide_eq_true (by kernel_rfl)) (by unfold Func.isWrapper; first | (rw [if_pos (by decide +kernel)]; kernel_rfl) | (rw [if_neg (by decide +kernel)]; exact ⟨rfl, rfl⟩))
    (fun os started H enc _ F => by rw [OpenClaim.pre_eq_preRow]; exact lifted os started H enc F)

theorem plain (f : FuncId) (fn : Func) (hf : Tryd.pinned.checked.prog.funcNamed "trine/trinelaw.DictBack" = some f) (hfn : Tryd.pinned.checked.prog.funcs[f]? = some fn) :
    true = Tryd.pinned.checked.prog.looks [] ∧ ∀ (j : Nat) t, fn.params[j]? = some t → Tryd.pinned.checked.prog.wantsStandIn t = false := by
  obtain rfl : f = 5 := Option.some.inj ((show Tryd.prog.funcNamed "trine/trinelaw.DictBack" = some 5 by kernel_rfl).symm.trans hf) |>.symm
  obtain rfl : fn = Tryd.f5 := (Option.some.inj (Tryd.func5.symm.trans hfn)).symm
  refine ⟨by kernel_rfl, fun j t ht => ?_⟩
  rw [Tryd.params5] at ht
  have hm := Array.mem_of_getElem? ht
  simp only [List.mem_toArray, List.mem_cons, List.not_mem_nil, or_false] at hm
  rcases hm with rfl
  exact (show Tryd.prog.wantsStandIn 22 = false by kernel_rfl)

end Go.Proofs.YtnffjoipinhojabDoor.dictBackUpto

namespace Go.Proofs.YtnffjoipinhojabDoor
/-- THE CARD -/
theorem dictBackUpto_card : Rows.DictBackUptoCardSaid :=
  Claim7.holds_tied_plain_at .later [] _ _ _ _ dictBackUpto.said (fun _ h => by cases h) (by kernel_rfl) (fun _ h => by cases h) dictBackUpto_row_tie rfl ⟨rfl, rfl⟩ (by kernel_rfl) rfl dictBackUpto.plain (by kernel_rfl)
end Go.Proofs.YtnffjoipinhojabDoor
