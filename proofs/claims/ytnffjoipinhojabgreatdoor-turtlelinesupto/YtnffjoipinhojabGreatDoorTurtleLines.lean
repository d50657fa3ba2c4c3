import Derived.Test.YtnffjoipinhojabGreatDoorK46
import Derived.Test.YtnffjoipinhojabGreatDoorCards
import Derived.Test.YtnffjoipinhojabGreatDoorTie
import Derived.Carry
import Derived.Lib.SmallJoins
import Derived.Deep.Slices
import Derived.Deep.Strs
namespace Go.Proofs.YtnffjoipinhojabGreatDoor.turtleLinesUpto
open Go.ChangeShapes Go.WideShapes Go.ChangeAt Go.RowKit
open Go.ChangeMaps (open_string shut_string)
open Go.Joins (open_agg3 shut_agg3)

theorem bulk_cons {H : Type} {d : DataW H} {l : List (DataW H)} {n : Nat} (h : Rows.uptoBulkAll (d :: l) ≤ n) : Rows.uptoBulk d ≤ n ∧ Rows.uptoBulkAll l ≤ n := by
  simp only [Rows.uptoBulkAll] at h
  omega
theorem bulk_len {H : Type} (l : List (DataW H)) : l.length ≤ Rows.uptoBulkAll l := by
  induction l with
  | nil => simp [Rows.uptoBulkAll]
  | cons x r ih =>
    have h1 : 1 ≤ Rows.uptoBulk x := by
      cases x with
      | lit l => cases l <;> simp [Rows.uptoBulk]
      | _ => simp [Rows.uptoBulk]
    simp only [Rows.uptoBulkAll, List.length_cons]
    omega

theorem laidOut : laidOutB Tryz.prog = true := by kernel_rfl
theorem cells3 : Tryz.prog.cellsOf 50 = 3 := by kernel_rfl
theorem cells9 : Tryz.prog.cellsOf 9 = 1 := by kernel_rfl
instance : Inhabited Tri := ⟨⟨[], [], []⟩⟩

theorem str_data (s : ByteArray) : str s.data.toList = .string s := by
  show Value.string _ = _
  rw [show (⟨s.data.toList.toArray⟩ : ByteArray) = s from Back.arr_data s]

set_option maxRecDepth 100000 in
/-- a list of sentences, opened -/
theorem open_triples {H : Type} {enc : TypeId × Value → H} {w : World} {base : Nat} {spare : Nat → Bool} {held : Bool} {fuel : Nat} {cs : List Value} {x : DataW H × List MemPlace}
    (h : DataW.trod enc Tryz.prog w base spare held fuel 22 cs = some x) :
    (cs = [.slice none 0 0] ∧ x = (.nil, [])) ∨ ∃ (a : Addr) (len cap : Nat) (l : List Tri) (es rs : List (DataW H)), cs = [.slice (some a) len cap] ∧ x.1 = .slice es rs ∧ es.length = len ∧ l.length = len ∧
      ∀ k y, l[k]? = some y → w.cell? (a.add (k * 3)) = some (str y.s) ∧ w.cell? (a.add (k * 3 + 1)) = some (str y.p) ∧ w.cell? (a.add (k * 3 + 2)) = some (str y.o) := by
  rcases Go.Deep.open_slice Tryz.underlying22 h with h0 | ⟨a, len, cap, m, n, D, Pl, rfl, hb, hl, hm, hmm, rfl, hx⟩
  · exact .inl h0
  right
  have hlm : len ≤ m := by rw [hmm]; split <;> omega
  have each : ∀ i, i < m → ∃ y : Tri, w.cell? (a.add (i * 3)) = some (str y.s) ∧ w.cell? (a.add (i * 3 + 1)) = some (str y.p) ∧ w.cell? (a.add (i * 3 + 2)) = some (str y.o) := by
    intro i hi
    obtain ⟨cs', h1, h2⟩ := hx i hi
    rw [cells3] at h1
    obtain ⟨_, hlen, hcell⟩ := World.cells?_some h1
    obtain ⟨y0, y1, y2, k, _, _, g0, g1, g2⟩ := Go.Deep.trod_struct3 Tryz.underlying50 h2
    match cs', hlen with
    | [v0, v1, v2], _ =>
      simp [cells9] at g0 g1 g2
      obtain ⟨s0, e0, _⟩ := DataW.trod_string Tryz.underlying9 g0
      obtain ⟨s1, e1, _⟩ := DataW.trod_string Tryz.underlying9 g1
      obtain ⟨s2, e2, _⟩ := DataW.trod_string Tryz.underlying9 g2
      cases e0
      cases e1
      cases e2
      have q0 := hcell 0 (by omega)
      have q1 := hcell 1 (by omega)
      have q2 := hcell 2 (by omega)
      rw [Go.Deep.add_add] at q0 q1 q2
      refine ⟨⟨s0.data.toList, s1.data.toList, s2.data.toList⟩, ?_, ?_, ?_⟩
      · rw [str_data]; simpa using q0
      · rw [str_data]; simpa using q1
      · rw [str_data]; simpa using q2
  obtain ⟨q, hq⟩ := Go.Deep.choose_lt each
  refine ⟨a, len, cap, (List.range len).map q, _, _, rfl, rfl, by simp, by simp, fun k y hk => ?_⟩
  have hlt := (List.getElem?_eq_some_iff.1 hk).1
  simp at hlt
  rw [List.getElem?_map, List.getElem?_range hlt] at hk
  cases hk
  exact hq k (by omega)

set_option maxRecDepth 100000 in
theorem contract (H : Type) (enc : TypeId × Value → H) (W : World) (base : Nat) (args : Array Value) (ds gs : List (DataW H)) (before : List MemPlace)
    (hval : ∀ (j : Nat) t v, Tryz.f5.params[j]? = some t → args[j]? = some v → Value.okWide Tryz.prog W .any base t v)
    (hW : DataW.Whole enc Tryz.prog Tryz.f5.params.toList Rows.turtleLinesSpec.vars false W args.toList ds gs before)
    (hk : Rows.uptoSmall H (ds ++ gs) = true)
    (hL : laidMetH Tryz.prog Rows.turtleLinesUptoRow.laid W) (hG : 8 ≤ W.heap.size) :
    Calls Tryz.prog 5 args W fun e W' => ∃ v, e = .returned v ∧ Rows.turtleLinesSpec.post enc Tryz.prog Tryz.f5 false true false false W args v W' := by
  have hW' := hW
  obtain ⟨p, q, hA0, hV, rfl, hfz, hnd⟩ := hW
  have hA : DataW.TrodAll enc Tryz.prog W 0 (fun _ => true) true Tryz.f5.params.toList args.toList ds p := hA0
  rw [Tryz.params5] at hA hval
  obtain ⟨v0, d0, rfl, rfl, h0⟩ := trodAll_one hA
  obtain ⟨rfl, rfl⟩ := trodVars_none hV
  obtain ⟨a0, len, cap, rfl⟩ := okWide_slice Tryz.underlying22 (hval 0 22 v0 rfl rfl)
  have h0k := h0
  obtain ⟨fuel, hf⟩ := h0
  clear hA0
  simp only [List.append_nil] at hW' hk
  have hlt : ∀ x ∈ p, x.block < W.heap.size := fun x hx => by simpa using hW'.lt x hx
  have hbulk : Rows.uptoBulkAll [d0] ≤ 1048576 := of_decide_eq_true hk
  have hargs : ∀ (W' : World), Below W.heap.size W W' → DataW.Trod enc Tryz.prog W' 0 (fun b => decide (b < W.heap.size)) true 22 (.slice a0 len cap) d0 p :=
    fun W' hn => Below.trod laidOut (by kernel_rfl) (of_decide_eq_true (by kernel_rfl)) h0k hn hlt
  have hp := laid.parts hL
  have hT := laid.tabs_of hp.1
  have hH := laid.handle_of hp.2
  have hN := laid.tens_of hp.1
  have hc : Calls Tryz.prog 5 #[.slice a0 len cap] W fun e w' => e = .returned (.bool true) ∧ Below W.heap.size W w' := by
    rcases open_triples hf with ⟨hcs, hx⟩ | ⟨a, len', cap', l, es, rs, hcs, hx, hes, hll, hcell⟩
    · simp [Value.cells] at hcs
      obtain ⟨rfl, rfl, rfl⟩ := hcs
      exact Tu.turtleLines_of W _ [] hT hN hG hH (fun w1 _ => triples_zero w1 none 0)
    · simp [Value.cells] at hcs
      obtain ⟨rfl, rfl, rfl⟩ := hcs
      simp only at hx
      have hlen : len ≤ 1048576 := by
        rw [hx] at hbulk
        simp only [Rows.uptoBulkAll, Rows.uptoBulk] at hbulk
        have := bulk_len es
        omega
      by_cases hl0 : len = 0
      · subst hl0
        exact Tu.turtleLines_of W _ [] hT hN hG hH (fun w1 _ => triples_zero w1 (some a) cap)
      · obtain ⟨b, off, spot⟩ := a
        obtain ⟨y, hy⟩ : ∃ y, l[0]? = some y := ⟨_, List.getElem?_eq_getElem (by omega)⟩
        have hspot : spot = none := by simpa [Addr.add] using World.cell?_spot (hcell 0 y hy).1
        subst hspot
        have hcell' : LiesA W b off l := fun k x hk => by
          obtain ⟨c0, c1, c2⟩ := hcell k x hk
          rw [add_plain] at c0 c1 c2
          exact ⟨c0, by rw [Nat.add_assoc]; exact c1, by rw [Nat.add_assoc]; exact c2⟩
        have hb : b < W.heap.size := World.block_lt_of_cell? W ⟨b, _, none⟩ (hcell' 0 y hy).1
        subst hll
        exact Tu.turtleLines_of W _ l hT hN hG hH (fun w1 hbl => triples_at w1 b off cap l (Nat.lt_of_lt_of_le hb hbl.size) (hcell'.below hb hbl) (by omega))
  refine hc.mono fun e W' ⟨he, hbl⟩ => ?_
  subst he
  refine ⟨_, rfl, _, _, _, [], p, [], hW', ?_, ?_, rfl, hbl.frame _, fun h => by cases h⟩
  · exact trodAll_mk1 (shut_bool Tryz.underlying4 true)
  · exact trodAll_mk1 (hargs _ hbl)

theorem reads (os : Os) {H : Type} (enc : TypeId × Value → H) : ∃ places, DataW.whole enc Tryz.prog ((laid.laidWorld os).forCall (fun _ _ => 0) ⟨#[], #[.slice none 0 0], []⟩).memory Tryz.f5.params.toList Rows.turtleLinesSpec.vars false #[Value.slice none 0 0].toList 8 = some ([.nil], [], places) :=
  ⟨[], by kernel_rfl⟩

set_option maxRecDepth 100000 in
theorem lifted (os : Os) (started : os.Started) (H : Type) (enc : TypeId × Value → H) (F : Stop.Interp) :
    ReturnsInHanded {} Tryz.checked os 5 .any ((Rows.OpenSpec.upto Rows.turtleLinesSpec).preRow enc Tryz.prog Tryz.f5 Rows.turtleLinesUptoRow.domain false Rows.turtleLinesUptoRow.laid) (((Rows.OpenSpec.upto Rows.turtleLinesSpec).at F).post enc Tryz.prog Tryz.f5 false true false false) := by
  obtain ⟨places, hx⟩ := reads os enc
  refine returnsInHanded_of_row (C := Tryz.checked) (s := Rows.OpenSpec.upto Rows.turtleLinesSpec) laid.own started (by kernel_rfl) Tryz.func5
    (witness_row_atRef (enc := enc) (C := Tryz.checked) false (laid.laidWorld os) #[.slice none 0 0] rfl (by kernel_rfl) (by kernel_rfl) (by kernel_rfl)
      (OpenSpec.preRow_of_cond 8 hx (by kernel_rfl) (fun k hk => by cases hk; kernel_rfl) (by kernel_rfl) (laid.laid_met os _))) ?_
  intro W base args ds gs before hval hW _ hcond _ hL hsh _
  exact contract H enc W base args ds gs before hval hW (hcond _ rfl) hL (laid.globals_le hsh)

theorem said : Rows.TurtleLinesUptoSaid :=
  OpenClaim.holds_of_cond 5 Tryz.f5 rfl rfl rfl rfl rfl rfl rfl ⟨rfl, rfl, rfl, rfl, rfl⟩ rfl rfl rfl rfl rfl (by kernel_rfl) Tryz.func5 (by kernel_rfl)
    (of_decide_eq_true (by kernel_rfl)) (by unfold Func.isWrapper; first | (rw [if_pos (by decide +kernel)]; kernel_rfl) | (rw [if_neg (by decide +kernel)]; exact ⟨rfl, rfl⟩))
    (fun os started H enc _ F => by rw [OpenClaim.pre_eq_preRow]; exact lifted os started H enc F)

theorem plain (f : FuncId) (fn : Func) (hf : Tryz.pinned.checked.prog.funcNamed "trine/trinelaw.TurtleLines" = some f) (hfn : Tryz.pinned.checked.prog.funcs[f]? = some fn) :
    true = Tryz.pinned.checked.prog.looks [] ∧ ∀ (j : Nat) t, fn.params[j]? = some t → Tryz.pinned.checked.prog.wantsStandIn t = false := by
  obtain rfl : f = 5 := Option.some.inj ((show Tryz.prog.funcNamed "trine/trinelaw.TurtleLines" = some 5 by kernel_rfl).symm.trans hf) |>.symm
  obtain rfl : fn = Tryz.f5 := (Option.some.inj (Tryz.func5.symm.trans hfn)).symm
  refine ⟨by kernel_rfl, fun j t ht => ?_⟩
  rw [Tryz.params5] at ht
  have hm := Array.mem_of_getElem? ht
  simp only [List.mem_toArray, List.mem_cons, List.not_mem_nil, or_false] at hm
  rcases hm with rfl
  exact (show Tryz.prog.wantsStandIn 22 = false by kernel_rfl)

end Go.Proofs.YtnffjoipinhojabGreatDoor.turtleLinesUpto

namespace Go.Proofs.YtnffjoipinhojabGreatDoor
/-- THE CARD -/
theorem turtleLinesUpto_card : Rows.TurtleLinesUptoCardSaid :=
  Claim7.holds_tied_plain_at .later [] _ _ _ _ turtleLinesUpto.said (fun _ h => by cases h) (by kernel_rfl) (fun _ h => by cases h) turtleLinesUpto_row_tie rfl ⟨rfl, rfl⟩ (by kernel_rfl) rfl turtleLinesUpto.plain (by kernel_rfl)
end Go.Proofs.YtnffjoipinhojabGreatDoor
