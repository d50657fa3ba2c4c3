import Derived.Test.YtfapcangooodeabGreatDoorK48
import Derived.Test.YtfapcangooodeabGreatDoorCards
import Derived.Test.YtfapcangooodeabGreatDoorTie
import Derived.Carry
import Derived.Lib.SmallJoins
import Derived.Deep.Slices
import Derived.Deep.Strs
import Derived.Deep.SlicePairs
namespace Go.Proofs.YtfapcangooodeabGreatDoor.turtleBackUpto
open Go.ChangeShapes Go.WideShapes Go.ChangeAt Go.RowKit
open Go.ChangeMaps (open_string shut_string)
open Go.Joins (open_agg3 shut_agg3)

theorem bulk_cons {H : Type} {d : DataW H} {l : List (DataW H)} {n : Nat} (h : Rows.uptoBulkAll (d :: l) ≤ n) : Rows.uptoBulk d ≤ n ∧ Rows.uptoBulkAll l ≤ n := by
  simp only [Rows.uptoBulkAll] at h
  omega
theorem bulk_len {H : Type} (l : List (DataW H)) : l.length ≤ Rows.uptoBulkAll l := by
  induction l with
  | nil => simp [Rows.uptoBulkAll]
  | cons x r ih =>
    have h1 : 1 ≤ Rows.uptoBulk x := by
      cases x with
      | lit l => cases l <;> simp [Rows.uptoBulk]
      | _ => simp [Rows.uptoBulk]
    simp only [Rows.uptoBulkAll, List.length_cons]
    omega

theorem laidOut : laidOutB Tryz.prog = true := by kernel_rfl
theorem cells3 : Tryz.prog.cellsOf 50 = 3 := by kernel_rfl
theorem cells9 : Tryz.prog.cellsOf 9 = 1 := by kernel_rfl
instance : Inhabited Tri := ⟨⟨[], [], []⟩⟩

theorem str_data (s : ByteArray) : str s.data.toList = .string s := by
  show Value.string _ = _
  rw [show (⟨s.data.toList.toArray⟩ : ByteArray) = s from Back.arr_data s]

set_option maxRecDepth 100000 in
/-- a list of sentences, opened -/
theorem open_triples {H : Type} {enc : TypeId × Value → H} {w : World} {base : Nat} {spare : Nat → Bool} {held : Bool} {fuel : Nat} {cs : List Value} {x : DataW H × List MemPlace}
    (h : DataW.trod enc Tryz.prog w base spare held fuel 22 cs = some x) :
    (cs = [.slice none 0 0] ∧ x = (.nil, [])) ∨ ∃ (a : Addr) (len cap : Nat) (l : List Tri) (es rs : List (DataW H)), cs = [.slice (some a) len cap] ∧ x.1 = .slice es rs ∧ es.length = len ∧ l.length = len ∧
      ∀ k y, l[k]? = some y → w.cell? (a.add (k * 3)) = some (str y.s) ∧ w.cell? (a.add (k * 3 + 1)) = some (str y.p) ∧ w.cell? (a.add (k * 3 + 2)) = some (str y.o) := by
  rcases Go.Deep.open_slice Tryz.underlying22 h with h0 | ⟨a, len, cap, m, n, D, Pl, rfl, hb, hl, hm, hmm, rfl, hx⟩
  · exact .inl h0
  right
  have hlm : len ≤ m := by rw [hmm]; split <;> omega
  have each : ∀ i, i < m → ∃ y : Tri, w.cell? (a.add (i * 3)) = some (str y.s) ∧ w.cell? (a.add (i * 3 + 1)) = some (str y.p) ∧ w.cell? (a.add (i * 3 + 2)) = some (str y.o) := by
    intro i hi
    obtain ⟨cs', h1, h2⟩ := hx i hi
    rw [cells3] at h1
    obtain ⟨_, hlen, hcell⟩ := World.cells?_some h1
    obtain ⟨y0, y1, y2, k, _, _, g0, g1, g2⟩ := Go.Deep.trod_struct3 Tryz.underlying50 h2
    match cs', hlen with
    | [v0, v1, v2], _ =>
      simp [cells9] at g0 g1 g2
      obtain ⟨s0, e0, _⟩ := DataW.trod_string Tryz.underlying9 g0
      obtain ⟨s1, e1, _⟩ := DataW.trod_string Tryz.underlying9 g1
      obtain ⟨s2, e2, _⟩ := DataW.trod_string Tryz.underlying9 g2
      cases e0
      cases e1
      cases e2
      have q0 := hcell 0 (by omega)
      have q1 := hcell 1 (by omega)
      have q2 := hcell 2 (by omega)
      rw [Go.Deep.add_add] at q0 q1 q2
      refine ⟨⟨s0.data.toList, s1.data.toList, s2.data.toList⟩, ?_, ?_, ?_⟩
      · rw [str_data]; simpa using q0
      · rw [str_data]; simpa using q1
      · rw [str_data]; simpa using q2
  obtain ⟨q, hq⟩ := Go.Deep.choose_lt each
  refine ⟨a, len, cap, (List.range len).map q, _, _, rfl, rfl, by simp, by simp, fun k y hk => ?_⟩
  have hlt := (List.getElem?_eq_some_iff.1 hk).1
  simp at hlt
  rw [List.getElem?_map, List.getElem?_range hlt] at hk
  cases hk
  exact hq k (by omega)


theorem cells2 : Tryz.prog.cellsOf 36 = 2 := by kernel_rfl

set_option maxRecDepth 100000 in
/-- a list of names, opened -/
theorem open_names {H : Type} {enc : TypeId × Value → H} {w : World} {base : Nat} {spare : Nat → Bool} {held : Bool} {fuel : Nat} {cs : List Value} {x : DataW H × List MemPlace}
    (h : DataW.trod enc Tryz.prog w base spare held fuel 23 cs = some x) :
    (cs = [.slice none 0 0] ∧ x = (.nil, [])) ∨ ∃ (a : Addr) (len cap : Nat) (l : List Tu.Nam2) (es rs : List (DataW H)), cs = [.slice (some a) len cap] ∧ x.1 = .slice es rs ∧ es.length = len ∧ l.length = len ∧
      ∀ (k : Nat) (y : Tu.Nam2), l[k]? = some y → w.cell? (a.add (k * 2)) = some (str y.1) ∧ w.cell? (a.add (k * 2 + 1)) = some (str y.2) := by
  rcases Go.Deep.open_slice_pairs Tryz.underlying23 Tryz.underlying36 cells2 rfl rfl (by kernel_rfl) (by kernel_rfl) h with h0 | ⟨a, len, cap, m, n, V0, V1, D0, D1, P0, P1, rfl, hb, hl, hm, hmm, rfl, hx⟩
  · exact .inl h0
  right
  have hlm : len ≤ m := by rw [hmm]; split <;> omega
  have each : ∀ i, i < m → ∃ y : Tu.Nam2, w.cell? (a.add (i * 2)) = some (str y.1) ∧ w.cell? (a.add (i * 2 + 1)) = some (str y.2) := by
    intro i hi
    obtain ⟨c0, c1, g0, g1⟩ := hx i hi
    obtain ⟨s0, e0, _⟩ := DataW.trod_string Tryz.underlying9 g0
    obtain ⟨s1, e1, _⟩ := DataW.trod_string Tryz.underlying9 g1
    have v0 : V0 i = .string s0 := (List.cons.inj e0).1
    have v1 : V1 i = .string s1 := (List.cons.inj e1).1
    rw [v0] at c0
    rw [v1] at c1
    refine ⟨⟨s0.data.toList, s1.data.toList⟩, ?_, ?_⟩
    · rw [str_data]; exact c0
    · rw [str_data]; exact c1
  obtain ⟨q, hq⟩ := Go.Deep.choose_lt each
  refine ⟨a, len, cap, (List.range len).map q, _, _, rfl, rfl, by simp, by simp, fun k y hk => ?_⟩
  have hlt := (List.getElem?_eq_some_iff.1 hk).1
  simp at hlt
  rw [List.getElem?_map, List.getElem?_range hlt] at hk
  cases hk
  exact hq k (by omega)

set_option maxRecDepth 100000 in
theorem contract (H : Type) (enc : TypeId × Value → H) (W : World) (base : Nat) (args : Array Value) (ds gs : List (DataW H)) (before : List MemPlace)
    (hval : ∀ (j : Nat) t v, Tryz.f4.params[j]? = some t → args[j]? = some v → Value.okWide Tryz.prog W .any base t v)
    (hW : DataW.Whole enc Tryz.prog Tryz.f4.params.toList Rows.turtleBackSpec.vars false W args.toList ds gs before)
    (hk : Rows.uptoSmall H (ds ++ gs) = true)
    (hL : laidMetH Tryz.prog Rows.turtleBackUptoRow.laid W) (hG : 8 ≤ W.heap.size) :
    Calls Tryz.prog 4 args W fun e W' => ∃ v, e = .returned v ∧ Rows.turtleBackSpec.post enc Tryz.prog Tryz.f4 false true false false W args v W' := by
  have hW' := hW
  obtain ⟨p, q, hA0, hV, rfl, hfz, hnd⟩ := hW
  have hA : DataW.TrodAll enc Tryz.prog W 0 (fun _ => true) true Tryz.f4.params.toList args.toList ds p := hA0
  rw [Tryz.params4] at hA hval
  obtain ⟨v0, v1, v2, d0, d1, d2, p0, p1, p2, rfl, rfl, rfl, h0, h1, h2⟩ := trodAll_three hA
  obtain ⟨rfl, rfl⟩ := trodVars_none hV
  obtain ⟨a0, len, cap, rfl⟩ := okWide_slice Tryz.underlying22 (hval 0 22 v0 rfl rfl)
  obtain ⟨a1, len1, cap1, rfl⟩ := okWide_slice Tryz.underlying23 (hval 1 23 v1 rfl rfl)
  obtain ⟨s2, rfl, rfl, rfl, hs2⟩ := open_string Tryz.underlying9 (hval 2 9 v2 rfl rfl) h2
  have h0k := h0
  have h1k := h1
  obtain ⟨fuel, hf⟩ := h0
  obtain ⟨fuel1, hf1⟩ := h1
  clear hA0
  simp only [List.append_nil] at hW' hk
  have hlt : ∀ x ∈ p0 ++ p1, x.block < W.heap.size := fun x hx => by simpa using hW'.lt x hx
  have hbulk : Rows.uptoBulkAll [d0, d1, DataW.lit (H := H) (.string s2.data.toList)] ≤ 1048576 := of_decide_eq_true hk
  have hargs : ∀ (W' : World), Below W.heap.size W W' → DataW.Trod enc Tryz.prog W' 0 (fun b => decide (b < W.heap.size)) true 22 (.slice a0 len cap) d0 p0 :=
    fun W' hn => Below.trod laidOut (by kernel_rfl) (of_decide_eq_true (by kernel_rfl)) h0k hn (fun x hx => hlt x (List.mem_append_left _ hx))
  have hargs1 : ∀ (W' : World), Below W.heap.size W W' → DataW.Trod enc Tryz.prog W' 0 (fun b => decide (b < W.heap.size)) true 23 (.slice a1 len1 cap1) d1 p1 :=
    fun W' hn => Below.trod laidOut (by kernel_rfl) (of_decide_eq_true (by kernel_rfl)) h1k hn (fun x hx => hlt x (List.mem_append_right _ hx))
  have hp := laid.parts hL
  have hT := laid.tabs_of hp.1
  have hH := laid.handle_of hp.2
  have hN := laid.tens_of hp.1
  have htr : ∃ l : List Tri, ∀ w1, Below W.heap.size W w1 → Calls Tryz.prog 6 #[.slice a0 len cap] w1 fun e w' => ∃ v', e = .returned v' ∧ w'.ownsRow w1.heap.size 44 3 v' l.length (cellsOf l) ∧ Below w1.heap.size w1 w' := by
    rcases open_triples hf with ⟨hcs, hx⟩ | ⟨a, len', cap', l, es, rs, hcs, hx, hes, hll, hcell⟩
    · simp [Value.cells] at hcs
      obtain ⟨rfl, rfl, rfl⟩ := hcs
      exact ⟨[], fun w1 _ => triples_zero w1 none 0⟩
    · simp [Value.cells] at hcs
      obtain ⟨rfl, rfl, rfl⟩ := hcs
      simp only at hx
      have hlen : len ≤ 1048576 := by
        rw [hx] at hbulk
        simp only [Rows.uptoBulkAll, Rows.uptoBulk] at hbulk
        have := bulk_len es
        omega
      by_cases hl0 : len = 0
      · subst hl0
        exact ⟨[], fun w1 _ => triples_zero w1 (some a) cap⟩
      · obtain ⟨b, off, spot⟩ := a
        obtain ⟨y, hy⟩ : ∃ y, l[0]? = some y := ⟨_, List.getElem?_eq_getElem (by omega)⟩
        have hspot : spot = none := by simpa [Addr.add] using World.cell?_spot (hcell 0 y hy).1
        subst hspot
        have hcell' : LiesA W b off l := fun k x hk => by
          obtain ⟨c0, c1, c2⟩ := hcell k x hk
          rw [add_plain] at c0 c1 c2
          exact ⟨c0, by rw [Nat.add_assoc]; exact c1, by rw [Nat.add_assoc]; exact c2⟩
        have hb : b < W.heap.size := World.block_lt_of_cell? W ⟨b, _, none⟩ (hcell' 0 y hy).1
        subst hll
        exact ⟨l, fun w1 hbl => triples_at w1 b off cap l (Nat.lt_of_lt_of_le hb hbl.size) (hcell'.below hb hbl) (by omega)⟩
  have hnm : ∃ ns : List Tu.Nam2, ns.length ≤ 4398046511104 ∧ ∀ w1, Below W.heap.size W w1 → Calls Tryz.prog 7 #[.slice a1 len1 cap1] w1 fun e w' => ∃ v', e = .returned v' ∧ w'.ownsRow w1.heap.size 35 2 v' ns.length (Tu.cellsN ns) ∧ Below w1.heap.size w1 w' := by
    rcases open_names hf1 with ⟨hcs, hx⟩ | ⟨a, len', cap', l, es, rs, hcs, hx, hes, hll, hcell⟩
    · simp [Value.cells] at hcs
      obtain ⟨rfl, rfl, rfl⟩ := hcs
      exact ⟨[], by simp, fun w1 _ => Tu.names_zero w1 none 0⟩
    · simp [Value.cells] at hcs
      obtain ⟨rfl, rfl, rfl⟩ := hcs
      simp only at hx
      have hlen : len1 ≤ 1048576 := by
        rw [hx] at hbulk
        simp only [Rows.uptoBulkAll, Rows.uptoBulk] at hbulk
        have := bulk_len es
        omega
      by_cases hl0 : len1 = 0
      · subst hl0
        exact ⟨[], by simp, fun w1 _ => Tu.names_zero w1 (some a) cap1⟩
      · obtain ⟨b, off, spot⟩ := a
        obtain ⟨y, hy⟩ : ∃ y, l[0]? = some y := ⟨_, List.getElem?_eq_getElem (by omega)⟩
        have hspot : spot = none := by simpa [Addr.add] using World.cell?_spot (hcell 0 y hy).1
        subst hspot
        have hcell' : Tu.LiesN W b off l := fun k x hk => by
          obtain ⟨c0, c1⟩ := hcell k x hk
          rw [add_plain] at c0 c1
          exact ⟨c0, by rw [Nat.add_assoc]; exact c1⟩
        have hb : b < W.heap.size := World.block_lt_of_cell? W ⟨b, _, none⟩ (hcell' 0 y hy).1
        subst hll
        exact ⟨l, by omega, fun w1 hbl => Tu.names_at w1 b off cap1 l (Nat.lt_of_lt_of_le hb hbl.size) (hcell'.below hb hbl) (by omega)⟩
  obtain ⟨l, htr⟩ := htr
  obtain ⟨ns, hnl, hnm⟩ := hnm
  have hc := Tu.turtleBack_of W (.slice a0 len cap) (.slice a1 len1 cap1) l ns s2 hnl hT hN hG hH htr hnm
  refine hc.mono fun e W' ⟨he, hbl⟩ => ?_
  subst he
  refine ⟨_, rfl, _, _, _, [], p0 ++ p1, [], hW', ?_, ?_, rfl, hbl.frame _, fun h => by cases h⟩
  · exact trodAll_mk1 (shut_bool Tryz.underlying4 true)
  · have h3 := trodAll_mk3 (hargs _ hbl) (hargs1 _ hbl) (shut_string (base := 0) Tryz.underlying9 hs2)
    rw [List.append_nil] at h3
    exact h3

theorem reads (os : Os) {H : Type} (enc : TypeId × Value → H) : ∃ places, DataW.whole enc Tryz.prog ((laid.laidWorld os).forCall (fun _ _ => 0) ⟨#[], #[.slice none 0 0, .slice none 0 0, .string .empty], []⟩).memory Tryz.f4.params.toList Rows.turtleBackSpec.vars false #[Value.slice none 0 0, .slice none 0 0, .string .empty].toList 8 = some ([.nil, .nil, .lit (.string [])], [], places) :=
  ⟨[], by kernel_rfl⟩

set_option maxRecDepth 100000 in
theorem lifted (os : Os) (started : os.Started) (H : Type) (enc : TypeId × Value → H) (F : Stop.Interp) :
    ReturnsInHanded {} Tryz.checked os 4 .any ((Rows.OpenSpec.upto Rows.turtleBackSpec).preRow enc Tryz.prog Tryz.f4 Rows.turtleBackUptoRow.domain false Rows.turtleBackUptoRow.laid) (((Rows.OpenSpec.upto Rows.turtleBackSpec).at F).post enc Tryz.prog Tryz.f4 false true false false) := by
  obtain ⟨places, hx⟩ := reads os enc
  refine returnsInHanded_of_row (C := Tryz.checked) (s := Rows.OpenSpec.upto Rows.turtleBackSpec) laid.own started (by kernel_rfl) Tryz.func4
    (witness_row_atRef (enc := enc) (C := Tryz.checked) false (laid.laidWorld os) #[.slice none 0 0, .slice none 0 0, .string .empty] rfl (by kernel_rfl) (by kernel_rfl) (by kernel_rfl)
      (OpenSpec.preRow_of_cond 8 hx (by kernel_rfl) (fun k hk => by cases hk; kernel_rfl) (by kernel_rfl) (laid.laid_met os _))) ?_
  intro W base args ds gs before hval hW _ hcond _ hL hsh _
  exact contract H enc W base args ds gs before hval hW (hcond _ rfl) hL (laid.globals_le hsh)

theorem said : Rows.TurtleBackUptoSaid :=
  OpenClaim.holds_of_cond 4 Tryz.f4 rfl rfl rfl rfl rfl rfl rfl ⟨rfl, rfl, rfl, rfl, rfl⟩ rfl rfl rfl rfl rfl (by kernel_rfl) Tryz.func4 (by kernel_rfl)
    (of_decide_eq_true (by kernel_rfl)) (by unfold Func.isWrapper; first | (rw [if_pos (by decide +kernel)]; kernel_rfl) | (rw [if_neg (by decide +kernel)]; exact ⟨rfl, rfl⟩))
    (fun os started H enc _ F => by rw [OpenClaim.pre_eq_preRow]; exact lifted os started H enc F)

theorem plain (f : FuncId) (fn : Func) (hf : Tryz.pinned.checked.prog.funcNamed "trine/trinelaw.TurtleBack" = some f) (hfn : Tryz.pinned.checked.prog.funcs[f]? = some fn) :
    true = Tryz.pinned.checked.prog.looks [] ∧ ∀ (j : Nat) t, fn.params[j]? = some t → Tryz.pinned.checked.prog.wantsStandIn t = false := by
  obtain rfl : f = 4 := Option.some.inj ((show Tryz.prog.funcNamed "trine/trinelaw.TurtleBack" = some 4 by kernel_rfl).symm.trans hf) |>.symm
  obtain rfl : fn = Tryz.f4 := (Option.some.inj (Tryz.func4.symm.trans hfn)).symm
  refine ⟨by kernel_rfl, fun j t ht => ?_⟩
  rw [Tryz.params4] at ht
  have hm := Array.mem_of_getElem? ht
  simp only [List.mem_toArray, List.mem_cons, List.not_mem_nil, or_false] at hm
  rcases hm with rfl | rfl | rfl
  · exact (show Tryz.prog.wantsStandIn 22 = false by kernel_rfl)
  · exact (show Tryz.prog.wantsStandIn 23 = false by kernel_rfl)
  · exact (show Tryz.prog.wantsStandIn 9 = false by kernel_rfl)

end Go.Proofs.YtfapcangooodeabGreatDoor.turtleBackUpto

namespace Go.Proofs.YtfapcangooodeabGreatDoor
/-- THE CARD -/
theorem turtleBackUpto_card : Rows.TurtleBackUptoCardSaid :=
  Claim7.holds_tied_plain_at .later [] _ _ _ _ turtleBackUpto.said (fun _ h => by cases h) (by kernel_rfl) (fun _ h => by cases h) turtleBackUpto_row_tie rfl ⟨rfl, rfl⟩ (by kernel_rfl) rfl turtleBackUpto.plain (by kernel_rfl)
end Go.Proofs.YtfapcangooodeabGreatDoor
