import Derived.Test.YtnffjoipinhojaaDoorCards
import Derived.Test.YtnffjoipinhojaaDoorTie
import Derived.Test.YtnffjoipinhojaaDoorPl
import Derived.Test.YtnffjoipinhojaaDoorVarints
import Derived.ProofKit
import Derived.OpenShut
import Derived.LaidLaws
import Derived.LaidHandle
import Derived.SizedLaws
import Derived.Deep.DeepHandedRow
import Derived.Carry
namespace Go.Proofs.YtnffjoipinhojaaDoor.packs
open Go.ChangeShapes Go.WideShapes Go.ChangeAt Go.RowKit
open Go.ChangeMaps (open_string shut_string)

theorem first_bad (d : Nat) (xs : List Int) : (∀ j, j < xs.length → fitsB (xs.getD j 0) d = true) ∨ ∃ i, bad d xs i := by
  have h : ∀ k, k ≤ xs.length → (∀ j, j < k → fitsB (xs.getD j 0) d = true) ∨ ∃ i, bad d xs i := by
    intro k
    induction k with
    | zero => intro _; exact .inl fun j hj => by omega
    | succ k ih =>
      intro hk
      rcases ih (by omega) with h | h
      · cases hf : fitsB (xs.getD k 0) d with
        | true => exact .inl (fits_snoc h hf)
        | false => exact .inr ⟨k, by omega, h, hf⟩
      · exact .inr h
  exact h _ (Nat.le_refl _)

/-- THE LAW, at every argument of at most so many values and letters. -/
theorem walk (xs : List Int) (d : Int) (s : ByteArray) (c : Int) (v : Value) (w : World) (hg : Handle w) (hv : Ints w v xs) (hx : ∀ i, I64 (xs.getD i 0)) (hl : xs.length ≤ 1048576) (hs : s.size ≤ 1048576) (hc : c ≤ 9223372036854775807) :
    Calls Tryd.prog 4 #[v, .int .i64 d, .string s, .int .i64 c] w fun x w' => x = .returned (.bool true) ∧ Below w.heap.size w w' := by
  by_cases hd : d < 1 ∨ 62 < d
  · exact packs_wide xs d 3 s c v w hg hv hx hl hd hs hc (.inl ⟨hd, rfl⟩)
  · obtain ⟨dn, rfl⟩ := Int.eq_ofNat_of_zero_le (show 0 ≤ d by omega)
    rcases first_bad dn xs with hf | ⟨i, hb⟩
    · rcases un_cases s.data.toList dn c with ho | ⟨n, he⟩
      · exact packs_ok_ok xs dn s c v w hg hv hx hl (by omega) (by omega) hf hs hc ho
      · exact packs_ok_err xs dn n s c v w hg hv hx hl (by omega) (by omega) hf hs hc he
    · rcases un_cases s.data.toList dn c with ho | ⟨n, he⟩
      · exact packs_bad_ok xs dn i s c v w hg hv hx hl (by omega) (by omega) hb hs hc ho
      · exact packs_bad_err xs dn i n s c v w hg hv hx hl (by omega) (by omega) hb hs hc he

theorem laidOut : laidOutB Tryd.prog = true := by kernel_rfl
theorem cells3 : Tryd.prog.cellsOf 3 = 1 := by kernel_rfl

theorem bulk_cons {H : Type} {d : DataW H} {l : List (DataW H)} {n : Nat} (h : Rows.uptoBulkAll (d :: l) ≤ n) : Rows.uptoBulk d ≤ n ∧ Rows.uptoBulkAll l ≤ n := by
  simp only [Rows.uptoBulkAll] at h
  omega
theorem bulk_len {H : Type} (l : List (DataW H)) : l.length ≤ Rows.uptoBulkAll l := by
  induction l with
  | nil => simp [Rows.uptoBulkAll]
  | cons x r ih =>
    have h1 : 1 ≤ Rows.uptoBulk x := by
      cases x with
      | lit l => cases l <;> simp [Rows.uptoBulk]
      | _ => simp [Rows.uptoBulk]
    simp only [Rows.uptoBulkAll, List.length_cons]
    omega

set_option maxRecDepth 100000 in
theorem contract (H : Type) (enc : TypeId × Value → H) (W : World) (base : Nat) (args : Array Value) (ds gs : List (DataW H)) (before : List MemPlace)
    (hval : ∀ (j : Nat) t v, Tryd.f4.params[j]? = some t → args[j]? = some v → Value.okWide Tryd.prog W .any base t v)
    (hW : DataW.Whole enc Tryd.prog Tryd.f4.params.toList Rows.packsSpec.vars false W args.toList ds gs before)
    (hk : Rows.uptoSmall H (ds ++ gs) = true)
    (hL : laidMetH Tryd.prog Rows.packsUptoRow.laid W) :
    Calls Tryd.prog 4 args W fun e W' => ∃ v, e = .returned v ∧ Rows.packsSpec.post enc Tryd.prog Tryd.f4 false true false false W args v W' := by
  have hW' := hW
  obtain ⟨p, q, hA0, hV, rfl, hfz, hnd⟩ := hW
  have hA : DataW.TrodAll enc Tryd.prog W 0 (fun _ => true) true Tryd.f4.params.toList args.toList ds p := hA0
  rw [Tryd.params4] at hA hval
  obtain ⟨v0, v1, v2, v3, d0, d1, d2, d3, p0, p1, p2, p3, rfl, rfl, rfl, h0, h1, h2, h3⟩ := trodAll_four hA
  obtain ⟨rfl, rfl⟩ := trodVars_none hV
  obtain ⟨d, rfl, rfl, rfl, wd⟩ := open_int Tryd.underlying3 (hval 1 3 v1 rfl rfl) h1
  obtain ⟨s, rfl, rfl, rfl, hs⟩ := open_string Tryd.underlying9 (hval 2 9 v2 rfl rfl) h2
  obtain ⟨c, rfl, rfl, rfl, wc⟩ := open_int Tryd.underlying3 (hval 3 3 v3 rfl rfl) h3
  obtain ⟨a0, len, cap, rfl⟩ := okWide_slice Tryd.underlying32 (hval 0 32 v0 rfl rfl)
  have h0k := h0
  obtain ⟨fuel, hf⟩ := h0
  clear hA0
  simp only [List.append_nil] at hW' hk
  have hlt : ∀ x ∈ p0, x.block < W.heap.size := fun x hx => by simpa using hW'.lt x hx
  have hbulk : Rows.uptoBulkAll [d0, DataW.lit (H := H) (.int .i64 d), .lit (.string s.data.toList), .lit (.int .i64 c)] ≤ 1048576 := of_decide_eq_true hk
  obtain ⟨hb0, hb1⟩ := bulk_cons hbulk
  have hb2 := (bulk_cons (bulk_cons hb1).2).1
  have hs2 : s.size ≤ 1048576 := by
    simp only [Rows.uptoBulk] at hb2
    have e : s.data.toList.length = s.size := by simp
    omega
  have hc : c ≤ 9223372036854775807 := (bounds_i64 wc).2
  have hargs : ∀ (W' : World), Below W.heap.size W W' → DataW.Trod enc Tryd.prog W' 0 (fun b => decide (b < W.heap.size)) true 32 (.slice a0 len cap) d0 p0 :=
    fun W' hn => Below.trod laidOut (by kernel_rfl) (of_decide_eq_true (by kernel_rfl)) h0k hn hlt
  obtain ⟨xs, hi, hx, hl⟩ : ∃ xs : List Int, Ints W (.slice a0 len cap) xs ∧ (∀ i, I64 (xs.getD i 0)) ∧ xs.length ≤ 1048576 := by
    rcases open_ints Tryd.underlying32 Tryd.underlying3 cells3 hf with ⟨hcs, hx⟩ | ⟨a, len', cap', zs, hcs, _, hl, hm, hz, hx, hcell, hwz⟩
    · simp [Value.cells] at hcs
      obtain ⟨rfl, rfl, rfl⟩ := hcs
      exact ⟨[], .inl ⟨none, 0, rfl, rfl⟩, fun i => by simp [I64], by simp⟩
    · simp [Value.cells] at hcs
      obtain ⟨rfl, rfl, rfl⟩ := hcs
      simp only [Prod.mk.injEq] at hx
      obtain ⟨rfl, rfl⟩ := hx
      simp only [if_true] at hz
      have hzl : (zs.take len).length = len := by rw [List.length_take]; omega
      have hlen : len ≤ 1048576 := by
        simp only [Rows.uptoBulk] at hb0
        have h5 := bulk_len (H := H) (lits .i64 (zs.take len))
        simp only [lits, List.length_map, hzl] at h5
        simp only [lits] at hb0
        omega
      by_cases hl0 : len = 0
      · subst hl0
        exact ⟨[], .inl ⟨some a, cap, rfl, rfl⟩, fun i => by simp [I64], by simp⟩
      · obtain ⟨b, off, spot⟩ := a
        have hspot : spot = none := by simpa [Addr.add] using World.cell?_spot (hcell 0 (by omega))
        subst hspot
        refine ⟨zs.take len, .inr ⟨b, off, cap, by rw [hzl], fun i hi => ?_⟩, fun i => ?_, by omega⟩
        · rw [hzl] at hi
          rw [← add_plain, hcell i (by omega)]
          simp [List.getD_eq_getElem?_getD, hi]
        · by_cases hi : i < (zs.take len).length
          · have hm := hwz _ (List.mem_of_mem_take (List.getElem_mem hi))
            rw [List.getD_eq_getElem?_getD, List.getElem?_eq_getElem hi]
            exact bounds_i64 hm
          · rw [List.getD_eq_getElem?_getD, List.getElem?_eq_none (by omega)]
            simp [I64]
  refine (walk xs d s c _ W (varints.handle_of_laid hL) hi hx hl hs2 hc).mono fun e W' ⟨he, hbl⟩ => ?_
  subst he
  refine ⟨_, rfl, _, _, _, [], p0 ++ ([] ++ ([] ++ [])), [], hW', ?_, ?_, rfl, hbl.frame _, fun h => by cases h⟩
  · exact trodAll_mk1 (shut_bool Tryd.underlying4 true)
  · exact trodAll_mk4 (hargs _ hbl) (shut_int Tryd.underlying3 wd) (shut_string Tryd.underlying9 hs) (shut_int Tryd.underlying3 wc)

theorem laid_met (os : Os) (args : Array Value) : laidMetH Tryd.prog Rows.packsUptoRow.laid (({ World.holding Tryd.prog os ⟨#[], #[], []⟩ with heap := (World.holding Tryd.prog os ⟨#[], #[], []⟩).heap.modify 0 varints.layHandle } : World).forCall (fun _ _ => 0) ⟨#[], args, []⟩).memory :=
  laidMetH_of_parts (laidMet_nil _ _) (by kernel_rfl)
theorem reads (os : Os) {H : Type} (enc : TypeId × Value → H) : ∃ places, DataW.whole enc Tryd.prog (({ World.holding Tryd.prog os ⟨#[], #[], []⟩ with heap := (World.holding Tryd.prog os ⟨#[], #[], []⟩).heap.modify 0 varints.layHandle } : World).forCall (fun _ _ => 0) ⟨#[], #[.slice none 0 0, .int .i64 0, .string .empty, .int .i64 0], []⟩).memory Tryd.f4.params.toList Rows.packsSpec.vars false #[.slice none 0 0, .int .i64 0, .string .empty, .int .i64 0].toList 8 = some ([.nil, .lit (.int .i64 0), .lit (.string []), .lit (.int .i64 0)], [], places) :=
  ⟨[], by kernel_rfl⟩

set_option maxRecDepth 100000 in
theorem lifted (os : Os) (started : os.Started) (H : Type) (enc : TypeId × Value → H) (F : Stop.Interp) :
    ReturnsInHanded {} Tryd.checked os 4 .any ((Rows.OpenSpec.upto Rows.packsSpec).preRow enc Tryd.prog Tryd.f4 Rows.packsUptoRow.domain false Rows.packsUptoRow.laid) (((Rows.OpenSpec.upto Rows.packsSpec).at F).post enc Tryd.prog Tryd.f4 false true false false) := by
  obtain ⟨places, hx⟩ := reads os enc
  refine returnsInHanded_of_row (C := Tryd.checked) (s := Rows.OpenSpec.upto Rows.packsSpec) varints.own started (by kernel_rfl) Tryd.func4
    (witness_row_at (enc := enc) (C := Tryd.checked) false { World.holding Tryd.prog os ⟨#[], #[], []⟩ with heap := (World.holding Tryd.prog os ⟨#[], #[], []⟩).heap.modify 0 varints.layHandle } #[.slice none 0 0, .int .i64 0, .string .empty, .int .i64 0] rfl (by kernel_rfl) (by kernel_rfl) (by kernel_rfl)
      (OpenSpec.preRow_of_cond 8 hx (by kernel_rfl) (fun k hk => by cases hk; kernel_rfl) (by kernel_rfl) (laid_met os _))) ?_
  intro W base args ds gs before hval hW _ hcond _ hL _ _
  exact contract H enc W base args ds gs before hval hW (hcond _ rfl) hL

theorem said : Rows.PacksUptoSaid :=
  OpenClaim.holds_of_cond 4 Tryd.f4 rfl rfl rfl rfl rfl rfl rfl ⟨rfl, rfl, rfl, rfl, rfl⟩ rfl rfl rfl rfl rfl (by kernel_rfl) Tryd.func4 (by kernel_rfl)
    (of_decide_eq_true (by kernel_rfl)) (by unfold Func.isWrapper; first | (rw [if_pos (by decide +kernel)]; kernel_rfl) | (rw [if_neg (by decide +kernel)]; exact ⟨rfl, rfl⟩))
    (fun os started H enc _ F => by rw [OpenClaim.pre_eq_preRow]; exact lifted os started H enc F)

theorem plain (f : FuncId) (fn : Func) (hf : Tryd.pinned.checked.prog.funcNamed "trine/trinelaw.Packs" = some f) (hfn : Tryd.pinned.checked.prog.funcs[f]? = some fn) :
    true = Tryd.pinned.checked.prog.looks [] ∧ ∀ (j : Nat) t, fn.params[j]? = some t → Tryd.pinned.checked.prog.wantsStandIn t = false := by
  obtain rfl : f = 4 := Option.some.inj ((show Tryd.prog.funcNamed "trine/trinelaw.Packs" = some 4 by kernel_rfl).symm.trans hf) |>.symm
  obtain rfl : fn = Tryd.f4 := (Option.some.inj (Tryd.func4.symm.trans hfn)).symm
  refine ⟨by kernel_rfl, fun j t ht => ?_⟩
  rw [Tryd.params4] at ht
  have hm := Array.mem_of_getElem? ht
  simp only [List.mem_toArray, List.mem_cons, List.not_mem_nil, or_false] at hm
  rcases hm with rfl | rfl | rfl | rfl
  · exact (show Tryd.prog.wantsStandIn 32 = false by kernel_rfl)
  · exact (show Tryd.prog.wantsStandIn 3 = false by kernel_rfl)
  · exact (show Tryd.prog.wantsStandIn 9 = false by kernel_rfl)
  · exact (show Tryd.prog.wantsStandIn 3 = false by kernel_rfl)
end Go.Proofs.YtnffjoipinhojaaDoor.packs

namespace Go.Proofs.YtnffjoipinhojaaDoor
/-- THE SECOND FORM's CARD -/
theorem packs_upto_card : Rows.PacksUptoCardSaid :=
  Claim7.holds_tied_plain_at .later [] _ _ _ _ packs.said (fun _ h => by cases h) (by kernel_rfl) (fun _ h => by cases h) packsUpto_row_tie rfl ⟨rfl, rfl⟩ (by kernel_rfl) rfl packs.plain (by kernel_rfl)
end Go.Proofs.YtnffjoipinhojaaDoor
