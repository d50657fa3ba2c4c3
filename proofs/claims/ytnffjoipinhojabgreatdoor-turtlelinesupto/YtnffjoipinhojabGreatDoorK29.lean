import Derived.Test.YtnffjoipinhojabGreatDoorK28
import Derived.Lib.AppendZerosOnto
import Derived.Lib.Overlaps
import Derived.Laws.CopyRow
import Derived.Laws.NewBlocks
set_option linter.unusedSimpArgs false
set_option linter.unusedVariables false
namespace Go.Proofs.YtnffjoipinhojabGreatDoor
open Go.RowKit

/-- a method value -/
abbrev mV (g : Nat) (p : Value) : Value := .func (.func g) #[p] #[]

theorem catchM_ok (w : World) (g : Nat) (p : Addr) (Q : World → Prop) (eg : ∀ args w, (callFunc g args).run Tryz.prog w = .ok (.enter g args) w)
    (h : Calls Tryz.prog g #[.pointer (some p)] (w.alloc (.cells #[.nilIface] 52)) fun e w' => e = .returned (.tuple #[]) ∧ Q w') (hQ : ∀ w', Q w' → w'.heap[w.heap.size]? = some (.cells #[.nilIface] 52 (0, 0))) :
    Calls Tryz.prog 30 #[mV g (.pointer (some p))] w fun e w' => e = .returned .nilIface ∧ ∃ w2, Q w2 ∧ w' = w2.setCell ⟨w.heap.size, 0, none⟩ .nilIface := by
  have hmf := mkFunc
  go_enter_defers Tryz.func30, Tryz.ntmps30
  go_wp2_with (go_at_fn g; refine h.mono ?_; rintro e w2 ⟨rfl, hq⟩; have hb := hQ w2 hq; have hc : w2.cell? ⟨w.heap.size, 0, none⟩ = some .nilIface := (by rw [Lib.cell_of_heap hb]; rfl); have hf : w2.frozen? ⟨w.heap.size, 0, none⟩ = false := Lib.frozen_of_heap hb 0; clear hb)
  refine leaves_cons (f := 56) (args := #[.pointer (some ⟨w.heap.size, 0, none⟩)]) (by simp) (by simp [go_sem]) ?_
  refine (catch1_idle ⟨w.heap.size, 0, none⟩ _).mono ?_
  rintro e u' w'' ⟨rfl, rfl, rfl⟩
  simp [Leaves, settle, results, Tryz.results30, go_sem, hc]
  exact ⟨w2, hq, rfl⟩

theorem catchM_stop (w : World) (g : Nat) (p : Addr) (Q : World → Prop) (n i : Int) (eg : ∀ args w, (callFunc g args).run Tryz.prog w = .ok (.enter g args) w)
    (h : Calls Tryz.prog g #[.pointer (some p)] (w.alloc (.cells #[.nilIface] 52)) fun e w' => e = stopE n i ∧ Q w') (hQ : ∀ w', Q w' → w'.heap[w.heap.size]? = some (.cells #[.nilIface] 52 (0, 0))) :
    Calls Tryz.prog 30 #[mV g (.pointer (some p))] w fun e w' => e = .returned (placedV n i) ∧ ∃ w2, Q w2 ∧ w' = (w2.alloc (.cells #[placedV n i] 111)).setCell ⟨w.heap.size, 0, none⟩ (placedV n i) := by
  have hmf := mkFunc
  go_enter_defers Tryz.func30, Tryz.ntmps30
  go_wp2_with (go_at_fn g; refine h.mono ?_; rintro e w2 ⟨rfl, hq⟩)
  have hb := hQ w2 hq
  have hc : w2.cell? ⟨w.heap.size, 0, none⟩ = some .nilIface := by rw [Lib.cell_of_heap hb]; rfl
  have hf : w2.frozen? ⟨w.heap.size, 0, none⟩ = false := Lib.frozen_of_heap hb 0
  have hl : w.heap.size < w2.heap.size := (Array.getElem?_eq_some_iff.1 hb).1
  refine leaves_cons (f := 56) (args := #[.pointer (some ⟨w.heap.size, 0, none⟩)]) (by simp) (by simp [go_sem]) ?_
  refine (catch1_stop ⟨w.heap.size, 0, none⟩ .nilIface n i _ hc hf).mono ?_
  rintro e u' w'' ⟨rfl, rfl, rfl⟩
  have hc2 : ((w2.alloc (.cells #[placedV n i] 111)).setCell ⟨w.heap.size, 0, none⟩ (placedV n i)).cell? ⟨w.heap.size, 0, none⟩ = some (placedV n i) :=
    World.cell?_setCell_same _ _ _ ((World.cell?_alloc_lt _ _ ⟨w.heap.size, 0, none⟩ hl).trans hc)
  simp [Leaves, settle, results, Tryz.results30, go_sem, hc2]
  exact ⟨w2, hq, rfl⟩

theorem as_place_nil (v : Value) (t : TypeId) (w : World) : Calls Tryz.prog 42 #[.nilIface, .iface t v] w fun e w' => e = .returned (.bool false) ∧ w' = w := by
  go_enter Tryz.func42, Tryz.ntmps42
  go_wp2
  go_ret
  exact ⟨rfl, rfl⟩

theorem place_nil (w : World) : Calls Tryz.prog 21 #[.nilIface] w fun e w' => e = .returned (.int .i64 0) ∧ Below w.heap.size w w' := by
  go_enter Tryz.func21, Tryz.ntmps21
  go_wp2_with fail
  refine (as_place_nil _ _ _).mono ?_
  rintro e w' ⟨rfl, rfl⟩
  go_wp2
  go_ret
  exact ⟨rfl, (Below.refl _ w).alloc (Nat.le_refl _) _⟩

theorem number_nil2 (w : World) : Calls Tryz.prog 20 #[.nilIface] w fun e w' => e = .returned (.int .i64 0) ∧ Below w.heap.size w w' := by
  go_enter Tryz.func20, Tryz.ntmps20
  go_wp2_with fail
  refine (as_place_nil _ _ _).mono ?_
  rintro e w' ⟨rfl, rfl⟩
  go_wp2
  go_ret
  exact ⟨rfl, (Below.refl _ w).alloc (Nat.le_refl _) _⟩

theorem place_refusal (n : Int) (w : World) (hg : Handle w) :
    Calls Tryz.prog 21 #[.iface 94 (.agg #[.int .i64 n])] w fun e w' => e = .returned (.int .i64 0) ∧ Below w.heap.size w w' := by
  have hlt := hg.pos
  have hgA : (w.alloc (.cells #[.int .i64 0, .nilIface] 98)).cell? ⟨0, 0, none⟩ = some (.iface 193 (.agg #[.pointer (some ⟨8, 52, none⟩)])) := by
    rw [World.cell?_alloc_lt _ _ ⟨0, 0, none⟩ hlt]; exact hg
  clear hg
  go_enter Tryz.func21, Tryz.ntmps21
  go_wp2_with fail
  refine (as_place_miss n _ _ hgA).mono ?_
  rintro e w' ⟨rfl, hb⟩
  go_wp2
  go_ret
  exact ⟨rfl, ((Below.refl _ w).alloc (Nat.le_refl _) _).trans (hb.mono (by simp))⟩

/-- what the program's rising must answer -/
def RiseC : Prop := ∀ (w : World) (base : Nat) (v : Value) (ts : List Tri), w.ownsRow base 44 3 v ts.length (cellsOf ts) →
  Calls Tryz.prog 36 #[v] w fun e w' => match rise [] ts with
    | some set => ∃ v', e = .returned (.tuple #[v', .nilIface]) ∧ w'.ownsRow w.heap.size 44 3 v' set.length (cellsOf set) ∧ Below w.heap.size w w'
    | none => e = .returned (.tuple #[.slice none 0 0, .iface 94 (.agg #[.int .i64 10])]) ∧ Below w.heap.size w w'

/-- the world that Parse hands to Catch -/
def psW (w : World) (s : ByteArray) : World := (w.alloc (.cells #[.string s, .int .i64 0] 74)).alloc (.cells #[.string s, .int .i64 0, .slice none 0 0] 88)
theorem psW_size (w : World) (s : ByteArray) : (psW w s).heap.size = w.heap.size + 2 := by simp [psW]

theorem ps_below {w : World} {s : ByteArray} {w' : World} (h : Fb ((psW w s).alloc (.cells #[.nilIface] 52)) (w.heap.size + 1) w') : Below w.heap.size w w' :=
  ⟨h.os.1, h.os.2.1, h.os.2.2, by have := h.size; simp [psW_size] at this; omega, fun k hk => by
    rw [h.but k (by simp [psW_size]; omega) (by omega), Below.heap_alloc _ _ _ (by rw [psW_size]; omega), psW, Below.heap_alloc _ _ _ (by simp; omega), Below.heap_alloc _ _ _ hk]⟩

theorem ps_start (w : World) (s : ByteArray) (hs : s.size ≤ 20000) : Ld ((psW w s).alloc (.cells #[.nilIface] 52)) (w.heap.size + 1) s 0 [] ((psW w s).alloc (.cells #[.nilIface] 52)) := by
  have hh : ((psW w s).alloc (.cells #[.nilIface] 52)).heap[w.heap.size + 1]? = some (.cells #[.string s, .int .i64 0, .slice none 0 0] 88) := by
    rw [Below.heap_alloc _ _ _ (by rw [psW_size]; omega), psW]
    have := heap_new (w.alloc (.cells #[.string s, .int .i64 0] 74)) (.cells #[.string s, .int .i64 0, .slice none 0 0] 88)
    simpa using this
  refine ⟨⟨by rw [Lib.cell_of_heap hh]; rfl, by rw [Lib.cell_of_heap hh]; rfl, Lib.frozen_of_heap hh 1, Nat.zero_le _, by omega⟩, Lib.frozen_of_heap hh 2, ⟨_, by rw [Lib.cell_of_heap hh]; rfl, own_nil _ _ _⟩, ⟨Nat.le_refl _, ⟨rfl, rfl, rfl⟩, fun k _ _ => rfl⟩, by simp [psW_size]⟩

set_option maxHeartbeats 4000000 in
set_option maxRecDepth 20000 in
theorem parse_of (HRi : RiseC) (w : World) (s : ByteArray) (hT : Tabs w) (hG : 8 ≤ w.heap.size) (hH : Handle w) :
    Calls Tryz.prog 16 #[.string s] w (Ref.RdV w 44 s) := by
  by_cases h1 : 20000 < s.size
  · clear hT hH
    go_enter Tryz.func16, Tryz.ntmps16
    go_wp2
    refine bodyPost_ret (v := .tuple #[.slice none 0 0, .int .i64 1, .int .i64 0]) (by simp [results, Tryz.results16, go_sem]) rfl ?_
    unfold Ref.RdV
    rw [if_pos h1]
    exact ⟨rfl, Below.refl _ _⟩
  · have hsz : s.size ≤ 20000 := by omega
    have hTu : Tabs ((psW w s).alloc (.cells #[.nilIface] 52)) := hT.below ((((Below.refl _ w).alloc (Nat.le_refl _) _).alloc (by simp) _).alloc (by simp; omega) _) (by omega) (by omega)
    have hLn := lines_any _ _ (w.heap.size + 1) s (ps_start w s hsz) hTu (by omega) hsz
    have eg := enters_of Tryz.func35 (by kernel_rfl) rfl
    have herr : ∀ w', Fb ((psW w s).alloc (.cells #[.nilIface] 52)) (w.heap.size + 1) w' → w'.heap[(psW w s).heap.size]? = some (.cells #[.nilIface] 52 (0, 0)) := fun w' hf => by
      rw [hf.but _ (by simp) (by rw [psW_size]; omega)]
      exact heap_new _ _
    have HHd : Hid (∀ w', Below w.heap.size w w' → Handle w') := fun w' hb => hH.below hb
    have hmf := mkFunc
    cases hl : linesR s 0 with
    | bad n j =>
      rw [hl] at hLn
      have hC := catchM_stop (psW w s) 35 ⟨w.heap.size + 1, 0, none⟩ (fun w' => Fb ((psW w s).alloc (.cells #[.nilIface] 52)) (w.heap.size + 1) w') n j eg hLn herr
      have HC : Hid (Calls Tryz.prog 30 #[mV 35 (.pointer (some ⟨w.heap.size + 1, 0, none⟩))] (psW w s) fun e w' => e = .returned (placedV n j) ∧ Below w.heap.size w w') := hC.mono (by
        rintro e w' ⟨rfl, w2, q1, rfl⟩
        have := ps_below q1
        refine ⟨rfl, Below.setCell (Below.alloc this this.size _) (by rw [psW_size]; simp) _⟩)
      clear hC hLn herr hT hTu hH HRi
      have HO : Hid (∀ w1, Calls Tryz.prog 34 #[.string s] w1 fun e w' => e = .returned (.agg #[.string s, .int .i64 0]) ∧ w' = w1.alloc (.cells #[.string s, .int .i64 0] 74)) := fun w1 => over_any w1 s
      have HLr : Hid (linesR s 0 = .bad n j) := hl
      clear hl
      go_enter Tryz.func16, Tryz.ntmps16
      go_wp2_with fail
      refine (HO.out _).mono ?_
      rintro e w1 ⟨rfl, rfl⟩
      go_wp2_with fail
      refine HC.out.mono ?_
      rintro e w2 ⟨rfl, hb2⟩
      have HB2 : Hid (Below w.heap.size w w2) := hb2
      clear hb2
      go_wp2_with fail
      refine (number_placed _ _ _ (HHd.out _ HB2.out)).mono ?_
      rintro e w3 ⟨rfl, hb3⟩
      have HB3 : Hid (Below w.heap.size w w3) := HB2.out.trans (hb3.mono HB2.out.size)
      clear hb3
      go_wp2_with fail
      refine (place_placed _ _ _ (HHd.out _ HB3.out)).mono ?_
      rintro e w4 ⟨rfl, hb4⟩
      have HB4 : Hid (Below w.heap.size w w4) := HB3.out.trans (hb4.mono HB3.out.size)
      clear hb4
      go_wp2_with fail
      refine bodyPost_ret (v := .tuple #[.slice none 0 0, .int .i64 n, .int .i64 j]) (by simp [results, Tryz.results16, go_sem]) rfl ?_
      unfold Ref.RdV
      rw [if_neg h1, HLr.out]
      exact ⟨rfl, HB4.out⟩
    | ok ts j =>
      rw [hl] at hLn
      have hC := catchM_ok (psW w s) 35 ⟨w.heap.size + 1, 0, none⟩ (fun w' => Ld ((psW w s).alloc (.cells #[.nilIface] 52)) (w.heap.size + 1) s j ([] ++ ts) w') eg hLn (fun w' hq => herr w' hq.fb)
      have HC : Hid (Calls Tryz.prog 30 #[mV 35 (.pointer (some ⟨w.heap.size + 1, 0, none⟩))] (psW w s) fun e w' => e = .returned .nilIface ∧ ∃ v, w'.cell? ⟨w.heap.size + 1, 2, none⟩ = some v ∧ w'.ownsRow (w.heap.size + 3) 44 3 v ts.length (cellsOf ts) ∧ Below w.heap.size w w') := hC.mono (by
        rintro e w' ⟨rfl, w2, q1, rfl⟩
        obtain ⟨v, hv, ho⟩ := q1.own
        refine ⟨rfl, v, ?_, ?_, Below.setCell (ps_below q1.fb) (by rw [psW_size]; simp) _⟩
        · rw [World.cell?_setCell_other _ _ _ _ (fun e => by have := congrArg Addr.block e; simp [psW_size] at this)]
          exact hv
        · have : ((psW w s).alloc (.cells #[.nilIface] 52)).heap.size = w.heap.size + 3 := by simp [psW_size]
          rw [this] at ho
          exact own_same ho fun g hg hlt => Below.heap_setCell _ _ _ _ (show g ≠ (psW w s).heap.size by rw [psW_size]; omega))
      have HR : Hid RiseC := HRi
      clear hC hLn herr hT hTu hH HRi
      have HO : Hid (∀ w1, Calls Tryz.prog 34 #[.string s] w1 fun e w' => e = .returned (.agg #[.string s, .int .i64 0]) ∧ w' = w1.alloc (.cells #[.string s, .int .i64 0] 74)) := fun w1 => over_any w1 s
      have HLr : Hid (linesR s 0 = .ok ts j) := hl
      clear hl
      cases hr : rise [] ts with
      | none =>
        have HRR : Hid (∀ w1 v, w1.ownsRow (w.heap.size + 3) 44 3 v ts.length (cellsOf ts) → Calls Tryz.prog 36 #[v] w1 fun e w' => e = .returned (.tuple #[.slice none 0 0, .iface 94 (.agg #[.int .i64 10])]) ∧ Below w1.heap.size w1 w') := by
          intro w1 v ho
          have := HR.out w1 _ v ts ho
          rw [hr] at this
          exact this
        have HRS : Hid (rise [] ts = none) := hr
        clear hr HR
        go_enter Tryz.func16, Tryz.ntmps16
        go_wp2_with fail
        refine (HO.out _).mono ?_
        rintro e w1 ⟨rfl, rfl⟩
        go_wp2_with fail
        refine HC.out.mono ?_
        rintro e w2 ⟨rfl, v, hv, ho, hb2⟩
        have HB2 : Hid (Below w.heap.size w w2) := hb2
        have HO2 : Hid (w2.ownsRow (w.heap.size + 3) 44 3 v ts.length (cellsOf ts)) := ho
        clear hb2 ho
        go_wp2_with fail
        refine (HRR.out _ _ HO2.out).mono ?_
        rintro e w3 ⟨rfl, hb3⟩
        have HB3 : Hid (Below w.heap.size w w3) := HB2.out.trans (hb3.mono HB2.out.size)
        clear hb3 hv
        go_wp2_with fail
        refine (number_any _ _ (HHd.out _ HB3.out)).mono ?_
        rintro e w4 ⟨rfl, hb4⟩
        have HB4 : Hid (Below w.heap.size w w4) := HB3.out.trans (hb4.mono HB3.out.size)
        clear hb4
        go_wp2_with fail
        refine (place_refusal _ _ (HHd.out _ HB4.out)).mono ?_
        rintro e w5 ⟨rfl, hb5⟩
        have HB5 : Hid (Below w.heap.size w w5) := HB4.out.trans (hb5.mono HB4.out.size)
        clear hb5
        go_wp2_with fail
        refine bodyPost_ret (v := .tuple #[.slice none 0 0, .int .i64 10, .int .i64 0]) (by simp [results, Tryz.results16, go_sem]) rfl ?_
        unfold Ref.RdV
        rw [if_neg h1, HLr.out]
        simp only
        rw [HRS.out]
        exact ⟨rfl, HB5.out⟩
      | some set =>
        have HRR : Hid (∀ w1 v, w1.ownsRow (w.heap.size + 3) 44 3 v ts.length (cellsOf ts) → Calls Tryz.prog 36 #[v] w1 fun e w' => ∃ v', e = .returned (.tuple #[v', .nilIface]) ∧ w'.ownsRow w1.heap.size 44 3 v' set.length (cellsOf set) ∧ Below w1.heap.size w1 w') := by
          intro w1 v ho
          have := HR.out w1 _ v ts ho
          rw [hr] at this
          exact this
        have HRS : Hid (rise [] ts = some set) := hr
        clear hr HR
        go_enter Tryz.func16, Tryz.ntmps16
        go_wp2_with fail
        refine (HO.out _).mono ?_
        rintro e w1 ⟨rfl, rfl⟩
        go_wp2_with fail
        refine HC.out.mono ?_
        rintro e w2 ⟨rfl, v, hv, ho, hb2⟩
        have HB2 : Hid (Below w.heap.size w w2) := hb2
        have HO2 : Hid (w2.ownsRow (w.heap.size + 3) 44 3 v ts.length (cellsOf ts)) := ho
        clear hb2 ho
        go_wp2_with fail
        refine (HRR.out _ _ HO2.out).mono ?_
        rintro e w3 ⟨v', rfl, ho3, hb3⟩
        have HO3 : Hid (w3.ownsRow w2.heap.size 44 3 v' set.length (cellsOf set)) := ho3
        have HB3 : Hid (Below w.heap.size w w3) := HB2.out.trans (hb3.mono HB2.out.size)
        clear hb3 hv ho3
        go_wp2_with fail
        refine (number_nil2 _).mono ?_
        rintro e w4 ⟨rfl, hb4⟩
        have HO4 : Hid (w4.ownsRow w2.heap.size 44 3 v' set.length (cellsOf set)) := own_same HO3.out fun g hg hlt => hb4.block g hlt
        have HB4 : Hid (Below w.heap.size w w4) := HB3.out.trans (hb4.mono HB3.out.size)
        clear hb4
        go_wp2_with fail
        refine (place_nil _).mono ?_
        rintro e w5 ⟨rfl, hb5⟩
        have HO5 : Hid (w5.ownsRow w2.heap.size 44 3 v' set.length (cellsOf set)) := own_same HO4.out fun g hg hlt => hb5.block g hlt
        have HB5 : Hid (Below w.heap.size w w5) := HB4.out.trans (hb5.mono HB4.out.size)
        clear hb5
        go_wp2_with fail
        refine bodyPost_ret (v := .tuple #[v', .int .i64 0, .int .i64 0]) (by simp [results, Tryz.results16, go_sem]) rfl ?_
        unfold Ref.RdV
        rw [if_neg h1, HLr.out]
        simp only
        rw [HRS.out]
        exact ⟨v', rfl, own_mono HO5.out HB2.out.size, HB5.out⟩

end Go.Proofs.YtnffjoipinhojabGreatDoor

namespace Go.Proofs.YtnffjoipinhojabGreatDoor
open Go.RowKit

/-- copy of a row into a row, elements of any number of cells -/
theorem run_copy_rows {P : Program} (w : World) (dT sT ty elem : TypeId) (size g o dLen dCap : Nat) (a : Addr) (sLen sCap : Nat) (cur : Array Value) (t : TypeId) (cs : List Value)
    (hu : P.underlying dT = some (.slice elem)) (hs : (P.info? elem).map (·.size) = some size)
    (hg : w.heap[g]? = some (.cells cur t (0, 0))) (hn : cs.length = Nat.min sLen dLen * size)
    (hsrc : ∀ j v, cs[j]? = some v → w.cell? (a.add j) = some v) (hfit : o + cs.length ≤ cur.size) (h1 : ∀ v ∈ cs, v.oneCell' = true) :
    (Builtin.copy_ #[dT, sT] ty #[.slice (some ⟨g, o, none⟩) dLen dCap, .slice (some a) sLen sCap]).run P w =
      .ok (goInt (Nat.min sLen dLen)) (w.setRow g (cur.toList.take o ++ cs ++ cur.toList.drop (o + cs.length)).toArray) := by
  have hl := run_firstCells_some (P := P) w size (Nat.min sLen dLen) a sLen sCap cs hn hsrc
  have hst := run_storeCells_at P g o t cs 0 cur w hg (by simpa using hfit) h1
  cases hq : P.info? elem with
  | none => simp [hq] at hs
  | some i =>
    have hi : i.size = size := by simpa [hq] using hs
    simp [Builtin.copy_, run_underlying hu, Builtin.lenOf, sizeOf, typeInfo, hq, hi, hl, hst]

theorem wpList_copy_run {P : Program} (w : World) {ops : Array Oper} {rest : List Oper} {o : Oper} {a : Act} {Q : Exit → Act → World → Prop} (hgd : o.guard = none) (d s : Operand) (t t' : TypeId)
    (ho : o.op = .call { callee := .builtin .copy, args := #[d, s], argTypes := #[t, t'] }) (v u : Value) (hd : a.eval d = v) (hs : a.eval s = u) {v' : Value} {w' : World}
    (hr : (Builtin.copy_ #[t, t'] o.type #[v, u]).run P w = .ok v' w') (h : wpList P ops Q rest (a.put o.dst v') w') : wpList P ops Q (o :: rest) a w := by
  refine wpList_plain hgd fun _ hK => ?_
  unfold Oper.wp execOp
  simp only [ho, resolve, invoke, builtin, Sem.run_bind, Sem.run_pure, Result.andThen_ok, List.map_toArray, List.map_cons, List.map_nil, hd, hs, hr]
  exact hK _ _ h

theorem step_copy_run {P : Program} {ops : Array Oper} {o : Oper} {a : Act} {w : World} {K : Act → World → Prop} {Q : Exit → Act → World → Prop} {E : Prop}
    (hg : o.guard = none) (d x : Operand) (dT sT : TypeId) (hop : o.op = Op.call { callee := Callee.builtin Builtin.copy, args := #[d, x], argTypes := #[dT, sT] })
    (v u : Value) (hd : a.eval d = v) (hx : a.eval x = u) {v' : Value} {w' : World} (hr : (Builtin.copy_ #[dT, sT] o.type #[v, u]).run P w = .ok v' w') (hK : K (a.put o.dst v') w') :
    if Region.wanted o (yielded ops a.tmps) = true then Oper.wp P o a w K Q else E := by
  have hw : Region.wanted o (yielded ops a.tmps) = true := by simp [Region.wanted, hg]
  rw [if_pos hw]
  unfold Oper.wp
  simp [execOp, hop, resolve, invoke, builtin, hd, hx, hr, Result.andThen]
  exact hK

/-- the row after the shift, and with the new sentence -/
def shL (cur : List Value) (n i : Nat) : List Value := cur.take ((i + 1) * 3) ++ (cur.take (n * 3)).drop (i * 3) ++ cur.drop ((n + 1) * 3)
def inL (cur : List Value) (n i : Nat) (vs : List Value) : List Value := cur.take (i * 3) ++ vs ++ (cur.take (n * 3)).drop (i * 3) ++ cur.drop ((n + 1) * 3)

theorem shL_length {cur : List Value} {n i : Nat} (hi : i < n) (hc : (n + 1) * 3 ≤ cur.length) : (shL cur n i).length = cur.length := by
  simp [shL]
  omega
theorem inL_eq {cur : List Value} {n i : Nat} {vs : List Value} (hv : vs.length = 3) (hi : i < n) (hc : (n + 1) * 3 ≤ cur.length) : (shL cur n i).take (i * 3) ++ vs ++ (shL cur n i).drop (i * 3 + vs.length) = inL cur n i vs := by
  unfold shL inL
  have e1 : (i + 1) * 3 = i * 3 + 3 := by omega
  rw [hv, e1]
  have h1 : (List.take (i * 3 + 3) cur).length = i * 3 + 3 := by simp; omega
  have h2 : ∀ (A B : List Value) (k : Nat), A.length = k + 3 → (A ++ B).take k ++ vs ++ (A ++ B).drop (k + 3) = A.take k ++ vs ++ B := fun A B k h => by
    rw [List.take_append_of_le_length (by omega), List.drop_append_of_le_length (by omega), List.drop_of_length_le (by omega)]
    rfl
  rw [List.append_assoc (List.take (i * 3 + 3) cur), h2 _ _ _ h1, List.take_take, Nat.min_eq_left (by omega)]
  simp only [List.append_assoc]

theorem info3 : (Tryz.prog.info? 44).map (·.size) = some 3 := by kernel_rfl

set_option maxHeartbeats 4000000 in
set_option maxRecDepth 100000 in
/-- slices.Insert: there is room, i < len(s) -/
theorem insert_shift (w : World) (g n c i vb : Nat) (cur : Array Value) (vs : List Value) (hi : i < n) (hroom : n < c) (hc : c ≤ maxLen) (hvb : vb ≠ g)
    (hg : w.heap[g]? = some (.cells cur 44 (0, 0))) (hcs : cur.size = c * 3) (h1c : ∀ v ∈ cur.toList.take (n * 3), v.oneCell' = true)
    (hv : w.heap[vb]? = some (.cells vs.toArray 44 (0, 0))) (hvl : vs.length = 3) (h1v : ∀ v ∈ vs, v.oneCell' = true) :
    Calls Tryz.prog 68 #[.slice (some ⟨g, 0, none⟩) n c, .int .i64 i, .slice (some ⟨vb, 0, none⟩) 1 1] w fun e w' =>
      e = .returned (.slice (some ⟨g, 0, none⟩) (n + 1) c) ∧ w'.heap[g]? = some (.cells (inL cur.toList n i vs).toArray 44 (0, 0)) ∧ w.grownBy w' (some g) := by
  unfold maxLen at hc
  have hcl : cur.toList.length = c * 3 := by simpa using hcs
  have hvw : vb < w.heap.size := (Array.getElem?_eq_some_iff.1 hv).1
  have hml : ((cur.toList.take (n * 3)).drop (i * 3)).length = n * 3 - i * 3 := by simp; omega
  have hcp1 : ∀ (W : World) ty dc sc, W.heap = w.heap → (Builtin.copy_ #[24, 24] ty #[.slice (some ⟨g, (i + 1) * 3, none⟩) (n - i) dc, .slice (some ⟨g, i * 3, none⟩) (n + 1 - i) sc]).run Tryz.prog W = .ok (goInt (Nat.min (n + 1 - i) (n - i))) (W.setRow g (shL cur.toList n i).toArray) := fun W ty dc sc hW => by
    rw [run_copy_rows W _ _ ty _ 3 g ((i + 1) * 3) (n - i) dc ⟨g, i * 3, none⟩ (n + 1 - i) sc cur 44 ((cur.toList.take (n * 3)).drop (i * 3)) Tryz.underlying24 info3 (by rw [hW]; exact hg)
      (by rw [hml]; simp only [Nat.min_def]; split <;> omega)
      (fun j v hj => by
        have e : (⟨g, i * 3, none⟩ : Addr).add j = ⟨g, i * 3 + j, none⟩ := by unfold Addr.add; split <;> simp_all
        rw [e]
        simp only [World.cell?, hW, hg]
        rw [List.getElem?_drop, List.getElem?_take] at hj
        split at hj
        · simpa using hj
        · cases hj)
      (by rw [hml]; omega) (fun v hv => h1c v (List.mem_of_mem_drop hv))]
    rw [hml, show (i + 1) * 3 + (n * 3 - i * 3) = (n + 1) * 3 by omega]
    rfl
  have hsl : (shL cur.toList n i).length = c * 3 := by rw [shL_length hi (by omega), hcl]
  have hcp2 : ∀ (W : World) ty dc, W.heap[g]? = some (.cells (shL cur.toList n i).toArray 44 (0, 0)) → W.heap[vb]? = w.heap[vb]? → (Builtin.copy_ #[24, 24] ty #[.slice (some ⟨g, i * 3, none⟩) (n + 1 - i) dc, .slice (some ⟨vb, 0, none⟩) 1 1]).run Tryz.prog W = .ok (goInt (Nat.min 1 (n + 1 - i))) (W.setRow g (inL cur.toList n i vs).toArray) := fun W ty dc hW hV => by
    rw [run_copy_rows W _ _ ty _ 3 g (i * 3) (n + 1 - i) dc ⟨vb, 0, none⟩ 1 1 (shL cur.toList n i).toArray 44 vs Tryz.underlying24 info3 hW
      (by rw [hvl]; simp only [Nat.min_def]; split <;> omega)
      (fun j v hj => by
        have e : (⟨vb, 0, none⟩ : Addr).add j = ⟨vb, j, none⟩ := by unfold Addr.add; split <;> simp_all
        rw [e]
        simp only [World.cell?, hV, hv]
        simpa using hj)
      (by rw [List.size_toArray, hsl, hvl]; omega) h1v]
    rw [List.toList_toArray, inL_eq hvl hi (by omega)]
  have hov : ∀ lb cb, (callFunc 114 #[.slice (some ⟨vb, 0, none⟩) 1 1, .slice (some ⟨g, (i + 1) * 3, none⟩) lb cb]).run Tryz.prog w = .ok (.value (.bool false)) w := fun lb cb => by
    rw [run_callFunc_extern Tryz.func114 (by kernel_rfl) (by kernel_rfl) (by kernel_rfl) (e := Extern.SlicesOverlaps.overlaps #[24, 24] #[4]) (by kernel_rfl),
      Lib.run_overlaps_apart w 24 4 44 Tryz.underlying24 3 (fun w => by obtain ⟨q, hq, h3⟩ := Option.map_eq_some_iff.1 info3; simp [sizeOf, typeInfo, hq, h3]) ⟨vb, 0, none⟩ ⟨g, (i + 1) * 3, none⟩ 1 1 lb cb hvb 44 44 vs.length cur.size (by simp [World.shape?, hv]) (by simp [World.shape?, hg]) (by omega) (by simp [World.frozen?, hv]) (by simp [World.frozen?, hv])]
    rfl
  go_enter Tryz.func68, Tryz.ntmps68
  have hz2 : ¬ ((i : Int) = (n : Int)) := by omega
  have hw1 : IntKind.i64.wrap ((i : Int) + 1) = (i : Int) + 1 := by rw [IntKind.wrap_i64]; omega
  have hw2 : IntKind.i64.wrap ((n : Int) + 1) = (n : Int) + 1 := by rw [IntKind.wrap_i64]; omega
  have hb1 : (0 : Int) ≤ (i : Int) + 1 := by omega
  have hin : i ≤ n := by omega
  have hb2 : ¬ (c = i + 1) := by omega
  have hb3 : (i : Int) ≤ (n : Int) + 1 := by omega
  have hb4 : ¬ (c = i) := by omega
  have mixed : Tryz.prog.follows Departure.mixedOrders = true := by kernel_rfl
  go_wp2_with (simp only [hov])
  have hcpD := hcp1 w.drew 3 (c - (i + 1)) (c - i) rfl
  go_region_law_o (refine step_copy_run rfl _ _ 24 24 rfl (.slice (some ⟨g, (i + 1) * 3, none⟩) (n - i) (c - (i + 1))) (.slice (some ⟨g, i * 3, none⟩) (n + 1 - i) (c - i)) (by simp [Act.eval, Act.put]) (by simp [Act.eval, Act.put]) hcpD ?_)
  have hgD : (w.drew.setRow g (shL cur.toList n i).toArray).heap[g]? = some (.cells (shL cur.toList n i).toArray 44 (0, 0)) := setRow_heap w.drew g cur _ _ _ hg
  have hvD : (w.drew.setRow g (shL cur.toList n i).toArray).heap[vb]? = w.heap[vb]? := setRow_other w.drew g vb _ hvb
  have hcpE := hcp2 _ 3 (c - i) hgD hvD
  clear hcpD hcp1 hcp2
  go_wp2_with (simp only [hcpE, Result.andThen_ok])
  go_wp2
  refine bodyPost_ret (v := .slice (some ⟨g, 0, none⟩) (n + 1) c) (by simp [results, Tryz.results68, go_sem]) rfl ⟨rfl, ?_, ?_⟩
  · rw [setRow_setRow]
    exact setRow_heap w.drew g cur _ _ _ hg
  · rw [setRow_setRow]
    exact ⟨rfl, rfl, rfl, by rw [setRow_size]; exact Nat.le_refl _, fun k hk hne => setRow_other w.drew g k _ (fun e => hne (by rw [e]))⟩

end Go.Proofs.YtnffjoipinhojabGreatDoor

namespace Go.Proofs.YtnffjoipinhojabGreatDoor
open Go.RowKit

/-- the new row after both copies -/
def grL (R : List Value) (i : Nat) (vs : List Value) : List Value := R.take (i * 3) ++ vs ++ R.drop (i * 3 + vs.length)
def grM (R : List Value) (i : Nat) (vs ms : List Value) : List Value := (grL R i vs).take ((i + 1) * 3) ++ ms ++ (grL R i vs).drop ((i + 1) * 3 + ms.length)
theorem grL_length {R vs : List Value} {i : Nat} (hv : vs.length = 3) (h : (i + 1) * 3 ≤ R.length) : (grL R i vs).length = R.length := by
  simp [grL]
  omega
theorem grM_length {R vs ms : List Value} {i : Nat} (hv : vs.length = 3) (h : (i + 1) * 3 + ms.length ≤ R.length) : (grM R i vs ms).length = R.length := by
  simp [grM, grL_length hv (show (i + 1) * 3 ≤ R.length by omega)]
  omega
theorem grM_take {R vs ms : List Value} {i : Nat} (hv : vs.length = 3) (h : (i + 1) * 3 + ms.length ≤ R.length) : (grM R i vs ms).take ((i + 1) * 3 + ms.length) = R.take (i * 3) ++ vs ++ ms := by
  have h1 : (R.take (i * 3) ++ vs).length = (i + 1) * 3 := by simp; omega
  have h2 : (grL R i vs).take ((i + 1) * 3) = R.take (i * 3) ++ vs := by
    unfold grL
    rw [List.take_append_of_le_length (by omega), List.take_of_length_le (by omega)]
  unfold grM
  rw [h2, List.take_append_of_le_length (by rw [List.length_append]; omega), List.take_of_length_le (by rw [List.length_append]; omega)]

/-- what the growing road leaves -/
def GrP (w : World) (n i : Nat) (cur : Array Value) (vs : List Value) (e : Ending) (w' : World) : Prop :=
  ∃ G new, e = .returned (.slice (some ⟨w.heap.size, 0, none⟩) (n + 1) G) ∧ n + 1 ≤ G ∧ G ≤ maxLen ∧ w'.heap[w.heap.size]? = some (.cells new 44 (0, 0)) ∧ new.size = G * 3 ∧ new.toList.take ((n + 1) * 3) = cur.toList.take (i * 3) ++ vs ++ cur.toList.drop (i * 3) ∧ w.grownBy w' none

set_option maxHeartbeats 4000000 in
set_option maxRecDepth 100000 in
/-- slices.Insert: there is no room, i < len(s): a new row -/
theorem insert_grow (w : World) (g n i vb : Nat) (cur : Array Value) (vs : List Value) (hi : i < n) (hbig : n ≤ 1000000000) 
    (hg : w.heap[g]? = some (.cells cur 44 (0, 0))) (hcs : cur.size = n * 3) (h1c : ∀ v ∈ cur.toList, v.oneCell' = true)
    (hv : w.heap[vb]? = some (.cells vs.toArray 44 (0, 0))) (hvl : vs.length = 3) (h1v : ∀ v ∈ vs, v.oneCell' = true) :
    Calls Tryz.prog 68 #[.slice (some ⟨g, 0, none⟩) n n, .int .i64 i, .slice (some ⟨vb, 0, none⟩) 1 1] w fun e w' => GrP w n i cur vs e w' := by
  have hcl : cur.toList.length = n * 3 := by simpa using hcs
  have hgw : g < w.heap.size := (Array.getElem?_eq_some_iff.1 hg).1
  have hvw : vb < w.heap.size := (Array.getElem?_eq_some_iff.1 hv).1
  have hml : (cur.toList.drop (i * 3)).length = n * 3 - i * 3 := by simp; omega
  obtain ⟨i0, hi0, hz0, hzs, hzb⟩ := info_parts infoTri
  have hadd : ∀ b o j, (⟨b, o, none⟩ : Addr).add j = ⟨b, o + j, none⟩ := fun b o j => by unfold Addr.add; split <;> simp_all
  have hold : (Builtin.firstCells i0.size i (.slice (some ⟨g, 0, none⟩) i n)).run Tryz.prog w.drew = .ok (cur.toList.take (i * 3)).toArray w.drew := by
    rw [hzs]
    exact run_firstCells_some w.drew 3 i ⟨g, 0, none⟩ i n (cur.toList.take (i * 3)) (by rw [List.length_take]; omega) (fun j v hj => by
      rw [hadd, Nat.zero_add]
      show w.cell? ⟨g, j, none⟩ = some v
      simp only [World.cell?, hg]
      rw [List.getElem?_take] at hj
      split at hj
      · simpa using hj
      · cases hj)
  obtain ⟨G, hG⟩ : ∃ G, G = grownCap w (n + 1) n 44 := ⟨_, rfl⟩
  have hGn : n + 1 ≤ G := by rw [hG]; exact grownCap_ge w _ _ _
  have hGm : G ≤ maxLen := by rw [hG]; exact grownCap_le_maxLen w (n + 1) n _ (by unfold maxLen; omega)
  have hG63 : G ≤ 9223372036854775807 := by unfold maxLen at hGm; omega
  obtain ⟨ROW, hRs, hRt, hrz⟩ : ∃ ROW : Array Value, ROW.size = G * 3 ∧ ROW.toList.take (i * 3) = cur.toList.take (i * 3) ∧ ∀ ty, (Builtin.append_ #[24, 3] ty #[.slice (some ⟨g, 0, none⟩) i n, .int .i64 ((n : Int) + 1 - (i : Int))]).run Tryz.prog w = .ok (.slice (some ⟨w.heap.size, 0, none⟩) (n + 1) G) (w.drew.alloc (.cells ROW 44)) := by
    refine ⟨(cur.toList.take (i * 3)).toArray ++ Builtin.zeroCells (Value.agg #[.string ⟨#[]⟩, .string ⟨#[]⟩, .string ⟨#[]⟩]).cells (n + 1 - i) ++ Builtin.zeroCells (Value.agg #[.string ⟨#[]⟩, .string ⟨#[]⟩, .string ⟨#[]⟩]).cells (G - (n + 1)), ?_, ?_, fun ty => ?_⟩
    rotate_left 2
    · have h := Lib.run_append_grow_zeros (P := Tryz.prog) w 24 3 ty 44 i0 _ .i64 .i64 Tryz.underlying24 Tryz.underlying3 hi0 hz0 (some ⟨g, 0, none⟩) i n (cur.toList.take (i * 3)) hold (n + 1 - i) (by omega) (by omega) (by omega) (by omega) (by rw [hzb]; omega) (by rw [hzb]; exact growslice_fits (by omega) (by omega))
      rw [show i + (n + 1 - i) = n + 1 by omega, ← hG] at h
      rw [show (n : Int) + 1 - (i : Int) = ((n + 1 - i : Nat) : Int) by omega]
      exact h
    · simp [size_zeroCells, Value.cells]
      omega
    · rw [Array.toList_append, Array.toList_append, List.append_assoc, List.toList_toArray, List.take_append_of_le_length (by rw [List.length_take]; omega), List.take_take, Nat.min_self]
  have hRl : ROW.toList.length = G * 3 := by simpa using hRs
  obtain ⟨N, hN⟩ : ∃ N, N = w.heap.size := ⟨_, rfl⟩
  rw [← hN] at hrz
  have hcpA : ∀ (W : World) ty dc, W.heap[N]? = some (.cells ROW 44 (0, 0)) → W.heap[vb]? = w.heap[vb]? → (Builtin.copy_ #[24, 24] ty #[.slice (some ⟨N, i * 3, none⟩) (n + 1 - i) dc, .slice (some ⟨vb, 0, none⟩) 1 1]).run Tryz.prog W = .ok (goInt (Nat.min 1 (n + 1 - i))) (W.setRow N (grL ROW.toList i vs).toArray) := fun W ty dc hW hV => by
    rw [run_copy_rows W _ _ ty _ 3 N (i * 3) (n + 1 - i) dc ⟨vb, 0, none⟩ 1 1 ROW 44 vs Tryz.underlying24 info3 hW
      (by rw [hvl]; simp only [Nat.min_def]; split <;> omega)
      (fun j v hj => by
        rw [hadd, Nat.zero_add]
        simp only [World.cell?, hV, hv]
        simpa using hj)
      (by rw [hRs, hvl]; omega) h1v]
    rfl
  have hLl : (grL ROW.toList i vs).length = G * 3 := by rw [grL_length hvl (by omega), hRl]
  have hcpB : ∀ (W : World) ty dc sc, W.heap[N]? = some (.cells (grL ROW.toList i vs).toArray 44 (0, 0)) → W.heap[g]? = w.heap[g]? → (Builtin.copy_ #[24, 24] ty #[.slice (some ⟨N, (i + 1) * 3, none⟩) (n - i) dc, .slice (some ⟨g, i * 3, none⟩) (n - i) sc]).run Tryz.prog W = .ok (goInt (Nat.min (n - i) (n - i))) (W.setRow N (grM ROW.toList i vs (cur.toList.drop (i * 3))).toArray) := fun W ty dc sc hW hV => by
    rw [run_copy_rows W _ _ ty _ 3 N ((i + 1) * 3) (n - i) dc ⟨g, i * 3, none⟩ (n - i) sc (grL ROW.toList i vs).toArray 44 (cur.toList.drop (i * 3)) Tryz.underlying24 info3 hW
      (by rw [hml]; simp only [Nat.min_def]; split <;> omega)
      (fun j v hj => by
        rw [hadd]
        simp only [World.cell?, hV, hg]
        rw [List.getElem?_drop] at hj
        simpa using hj)
      (by rw [List.size_toArray, hLl, hml]; omega) (fun v hv => h1c v (List.mem_of_mem_drop hv))]
    rfl
  have HF : Hid (∀ (W : World), W.os = w.os → W.tape = w.tape → W.output = w.output → W.heap.size = N + 1 → (∀ k, k < N → W.heap[k]? = w.heap[k]?) → W.heap[N]? = some (.cells (grM ROW.toList i vs (cur.toList.drop (i * 3))).toArray 44 (0, 0)) → GrP w n i cur vs (.returned (.slice (some ⟨N, 0, none⟩) (n + 1) G)) W) := fun W h1 h2 h3 h4 h5 h6 => by
    subst hN
    refine ⟨G, _, rfl, hGn, hGm, h6, ?_, ?_, h1, h2, h3, by omega, fun k hk _ => h5 k (by omega)⟩
    · rw [List.size_toArray, grM_length hvl (by rw [hml, hRl]; omega), hRl]
    · have := grM_take (R := ROW.toList) (ms := cur.toList.drop (i * 3)) hvl (i := i) (by rw [hml, hRl]; omega)
      rw [hml, show (i + 1) * 3 + (n * 3 - i * 3) = (n + 1) * 3 by omega, hRt] at this
      exact this
  have hw1 : IntKind.i64.wrap ((i : Int) + 1) = (i : Int) + 1 := by rw [IntKind.wrap_i64]; omega
  have hw2 : IntKind.i64.wrap ((n : Int) + 1) = (n : Int) + 1 := by rw [IntKind.wrap_i64]; omega
  have hw3 : IntKind.i64.wrap ((n : Int) + 1 - (i : Int)) = (n : Int) + 1 - (i : Int) := by rw [IntKind.wrap_i64]; omega
  have hz2 : ¬ ((i : Int) = (n : Int)) := by omega
  have hz3 : (n : Int) < (n : Int) + 1 := by omega
  have hb1 : (0 : Int) ≤ (i : Int) + 1 := by omega
  have hin : i ≤ n := by omega
  have hb3 : (i : Int) ≤ (n : Int) := by omega
  have hb4 : ¬ (n = i) := by omega
  have hGi : ¬ (G = i) := by omega
  have hGim : ¬ (G = i + 1) := by omega
  have hgN : g ≠ N := by omega
  have hvN : vb ≠ N := by omega
  have hi1 : (i : Int) ≤ (n : Int) + 1 := by omega
  have mixed : Tryz.prog.follows Departure.mixedOrders = true := by kernel_rfl
  have HN : Hid (N = w.heap.size) := hN
  have hA0 : ((w.alloc (Obj.cells ROW 44)).drew).heap[N]? = some (.cells ROW 44 (0, 0)) := by
    show (w.heap.push (Obj.cells ROW 44))[N]? = _
    rw [hN, Array.getElem?_push, if_pos rfl]
  have hA1 : ∀ k, k < N → ((w.alloc (Obj.cells ROW 44)).drew).heap[k]? = w.heap[k]? := fun k hk => by
    rw [hN] at hk
    show (w.heap.push (Obj.cells ROW 44))[k]? = _
    rw [Array.getElem?_push, if_neg (Nat.ne_of_lt hk)]
  have hA2 : ((w.alloc (Obj.cells ROW 44)).drew).heap.size = N + 1 := by
    show (w.heap.push (Obj.cells ROW 44)).size = _
    rw [hN, Array.size_push]
  have hcA := hcpA ((w.alloc (Obj.cells ROW 44)).drew) 3 (G - i) hA0 (hA1 vb (by omega))
  obtain ⟨W1, hW1⟩ : ∃ W1, W1 = ((w.alloc (Obj.cells ROW 44)).drew).setRow N (grL ROW.toList i vs).toArray := ⟨_, rfl⟩
  have hB0 : W1.heap[N]? = some (.cells (grL ROW.toList i vs).toArray 44 (0, 0)) := by rw [hW1]; exact setRow_heap _ N ROW _ _ _ hA0
  have hB1 : ∀ k, k < N → W1.heap[k]? = w.heap[k]? := fun k hk => by rw [hW1, setRow_other _ _ _ _ (by omega)]; exact hA1 k hk
  have hB2 : W1.heap.size = N + 1 := by rw [hW1, setRow_size, hA2]
  have hB3 : W1.os = w.os ∧ W1.tape = w.tape ∧ W1.output = w.output := by rw [hW1]; exact ⟨rfl, rfl, rfl⟩
  rw [← hW1] at hcA
  have hcB := hcpB W1.drew 3 (G - (i + 1)) (n - i) hB0 (hB1 g (by omega))
  have HE : Hid (GrP w n i cur vs (.returned (.slice (some ⟨N, 0, none⟩) (n + 1) G)) (W1.drew.setRow N (grM ROW.toList i vs (cur.toList.drop (i * 3))).toArray)) := HF.out _ hB3.1 hB3.2.1 hB3.2.2 (by rw [setRow_size]; exact hB2) (fun k hk => by rw [setRow_other _ _ _ _ (by omega)]; exact hB1 k hk) (setRow_heap _ N _ _ _ _ hB0)
  clear hcpA hcpB hW1 hB0 hB1 hB2 hB3 hA0 hA1 hA2 HF
  clear hN hold hRt hG hadd hml hcs hcl hi0 hz0 hzs hzb hG63
  go_enter Tryz.func68, Tryz.ntmps68
  go_wp2_with (first | (at_builtin; refine Lib.wpList_append_run _ rfl _ _ _ _ rfl _ _ rfl rfl _ _ (hrz _) ?_) | simp only [hcA, Result.andThen_ok])
  go_wp2
  go_region_law_o (refine step_copy_run rfl _ _ 24 24 rfl (.slice (some ⟨N, (i + 1) * 3, none⟩) (n - i) (G - (i + 1))) (.slice (some ⟨g, i * 3, none⟩) (n - i) (n - i)) (by simp [Act.eval, Act.put]) (by simp [Act.eval, Act.put]) hcB ?_)
  go_wp2
  exact bodyPost_ret (v := .slice (some ⟨N, 0, none⟩) (n + 1) G) (by simp [results, Tryz.results68, go_sem]) rfl HE.out

end Go.Proofs.YtnffjoipinhojabGreatDoor

namespace Go.Proofs.YtnffjoipinhojabGreatDoor
open Go.RowKit

/-- what slices.Insert leaves: the call's own row, with one sentence more -/
def InP (w : World) (base : Nat) (v : Value) (n : Nat) (xs : List Value) (e : Ending) (w' : World) : Prop :=
  ∃ v', e = .returned v' ∧ w'.ownsRow base 44 3 v' (n + 1) xs ∧ w.grownBy w' v.ownBlock

set_option maxHeartbeats 4000000 in
set_option maxRecDepth 100000 in
/-- slices.Insert at the end -/
theorem insert_end (w : World) (base : Nat) (v : Value) (n vb : Nat) (xs vs : List Value) (ho : w.ownsRow base 44 3 v n xs) (hbase : base ≤ w.heap.size) (hn : n ≤ 1000000000)
    (hv : w.heap[vb]? = some (.cells vs.toArray 44 (0, 0))) (hvl : vs.length = 3) (h1v : ∀ v ∈ vs, v.oneCell' = true) :
    Calls Tryz.prog 68 #[v, .int .i64 n, .slice (some ⟨vb, 0, none⟩) 1 1] w fun e w' => InP w base v n (xs ++ vs) e w' := by
  obtain ⟨i0, hi0, hz0, hz1, hz2⟩ := info_parts infoTri
  have hadd : ∀ b o j, (⟨b, o, none⟩ : Addr).add j = ⟨b, o + j, none⟩ := fun b o j => by unfold Addr.add; split <;> simp_all
  have hnews : ∀ j u, vs[j]? = some u → w.cell? ((⟨vb, 0, none⟩ : Addr).add j) = some u := fun j u hj => by
    rw [hadd, Nat.zero_add]
    simp only [World.cell?, hv]
    simpa using hj
  have HV : Hid (w.heap[vb]? = some (.cells vs.toArray 44 (0, 0))) := hv
  clear hv
  rcases ho.2 with ⟨rfl, rfl⟩ | ⟨g, cap, cur, rfl, hb, hg, hc1, hc2, hc3, hc4⟩
  · go_enter Tryz.func68, Tryz.ntmps68
    go_wp2_with (first
      | (at_builtin; refine wpList_append_own_at _ (by rfl) _ _ _ (by rfl) base 44 i0 _ 3 48 Tryz.underlying24 hi0 hz0 hz1 hz2 rfl (by omega) (.slice none 0 0) 0 xs (by rfl) ho ⟨vb, 0, none⟩ 1 1 vs (by rfl) hvl hnews h1v (by unfold maxLen; omega) (by omega) hbase ?_; intro v1 w1 ho1 hg1 hi1 hb1; have HO1 : Hid (InP w base (.slice none 0 0) 0 (xs ++ vs) (.returned v1) w1) := ⟨v1, rfl, ho1, hg1⟩; clear ho1 hg1 hi1 hb1))
    exact bodyPost_ret (v := v1) (by simp [results, Tryz.results68, go_sem]) rfl HO1.out
  · have HG : Hid (w.heap[g]? = some (.cells cur 44 (0, 0))) := hg
    unfold maxLen at hc2
    by_cases hcn : cap = n
    · subst hcn
      clear hg hc3 hc4
      go_enter Tryz.func68, Tryz.ntmps68
      go_wp2_with (first
        | (at_builtin; refine wpList_append_own_at _ (by rfl) _ _ _ (by rfl) base 44 i0 _ 3 48 Tryz.underlying24 hi0 hz0 hz1 hz2 rfl (by omega) (.slice (some ⟨g, 0, none⟩) cap cap) cap xs (by rfl) ho ⟨vb, 0, none⟩ 1 1 vs (by rfl) hvl hnews h1v (by unfold maxLen; omega) (by omega) hbase ?_; intro v1 w1 ho1 hg1 hi1 hb1; have HO1 : Hid (InP w base (.slice (some ⟨g, 0, none⟩) cap cap) cap (xs ++ vs) (.returned v1) w1) := ⟨v1, rfl, ho1, hg1⟩; clear ho1 hg1 hi1 hb1))
      exact bodyPost_ret (v := v1) (by simp [results, Tryz.results68, go_sem]) rfl HO1.out
    · clear hg hc3 hc4
      go_enter Tryz.func68, Tryz.ntmps68
      go_wp2_with (first
        | (at_builtin; refine wpList_append_own_at _ (by rfl) _ _ _ (by rfl) base 44 i0 _ 3 48 Tryz.underlying24 hi0 hz0 hz1 hz2 rfl (by omega) (.slice (some ⟨g, 0, none⟩) n cap) n xs (by rfl) ho ⟨vb, 0, none⟩ 1 1 vs (by rfl) hvl hnews h1v (by unfold maxLen; omega) (by omega) hbase ?_; intro v1 w1 ho1 hg1 hi1 hb1; have HO1 : Hid (InP w base (.slice (some ⟨g, 0, none⟩) n cap) n (xs ++ vs) (.returned v1) w1) := ⟨v1, rfl, ho1, hg1⟩; clear ho1 hg1 hi1 hb1))
      exact bodyPost_ret (v := v1) (by simp [results, Tryz.results68, go_sem]) rfl HO1.out

/-- slices.Insert at sentences -/
theorem insert_any (w : World) (base : Nat) (v : Value) (l : List Tri) (i vb : Nat) (t : Tri) (ho : w.ownsRow base 44 3 v l.length (cellsOf l)) (hbase : base ≤ w.heap.size) (hn : l.length ≤ 1000000000) (hi : i ≤ l.length)
    (hv : w.heap[vb]? = some (.cells (cellsOf [t]).toArray 44 (0, 0))) (hvb : some vb ≠ v.ownBlock) :
    Calls Tryz.prog 68 #[v, .int .i64 i, .slice (some ⟨vb, 0, none⟩) 1 1] w fun e w' => InP w base v l.length (cellsOf (l.take i ++ [t] ++ l.drop i)) e w' := by
  have hl3 : (cellsOf [t]).length = 3 := rfl
  by_cases hin : i = l.length
  · subst hin
    have := insert_end w base v l.length vb (cellsOf l) (cellsOf [t]) ho hbase hn hv hl3 (cells_one _)
    rw [List.take_length, List.drop_length, List.append_nil, cellsOf_app]
    exact this
  · rcases ho.2 with ⟨_, h0⟩ | ⟨g, cap, cur, rfl, hb, hg, hc1, hc2, hc3, hc4⟩
    · omega
    · have e1 : cellsOf (l.take i ++ [t] ++ l.drop i) = (cellsOf l).take (i * 3) ++ cellsOf [t] ++ (cellsOf l).drop (i * 3) := by rw [cellsOf_app, cellsOf_app, cells_take, cells_drop]
      have hlen := ho.1
      have hone : ∀ v ∈ cur.toList.take (l.length * 3), v.oneCell' = true := by rw [hc4]; exact cells_one l
      by_cases hcn : cap = l.length
      · subst hcn
        have hcur : cur.toList = cellsOf l := by rw [← hc4, List.take_of_length_le (by simp [hc3])]
        refine (insert_grow w g l.length i vb cur (cellsOf [t]) (by omega) hn hg hc3 (fun v hv => by rw [hcur] at hv; exact cells_one l v hv) hv hl3 (cells_one _)).mono ?_
        rintro e w' ⟨G, new, rfl, q1, q2, q3, q4, q5, q6⟩
        refine ⟨_, rfl, ⟨?_, Or.inr ⟨_, G, new, rfl, hbase, q3, q1, q2, q4, ?_⟩⟩, q6.os, q6.tape, q6.output, q6.size, fun k hk _ => q6.block k hk (by simp)⟩
        · rw [e1, List.length_append, List.length_append, List.length_take, List.length_drop, hl3, hlen]
          omega
        · rw [q5, e1, hcur]
      · refine (insert_shift w g l.length cap i vb cur (cellsOf [t]) (by omega) (by omega) hc2 (fun e => hvb (by rw [e]; rfl)) hg hc3 hone hv hl3 (cells_one _)).mono ?_
        rintro e w' ⟨rfl, q1, q2⟩
        have hcl : cur.toList.length = cap * 3 := by simpa using hc3
        have h1 : (cur.toList.take (i * 3) ++ cellsOf [t] ++ (cur.toList.take (l.length * 3)).drop (i * 3)).length = (l.length + 1) * 3 := by
          rw [List.length_append, List.length_append, List.length_drop, List.length_take, List.length_take, hl3]
          omega
        refine ⟨_, rfl, ⟨?_, Or.inr ⟨g, cap, _, rfl, hb, q1, by omega, hc2, ?_, ?_⟩⟩, q2⟩
        · rw [e1, List.length_append, List.length_append, List.length_take, List.length_drop, hl3, hlen]
          omega
        · rw [List.size_toArray]
          unfold inL
          rw [List.length_append, h1, List.length_drop]
          omega
        · rw [List.toList_toArray]
          unfold inL
          rw [List.take_append_of_le_length (by omega), List.take_of_length_le (by omega), e1, hc4, ← hc4, List.take_take, Nat.min_eq_left (by omega)]

end Go.Proofs.YtnffjoipinhojabGreatDoor

namespace Go.Proofs.YtnffjoipinhojabGreatDoor
open Go.RowKit

set_option maxHeartbeats 4000000 in
set_option maxRecDepth 20000 in
theorem new_any (w : World) (n : Int) :
    Calls Tryz.prog 37 #[.int .i64 n] w fun e w' => e = .returned (.iface 94 (.agg #[.int .i64 n])) ∧ Below w.heap.size w w' := by
  go_enter Tryz.func37, Tryz.ntmps37
  go_wp2
  go_ret
  first | exact ⟨rfl, Below.refl _ w⟩ | exact ⟨rfl, (Below.refl _ w).alloc (Nat.le_refl _) _⟩

set_option maxHeartbeats 4000000 in
set_option maxRecDepth 20000 in
/-- BinarySearchFunc over nothing -/
theorem search_nil (w : World) (t : Tri) :
    Calls Tryz.prog 66 #[.slice none 0 0, triV t, fnV 67 #[]] w fun e w' =>
      e = .returned (.tuple #[.int .i64 0, .bool false]) ∧ Below w.heap.size w w' := by
  obtain ⟨Y1, k1⟩ : ∃ V : ByteArray, V = ⟨t.s.toArray⟩ := ⟨_, rfl⟩
  obtain ⟨Y2, k2⟩ : ∃ V : ByteArray, V = ⟨t.p.toArray⟩ := ⟨_, rfl⟩
  obtain ⟨Y3, k3⟩ : ∃ V : ByteArray, V = ⟨t.o.toArray⟩ := ⟨_, rfl⟩
  have HVy : (triV t) = .agg #[.string Y1, .string Y2, .string Y3] := by rw [k1, k2, k3]
  have eg : ∀ args w, (callFunc 67 args).run Tryz.prog w = .ok (.enter 67 args) w := enters_of Tryz.func67 (by kernel_rfl) rfl
  have HM : Hid (KS w w.heap.size Y1 Y2 Y3 (w.alloc (.cells #[.string Y1, .string Y2, .string Y3] 44))) := KS.mk w Y1 Y2 Y3 _
  rw [HVy]
  clear k1 k2 k3 HVy
  go_enter Tryz.func66, Tryz.ntmps66
  go_wp2_with fail
  go_loopw [9, 10] (fun t9 t10 wr => t9 = .int .i64 0 ∧ t10 = .int .i64 0 ∧ KS w w.heap.size Y1 Y2 Y3 wr) (fun t9 t10 wr => 0)
  case atStart => exact ⟨rfl, rfl, HM.out⟩
  case round =>
    obtain ⟨rfl, rfl, hK⟩ := hrel
    have HK : Hid (KS w w.heap.size Y1 Y2 Y3 wr) := hK
    clear hK
    go_wp2_with fail
    go_quiet (fail)
    go_wp2_with fail
    refine bodyPost_ret (v := .tuple #[.int .i64 0, .bool false]) (by simp [results, Tryz.results66, go_sem]) rfl ⟨rfl, below_drewN HK.out.low _⟩

/-- BinarySearchFunc over the call's own sentences -/
theorem search_own (w : World) (base : Nat) (v : Value) (l : List Tri) (t : Tri) (hr : Rising l) (ho : w.ownsRow base 44 3 v l.length (cellsOf l)) (hn : l.length ≤ 1099511627776) :
    Calls Tryz.prog 66 #[v, triV t, fnV 67 #[]] w fun e w' =>
      e = .returned (.tuple #[.int .i64 (posT l t), .bool (thereB l t)]) ∧ Below w.heap.size w w' := by
  rcases ho.2 with ⟨rfl, h0⟩ | ⟨g, cap, cur, rfl, hb, hg, _⟩
  · have : l = [] := List.length_eq_zero_iff.1 h0
    subst this
    exact search_nil w t
  · exact search_any w g cap l t hr (Array.getElem?_eq_some_iff.1 hg).1 (own_lies ho) hn

end Go.Proofs.YtnffjoipinhojabGreatDoor

namespace Go.Proofs.YtnffjoipinhojabGreatDoor
open Go.RowKit

/-- what rising ends in -/
def RiP (w : World) (r : Option (List Tri)) (e : Ending) (w' : World) : Prop := match r with
    | some set => ∃ v', e = .returned (.tuple #[v', .nilIface]) ∧ w'.ownsRow w.heap.size 44 3 v' set.length (cellsOf set) ∧ Below w.heap.size w w'
    | none => e = .returned (.tuple #[.slice none 0 0, .iface 94 (.agg #[.int .i64 10])]) ∧ Below w.heap.size w w'

set_option maxHeartbeats 4000000 in
set_option maxRecDepth 20000 in
theorem rising_nil (w : World) : Calls Tryz.prog 36 #[.slice none 0 0] w (RiP w (some [])) := by
  have HN0 : Hid (RiP w (some []) (.returned (.tuple #[.slice none 0 0, .nilIface])) w) := ⟨_, rfl, own_nil w _ _, Below.refl _ w⟩
  go_enter Tryz.func36, Tryz.ntmps36
  go_wp2_with fail
  go_loopw [4, 11] (fun t4 t11 wr => t4 = .slice none 0 0 ∧ t11 = .int .i64 0 ∧ wr = w) (fun t4 t11 wr => 0)
  case atStart => exact ⟨rfl, rfl, rfl⟩
  case round =>
    obtain ⟨rfl, rfl, rfl⟩ := hrel
    go_wp2_with fail
    exact bodyPost_ret (v := .tuple #[.slice none 0 0, .nilIface]) (by simp [results, Tryz.results36, go_sem]) rfl HN0.out

set_option maxHeartbeats 4000000 in
set_option maxRecDepth 20000 in
theorem rising_some (w : World) (g cap : Nat) (ts : List Tri) (hg : g < w.heap.size) (hL : Lies w g ts) (hn : ts.length ≤ maxLen) :
    Calls Tryz.prog 36 #[.slice (some ⟨g, 0, none⟩) ts.length cap] w (RiP w (rise [] ts)) := by
  unfold maxLen at hn
  have HL : Hid (Lies w g ts) := hL
  have eg : ∀ args w, (callFunc 67 args).run Tryz.prog w = .ok (.enter 67 args) w := enters_of Tryz.func67 (by kernel_rfl) rfl
  have HB0 : Hid (Below w.heap.size w w) := Below.refl _ w
  have HN0 : Hid (w.ownsRow w.heap.size 44 3 (.slice none 0 0) 0 []) := own_nil w _ _
  clear hL
  go_enter Tryz.func36, Tryz.ntmps36
  go_wp2_with fail
  go_loopw [4, 11] (fun t4 t11 wr => ∃ (q : Nat) (set : List Tri) (o : Option Addr) (c : Nat), q ≤ ts.length ∧ t11 = .int .i64 q ∧ t4 = .slice o set.length c ∧ Rising set ∧ set.length ≤ 300 ∧ wr.ownsRow w.heap.size 44 3 (.slice o set.length c) set.length (cellsOf set) ∧ Below w.heap.size w wr ∧ rise [] ts = rise set (ts.drop q)) (fun t4 t11 wr => ts.length - (intOf t11).toNat)
  case atStart => exact ⟨0, [], none, 0, Nat.zero_le _, rfl, rfl, List.Pairwise.nil, by simp, HN0.out, HB0.out, by simp⟩
  case round =>
    obtain ⟨q, set, o, c, hq, rfl, rfl, hr, h300, ho, hb, hri⟩ := hrel
    have HR : Hid (Rising set) := hr
    have HO : Hid (wr.ownsRow w.heap.size 44 3 (.slice o set.length c) set.length (cellsOf set)) := ho
    have HB : Hid (Below w.heap.size w wr) := hb
    have HI : Hid (rise [] ts = rise set (ts.drop q)) := hri
    clear hr ho hb hri
    by_cases hlt : q < ts.length
    · obtain ⟨x, hx⟩ : ∃ x, ts[q]? = some x := ⟨_, List.getElem?_eq_getElem hlt⟩
      obtain ⟨q0, q1, q2⟩ := (HL.out.below hg HB.out) q x hx
      have hd : ts.drop q = x :: ts.drop (q + 1) := by
        rw [List.drop_eq_getElem_cons hlt]
        congr 1
        exact (List.getElem?_eq_some_iff.1 hx).2
      have hst : rise [] ts = if thereB set x then rise set (ts.drop (q + 1)) else if set.length = 300 then none else rise (ins set x) (ts.drop (q + 1)) := by
        rw [HI.out, hd, rise]
      obtain ⟨Y1, k1⟩ : ∃ V : ByteArray, V = ⟨x.s.toArray⟩ := ⟨_, rfl⟩
      obtain ⟨Y2, k2⟩ : ∃ V : ByteArray, V = ⟨x.p.toArray⟩ := ⟨_, rfl⟩
      obtain ⟨Y3, k3⟩ : ∃ V : ByteArray, V = ⟨x.o.toArray⟩ := ⟨_, rfl⟩
      have HVy : triV x = .agg #[.string Y1, .string Y2, .string Y3] := by rw [k1, k2, k3]
      have HCy : cellsOf [x] = [.string Y1, .string Y2, .string Y3] := by rw [k1, k2, k3]; rfl
      have q0' : wr.cell? ⟨g, q * 3, none⟩ = some (.string Y1) := by rw [k1]; exact q0
      have q1' : wr.cell? ⟨g, q * 3 + 1, none⟩ = some (.string Y2) := by rw [k2]; exact q1
      have q2' : wr.cell? ⟨g, q * 3 + 2, none⟩ = some (.string Y3) := by rw [k3]; exact q2
      clear q0 q1 q2
      obtain ⟨P, hP⟩ : ∃ P, P = posT set x := ⟨_, rfl⟩
      obtain ⟨Bb, hBb⟩ : ∃ Bb, Bb = thereB set x := ⟨_, rfl⟩
      have HSr : Hid (∀ w1, KS wr wr.heap.size Y1 Y2 Y3 w1 → Calls Tryz.prog 66 #[.slice o set.length c, .agg #[.string Y1, .string Y2, .string Y3], fnV 67 #[]] w1 fun e w' => e = .returned (.tuple #[.int .i64 P, .bool Bb]) ∧ KS wr wr.heap.size Y1 Y2 Y3 w') := by
        intro w1 hk
        have := search_own w1 w.heap.size _ set x HR.out (own_same HO.out fun k _ hlt => hk.low.block k hlt) (by omega)
        rw [HVy] at this
        refine this.mono ?_
        rintro e w2 ⟨rfl, hb2⟩
        exact ⟨by rw [hP, hBb], hk.on hb2⟩
      have HIn : Hid (∀ w2, KS wr wr.heap.size Y1 Y2 Y3 w2 → Calls Tryz.prog 68 #[.slice o set.length c, .int .i64 P, .slice (some ⟨w2.heap.size, 0, none⟩) 1 1] (w2.alloc (.cells #[.string Y1, .string Y2, .string Y3] 44)) fun e w' => ∃ o' c', e = .returned (.slice o' (set.length + 1) c') ∧ w'.ownsRow w.heap.size 44 3 (.slice o' (set.length + 1) c') (set.length + 1) (cellsOf (ins set x)) ∧ Below w.heap.size w w') := by
        intro w2 hk
        have hb2 : Below w.heap.size w w2 := HB.out.trans (hk.low.mono HB.out.size)
        have ho2 : w2.ownsRow w.heap.size 44 3 (.slice o set.length c) set.length (cellsOf set) := own_same HO.out fun k _ hlt => hk.low.block k hlt
        have hba := hb2.alloc hb2.size (.cells #[.string Y1, .string Y2, .string Y3] 44)
        have := insert_any (w2.alloc (.cells #[.string Y1, .string Y2, .string Y3] 44)) w.heap.size (.slice o set.length c) set P w2.heap.size x (ho2.alloc _) hba.size (by omega) (by rw [hP]; exact posT_le _ _) (by rw [HCy]; exact heap_new _ _) (by
          intro e
          rcases ho2.2 with ⟨hv, _⟩ | ⟨g', cap', cur, hv, hge, hh, _⟩
          · rw [hv] at e; cases e
          · rw [hv] at e
            have := (Array.getElem?_eq_some_iff.1 hh).1
            simp [Value.ownBlock] at e
            omega)
        refine this.mono ?_
        rintro e w3 ⟨v', rfl, ho3, hg3⟩
        obtain ⟨o', c', rfl⟩ := own_form ho3
        refine ⟨o', c', rfl, ?_, Below.grown hba hg3 hba.size (fun k hk => own_block ho2 hk)⟩
        have : ins set x = set.take P ++ [x] ++ set.drop P := by rw [hP, ins, List.append_assoc]; rfl
        rw [this]
        exact ho3
      have HK0 : Hid (KS wr wr.heap.size Y1 Y2 Y3 (wr.alloc (.cells #[.string Y1, .string Y2, .string Y3] 44))) := KS.mk wr Y1 Y2 Y3 _
      have HRi2 : Hid (Bb = false → Rising (ins set x)) := fun h => ins_rising HR.out (fun ht => by rw [hBb, thereB_iff.2 ht] at h; cases h)
      rw [← hBb] at hst
      have HST : Hid (rise [] ts = if Bb then rise set (ts.drop (q + 1)) else if set.length = 300 then none else rise (ins set x) (ts.drop (q + 1))) := hst
      have HLn : Hid ((ins set x).length = set.length + 1) := ins_len set x
      clear hst hd hx HVy HCy k1 k2 k3 hP hBb HI
      have hf := KS.mk wr Y1 Y2 Y3 44
      obtain ⟨e0, e1, e2, e3⟩ := hf
      go_wp2_with fail
      refine (HSr.out _ HK0.out).mono ?_
      rintro e w2 ⟨rfl, hK2⟩
      have HK2 : Hid (KS wr wr.heap.size Y1 Y2 Y3 w2) := hK2
      clear e0 e1 e2 e3 q0' q1' q2' HSr HK0
      obtain ⟨e0, e1, e2, e3⟩ := hK2
      have HB2 : Hid (Below w.heap.size w w2) := HB.out.trans (HK2.out.low.mono HB.out.size)
      cases Bb with
      | true =>
        have HI2 : Hid (rise [] ts = rise set (ts.drop (q + 1))) := HST.out
        have HO2 : Hid (w2.ownsRow w.heap.size 44 3 (.slice o set.length c) set.length (cellsOf set)) := own_same HO.out fun k _ hlt => HK2.out.low.block k hlt
        clear HST
        go_wp2_with fail
        go_roundw
        case rel => exact ⟨q + 1, set, o, c, by omega, by go_num, rfl, HR.out, h300, HO2.out, HB2.out, HI2.out⟩
        case measure => simp [intOf]; omega
      | false =>
        by_cases h3 : set.length = 300
        · have HI2 : Hid (rise [] ts = none) := by unfold Hid; rw [HST.out, if_neg (by simp), if_pos h3]
          have HNw : Hid (Calls Tryz.prog 37 #[.int .i64 10] w2 fun e w' => e = .returned (.iface 94 (.agg #[.int .i64 10])) ∧ Below w2.heap.size w2 w') := new_any w2 10
          clear HST
          go_wp2_with fail
          refine HNw.out.mono ?_
          rintro e w3 ⟨rfl, hb3⟩
          have HB3 : Hid (Below w.heap.size w w3) := HB2.out.trans (hb3.mono HB2.out.size)
          clear hb3 e0 e1 e2 e3
          go_wp2_with fail
          refine bodyPost_ret (v := .tuple #[.slice none 0 0, .iface 94 (.agg #[.int .i64 10])]) (by simp [results, Tryz.results36, go_sem]) rfl ?_
          show RiP w (rise [] ts) _ _
          rw [HI2.out]
          exact ⟨rfl, HB3.out⟩
        · have HI2 : Hid (rise [] ts = rise (ins set x) (ts.drop (q + 1))) := by unfold Hid; rw [HST.out, if_neg (by simp), if_neg h3]
          have HR2 : Hid (Rising (ins set x)) := HRi2.out rfl
          have HCI := HIn.out w2 HK2.out
          have HC2 : Hid _ := HCI
          clear HST HRi2 HIn HCI
          go_wp2_with fail
          refine Calls.mono HC2.out ?_
          rintro e w3 ⟨o', c', rfl, ho3, hb3⟩
          have HO3 : Hid (w3.ownsRow w.heap.size 44 3 (.slice o' (set.length + 1) c') (set.length + 1) (cellsOf (ins set x))) := ho3
          have HB3 : Hid (Below w.heap.size w w3) := hb3
          clear ho3 hb3 e0 e1 e2 e3 HC2
          rw [← HLn.out] at HO3
          have hle : (ins set x).length ≤ 300 := by rw [HLn.out]; omega
          have hl2 : Value.slice o' (set.length + 1) c' = .slice o' (ins set x).length c' := by rw [HLn.out]
          rw [hl2]
          clear hl2 HLn
          generalize ins set x = S at *
          go_wp2_with fail
          go_roundw
          case rel => exact ⟨q + 1, S, o', c', by omega, by go_num, rfl, HR2.out, hle, HO3.out, HB3.out, HI2.out⟩
          case measure => simp [intOf]; omega
    · have HI2 : Hid (rise [] ts = some set) := by unfold Hid; rw [HI.out, List.drop_eq_nil_of_le (by omega)]; rfl
      go_wp2_with fail
      refine bodyPost_ret (v := .tuple #[.slice o set.length c, .nilIface]) (by simp [results, Tryz.results36, go_sem]) rfl ?_
      show RiP w (rise [] ts) _ _
      rw [HI2.out]
      exact ⟨_, rfl, HO.out, HB.out⟩

/-- the program's set of what was read -/
theorem rising_any : RiseC := by
  intro w base v ts ho
  rcases ho.2 with ⟨rfl, h0⟩ | ⟨g, cap, cur, rfl, hb, hg, h1, h2, _⟩
  · have : ts = [] := List.length_eq_zero_iff.1 h0
    subst this
    exact rising_nil w
  · exact rising_some w g cap ts (Array.getElem?_eq_some_iff.1 hg).1 (own_lies ho) (Nat.le_trans h1 h2)

/-- lines.Parse -/
theorem parse_any (w : World) (s : ByteArray) (hT : Tabs w) (hG : 8 ≤ w.heap.size) (hH : Handle w) : Calls Tryz.prog 16 #[.string s] w (Ref.RdV w 44 s) :=
  parse_of rising_any w s hT hG hH

end Go.Proofs.YtnffjoipinhojabGreatDoor

namespace Go.Proofs.YtnffjoipinhojabGreatDoor
open Go.RowKit

theorem lterm_num {s : ByteArray} {i : Nat} {ks : List Nat} {n : Int} {j : Nat} (h : lterm s i ks = .bad n j) : n = 2 ∨ n = 4 := by
  unfold lterm at h
  split at h
  · cases h; exact .inl rfl
  · split at h
    · cases h; exact .inr rfl
    · cases h
theorem sentence_num {s : ByteArray} {i : Nat} {n : Int} {j : Nat} (h : sentence s i = .bad n j) : n = 2 ∨ n = 4 := by
  unfold sentence at h
  split at h
  · rename_i h1; cases h; exact lterm_num h1
  · split at h
    · rename_i h1; cases h; exact lterm_num h1
    · split at h
      · rename_i h1; cases h; exact lterm_num h1
      · split at h
        · cases h
        · cases h; exact .inl rfl
theorem lineR_num {s : ByteArray} {i : Nat} {n : Int} {j : Nat} (h : lineR s i = .bad n j) : n = 2 ∨ n = 4 := by
  unfold lineR at h
  split at h
  · cases h
  · split at h
    · rename_i h1; cases h; exact sentence_num h1
    · cases h
theorem linesR_num (s : ByteArray) {n : Int} {j : Nat} : ∀ m i, s.size - i < m → i ≤ s.size → linesR s i = .bad n j → n = 2 ∨ n = 4 := by
  intro m
  induction m with
  | zero => intro i h; omega
  | succ m ih =>
    intro i hm hi h
    rw [linesR_tail hi] at h
    cases hl : lineR s i with
    | bad n' j' =>
      rw [hl] at h
      cases h
      exact lineR_num hl
    | ok l k =>
      rw [hl] at h
      have hk := lineR_le hi hl
      have h : (tailR s k).pre l = .bad n j := h
      cases ht : tailR s k with
      | ok a b => rw [ht] at h; cases h
      | bad n' j' =>
        rw [ht] at h
        cases h
        unfold tailR at ht
        split at ht
        · rename_i hb
          have hlt : k < s.size := bt_in hb (by omega)
          exact ih (k + 1) (by omega) (by omega) ht
        · split at ht
          · cases ht
          · cases ht
            exact .inl rfl

theorem num_all (w : World) (n : Int) (h : n = 0 ∨ n = 1 ∨ n = 2 ∨ n = 4 ∨ n = 10) : Calls Tryz.prog 11 #[.int .i64 n] w fun e w' => e = .returned (.int .i64 n) ∧ w' = w := by
  have hw : IntKind.i64.wrap n = n := by rw [IntKind.wrap_i64]; omega
  go_enter Tryz.func11, Tryz.ntmps11
  go_wp2
  go_ret
  exact ⟨rfl, rfl⟩

theorem guardA : Tryz.prog.eqGuardType Tryz.prog.depth 44 = false := by kernel_rfl
theorem heldA : Tryz.prog.stoodInHeld 44 = false := by kernel_rfl
theorem fieldsA : (Tryz.prog.fieldsOf 44).toList.map (fun f => (f.name, f.type, f.offset)) = [("S", 9, 0), ("P", 9, 1), ("O", 9, 2)] := by kernel_rfl
theorem structA : Tryz.prog.underlying 44 = some (.struct (Tryz.prog.fieldsOf 44)) := by kernel_rfl

end Go.Proofs.YtnffjoipinhojabGreatDoor

namespace Go.Proofs.YtnffjoipinhojabGreatDoor
open Go.RowKit

theorem neqA (a b c : ByteArray) (w : World) : (binOp .neq 44 (.agg #[.string a, .string b, .string c]) (.agg #[.string a, .string b, .string c])).run Tryz.prog w = .ok (.bool false) w := by
  rw [run_neq_struct, run_equalIn_agg w 9999 _ _ _ structA heldA]
  have hf := fieldsA
  match hl : (Tryz.prog.fieldsOf 44).toList with
  | [] => rw [hl] at hf; simp at hf
  | [_] => rw [hl] at hf; simp at hf
  | [_, _] => rw [hl] at hf; simp at hf
  | [f0, f1, f2] =>
    rw [hl] at hf
    simp at hf
    obtain ⟨⟨n0, t0, o0⟩, ⟨n1, t1, o1⟩, n2, t2, o2⟩ := hf
    have u9 := Tryz.underlying9
    simp only [Op.eqFields, n0, n1, n2, t0, t1, t2, o0, o1, o2]
    simp [go_sem, part, u9]
  | _ :: _ :: _ :: _ :: _ => rw [hl] at hf; simp at hf

set_option maxHeartbeats 4000000 in
set_option maxRecDepth 20000 in
theorem same_nil (w : World) (oa ob : Option Addr) (ca cb : Nat) :
    Calls Tryz.prog 10 #[.slice oa 0 ca, .slice ob 0 cb] w fun e w' => e = .returned (.bool true) ∧ Below w.heap.size w w' := by
  go_enter Tryz.func10, Tryz.ntmps10
  go_wp2_with fail
  go_loopw [5] (fun t5 wr => t5 = .int .i64 0 ∧ wr = w) (fun t5 wr => 0)
  case atStart => exact ⟨rfl, rfl⟩
  case round =>
    obtain ⟨rfl, rfl⟩ := hrel
    go_wp2_with fail
    go_ret
    exact ⟨rfl, Below.refl _ _⟩

/-- a sentence of either list, and nothing older touched -/
def S6 (w : World) (ga gb q : Nat) (X1 X2 X3 : ByteArray) (w' : World) : Prop :=
  w'.cell? ⟨ga, q * 3, none⟩ = some (.string X1) ∧ w'.cell? ⟨ga, q * 3 + 1, none⟩ = some (.string X2) ∧ w'.cell? ⟨ga, q * 3 + 2, none⟩ = some (.string X3) ∧ w'.cell? ⟨gb, q * 3, none⟩ = some (.string X1) ∧ w'.cell? ⟨gb, q * 3 + 1, none⟩ = some (.string X2) ∧ w'.cell? ⟨gb, q * 3 + 2, none⟩ = some (.string X3) ∧ Below w.heap.size w w'
theorem S6.on {w w1 w2 : World} {ga gb q : Nat} {X1 X2 X3 : ByteArray} (e : S6 w ga gb q X1 X2 X3 w1) (hb : Below w1.heap.size w1 w2) : S6 w ga gb q X1 X2 X3 w2 := by
  obtain ⟨e0, e1, e2, f0, f1, f2, e3⟩ := e
  have hg : ga < w1.heap.size := World.block_lt_of_cell? w1 ⟨_, _, none⟩ e0
  have hn : gb < w1.heap.size := World.block_lt_of_cell? w1 ⟨_, _, none⟩ f0
  exact ⟨(hb.cell (p := ⟨ga, _, none⟩) hg).trans e0, (hb.cell (p := ⟨ga, _, none⟩) hg).trans e1, (hb.cell (p := ⟨ga, _, none⟩) hg).trans e2, (hb.cell (p := ⟨gb, _, none⟩) hn).trans f0, (hb.cell (p := ⟨gb, _, none⟩) hn).trans f1, (hb.cell (p := ⟨gb, _, none⟩) hn).trans f2, e3.trans (hb.mono e3.size)⟩

theorem S6.low {w w1 : World} {ga gb q : Nat} {X1 X2 X3 : ByteArray} (e : S6 w ga gb q X1 X2 X3 w1) : Below w.heap.size w w1 := e.2.2.2.2.2.2

set_option maxHeartbeats 4000000 in
set_option maxRecDepth 20000 in
theorem same_some (w : World) (ga gb ca cb : Nat) (l : List Tri) (ha : Lies w ga l) (hb : Lies w gb l) (hga : ga < w.heap.size) (hgb : gb < w.heap.size) (hn : l.length ≤ 1000000000) :
    Calls Tryz.prog 10 #[.slice (some ⟨ga, 0, none⟩) l.length ca, .slice (some ⟨gb, 0, none⟩) l.length cb] w fun e w' => e = .returned (.bool true) ∧ Below w.heap.size w w' := by
  have HA : Hid (Lies w ga l) := ha
  have HBb : Hid (Lies w gb l) := hb
  have HB0 : Hid (Below w.heap.size w w) := Below.refl _ w
  have hgd := guardA
  have mixed : Tryz.prog.follows Departure.mixedOrders = true := by kernel_rfl
  clear ha hb
  go_enter Tryz.func10, Tryz.ntmps10
  go_wp2_with fail
  go_loopw [5] (fun t5 wr => ∃ q : Nat, q ≤ l.length ∧ t5 = .int .i64 q ∧ Below w.heap.size w wr) (fun t5 wr => l.length - (intOf t5).toNat)
  case atStart => exact ⟨0, Nat.zero_le _, rfl, HB0.out⟩
  case round =>
    obtain ⟨q, hq, rfl, hB⟩ := hrel
    by_cases hlt : q < l.length
    · obtain ⟨x, hx⟩ : ∃ x, l[q]? = some x := ⟨_, List.getElem?_eq_getElem hlt⟩
      obtain ⟨X1, k1⟩ : ∃ V : ByteArray, V = ⟨x.s.toArray⟩ := ⟨_, rfl⟩
      obtain ⟨X2, k2⟩ : ∃ V : ByteArray, V = ⟨x.p.toArray⟩ := ⟨_, rfl⟩
      obtain ⟨X3, k3⟩ : ∃ V : ByteArray, V = ⟨x.o.toArray⟩ := ⟨_, rfl⟩
      obtain ⟨a0, a1, a2⟩ := (HA.out.below hga hB) q x hx
      obtain ⟨b0, b1, b2⟩ := (HBb.out.below hgb hB) q x hx
      have hS0 : S6 w ga gb q X1 X2 X3 wr := by
        rw [k1, k2, k3]
        exact ⟨a0, a1, a2, b0, b1, b2, hB⟩
      clear a0 a1 a2 b0 b1 b2 hx k1 k2 k3 HA HBb
      have HT : Hid (∀ w1, S6 w ga gb q X1 X2 X3 w1 → Calls Tryz.prog 18 #[.agg #[.string X1, .string X2, .string X3]] w1 fun e w' => e = .returned (.agg #[.string X1, .string X2, .string X3]) ∧ S6 w ga gb q X1 X2 X3 w') := fun w1 h1 => by
        refine (triple_any w1 X1 X2 X3).mono ?_
        rintro e w2 ⟨rfl, hb2⟩
        exact ⟨rfl, h1.on hb2⟩
      have heq := neqA X1 X2 X3
      obtain ⟨a0, a1, a2, b0, b1, b2, b3⟩ := hS0
      go_wp2_with fail
      go_region_held3 (fun w' => w'.cell? ⟨ga, q * 3, none⟩ = some (.string X1) ∧ w'.cell? ⟨ga, q * 3 + 1, none⟩ = some (.string X2) ∧ w'.cell? ⟨ga, q * 3 + 2, none⟩ = some (.string X3) ∧ w'.cell? ⟨gb, q * 3, none⟩ = some (.string X1) ∧ w'.cell? ⟨gb, q * 3 + 1, none⟩ = some (.string X2) ∧ w'.cell? ⟨gb, q * 3 + 2, none⟩ = some (.string X3) ∧ Below w.heap.size w w') (first | assumption | exact ⟨a0, a1, a2, b0, b1, b2, b3⟩ | exact ⟨a0, a1, a2, b0, b1, b2, b3.drew⟩) (first | (go_at_call 18; refine (HT.out _ (by first | assumption | exact ⟨by assumption, by assumption, by assumption, by assumption, by assumption, by assumption, by first | assumption | exact b3.drew⟩)).mono ?_; rintro e2 w2 ⟨rfl, hS⟩))
      all_goals go_wp2_with fail
      all_goals go_roundw
      case rel => exact ⟨q + 1, by omega, by go_num, S6.low (by assumption)⟩
      case measure => simp [intOf]; omega
    · go_wp2_with fail
      go_ret
      exact ⟨rfl, hB⟩

/-- two lists of the same sentences are the same -/
theorem same_own (w : World) (Ba Bb : Nat) (va vb : Value) (l : List Tri) (ha : w.ownsRow Ba 44 3 va l.length (cellsOf l)) (hb : w.ownsRow Bb 50 3 vb l.length (cellsOf l)) (hn : l.length ≤ 1000000000) :
    Calls Tryz.prog 10 #[va, vb] w fun e w' => e = .returned (.bool true) ∧ Below w.heap.size w w' := by
  by_cases h0 : l.length = 0
  · obtain ⟨oa, ca, rfl⟩ := own_form ha
    obtain ⟨ob, cb, rfl⟩ := own_form hb
    rw [h0]
    exact same_nil w oa ob ca cb
  · obtain ⟨ga, ca, rfl, _, hga⟩ := ha.form (by omega)
    obtain ⟨gb, cb, rfl, _, hgb⟩ := hb.form (by omega)
    exact same_some w ga gb ca cb l (own_lies ha) (own_lies hb) hga hgb hn

theorem rise_len : ∀ {ts acc set : List Tri}, acc.length ≤ 300 → rise acc ts = some set → set.length ≤ 300
  | [], acc, set, h, e => by
    rw [rise] at e
    cases e
    exact h
  | t :: r, acc, set, h, e => by
    rw [rise_step h] at e
    split at e
    · rename_i h2
      exact rise_len h2 e
    · cases e

/-- both readers' answer -/
theorem rd_cases (s : ByteArray) : (∃ (n j : Int), (n = 0 ∨ n = 1 ∨ n = 2 ∨ n = 4 ∨ n = 10) ∧ ∀ w T e w', Ref.RdV w T s e w' → e = .returned (.tuple #[.slice none 0 0, .int .i64 n, .int .i64 j]) ∧ Below w.heap.size w w') ∨
    ∃ set : List Tri, set.length ≤ 300 ∧ ∀ w T e w', Ref.RdV w T s e w' → ∃ v, e = .returned (.tuple #[v, .int .i64 0, .int .i64 0]) ∧ w'.ownsRow w.heap.size T 3 v set.length (cellsOf set) ∧ Below w.heap.size w w' := by
  by_cases h1 : 20000 < s.size
  · refine .inl ⟨1, 0, by omega, fun w T e w' h => ?_⟩
    unfold Ref.RdV at h
    rw [if_pos h1] at h
    exact h
  · cases hl : linesR s 0 with
    | bad n j =>
      refine .inl ⟨n, j, by have := linesR_num s _ 0 (Nat.lt_succ_self _) (Nat.zero_le _) hl; omega, fun w T e w' h => ?_⟩
      unfold Ref.RdV at h
      rw [if_neg h1, hl] at h
      exact h
    | ok ts j =>
      cases hr : rise [] ts with
      | none =>
        refine .inl ⟨10, 0, by omega, fun w T e w' h => ?_⟩
        unfold Ref.RdV at h
        rw [if_neg h1, hl] at h
        simp only [hr] at h
        exact h
      | some set =>
        refine .inr ⟨set, rise_len (by simp) hr, fun w T e w' h => ?_⟩
        unfold Ref.RdV at h
        rw [if_neg h1, hl] at h
        simp only [hr] at h
        exact h

end Go.Proofs.YtnffjoipinhojabGreatDoor

namespace Go.Proofs.YtnffjoipinhojabGreatDoor
open Go.RowKit

end Go.Proofs.YtnffjoipinhojabGreatDoor

set_option linter.unusedSimpArgs false
set_option linter.unusedVariables false
namespace Go.Proofs.YtnffjoipinhojabGreatDoor
open Go.RowKit

set_option maxHeartbeats 4000000 in
set_option maxRecDepth 20000 in
/-- a list of the document's sentences as the program's -/
theorem triples_some (w : World) (g cap : Nat) (l : List Tri) (hg : g < w.heap.size) (hL : Lies w g l) (hn : l.length ≤ 1000000000) :
    Calls Tryz.prog 6 #[.slice (some ⟨g, 0, none⟩) l.length cap] w fun e w' => ∃ v, e = .returned v ∧ w'.ownsRow w.heap.size 44 3 v l.length (cellsOf l) ∧ Below w.heap.size w w' := by
  have HL : Hid (Lies w g l) := hL
  have HB0 : Hid (Below w.heap.size w w) := Below.refl _ w
  have HN0 : Hid (w.ownsRow w.heap.size 44 3 (.slice none 0 0) 0 []) := own_nil w _ _
  obtain ⟨i0, hi0, hz0, hz1, hz2⟩ := info_parts infoTri
  clear hL
  go_enter Tryz.func6, Tryz.ntmps6
  go_wp2_with fail
  go_loopw [3, 4] (fun t3 t4 wr => ∃ (q : Nat) (o : Option Addr) (c : Nat), q ≤ l.length ∧ t4 = .int .i64 q ∧ t3 = .slice o q c ∧ wr.ownsRow w.heap.size 44 3 (.slice o q c) q (cellsOf (l.take q)) ∧ Below w.heap.size w wr) (fun t3 t4 wr => l.length - (intOf t4).toNat)
  case atStart => exact ⟨0, none, 0, Nat.zero_le _, rfl, rfl, HN0.out, HB0.out⟩
  case round =>
    obtain ⟨q, o, c, hq, rfl, rfl, ho, hb⟩ := hrel
    have HO : Hid (wr.ownsRow w.heap.size 44 3 (.slice o q c) q (cellsOf (l.take q))) := ho
    have HB : Hid (Below w.heap.size w wr) := hb
    clear ho hb
    by_cases hlt : q < l.length
    · obtain ⟨x, hx⟩ : ∃ x, l[q]? = some x := ⟨_, List.getElem?_eq_getElem hlt⟩
      obtain ⟨q0, q1, q2⟩ := (HL.out.below hg HB.out) q x hx
      have hd : l.take (q + 1) = l.take q ++ [x] := by
        rw [List.take_add_one, hx]; rfl
      obtain ⟨Y1, k1⟩ : ∃ V : ByteArray, V = ⟨x.s.toArray⟩ := ⟨_, rfl⟩
      obtain ⟨Y2, k2⟩ : ∃ V : ByteArray, V = ⟨x.p.toArray⟩ := ⟨_, rfl⟩
      obtain ⟨Y3, k3⟩ : ∃ V : ByteArray, V = ⟨x.o.toArray⟩ := ⟨_, rfl⟩
      have HCy : Hid (cellsOf (l.take (q + 1)) = cellsOf (l.take q) ++ [.string Y1, .string Y2, .string Y3]) := by unfold Hid; rw [hd, cellsOf_app, k1, k2, k3]; rfl
      have q0' : wr.cell? ⟨g, q * 3, none⟩ = some (.string Y1) := by rw [k1]; exact q0
      have q1' : wr.cell? ⟨g, q * 3 + 1, none⟩ = some (.string Y2) := by rw [k2]; exact q1
      have q2' : wr.cell? ⟨g, q * 3 + 2, none⟩ = some (.string Y3) := by rw [k3]; exact q2
      clear q0 q1 q2 k1 k2 k3 hd hx
      have HT := triple_any wr Y1 Y2 Y3
      have HT2 : Hid (Calls Tryz.prog 18 #[.agg #[.string Y1, .string Y2, .string Y3]] wr fun e w' => e = .returned (.agg #[.string Y1, .string Y2, .string Y3]) ∧ Below wr.heap.size wr w') := HT
      clear HT
      go_wp2_with fail
      refine HT2.out.mono ?_
      rintro e w2 ⟨rfl, hb2⟩
      have HO2 : Hid (w2.ownsRow w.heap.size 44 3 (.slice o q c) q (cellsOf (l.take q))) := own_same HO.out fun k _ hlt => hb2.block k hlt
      have HB2 : Hid (Below w.heap.size w w2) := HB.out.trans (hb2.mono HB.out.size)
      clear hb2 q0' q1' q2' HT2
      have hoA := HO2.out.alloc (.cells #[.string Y1, .string Y2, .string Y3] 44)
      have hn2 := news_new w2 Y1 Y2 Y3 44
      have hbs : w.heap.size ≤ (w2.alloc (.cells #[.string Y1, .string Y2, .string Y3] 44)).heap.size := (HB2.out.alloc HB2.out.size _).size
      go_wp2_with (first
        | (at_builtin; refine wpList_append_own_at _ (by rfl) _ _ _ (by rfl) w.heap.size 44 i0 _ 3 48 Tryz.underlying24 hi0 hz0 hz1 hz2 rfl (by omega) (.slice o q c) q (cellsOf (l.take q)) (by rfl) hoA ⟨w2.heap.size, 0, none⟩ 1 1 [.string Y1, .string Y2, .string Y3] (by rfl) (by rfl) hn2 (by simp [Value.oneCell']) (by unfold maxLen; omega) (by omega) hbs ?_; intro v3 w3 ho3 hg3 hi3 hb3; have HB3 : Hid (Below w.heap.size w w3) := (Below.grown (HB2.out.alloc HB2.out.size _) hg3 hbs (fun k hk => own_block HO2.out hk)); have HO3 : Hid (w3.ownsRow w.heap.size 44 3 v3 (q + 1) (cellsOf (l.take (q + 1)))) := (by unfold Hid; rw [HCy.out]; exact ho3); clear ho3 hg3 hi3 hb3 hoA hn2 hbs))
      obtain ⟨o3, c3, hv3⟩ := own_form HO3.out
      subst hv3
      go_wp2_with fail
      go_roundw
      case rel => exact ⟨q + 1, o3, c3, by omega, by go_num, rfl, HO3.out, HB3.out⟩
      case measure => simp [intOf]; omega
    · obtain rfl : q = l.length := by omega
      rw [List.take_length] at HO
      go_wp2_with fail
      go_ret
      exact ⟨_, rfl, HO.out, HB.out⟩

end Go.Proofs.YtnffjoipinhojabGreatDoor

