import Derived.Test.YtnffjoipinhojabDoorDp
import Derived.RangeFuncNested
import Derived.RangeFuncBound
import Derived.RangeFuncCalls
import Derived.RangeFuncLeaves
import Derived.RangeFuncWrites
import Derived.RangeFuncBox
import Derived.Shelf.Abstract
import Derived.Shelf.RegionOpen
import Derived.WalkKit
import Derived.OwnWalkIn
import Derived.TacticsInMore
import Derived.LoopNIn
import Derived.LoopIn
import Derived.Lib.MinMax
set_option linter.unusedSimpArgs false
set_option linter.unusedVariables false
namespace Go.Proofs.YtnffjoipinhojabDoor
open Go.RowKit Go.Shelf

attribute [local go_sem] Oper.semAt_some

/-- a place of a list of n texts -/
abbrev Pl (n : Nat) := { i : Nat // i < n }
/-- the block that begins there -/
abbrev chunkV (g off n : Nat) (x : Pl n) : Array Value := #[.slice (some ⟨g, off + x.1, none⟩) (min 4 (n - x.1)) (min 4 (n - x.1))]

set_option maxHeartbeats 1000000 in
theorem chunk_any (a : Option Addr) (len cap : Nat) (w : World) :
    Calls Tryd.prog 19 #[.slice a len cap, .int .i64 4] w fun e w' => e = .returned (.func (.func 40) #[] #[.pointer (some ⟨w.heap.size, 0, none⟩), .pointer (some ⟨w.heap.size + 1, 0, none⟩)]) ∧ w' = (w.alloc (.cells #[.slice a len cap] 22)).alloc (.cells #[.int .i64 4] 3) := by
  go_enter Tryd.func19, Tryd.ntmps19
  go_wp2
  go_ret
  exact ⟨rfl, rfl⟩

/-- what has come when k rounds are over -/
def upTo (n k : Nat) : List (Pl n) := (List.range k).filterMap fun j => if h : 4 * j < n then some ⟨4 * j, h⟩ else none
theorem upTo_succ {n k : Nat} (h : 4 * k < n) : upTo n (k + 1) = upTo n k ++ [⟨4 * k, h⟩] := by
  unfold upTo
  rw [List.range_succ, List.filterMap_append]
  simp [h]
theorem upTo_len : ∀ {n k : Nat}, 4 * k < n + 4 → (upTo n k).length = k
  | n, 0, _ => rfl
  | n, k + 1, h => by
    rw [upTo_succ (by omega), List.length_append, upTo_len (by omega)]
    rfl

/-- both boxes stand -/
def KpC (Bs : Nat) (W W' : World) : Prop := W'.heap[Bs]? = W.heap[Bs]? ∧ W'.heap[Bs + 1]? = W.heap[Bs + 1]?

set_option maxRecDepth 100000 in
set_option maxHeartbeats 4000000 in
theorem chunk1_in (n : Nat) (hn : 1 ≤ n) (l Bs g off len cap N : Nat) (hlc : len ≤ cap) (hcm : cap ≤ maxLen) (hls : len ≤ 1000000000) (hln : len ≤ 4 * N) (J Jx : List (Pl len) → World → Prop)
    (Bq : Nat) (hJ : AbidesFrom Bq J)
    (hY : ∀ pre x W, J pre W → pre.length < N → YieldAt Fence.wide (n - 1) Tryd.prog l (chunkV g off len x) W fun e W' =>
      (e = .returned (.bool true) ∧ J (pre ++ [x]) W' ∧ KpC Bs W W') ∨ (e = .returned (.bool false) ∧ Jx (pre ++ [x]) W'))
    (W : World) (hBs : W.cell? ⟨Bs, 0, none⟩ = some (.slice (some ⟨g, off, none⟩) len cap)) (hBn : W.cell? ⟨Bs + 1, 0, none⟩ = some (.int .i64 4)) (h0 : J [] W) :
    CallsIn Fence.wide n Tryd.prog 40 #[.func (.yield l) #[] #[], .pointer (some ⟨Bs, 0, none⟩), .pointer (some ⟨Bs + 1, 0, none⟩)] W fun e W' => (∃ v, e = .returned v) ∧
      ((∃ ys, (∃ k, len ≤ 4 * k ∧ 4 * k < len + 4 ∧ ys = upTo len k) ∧ J ys W') ∨ (∃ pre, True ∧ Jx pre W')) := by
  have hDr : ∀ pre wr, J pre wr → J pre wr.drew := fun pre wr h => hJ pre wr wr.drew none h ⟨rfl, rfl, rfl, Nat.le_refl _, fun k _ _ => rfl⟩ (fun r e => by cases e)
  have mixed : Tryd.prog.follows Departure.mixedOrders = true := by kernel_rfl
  unfold maxLen at hcm
  refine callsIn_of_wp Tryd.func40 rfl trivial ?_ rfl
  simp only [Tryd.ntmps40, List.size_toArray, List.length_cons, List.length_nil, Nat.reduceAdd, Nat.reduceSub, Array.replicate_succ, Array.replicate_zero, List.push_toArray, List.append_toArray, List.nil_append, List.cons_append]
  gi_wp2
  gi_loopw [4] (fun t4 wr => ∃ k : Nat, t4 = .int .i64 ((4 * k : Nat) : Int) ∧ 4 * k < len + 4 ∧ J (upTo len k) wr ∧ KpC Bs W wr)
    (fun t4 _ => len + 4 - (intOf t4).toNat)
  case atStart => exact ⟨0, rfl, by omega, h0, rfl, rfl⟩
  case round =>
    obtain ⟨k, rfl, hk, hJs, hkp⟩ := hrel
    have c0 : wr.cell? ⟨Bs, 0, none⟩ = some (.slice (some ⟨g, off, none⟩) len cap) := (World.cell?_of_block hkp.1).trans hBs
    have c1 : wr.cell? ⟨Bs + 1, 0, none⟩ = some (.int .i64 4) := (World.cell?_of_block hkp.2).trans hBn
    have c0d : wr.drew.cell? ⟨Bs, 0, none⟩ = some (.slice (some ⟨g, off, none⟩) len cap) := c0
    have c1d : wr.drew.cell? ⟨Bs + 1, 0, none⟩ = some (.int .i64 4) := c1
    by_cases hlt : 4 * k < len
    · obtain ⟨fn, tmps, assign, body, hy, hR⟩ := hY _ ⟨4 * k, hlt⟩ wr.drew (hDr _ _ hJs) (by rw [upTo_len hk]; omega)
      simp only [chunkV] at hy
      by_cases h4 : 4 * k + 4 ≤ len
      · have e4 : min 4 (len - 4 * k) = 4 := by omega
        rw [e4] at hy
        have hi0 : (0 : Int) ≤ 4 * (k : Int) := by omega
        have hi1 : 4 * (k : Int) ≤ (len : Int) := by omega
        have hmin : min (4 : Int) ((len - 4 * k : Nat) : Int) = 4 := by omega
        have hi2 : 4 * (k : Int) + 4 ≤ (len : Int) := by omega
        have hi3 : 4 * (k : Int) + 4 ≤ (cap : Int) := by omega
        have hi4 : (0 : Int) ≤ 4 * (k : Int) + 4 := by omega
        have hw4 : IntKind.i64.wrap (4 * (k : Int) + 4) = 4 * (k : Int) + 4 := by rw [IntKind.wrap_i64]; omega
        gi_wp2
        gi_region_o
        all_goals gi_wp2
        refine hR.mono ?_
        rintro e W3 (⟨rfl, hJ3, hk3⟩ | ⟨rfl, hJx3⟩)
        · have hkp3 : KpC Bs W W3 := ⟨hk3.1.trans hkp.1, hk3.2.trans hkp.2⟩
          have c13 : W3.cell? ⟨Bs + 1, 0, none⟩ = some (.int .i64 4) := (World.cell?_of_block hkp3.2).trans hBn
          gi_wp2
          go_roundw
          case rel => exact ⟨k + 1, by go_num, by omega, by rw [upTo_succ hlt]; exact hJ3, hkp3⟩
          case measure => simp [intOf]; omega
        · gi_wp2
          refine bodyPost_ret (results_none rfl _ _ _) rfl ?_
          exact ⟨⟨_, rfl⟩, .inr ⟨_, trivial, hJx3⟩⟩
      · have e4 : min 4 (len - 4 * k) = len - 4 * k := by omega
        rw [e4] at hy
        have hi0 : (0 : Int) ≤ 4 * (k : Int) := by omega
        have hi1 : 4 * (k : Int) ≤ (len : Int) := by omega
        have hmin : min (4 : Int) ((len - 4 * k : Nat) : Int) = ((len - 4 * k : Nat) : Int) := by omega
        have hi2 : 4 * (k : Int) + ((len - 4 * k : Nat) : Int) = (len : Int) := by omega
        have hi3 : (len : Int) ≤ (cap : Int) := by omega
        have hi4 : (0 : Int) ≤ (len : Int) := by omega
        have hw4 : IntKind.i64.wrap (len : Int) = (len : Int) := by rw [IntKind.wrap_i64]; omega
        have hw5 : IntKind.i64.wrap (4 * (k : Int) + 4) = 4 * (k : Int) + 4 := by rw [IntKind.wrap_i64]; omega
        gi_wp2
        gi_region_o
        all_goals gi_wp2
        refine hR.mono ?_
        rintro e W3 (⟨rfl, hJ3, hk3⟩ | ⟨rfl, hJx3⟩)
        · have hkp3 : KpC Bs W W3 := ⟨hk3.1.trans hkp.1, hk3.2.trans hkp.2⟩
          have c13 : W3.cell? ⟨Bs + 1, 0, none⟩ = some (.int .i64 4) := (World.cell?_of_block hkp3.2).trans hBn
          gi_wp2
          go_roundw
          case rel => exact ⟨k + 1, by go_num, by omega, by rw [upTo_succ hlt]; exact hJ3, hkp3⟩
          case measure => simp [intOf]; omega
        · gi_wp2
          refine bodyPost_ret (results_none rfl _ _ _) rfl ?_
          exact ⟨⟨_, rfl⟩, .inr ⟨_, trivial, hJx3⟩⟩
    · gi_wp2
      go_end0
      exact ⟨⟨_, rfl⟩, .inl ⟨_, ⟨k, by omega, hk, rfl⟩, hJs⟩⟩

set_option maxRecDepth 100000 in
set_option maxHeartbeats 1000000 in
theorem chunk1_zero {α : Type} (n : Nat) (hn : 1 ≤ n) (l Bs : Nat) (o : Option Addr) (cap : Nat) (J : List α → World → Prop) (W : World) (hBs : W.cell? ⟨Bs, 0, none⟩ = some (.slice o 0 cap)) (h0 : J [] W) :
    CallsIn Fence.wide n Tryd.prog 40 #[.func (.yield l) #[] #[], .pointer (some ⟨Bs, 0, none⟩), .pointer (some ⟨Bs + 1, 0, none⟩)] W fun e W' => (∃ v, e = .returned v) ∧ J [] W' := by
  refine callsIn_of_wp Tryd.func40 rfl trivial ?_ rfl
  simp only [Tryd.ntmps40, List.size_toArray, List.length_cons, List.length_nil, Nat.reduceAdd, Nat.reduceSub, Array.replicate_succ, Array.replicate_zero, List.push_toArray, List.append_toArray, List.nil_append, List.cons_append]
  gi_wp2
  gi_loopw [4] (fun t4 wr => t4 = .int .i64 0 ∧ wr = W) (fun _ _ => 0)
  case atStart => exact ⟨rfl, rfl⟩
  case round =>
    obtain ⟨rfl, rfl⟩ := hrel
    gi_wp2
    go_end0
    exact ⟨⟨_, rfl⟩, h0⟩

end Go.Proofs.YtnffjoipinhojabDoor
