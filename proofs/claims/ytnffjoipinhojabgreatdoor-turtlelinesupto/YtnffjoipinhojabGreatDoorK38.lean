import Derived.Test.YtnffjoipinhojabGreatDoorK37
import Derived.Lib.Builder
import Derived.Lib.FrozenHead
import Derived.Lib.OthersKept
import Derived.Lib.UnsafeStr
import Derived.Lib.AppendStr
import Derived.Laws.Externs
import Derived.Shelf.RegionOpenPlain
set_option linter.unusedSimpArgs false
set_option linter.unusedVariables false
namespace Go.Proofs.YtnffjoipinhojabGreatDoor
open Back
open Go.RowKit
namespace Tu

/-! A text that says what the laws ask. -/
def aliveL : List UInt8 := [64, 112, 114, 101, 102, 105, 120, 32, 112, 58, 32, 60, 97, 58, 62, 32, 46, 32, 112, 58, 98, 32, 97, 32, 112, 58, 99, 44, 32, 40, 49, 41, 46]
def saidOf : PR Unit → Option (List Tri)
  | .ok _ st => some st.said
  | .bad _ _ => none
def aliveS : Option (List Tri) := (saidOf (textP (arr aliveL))).bind fun l => if badAt 0 l = none then rise [] l else none
theorem alive_len : aliveS.map List.length = some 4 := by kernel_rfl
theorem alive_first : aliveS.bind (fun l => l.head?.map (·.s)) = some [60, 97, 58, 98, 62] := by kernel_rfl
theorem alive_size : (arr aliveL).size = 33 := by kernel_rfl

theorem alive_set : ∃ set, (∀ w e w', TpV w (arr aliveL) e w' → ∃ v, e = .returned (.tuple #[v, .int .i64 0, .int .i64 0]) ∧ w'.ownsRow w.heap.size 44 3 v set.length (cellsOf set) ∧ Below w.heap.size w w') ∧ set.length = 4 ∧ ∃ x r, set = x :: r ∧ x.s = [60, 97, 58, 98, 62] := by
  have h1 := alive_len
  have h2 := alive_first
  unfold aliveS at h1 h2
  cases hp : textP (arr aliveL) with
  | bad n j => rw [hp] at h1; cases h1
  | ok u st =>
    rw [hp] at h1 h2
    by_cases hb : badAt 0 st.said = none
    · simp only [saidOf, Option.bind_some, if_pos hb] at h1 h2
      cases hr : rise [] st.said with
      | none => rw [hr] at h1; cases h1
      | some set =>
        rw [hr] at h1 h2
        refine ⟨set, fun w e w' h => ?_, Option.some.inj h1, ?_⟩
        · unfold TpV at h
          rw [if_neg (by rw [alive_size]; omega), hp] at h
          simp only at h
          unfold SeV at h
          rw [hb] at h
          simp only at h
          unfold RisV at h
          rw [hr] at h
          exact h
        · cases set with
          | nil => cases h1
          | cons x r => exact ⟨x, r, rfl, by simpa using h2⟩
    · simp only [saidOf, Option.bind_some, if_neg hb] at h1
      cases h1

set_option maxHeartbeats 2000000 in
set_option maxRecDepth 20000 in
theorem alive_any (w : World) (hT : Tabs w) (hN : Tens w) (hG : 8 ≤ w.heap.size) (hH : Handle w) : Calls Tryz.prog 12 #[] w fun e w' => e = .returned (.bool true) ∧ Below w.heap.size w w' := by
  obtain ⟨set, h1, h2, x, r, h3, h4⟩ := alive_set
  have HP : Hid (Calls Tryz.prog 13 #[.string (arr aliveL)] w fun e w' => ∃ g cap, e = .returned (.tuple #[.slice (some ⟨g, 0, none⟩) 4 cap, .int .i64 0, .int .i64 0]) ∧ w'.cell? ⟨g, 0, none⟩ = some (.string ⟨#[60, 97, 58, 98, 62]⟩) ∧ Below w.heap.size w w') := (parseT_any w (arr aliveL) hT hN hG hH).mono fun e w' h => by
    obtain ⟨v, rfl, ho, hb⟩ := h1 w e w' h
    have hz : w'.ownsRow w.heap.size 44 3 v set.length (cellsOf set) := ho
    rcases ho.2 with ⟨_, hz⟩ | ⟨g, cap, cur, rfl, _, hg, _, _, _, htk⟩
    · omega
    · refine ⟨g, cap, by rw [h2], ?_, hb⟩
      rw [Lib.cell_of_heap hg]
      have : cur.toList[0]? = (cellsOf set)[0]? := by rw [← htk, List.getElem?_take_of_lt (by omega)]
      rw [h3] at this
      simp only [Array.getElem?_toList] at this
      rw [this]
      show some (Value.string ⟨x.s.toArray⟩) = _
      rw [h4]
  have HN : Hid (∀ w1, Calls Tryz.prog 11 #[.int .i64 0] w1 fun e w' => e = .returned (.int .i64 0) ∧ w' = w1) := fun w1 => num_all w1 0 (by decide)
  clear hT hN hH h1 h2 h3 h4
  go_enter Tryz.func12, Tryz.ntmps12
  go_wp2_with fail
  refine HP.out.mono ?_
  rintro e w1 ⟨g, cap, rfl, hc, hb⟩
  have HB : Hid (Below w.heap.size w w1) := hb
  clear hb
  go_wp2_with fail
  refine (HN.out _).mono ?_
  rintro e w2 ⟨rfl, rfl⟩
  go_wp2
  go_ret
  exact ⟨rfl, HB.out⟩

end Tu
end Go.Proofs.YtnffjoipinhojabGreatDoor

set_option linter.unusedSimpArgs false
set_option linter.unusedVariables false
namespace Go.Proofs.YtnffjoipinhojabGreatDoor
open Go.RowKit
namespace Tu

/-! The printer: a Builder with names behind it. -/

def PbAt (B b : Nat) (nv p : Value) (l : List UInt8) (w : World) : Prop :=
  B ≤ b ∧ ∃ v, w.heap[b]? = some (.cells #[p, v, nv] 61 (0, 0)) ∧ w.ownsRowF B 5 1 v (Lib.byteCells l).length (Lib.byteCells l) ∧ v.ownBlock ≠ some b
/-- a printer in block b (from B on) that has written l -/
def Pb (B b : Nat) (nv : Value) (l : List UInt8) (w : World) : Prop := PbAt B b nv (.pointer none) l w ∨ PbAt B b nv (.pointer (some ⟨b, 0, none⟩)) l w

theorem PbAt.cell0 {B b : Nat} {nv p : Value} {l : List UInt8} {w : World} (h : PbAt B b nv p l w) : w.cell? ⟨b, 0, none⟩ = some p := by
  obtain ⟨_, v, hb, _⟩ := h
  simp [World.cell?, hb]
theorem PbAt.cell2 {B b : Nat} {nv p : Value} {l : List UInt8} {w : World} (h : PbAt B b nv p l w) : w.cell? ⟨b, 2, none⟩ = some nv := by
  obtain ⟨_, v, hb, _⟩ := h
  simp [World.cell?, hb]
theorem PbAt.shape {B b : Nat} {nv p : Value} {l : List UInt8} {w : World} (h : PbAt B b nv p l w) : w.shape? b = some (61, 3) := by
  obtain ⟨_, v, hb, _⟩ := h
  simp [World.shape?, hb]
theorem PbAt.lt {B b : Nat} {nv p : Value} {l : List UInt8} {w : World} (h : PbAt B b nv p l w) : b < w.heap.size := by
  obtain ⟨_, v, hb, _⟩ := h
  exact (Array.getElem?_eq_some_iff.1 hb).1
theorem PbAt.frozen0 {B b : Nat} {nv p : Value} {l : List UInt8} {w : World} (h : PbAt B b nv p l w) : w.frozen? ⟨b, 0, none⟩ = false := by
  obtain ⟨_, v, hb, _⟩ := h
  simp [World.frozen?, hb]
theorem PbAt.used {B b : Nat} {nv p : Value} {l : List UInt8} {w : World} (h : PbAt B b nv p l w) (q : Value) : PbAt B b nv q l (w.setCell ⟨b, 0, none⟩ q) := by
  obtain ⟨hB, v, hb, hown, hne⟩ := h
  refine ⟨hB, v, ?_, ?_, hne⟩
  · simp [World.setCell, Array.getElem?_modify, hb]
  · refine hown.kept (row := some b) ⟨rfl, rfl, rfl, by simp [World.setCell], fun k _ hk => Below.heap_setCell _ _ _ _ (fun e => hk (by simp [e]))⟩ ?_
    exact Or.inr hne
theorem PbAt.put {B b : Nat} {nv p v v' : Value} {l' : List UInt8} {w : World} (hB : B ≤ b) (hb : w.heap[b]? = some (.cells #[p, v, nv] 61 (0, 0))) (hown : w.ownsRowF B 5 1 v' (Lib.byteCells l').length (Lib.byteCells l')) :
    PbAt B b nv p l' (w.setCell ⟨b, 1, none⟩ v') := by
  have hne := Lib.ownBlock_neF hown hb (by decide)
  refine ⟨hB, v', ?_, ?_, hne⟩
  · simp [World.setCell, Array.getElem?_modify, hb]
  · exact hown.kept (row := some b) ⟨rfl, rfl, rfl, by simp [World.setCell], fun k _ hk => Below.heap_setCell _ _ _ _ (fun e => hk (by simp [e]))⟩ (Or.inr hne)

theorem Pb.lt {B b : Nat} {nv : Value} {l : List UInt8} {w : World} (h : Pb B b nv l w) : b < w.heap.size := h.elim (fun x => x.lt) (fun x => x.lt)
theorem Pb.cell2 {B b : Nat} {nv : Value} {l : List UInt8} {w : World} (h : Pb B b nv l w) : w.cell? ⟨b, 2, none⟩ = some nv := h.elim (fun x => x.cell2) (fun x => x.cell2)
theorem Pb.kept {B b : Nat} {nv : Value} {l : List UInt8} {w w' : World} (h : Pb B b nv l w) (hk : ∀ k, B ≤ k → k < w.heap.size → w'.heap[k]? = w.heap[k]?) : Pb B b nv l w' := by
  have one : ∀ p, PbAt B b nv p l w → PbAt B b nv p l w' := by
    intro p x
    have hlt := x.lt
    obtain ⟨hB, v, hb, hown, hne⟩ := x
    refine ⟨hB, v, by rw [hk b hB hlt]; exact hb, ⟨hown.1, ?_⟩, hne⟩
    rcases hown.2 with h1 | ⟨g, cap, cur, fz, h1, h2, h3, h4⟩
    · exact .inl h1
    · refine .inr ⟨g, cap, cur, fz, h1, h2, ?_, h4⟩
      have hg : g < w.heap.size := (Array.getElem?_eq_some_iff.1 h3).1
      rw [hk g h2 hg]
      exact h3
  exact h.elim (fun x => .inl (one _ x)) (fun x => .inr (one _ x))
theorem Pb.below {B b : Nat} {nv : Value} {l : List UInt8} {w w' : World} (h : Pb B b nv l w) (hb : Below w.heap.size w w') : Pb B b nv l w' := h.kept fun k _ hk => hb.block k hk
theorem Pb.fresh (w : World) (nv : Value) : Pb w.heap.size w.heap.size nv [] (w.alloc (.cells #[.pointer none, .slice none 0 0, nv] 61)) :=
  .inl ⟨Nat.le_refl _, .slice none 0 0, heap_new _ _, World.ownsRowF_nil _ _ _ _, by simp [Value.ownBlock]⟩

theorem sizeBuilder : (Tryz.prog.info? 59).map (·.size) = some 2 := by kernel_rfl
theorem liesPrinter : liesAt Tryz.prog Tryz.prog.depth 61 (3 / Tryz.prog.cellsOf 61) 0 59 1 = true := by kernel_rfl
theorem infoByte : (Tryz.prog.info? 5).map (fun i => (i.zero, i.size, i.bytes)) = some (some (.int .u8 0), 1, 1) := by kernel_rfl
theorem cellsByte : Tryz.prog.cellsOf 5 = 1 := by kernel_rfl

set_option maxHeartbeats 1000000 in
set_option maxRecDepth 100000 in
theorem copyCheck_used (b : Nat) (w : World) (h0 : w.cell? ⟨b, 0, none⟩ = some (.pointer (some ⟨b, 0, none⟩))) :
    Calls Tryz.prog 62 #[.pointer (some ⟨b, 0, none⟩)] w fun e w' => e = .returned (.tuple #[]) ∧ w' = w := by
  obtain ⟨j, hj, _⟩ := Option.map_eq_some_iff.1 sizeBuilder
  go_enter Tryz.func62, Tryz.ntmps62
  go_wp2
  rw [Lib.run_neq_ptr_same w _ Tryz.underlying56 hj]
  go_wp2
  go_end0
  exact ⟨rfl, rfl⟩

set_option maxHeartbeats 1000000 in
set_option maxRecDepth 100000 in
theorem copyCheck_fresh (b : Nat) (w : World) (h0 : w.cell? ⟨b, 0, none⟩ = some (.pointer none)) (hsh : w.shape? b = some (61, 3)) (hfz : w.frozen? ⟨b, 0, none⟩ = false) :
    Calls Tryz.prog 62 #[.pointer (some ⟨b, 0, none⟩)] w fun e w' => e = .returned (.tuple #[]) ∧ w' = w.setCell ⟨b, 0, none⟩ (.pointer (some ⟨b, 0, none⟩)) := by
  obtain ⟨j, hj, hjs⟩ := Option.map_eq_some_iff.1 sizeBuilder
  go_enter Tryz.func62, Tryz.ntmps62
  go_wp2
  rw [Lib.run_to_unsafe w ⟨b, 0, none⟩ Tryz.underlying56 Tryz.underlying131 hj (by rw [hjs]; decide) hsh (Nat.zero_lt_succ 2)]
  simp only [Result.andThen]
  rw [Oper.upon_value]
  go_wp2
  rw [run_callFunc_extern Tryz.func104 (by kernel_rfl) (by kernel_rfl) (by kernel_rfl) (e := Extern.AbiNoEscape.same) (by kernel_rfl)]
  rw [Lib.run_noEscape]
  simp only [Result.andThen]
  rw [Oper.upon_value]
  go_wp2
  rw [Lib.run_from_unsafe w ⟨b, 0, none⟩ Tryz.underlying131 Tryz.underlying56 hj hsh liesPrinter]
  simp only [Result.andThen]
  rw [Oper.upon_value]
  go_wp2
  go_end0
  exact ⟨rfl, rfl⟩

theorem copyCheck_any (w : World) (B b : Nat) (nv : Value) (l : List UInt8) (h : Pb B b nv l w) :
    Calls Tryz.prog 62 #[.pointer (some ⟨b, 0, none⟩)] w fun e w' => e = .returned (.tuple #[]) ∧ PbAt B b nv (.pointer (some ⟨b, 0, none⟩)) l w' ∧ Below B w w' ∧ Lib.OthersKept 5 (some b) w w' := by
  rcases h with h | h
  · refine (copyCheck_fresh b w h.cell0 h.shape h.frozen0).mono ?_
    rintro e w' ⟨rfl, rfl⟩
    exact ⟨rfl, h.used _, (Below.refl B w).setCell (p := ⟨b, 0, none⟩) h.1 _, (Lib.OthersKept.refl _ _ w).setCell ⟨b, 0, none⟩ rfl _⟩
  · refine (copyCheck_used b w h.cell0).mono ?_
    rintro e w' ⟨rfl, rfl⟩
    exact ⟨rfl, h, Below.refl B _, Lib.OthersKept.refl _ _ _⟩

set_option maxHeartbeats 2000000 in
set_option maxRecDepth 100000 in
theorem wstring_k (w : World) (B b : Nat) (nv : Value) (l : List UInt8) (s : ByteArray) (h : Pb B b nv l w) (hl : l.length + s.size ≤ 140737488355328) (hBw : B ≤ w.heap.size) :
    Calls Tryz.prog 33 #[.pointer (some ⟨b, 0, none⟩), .string s] w fun e w' => (∃ n, e = .returned (.tuple #[.int .i64 n, .nilIface])) ∧ Pb B b nv (l ++ s.data.toList) w' ∧ Below B w w' ∧ Lib.OthersKept 5 (some b) w w' := by
  obtain ⟨i0, hi, hz0, hz1, hz2⟩ := info_parts infoByte
  have hcl : (Lib.byteCells l).length = l.length := by simp [Lib.byteCells]
  go_enter Tryz.func33, Tryz.ntmps33
  go_wp2_with (go_at_call 62; refine (copyCheck_any _ B b nv l h).mono ?_)
  rintro e w1 ⟨rfl, h1, hb1, hk1⟩
  obtain ⟨hB, v, hbk, hown, hne⟩ := h1
  have c0 : w1.cell? ⟨b, 0, none⟩ = some (.pointer (some ⟨b, 0, none⟩)) := by rw [Lib.cell_of_heap hbk]; rfl
  have c1 : w1.cell? ⟨b, 1, none⟩ = some v := by rw [Lib.cell_of_heap hbk]; rfl
  go_wp2_with (at_builtin; refine Lib.wpList_append_own_stringF _ rfl _ _ 57 9 rfl B 5 i0 Tryz.underlying57 Tryz.underlying9 hi hz0 hz1 hz2 _ _ _ rfl hown s rfl ?c3 ?c4 ?c5 ?_)
  case c3 => unfold maxLen; omega
  case c4 => omega
  case c5 => have := hb1.size; omega
  intro v' w2 hown' hgrow _
  have hlt : b < w1.heap.size := (Array.getElem?_eq_some_iff.1 hbk).1
  have hb2 : w2.heap[b]? = some (.cells #[.pointer (some ⟨b, 0, none⟩), v, nv] 61 (0, 0)) := by
    rw [hgrow.block b hlt (fun e => hne e.symm)]
    exact hbk
  have d0 : w2.cell? ⟨b, 0, none⟩ = some (.pointer (some ⟨b, 0, none⟩)) := by rw [Lib.cell_of_heap hb2]; rfl
  have d1 : w2.cell? ⟨b, 1, none⟩ = some v := by rw [Lib.cell_of_heap hb2]; rfl
  have f1 : w2.frozen? ⟨b, 1, none⟩ = false := Lib.frozen_of_heap hb2 1
  obtain ⟨ao, n', cap, rfl⟩ : ∃ ao n' cap, v' = .slice ao n' cap := by
    rcases hown'.2 with ⟨hv, _⟩ | ⟨g, cap, cur, fz, hv, _⟩
    · exact ⟨_, _, _, hv⟩
    · exact ⟨_, _, _, hv⟩
  go_wp2
  go_ret2
  refine ⟨⟨_, rfl⟩, .inr ?_, ?_, (hk1.grown hgrow (Lib.ownsRowF_kind hown)).setCell ⟨b, 1, none⟩ rfl _⟩
  · refine PbAt.put (l' := l ++ s.data.toList) hB hb2 ?_
    rw [byteCells_append, List.length_append, hcl]
    have e : Lib.byteCells s.data.toList = Lib.strCells s := rfl
    rw [e, Lib.strCells_length]
    exact hown'
  · exact (hb1.grown hgrow (by have := hb1.size; omega) (fun k hk => (hown.lt k hk).1)).setCell (p := ⟨b, 1, none⟩) hB _

set_option maxHeartbeats 2000000 in
set_option maxRecDepth 100000 in
/-- what a writer that holds at least one byte has -/
theorem bstring_k (w : World) (B b : Nat) (nv : Value) (l : List UInt8) (h : Pb B b nv l w) (h0 : l ≠ []) :
    Calls Tryz.prog 24 #[.pointer (some ⟨b, 0, none⟩)] w fun e w' => e = .returned (.string ⟨l.toArray⟩) ∧ Below B w w' ∧ Lib.OthersKept 5 (some b) w w' := by
  obtain ⟨p, hp, hAt⟩ : ∃ p, (p = .pointer none ∨ p = .pointer (some ⟨b, 0, none⟩)) ∧ PbAt B b nv p l w := by
    rcases h with h | h
    · exact ⟨_, .inl rfl, h⟩
    · exact ⟨_, .inr rfl, h⟩
  obtain ⟨hB, v, hbk, hown, hne⟩ := hAt
  have hl0 : l.length ≠ 0 := by simpa using h0
  rw [Lib.byteCells_length] at hown
  obtain ⟨g, cap, cur, fz, rfl, hbg, hg, hfz, hnc, hcm, hcs, htake⟩ : ∃ g cap cur fz, v = .slice (some ⟨g, 0, none⟩) l.length cap ∧ B ≤ g ∧ w.heap[g]? = some (.cells cur 5 fz) ∧ fz.2 ≤ l.length * 1 ∧ l.length ≤ cap ∧ cap ≤ maxLen ∧ cur.size = cap * 1 ∧ cur.toList.take (l.length * 1) = Lib.byteCells l := by
    rcases hown.2 with ⟨_, hz⟩ | ⟨g, cap, cur, fz, hv, r⟩
    · exact absurd hz hl0
    · exact ⟨g, cap, cur, fz, hv, r⟩
  have c1 : w.drew.cell? ⟨b, 1, none⟩ = some (.slice (some ⟨g, 0, none⟩) l.length cap) := by
    have : w.drew.heap[b]? = some (.cells #[p, .slice (some ⟨g, 0, none⟩) l.length cap, nv] 61 (0, 0)) := hbk
    rw [Lib.cell_of_heap this]; rfl
  have hSD : (Builtin.unsafeSliceData_ #[57] 103 #[.slice (some ⟨g, 0, none⟩) l.length cap]).run Tryz.prog w.drew = .ok (.pointer (some ⟨g, 0, none⟩)) w.drew :=
    Lib.run_unsafeSliceData_row _ _ _ _ _ _ (by omega)
  have hUS : (Builtin.unsafeString_ #[103, 3] 9 #[.pointer (some ⟨g, 0, none⟩), .int .i64 l.length]).run Tryz.prog w.drew = .ok (.string ⟨l.toArray⟩) (w.drew.freeze ⟨g, 0, none⟩ l.length) := by
    refine Lib.run_unsafeString_row w.drew 103 3 9 5 Tryz.underlying103 cellsByte g cur.size (by have hg' : w.drew.heap[g]? = some (.cells cur 5 fz) := hg; simp [World.shape?, hg']) l h0 (by omega) (by unfold maxLen at hcm; omega) ?_
    intro j x hx
    exact hown.cells (g := g) rfl j (.int .u8 x.toNat) (by simp [Lib.byteCells, hx])
  have mixed : Tryz.prog.follows Departure.mixedOrders = true := by kernel_rfl
  go_enter Tryz.func24, Tryz.ntmps24
  go_wp2
  go_region_o
  all_goals (go_wp2; go_ret; exact ⟨rfl, Lib.below_freeze (Below.drew (Below.refl B w)) (p := ⟨g, 0, none⟩) hbg _, ((Lib.OthersKept.refl _ _ w).drew).freeze ⟨g, 0, none⟩ _ ⟨cur, fz, hg⟩⟩)


end Tu
end Go.Proofs.YtnffjoipinhojabGreatDoor

