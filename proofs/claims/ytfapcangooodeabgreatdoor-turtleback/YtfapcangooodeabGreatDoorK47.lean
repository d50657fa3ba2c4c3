import Derived.Test.YtfapcangooodeabGreatDoorK46
import Derived.Deep.RegionLaw
import Derived.Deep.AppendLies
set_option linter.unusedSimpArgs false
set_option linter.unusedVariables false
namespace Go.Proofs.YtfapcangooodeabGreatDoor
open Go.RowKit
namespace Tu

theorem numT (w : World) (n : Int) (h0 : 0 ≤ n) (h1 : n ≤ 100) : Calls Tryz.prog 11 #[.int .i64 n] w fun e w' => e = .returned (.int .i64 n) ∧ w' = w := by
  have hw : IntKind.i64.wrap n = n := by rw [IntKind.wrap_i64]; omega
  go_enter Tryz.func11, Tryz.ntmps11
  go_wp2
  go_ret
  exact ⟨rfl, rfl⟩

end Tu
end Go.Proofs.YtfapcangooodeabGreatDoor

set_option linter.unusedSimpArgs false
set_option linter.unusedVariables false
namespace Go.Proofs.YtfapcangooodeabGreatDoor
open Go.RowKit
namespace Tu

/-! The document's names as the program's. -/

def cellsN (ns : List Nam2) : List Value := ns.flatMap fun x => [str x.1, str x.2]
theorem cellsN_len (ns : List Nam2) : (cellsN ns).length = ns.length * 2 := by
  induction ns with
  | nil => rfl
  | cons x l ih => simp only [cellsN, List.flatMap_cons, List.length_append, List.length_cons, List.length_nil] at *; omega
theorem cellsN_app (ns ms : List Nam2) : cellsN (ns ++ ms) = cellsN ns ++ cellsN ms := by unfold cellsN; simp
theorem cellsN_at {l : List Nam2} {k : Nat} {x : Nam2} (h : l[k]? = some x) : (cellsN l)[k * 2]? = some (str x.1) ∧ (cellsN l)[k * 2 + 1]? = some (str x.2) := by
  induction l generalizing k with
  | nil => simp at h
  | cons y l ih =>
    have e : cellsN (y :: l) = str y.1 :: str y.2 :: cellsN l := rfl
    cases k with
    | zero => simp at h; subst h; rw [e]; exact ⟨rfl, rfl⟩
    | succ k =>
      have := ih (k := k) (by simpa using h)
      rw [e, show (k + 1) * 2 = k * 2 + 2 by omega, show k * 2 + 2 + 1 = (k * 2 + 1) + 2 by omega]
      exact this

/-- names that a caller hands in lie anywhere in their block -/
def LiesN (w : World) (g off : Nat) (l : List Nam2) : Prop := ∀ (k : Nat) (x : Nam2), l[k]? = some x → w.cell? ⟨g, off + k * 2, none⟩ = some (str x.1) ∧ w.cell? ⟨g, off + k * 2 + 1, none⟩ = some (str x.2)
theorem LiesN.below {w w' : World} {g off : Nat} {l : List Nam2} {B : Nat} (h : LiesN w g off l) (hg : g < B) (hb : Below B w w') : LiesN w' g off l := fun k x hk => by
  obtain ⟨h0, h1⟩ := h k x hk
  exact ⟨(hb.cell (p := ⟨g, _, none⟩) hg).trans h0, (hb.cell (p := ⟨g, _, none⟩) hg).trans h1⟩

theorem infoNam : (Tryz.prog.info? 35).map (fun i => (i.zero, i.size, i.bytes)) = some (some (.agg #[.string ⟨#[]⟩, .string ⟨#[]⟩]), 2, 32) := by kernel_rfl

theorem news2_drew (w : World) (a b : ByteArray) (T : TypeId) : ∀ (j : Nat) (u : Value), [Value.string a, .string b][j]? = some u → (w.alloc (.cells #[.string a, .string b] T)).drew.cell? ((⟨w.heap.size, 0, none⟩ : Addr).add j) = some u := by
  intro j u hj
  have hh : (w.alloc (.cells #[.string a, .string b] T)).drew.heap[w.heap.size]? = some (.cells #[.string a, .string b] T) := heap_new _ _
  rw [add_addr, Lib.cell_of_heap hh, Nat.zero_add]
  simpa using hj

theorem nam_grown {w wr w1 : World} {v : Value} {n : Nat} {xs : List Value} {o : Obj} (hb : Below w.heap.size w wr) (h : wr.ownsRow w.heap.size 35 2 v n xs) (hg : (wr.alloc o).drew.grownBy w1 v.ownBlock) : Below w.heap.size w w1 :=
  Below.grown (hb.alloc hb.size o).drew hg (by have := hb.size; simp; omega) (fun k hk => own_block h hk)

set_option maxHeartbeats 4000000 in
set_option maxRecDepth 20000 in
theorem names_at (w : World) (g off cap : Nat) (l : List Nam2) (hg : g < w.heap.size) (hL : LiesN w g off l) (hn : l.length ≤ 4398046511104) :
    Calls Tryz.prog 7 #[.slice (some ⟨g, off, none⟩) l.length cap] w fun e w' => ∃ v, e = .returned v ∧ w'.ownsRow w.heap.size 35 2 v l.length (cellsN l) ∧ Below w.heap.size w w' := by
  have HL : Hid (LiesN w g off l) := hL
  have HB0 : Hid (Below w.heap.size w w) := Below.refl _ w
  have HN0 : Hid (w.ownsRow w.heap.size 35 2 (.slice none 0 0) 0 []) := World.ownsRow_nil _ _ _ _
  obtain ⟨i0, hi0, hz0, hz1, hz2⟩ := info_parts infoNam
  clear hL
  go_enter Tryz.func7, Tryz.ntmps7
  go_wp2_with fail
  go_loopw [3, 4] (fun t3 t4 wr => ∃ (q : Nat) (o : Option Addr) (c : Nat), q ≤ l.length ∧ t4 = .int .i64 q ∧ t3 = .slice o q c ∧ wr.ownsRow w.heap.size 35 2 (.slice o q c) q (cellsN (l.take q)) ∧ Below w.heap.size w wr) (fun t3 t4 wr => l.length - (intOf t4).toNat)
  case atStart => exact ⟨0, none, 0, Nat.zero_le _, rfl, rfl, HN0.out, HB0.out⟩
  case round =>
    obtain ⟨q, o, c, hq, rfl, rfl, ho, hb⟩ := hrel
    have HO : Hid (wr.ownsRow w.heap.size 35 2 (.slice o q c) q (cellsN (l.take q))) := ho
    have HB : Hid (Below w.heap.size w wr) := hb
    clear ho hb
    by_cases hlt : q < l.length
    · obtain ⟨x, hx⟩ : ∃ x, l[q]? = some x := ⟨_, List.getElem?_eq_getElem hlt⟩
      obtain ⟨q0, q1⟩ := (HL.out.below hg HB.out) q x hx
      have hd : l.take (q + 1) = l.take q ++ [x] := by
        rw [List.take_add_one, hx]; rfl
      obtain ⟨Y1, k1⟩ : ∃ V : ByteArray, V = ⟨x.1.toArray⟩ := ⟨_, rfl⟩
      obtain ⟨Y2, k2⟩ : ∃ V : ByteArray, V = ⟨x.2.toArray⟩ := ⟨_, rfl⟩
      have HCy : Hid (cellsN (l.take (q + 1)) = cellsN (l.take q) ++ [.string Y1, .string Y2]) := by unfold Hid; rw [hd, cellsN_app, k1, k2]; rfl
      have q0' : wr.cell? ⟨g, off + q * 2, none⟩ = some (.string Y1) := by rw [k1]; exact q0
      have q1' : wr.cell? ⟨g, off + q * 2 + 1, none⟩ = some (.string Y2) := by rw [k2]; exact q1
      clear q0 q1 k1 k2 hd hx
      have hbs := HB.out.size
      go_wp2_with fail
      go_region_law (refine step_append_lies _ (by rfl) _ _ _ (by rfl) w.heap.size 35 i0 _ 2 32 Tryz.underlying26 hi0 hz0 hz1 hz2 rfl (by omega) (.slice o q c) q (cellsN (l.take q)) (by rfl) ((HO.out.alloc _).drew) ⟨wr.heap.size, 0, none⟩ 1 1 [.string Y1, .string Y2] (by rfl) (by rfl) (news2_drew _ _ _ _) (by simp [Value.oneCell']) (by omega) (by unfold maxLen; omega) (by omega) (by simp; omega) (wr.heap.size + 1) (by simp) ?_; intro g2 cap2 w1 hown1 hgrow hat hlt2)
      all_goals
        have HB3 : Hid (Below w.heap.size w w1) := nam_grown HB.out HO.out hgrow
        have HO3 : Hid (w1.ownsRow w.heap.size 35 2 (.slice (some ⟨g2, 0, none⟩) (q + 1) cap2) (q + 1) (cellsN (l.take (q + 1)))) := by
          unfold Hid
          rw [HCy.out]
          exact hown1
        clear hgrow hown1 hat hlt2 q0' q1'
        go_wp2
        go_roundw
        case rel => exact ⟨q + 1, some ⟨g2, 0, none⟩, cap2, by omega, by go_num, rfl, HO3.out, HB3.out⟩
        case measure => simp [intOf]; omega
    · obtain rfl : q = l.length := by omega
      rw [List.take_length] at HO
      go_wp2_with fail
      go_ret
      exact ⟨_, rfl, HO.out, HB.out⟩

set_option maxHeartbeats 4000000 in
set_option maxRecDepth 20000 in
theorem names_zero (w : World) (o : Option Addr) (c : Nat) : Calls Tryz.prog 7 #[.slice o 0 c] w fun e w' => ∃ v, e = .returned v ∧ w'.ownsRow w.heap.size 35 2 v ([] : List Nam2).length (cellsN []) ∧ Below w.heap.size w w' := by
  have HN0 : Hid (w.ownsRow w.heap.size 35 2 (.slice none 0 0) 0 []) := World.ownsRow_nil _ _ _ _
  go_enter Tryz.func7, Tryz.ntmps7
  go_wp2_with fail
  go_loopw [3, 4] (fun t3 t4 wr => t3 = .slice none 0 0 ∧ t4 = .int .i64 0 ∧ wr = w) (fun t3 t4 wr => 0)
  case atStart => exact ⟨rfl, rfl, rfl⟩
  case round =>
    obtain ⟨rfl, rfl, rfl⟩ := hrel
    go_wp2_with fail
    go_ret
    exact ⟨_, rfl, HN0.out, Below.refl _ _⟩

/-- what names yields, as the printer has it -/
theorem own_names {w : World} {bs : Nat} {v : Value} {ns : List Nam2} (h : w.ownsRow bs 35 2 v ns.length (cellsN ns)) : NmL w.heap.size v ns w := by
  rcases h.2 with ⟨rfl, hz⟩ | ⟨g, cap, cur, rfl, _, hgg, _⟩
  · exact .inl ⟨rfl, List.length_eq_zero_iff.1 hz⟩
  · refine .inr ⟨g, cap, rfl, (Array.getElem?_eq_some_iff.1 hgg).1, fun k x hk => ?_⟩
    have hl := (List.getElem?_eq_some_iff.1 hk).1
    obtain ⟨h1, h2⟩ := cellsN_at hk
    exact ⟨(h.cellAt _ (by omega)).trans h1, (h.cellAt _ (by omega)).trans h2⟩

end Tu
end Go.Proofs.YtfapcangooodeabGreatDoor

