import Derived.Test.YtnffjoipinhojabGreatDoorK26
import Derived.Laws.AppendOwnNone
import Derived.Maps.AppendAt
import Derived.Laws.StructEq
import Derived.Test.YtnffjoipinhojabGreatDoorProg
import Derived.WalkKit
import Derived.LaidEql
import Derived.Stop.Asserts
import Derived.RowKitTokens
set_option linter.unusedSimpArgs false
set_option linter.unusedVariables false
namespace Go.Proofs.YtnffjoipinhojabGreatDoor
open Go.RowKit
namespace Ref

end Ref
end Go.Proofs.YtnffjoipinhojabGreatDoor

namespace Go.Proofs.YtnffjoipinhojabGreatDoor
open Go.RowKit
namespace Ref

def ksOf (what : Nat) : List Nat := if what = 0 then [1, 2] else if what = 1 then [1] else [1, 2, 3]

theorem term_other {s : ByteArray} {i : Nat} (h1 : bt s i ≠ 60) (h2 : bt s i ≠ 95) (h3 : bt s i ≠ 34) : term s i = .bad i := by unfold term; rw [if_neg h1, if_neg h2, if_neg h3]

theorem of0 {s : ByteArray} {i : Nat} (h : bt s i ≠ 34) : termOf s i [1, 2] = term s i := by
  simp only [termOf, firstB, readK, term]
  by_cases h1 : bt s i = 60
  · simp [h1]
    cases iri s i <;> rfl
  · by_cases h2 : bt s i = 95
    · simp [h2]
      cases blank s i <;> rfl
    · simp [h1, h2, h]
theorem of0b {s : ByteArray} {i : Nat} (h : bt s i = 34) : termOf s i [1, 2] = .bad i := by
  simp [termOf, firstB, h]
theorem of1 {s : ByteArray} {i : Nat} (h : bt s i = 60) : termOf s i [1] = term s i := by
  simp [termOf, firstB, readK, term, h]
  cases iri s i <;> rfl
theorem of1b {s : ByteArray} {i : Nat} (h : bt s i ≠ 60) : termOf s i [1] = .bad i := by
  simp [termOf, firstB, h]

end Ref
end Go.Proofs.YtnffjoipinhojabGreatDoor

namespace Go.Proofs.YtnffjoipinhojabGreatDoor
open Go.RowKit
namespace Ref

theorem infoTri : (Tryz.prog.info? 50).map (fun i => (i.zero, i.size, i.bytes)) = some (some (.agg #[.string ⟨#[]⟩, .string ⟨#[]⟩, .string ⟨#[]⟩]), 3, 48) := by kernel_rfl

/-- a list of sentences, v, that was made behind w0; nothing else of w0 turned but for block b -/
structure Pt (w0 : World) (b : Nat) (v : Value) (ts : List Tri) (w : World) : Prop where
  own : w.ownsRow w0.heap.size 50 3 v ts.length (cellsOf ts)
  fb : Fb w0 b w
  lt : b < w0.heap.size

theorem skipB_idem (s : ByteArray) : ∀ n i, s.size - i < n → skipB s (skipB s i) = skipB s i := by
  intro n
  induction n with
  | zero => intro i h; omega
  | succ n ih =>
    intro i h
    by_cases hb : bt s i = 32 ∨ bt s i = 9
    · have hlt : i < s.size := by rcases hb with h | h <;> exact bt_in h (by omega)
      rw [skipB_on hb]
      exact ih (i + 1) (by omega)
    · rw [skipB_end hb, skipB_end hb]

end Ref
end Go.Proofs.YtnffjoipinhojabGreatDoor

namespace Go.Proofs.YtnffjoipinhojabGreatDoor
open Go.RowKit

theorem cells_at {l : List Tri} {k : Nat} {x : Tri} (h : l[k]? = some x) : (cellsOf l)[k * 3]? = some (str x.s) ∧ (cellsOf l)[k * 3 + 1]? = some (str x.p) ∧ (cellsOf l)[k * 3 + 2]? = some (str x.o) := by
  induction l generalizing k with
  | nil => cases h
  | cons y l ih =>
    have e : cellsOf (y :: l) = str y.s :: str y.p :: str y.o :: cellsOf l := rfl
    cases k with
    | zero =>
      simp at h
      subst h
      exact ⟨rfl, rfl, rfl⟩
    | succ k =>
      have := ih (k := k) (by simpa using h)
      rw [e]
      have e0 : (k + 1) * 3 = k * 3 + 1 + 1 + 1 := by omega
      rw [e0]
      exact this

theorem own_lies {w : World} {base g cap : Nat} {T : TypeId} {l : List Tri} (h : w.ownsRow base T 3 (.slice (some ⟨g, 0, none⟩) l.length cap) l.length (cellsOf l)) : Lies w g l := by
  intro k x hk
  have hl := (List.getElem?_eq_some_iff.1 hk).1
  obtain ⟨h1, h2, h3⟩ := cells_at hk
  exact ⟨(h.cellAt _ (by omega)).trans h1, (h.cellAt _ (by omega)).trans h2, (h.cellAt _ (by omega)).trans h3⟩

theorem cells_take (l : List Tri) (k : Nat) : cellsOf (l.take k) = (cellsOf l).take (k * 3) := by
  induction l generalizing k with
  | nil => simp [cellsOf]
  | cons y l ih =>
    have e : cellsOf (y :: l) = str y.s :: str y.p :: str y.o :: cellsOf l := rfl
    cases k with
    | zero => simp [cellsOf]
    | succ k =>
      rw [List.take_succ_cons, e, show (k + 1) * 3 = k * 3 + 1 + 1 + 1 by omega, List.take_succ_cons, List.take_succ_cons, List.take_succ_cons, ← ih k]
      rfl
theorem cells_drop (l : List Tri) (k : Nat) : cellsOf (l.drop k) = (cellsOf l).drop (k * 3) := by
  induction l generalizing k with
  | nil => simp [cellsOf]
  | cons y l ih =>
    have e : cellsOf (y :: l) = str y.s :: str y.p :: str y.o :: cellsOf l := rfl
    cases k with
    | zero => simp
    | succ k =>
      rw [List.drop_succ_cons, e, show (k + 1) * 3 = k * 3 + 1 + 1 + 1 by omega, List.drop_succ_cons, List.drop_succ_cons, List.drop_succ_cons, ← ih k]

theorem cells_one (l : List Tri) : ∀ u ∈ cellsOf l, u.oneCell' = true := by
  intro u hu
  unfold cellsOf at hu
  rw [List.mem_flatMap] at hu
  obtain ⟨t, _, ht⟩ := hu
  simp at ht
  rcases ht with rfl | rfl | rfl <;> rfl

theorem guardR : Tryz.prog.eqGuardType Tryz.prog.depth 50 = false := by kernel_rfl
theorem heldR : Tryz.prog.stoodInHeld 50 = false := by kernel_rfl
theorem fieldsR : (Tryz.prog.fieldsOf 50).toList.map (fun f => (f.name, f.type, f.offset)) = [("S", 9, 0), ("P", 9, 1), ("O", 9, 2)] := by kernel_rfl
theorem structR : Tryz.prog.underlying 50 = some (.struct (Tryz.prog.fieldsOf 50)) := by kernel_rfl
theorem eq_tri (a b c d e f : ByteArray) (w : World) : (binOp .eql 50 (.agg #[.string a, .string b, .string c]) (.agg #[.string d, .string e, .string f])).run Tryz.prog w = .ok (.bool ((a.toList == d.toList) && ((b.toList == e.toList) && (c.toList == f.toList)))) w := by
  rw [run_eql_struct, run_equalIn_agg w 9999 _ _ _ structR heldR]
  have hf := fieldsR
  match hl : (Tryz.prog.fieldsOf 50).toList with
  | [] => rw [hl] at hf; simp at hf
  | [_] => rw [hl] at hf; simp at hf
  | [_, _] => rw [hl] at hf; simp at hf
  | [f0, f1, f2] =>
    rw [hl] at hf
    simp at hf
    obtain ⟨⟨n0, t0, o0⟩, ⟨n1, t1, o1⟩, n2, t2, o2⟩ := hf
    have u9 := Tryz.underlying9
    simp only [Op.eqFields, n0, n1, n2, t0, t1, t2, o0, o1, o2]
    cases h1 : (a.toList == d.toList) <;> cases h2 : (b.toList == e.toList) <;> cases h3 : (c.toList == f.toList) <;> simp [go_sem, part, u9, h1, h2, h3]
  | _ :: _ :: _ :: _ :: _ => rw [hl] at hf; simp at hf

theorem own_mono {w : World} {base base' : Nat} {e : TypeId} {size : Nat} {v : Value} {n : Nat} {xs : List Value} (h : w.ownsRow base e size v n xs) (hb : base' ≤ base) : w.ownsRow base' e size v n xs :=
  ⟨h.1, h.2.elim Or.inl fun ⟨g, cap, cur, hv, hg, r⟩ => Or.inr ⟨g, cap, cur, hv, Nat.le_trans hb hg, r⟩⟩

theorem own_cap {w : World} {base : Nat} {e : TypeId} {size g n cap : Nat} {xs : List Value} (h : w.ownsRow base e size (.slice (some ⟨g, 0, none⟩) n cap) n xs) : n ≤ cap := by
  rcases h.2 with ⟨hv, _⟩ | ⟨g', cap', cur, hv, _, _, hle, _⟩
  · cases hv
  · cases hv
    exact hle

theorem own_nil (w : World) (base : Nat) (e : TypeId) : w.ownsRow base e 3 (.slice none 0 0) 0 [] := ⟨rfl, Or.inl ⟨rfl, rfl⟩⟩

theorem add_addr (g o j : Nat) : (⟨g, o, none⟩ : Addr).add j = ⟨g, o + j, none⟩ := by unfold Addr.add; split <;> simp_all

theorem news_take {w : World} {base g cap a : Nat} {T : TypeId} {l : List Tri} (h : w.ownsRow base T 3 (.slice (some ⟨g, 0, none⟩) l.length cap) l.length (cellsOf l)) (ha : a ≤ l.length) : ∀ j u, (cellsOf (l.take a))[j]? = some u → w.cell? ((⟨g, 0, none⟩ : Addr).add j) = some u := by
  intro j u hj
  have hl := (List.getElem?_eq_some_iff.1 hj).1
  rw [cellsOf_len, List.length_take] at hl
  rw [add_addr, Nat.zero_add, h.cellAt j (by omega)]
  rw [cells_take, List.getElem?_take] at hj
  split at hj
  · exact hj
  · cases hj
theorem news_drop {w : World} {base g cap a : Nat} {T : TypeId} {l : List Tri} (h : w.ownsRow base T 3 (.slice (some ⟨g, 0, none⟩) l.length cap) l.length (cellsOf l)) (ha : a ≤ l.length) : ∀ j u, (cellsOf (l.drop a))[j]? = some u → w.cell? ((⟨g, a * 3, none⟩ : Addr).add j) = some u := by
  intro j u hj
  have hl := (List.getElem?_eq_some_iff.1 hj).1
  rw [cellsOf_len, List.length_drop] at hl
  rw [add_addr, h.cellAt _ (by omega)]
  rw [cells_drop, List.getElem?_drop] at hj
  exact hj
theorem news_new (w : World) (a b c : ByteArray) (T : TypeId) : ∀ (j : Nat) (u : Value), [Value.string a, .string b, .string c][j]? = some u → (w.alloc (.cells #[.string a, .string b, .string c] T)).cell? ((⟨w.heap.size, 0, none⟩ : Addr).add j) = some u := by
  intro j u hj
  have hh : (w.alloc (.cells #[.string a, .string b, .string c] T)).heap[w.heap.size]? = some (.cells #[.string a, .string b, .string c] T) := heap_new _ _
  rw [add_addr, Lib.cell_of_heap hh, Nat.zero_add]
  simpa using hj

/-- a set with a sentence more -/
def addL (l : List Tri) (t : Tri) : List Tri := if thereB l t = true then l else ins l t

set_option maxHeartbeats 4000000 in
set_option maxRecDepth 20000 in
theorem Ref.add_any (w : World) (B g cap : Nat) (l : List Tri) (t : Tri) (hr : Rising l) (ho : w.ownsRow B 50 3 (.slice (some ⟨g, 0, none⟩) l.length cap) l.length (cellsOf l)) (hB : B ≤ w.heap.size) (hg : g < w.heap.size) (hn : l.length ≤ 1000) :
    Calls Tryz.prog 47 #[.slice (some ⟨g, 0, none⟩) l.length cap, triV t] w fun e w' =>
      ∃ v', e = .returned v' ∧ w'.ownsRow B 50 3 v' (addL l t).length (cellsOf (addL l t)) ∧ Below w.heap.size w w' := by
  obtain ⟨i0, hi0, hz0, hz1, hz2⟩ := info_parts Ref.infoTri
  obtain ⟨Y1, k1⟩ : ∃ V : ByteArray, V = ⟨t.s.toArray⟩ := ⟨_, rfl⟩
  obtain ⟨Y2, k2⟩ : ∃ V : ByteArray, V = ⟨t.p.toArray⟩ := ⟨_, rfl⟩
  obtain ⟨Y3, k3⟩ : ∃ V : ByteArray, V = ⟨t.o.toArray⟩ := ⟨_, rfl⟩
  have HVy : (triV t) = .agg #[.string Y1, .string Y2, .string Y3] := by rw [k1, k2, k3]
  have HCy : Hid (cellsOf [t] = [.string Y1, .string Y2, .string Y3]) := by unfold Hid; rw [k1, k2, k3]; rfl
  have HCm : Hid (∀ (x : Tri) (h : Nat) (w1 : World), ES w g h x Y1 Y2 Y3 w1 → Calls Tryz.prog 83 #[.agg #[str x.s, str x.p, str x.o], .agg #[.string Y1, .string Y2, .string Y3]] w1 fun e w' => e = .returned (.bool (decide (triCmp x t < 0))) ∧ ES w g h x Y1 Y2 Y3 w') := by
    intro x h w1 he
    have := Ref.before_any w1 x t
    rw [HVy] at this
    refine this.mono ?_
    rintro e w2 ⟨rfl, hb2⟩
    exact ⟨rfl, he.on hb2⟩
  have HL : Hid (Lies w g l) := own_lies ho
  have hcap := own_cap ho
  have HO : Hid (w.ownsRow B 50 3 (.slice (some ⟨g, 0, none⟩) l.length cap) l.length (cellsOf l)) := ho
  have HP : Hid (∀ q, q ≤ l.length → (∀ k x, l[k]? = some x → k < q → triCmp x t < 0) → (∀ k x, l[k]? = some x → q ≤ k → 0 ≤ triCmp x t) → q = posT l t) := fun q h0 h1 h2 => posT_eq hr h0 h1 fun k x hk hq => Int.not_lt.2 (h2 k x hk hq)
  have HR : Hid (Rising l) := hr
  have HM : Hid (KS w w.heap.size Y1 Y2 Y3 (w.alloc (.cells #[.string Y1, .string Y2, .string Y3] 50))) := KS.mk w Y1 Y2 Y3 _
  rw [HVy]
  clear hr ho k1 k2 k3 HVy
  go_enter Tryz.func47, Tryz.ntmps47
  go_wp2_with fail
  go_loopw [5, 6] (fun t5 t6 wr => ∃ a e : Nat, a ≤ e ∧ e ≤ l.length ∧ t5 = .int .i64 a ∧ t6 = .int .i64 e ∧ KS w w.heap.size Y1 Y2 Y3 wr ∧ (∀ k x, l[k]? = some x → k < a → triCmp x t < 0) ∧ (∀ k x, l[k]? = some x → e ≤ k → 0 ≤ triCmp x t)) (fun t5 t6 wr => (intOf t6).toNat - (intOf t5).toNat)
  case atStart => exact ⟨0, l.length, by omega, by omega, rfl, rfl, HM.out, fun k x _ h => by omega, fun k x h h2 => by have := (List.getElem?_eq_some_iff.1 h).1; omega⟩
  case round =>
    obtain ⟨a, e, hae, hel, rfl, rfl, hK, hlo, hhi⟩ := hrel
    have HK : Hid (KS w w.heap.size Y1 Y2 Y3 wr) := hK
    have HLO : Hid (∀ k x, l[k]? = some x → k < a → triCmp x t < 0) := hlo
    have HHI : Hid (∀ k x, l[k]? = some x → e ≤ k → 0 ≤ triCmp x t) := hhi
    clear hlo hhi
    by_cases hlt : a < e
    · obtain ⟨h, hh⟩ : ∃ h, h = (a + e) / 2 := ⟨_, rfl⟩
      have hha : a ≤ h := by omega
      have hhe : h < e := by omega
      have hhl : h < l.length := by omega
      have hh2 : ((a : Int) + (e : Int)).tdiv 2 = (h : Int) := by rw [Int.tdiv_eq_ediv_of_nonneg (by omega)]; omega
      have hh3 : ((a : Int) + (e : Int)) / 2 = (h : Int) := by omega
      clear hh
      obtain ⟨x, hx⟩ : ∃ x, l[h]? = some x := ⟨_, List.getElem?_eq_getElem hhl⟩
      obtain ⟨q0, q1, q2⟩ := (HL.out.below hg HK.out.low) h x hx
      obtain ⟨m0, m1, m2, m3⟩ := hK
      by_cases hc : triCmp x t < 0
      · have HLO2 : Hid (∀ k y, l[k]? = some y → k < h + 1 → triCmp y t < 0) := fun k y hy hk => rise_lo HR.out hx hc hy (by omega)
        clear hx
        go_wp2_with fail
        go_region_held3 (fun w' => w'.cell? ⟨g, h * 3, none⟩ = some (str x.s) ∧ w'.cell? ⟨g, h * 3 + 1, none⟩ = some (str x.p) ∧ w'.cell? ⟨g, h * 3 + 2, none⟩ = some (str x.o) ∧ w'.cell? ⟨w.heap.size, 0, none⟩ = some (.string Y1) ∧ w'.cell? ⟨w.heap.size, 1, none⟩ = some (.string Y2) ∧ w'.cell? ⟨w.heap.size, 2, none⟩ = some (.string Y3) ∧ Below w.heap.size w w') (first | assumption | exact ⟨q0, q1, q2, m0, m1, m2, m3⟩ | exact ⟨q0, q1, q2, m0, m1, m2, m3.drew⟩) (first | (go_at_call 83; refine (HCm.out x h _ (by first | assumption | exact ⟨by assumption, by assumption, by assumption, by assumption, by assumption, by assumption, by first | assumption | exact m3.drew⟩)).mono ?_; rintro e2 w2 ⟨rfl, hS⟩))
        all_goals go_wp2_with fail
        go_roundw
        case rel => exact ⟨h + 1, e, by omega, by omega, by go_num, rfl, ES.ks (by assumption), HLO2.out, HHI.out⟩
        case measure => simp [intOf]; omega
      · have HHI2 : Hid (∀ k y, l[k]? = some y → h ≤ k → 0 ≤ triCmp y t) := fun k y hy hk => Int.not_lt.1 (rise_hi HR.out hx hc hy hk)
        clear hx
        go_wp2_with fail
        go_region_held3 (fun w' => w'.cell? ⟨g, h * 3, none⟩ = some (str x.s) ∧ w'.cell? ⟨g, h * 3 + 1, none⟩ = some (str x.p) ∧ w'.cell? ⟨g, h * 3 + 2, none⟩ = some (str x.o) ∧ w'.cell? ⟨w.heap.size, 0, none⟩ = some (.string Y1) ∧ w'.cell? ⟨w.heap.size, 1, none⟩ = some (.string Y2) ∧ w'.cell? ⟨w.heap.size, 2, none⟩ = some (.string Y3) ∧ Below w.heap.size w w') (first | assumption | exact ⟨q0, q1, q2, m0, m1, m2, m3⟩ | exact ⟨q0, q1, q2, m0, m1, m2, m3.drew⟩) (first | (go_at_call 83; refine (HCm.out x h _ (by first | assumption | exact ⟨by assumption, by assumption, by assumption, by assumption, by assumption, by assumption, by first | assumption | exact m3.drew⟩)).mono ?_; rintro e2 w2 ⟨rfl, hS⟩))
        all_goals go_wp2_with fail
        go_roundw
        case rel => exact ⟨a, h, by omega, by omega, rfl, rfl, ES.ks (by assumption), HLO.out, HHI2.out⟩
        case measure => simp [intOf]; omega
    · obtain rfl : a = e := by omega
      have HQ : Hid (posT l t = a) := (HP.out a hel HLO.out HHI.out).symm
      by_cases hla : a < l.length
      · obtain ⟨x, hx⟩ : ∃ x, l[a]? = some x := ⟨_, List.getElem?_eq_getElem hla⟩
        have HT : Hid (thereB l t = decide (triCmp x t = 0)) := by unfold Hid thereB; rw [HQ.out, hx]
        obtain ⟨q0, q1, q2⟩ := (HL.out.below hg HK.out.low) a x hx
        obtain ⟨m0, m1, m2, m3⟩ := hK
        obtain ⟨X1, hX1⟩ : ∃ V : ByteArray, V = ⟨x.s.toArray⟩ := ⟨_, rfl⟩
        obtain ⟨X2, hX2⟩ : ∃ V : ByteArray, V = ⟨x.p.toArray⟩ := ⟨_, rfl⟩
        obtain ⟨X3, hX3⟩ : ∃ V : ByteArray, V = ⟨x.o.toArray⟩ := ⟨_, rfl⟩
        have r0 : wr.cell? ⟨g, a * 3, none⟩ = some (.string X1) := by rw [q0, hX1]
        have r1 : wr.cell? ⟨g, a * 3 + 1, none⟩ = some (.string X2) := by rw [q1, hX2]
        have r2 : wr.cell? ⟨g, a * 3 + 2, none⟩ = some (.string X3) := by rw [q2, hX3]
        have hgd := guardR
        have heq : ∀ w, (binOp .eql 50 (.agg #[.string X1, .string X2, .string X3]) (.agg #[.string Y1, .string Y2, .string Y3])).run Tryz.prog w = .ok (.bool (thereB l t)) w := by
          intro w
          rw [eq_tri, HT.out]
          have e1 : X1.toList = x.s := by rw [hX1, ByteArray.toList_mk]
          have e2 : X2.toList = x.p := by rw [hX2, ByteArray.toList_mk]
          have e3 : X3.toList = x.o := by rw [hX3, ByteArray.toList_mk]
          have f1 : Y1.toList = t.s := by have := HCy.out; simp [cellsOf, str] at this; rw [← this.1, ByteArray.toList_mk]
          have f2 : Y2.toList = t.p := by have := HCy.out; simp [cellsOf, str] at this; rw [← this.2.1, ByteArray.toList_mk]
          have f3 : Y3.toList = t.o := by have := HCy.out; simp [cellsOf, str] at this; rw [← this.2.2, ByteArray.toList_mk]
          rw [e1, e2, e3, f1, f2, f3]
          congr 2
          rw [Bool.eq_iff_iff]
          simp only [Bool.and_eq_true, beq_iff_eq, decide_eq_true_eq]
          constructor
          · rintro ⟨a1, a2, a3⟩
            have : x = t := by cases x with | mk _ _ _ => cases t with | mk _ _ _ => simp_all
            rw [this]
            exact triCmp_refl t
          · intro h0
            rw [triCmp_zero h0]
            exact ⟨rfl, rfl, rfl⟩
        clear HP HR HLO HHI q0 q1 q2 hX1 hX2 hX3 HT
        cases hth : thereB l t with
        | true =>
          have HA : Hid (addL l t = l) := by unfold Hid addL; rw [if_pos hth]
          rw [hth] at heq
          have HOw : Hid (∀ n, (wr.drewN n).ownsRow B 50 3 (.slice (some ⟨g, 0, none⟩) l.length cap) l.length (cellsOf l)) := fun n => own_same HO.out fun k hk hlt => HK.out.low.block k hlt
          go_wp2_with fail
          go_quiet (fail)
          go_wp2_with fail
          go_ret
          exact ⟨_, rfl, by rw [HA.out]; exact HOw.out _, below_drewN HK.out.low _⟩
        | false =>
          have HA : Hid (addL l t = ins l t) := by unfold Hid addL; rw [if_neg (by rw [hth]; simp)]
          rw [hth] at heq
          go_wp2_with fail
          go_quiet (fail)
          have HW : Hid (KS w w.heap.size Y1 Y2 Y3 (wr.drewN nq)) := HK.out.on (below_drewN (Below.refl _ _) nq)
          have HOw : Hid ((wr.drewN nq).ownsRow B 50 3 (.slice (some ⟨g, 0, none⟩) l.length cap) l.length (cellsOf l)) := own_same HO.out fun k hk hlt => HK.out.low.block k hlt
          clear heq r0 r1 r2 m0 m1 m2 m3 HK
          generalize wr.drewN nq = W at *
          have hbs : w.heap.size ≤ W.heap.size := HW.out.low.size
          have hn1 := news_take HOw.out (Nat.le_of_lt hla)
          have hlt1 : (cellsOf (l.take a)).length = a * 3 := by rw [cellsOf_len, List.length_take, Nat.min_eq_left (Nat.le_of_lt hla)]
          have hnl := own_nil W W.heap.size 50
          have hgW : g < W.heap.size := by omega
          have hca : a < cap := by omega
          have hcn : ¬ cap = a := by omega
          have HN3 : Hid (∀ w2, Below W.heap.size W w2 → ∀ j u, (cellsOf (l.drop a))[j]? = some u → w2.cell? ((⟨g, a * 3, none⟩ : Addr).add j) = some u) := fun w2 hb => news_drop (own_same HOw.out (fun k hk hlt => hb.block k hlt)) (Nat.le_of_lt hla)
          have hlt3 : (cellsOf (l.drop a)).length = (l.length - a) * 3 := by rw [cellsOf_len, List.length_drop]
          go_wp2_with (first
            | (at_builtin; refine wpList_append_own_at _ (by rfl) _ _ _ (by rfl) W.heap.size 50 i0 _ 3 48 Tryz.underlying22 hi0 hz0 hz1 hz2 rfl (by omega) (.slice none 0 0) 0 [] (by rfl) hnl ⟨g, 0, none⟩ a cap (cellsOf (l.take a)) (by rfl) hlt1 hn1 (cells_one _) (by unfold maxLen; omega) (by omega) (Nat.le_refl _) ?_; intro v1 w1 ho1 hg1 hi1 hb1; have HB1 : Hid (Below W.heap.size W w1) := (Below.grown (Below.refl _ _) hg1 (Nat.le_refl _) (fun k hk => by simp [Value.ownBlock] at hk)); have HO1 : Hid (w1.ownsRow W.heap.size 50 3 v1 (0 + a) ([] ++ cellsOf (l.take a))) := ho1; have hK1 := HW.out.on HB1.out; obtain ⟨z0, z1, z2, z3⟩ := hK1; have hoA := HO1.out.alloc (.cells #[.string Y1, .string Y2, .string Y3] 50); have hn2 := news_new w1 Y1 Y2 Y3 50; have hb2' : W.heap.size ≤ (w1.alloc (.cells #[.string Y1, .string Y2, .string Y3] 50)).heap.size := (by have := HB1.out.size; simp; omega); clear ho1 hg1 hi1 hb1)
            | (at_builtin; refine wpList_append_own_at _ (by rfl) _ _ _ (by rfl) W.heap.size 50 i0 _ 3 48 Tryz.underlying22 hi0 hz0 hz1 hz2 rfl (by omega) v1 (0 + a) ([] ++ cellsOf (l.take a)) (by rfl) hoA ⟨w1.heap.size, 0, none⟩ 1 1 [.string Y1, .string Y2, .string Y3] (by rfl) (by rfl) hn2 (by simp [Value.oneCell']) (by unfold maxLen; omega) (by omega) hb2' ?_; intro v2 w2 ho2 hg2 hi2 hb2; have HB2 : Hid (Below W.heap.size W w2) := (Below.grown (HB1.out.alloc HB1.out.size _) hg2 (by have := HB1.out.size; simp; omega) (fun k hk => own_block HO1.out hk)); have HO2 : Hid (w2.ownsRow W.heap.size 50 3 v2 (0 + a + 1) ([] ++ cellsOf (l.take a) ++ [.string Y1, .string Y2, .string Y3])) := ho2; have ho2' := HO2.out; have hn3 := HN3.out w2 HB2.out; have hb3' : W.heap.size ≤ w2.heap.size := HB2.out.size; clear ho2 hg2 hi2 hb2 hoA hn2 z0 z1 z2 z3)
            | (at_builtin; refine wpList_append_own_at _ (by rfl) _ _ _ (by rfl) W.heap.size 50 i0 _ 3 48 Tryz.underlying22 hi0 hz0 hz1 hz2 rfl (by omega) v2 (0 + a + 1) ([] ++ cellsOf (l.take a) ++ [.string Y1, .string Y2, .string Y3]) (by rfl) ho2' ⟨g, a * 3, none⟩ (l.length - a) (cap - a) (cellsOf (l.drop a)) (by rfl) hlt3 hn3 (cells_one _) (by unfold maxLen; omega) (by omega) hb3' ?_; intro v3 w3 ho3 hg3 hi3 hb3; have HB3 : Hid (Below W.heap.size W w3) := (Below.grown HB2.out hg3 HB2.out.size (fun k hk => own_block HO2.out hk)); have HO3 : Hid (w3.ownsRow W.heap.size 50 3 v3 (0 + a + 1 + (l.length - a)) ([] ++ cellsOf (l.take a) ++ [.string Y1, .string Y2, .string Y3] ++ cellsOf (l.drop a))) := ho3; clear ho3 hg3 hi3 hb3))
          go_ret
          refine ⟨_, rfl, ?_, HW.out.low.trans (HB3.out.mono hbs)⟩
          rw [HA.out, ins_len]
          have ec : cellsOf (ins l t) = [] ++ cellsOf (l.take a) ++ [.string Y1, .string Y2, .string Y3] ++ cellsOf (l.drop a) := by
            unfold ins
            rw [HQ.out, ← HCy.out, List.nil_append, ← cellsOf_app, ← cellsOf_app, List.append_assoc]
            rfl
          rw [ec, show l.length + 1 = 0 + a + 1 + (l.length - a) by omega]
          exact own_mono HO3.out (by omega)
      · obtain rfl : a = l.length := by omega
        have hth : thereB l t = false := by unfold thereB; rw [HQ.out, List.getElem?_eq_none (Nat.le_refl _)]
        have HA : Hid (addL l t = ins l t) := by unfold Hid addL; rw [if_neg (by rw [hth]; simp)]
        obtain ⟨m0, m1, m2, m3⟩ := hK
        clear HP HR HLO HHI hth
        go_wp2_with fail
        go_quiet (fail)
        have HW : Hid (KS w w.heap.size Y1 Y2 Y3 (wr.drewN nq)) := HK.out.on (below_drewN (Below.refl _ _) nq)
        have HOw : Hid ((wr.drewN nq).ownsRow B 50 3 (.slice (some ⟨g, 0, none⟩) l.length cap) l.length (cellsOf l)) := own_same HO.out fun k hk hlt => HK.out.low.block k hlt
        clear m0 m1 m2 m3 HK
        generalize wr.drewN nq = W at *
        have hbs : w.heap.size ≤ W.heap.size := HW.out.low.size
        have hn1 := news_take HOw.out (Nat.le_refl _)
        have hlt1 : (cellsOf (l.take l.length)).length = l.length * 3 := by rw [cellsOf_len, List.length_take, Nat.min_self]
        have hnl := own_nil W W.heap.size 50
        have hgW : g < W.heap.size := by omega
        have HN3 : Hid (∀ (ad : Addr) (w2 : World) (j : Nat) (u : Value), ([] : List Value)[j]? = some u → w2.cell? (ad.add j) = some u) := fun ad w2 j u hj => by simp at hj
        by_cases hcp : cap = l.length
        · subst hcp
          go_wp2_with (first
            | (at_builtin; refine wpList_append_own_at _ (by rfl) _ _ _ (by rfl) W.heap.size 50 i0 _ 3 48 Tryz.underlying22 hi0 hz0 hz1 hz2 rfl (by omega) (.slice none 0 0) 0 [] (by rfl) hnl ⟨g, 0, none⟩ l.length l.length (cellsOf (l.take l.length)) (by rfl) hlt1 hn1 (cells_one _) (by unfold maxLen; omega) (by omega) (Nat.le_refl _) ?_; intro v1 w1 ho1 hg1 hi1 hb1; have HB1 : Hid (Below W.heap.size W w1) := (Below.grown (Below.refl _ _) hg1 (Nat.le_refl _) (fun k hk => by simp [Value.ownBlock] at hk)); have HO1 : Hid (w1.ownsRow W.heap.size 50 3 v1 (0 + l.length) ([] ++ cellsOf (l.take l.length))) := ho1; have hK1 := HW.out.on HB1.out; obtain ⟨z0, z1, z2, z3⟩ := hK1; have hoA := HO1.out.alloc (.cells #[.string Y1, .string Y2, .string Y3] 50); have hn2 := news_new w1 Y1 Y2 Y3 50; have hb2' : W.heap.size ≤ (w1.alloc (.cells #[.string Y1, .string Y2, .string Y3] 50)).heap.size := (by have := HB1.out.size; simp; omega); clear ho1 hg1 hi1 hb1)
            | (at_builtin; refine wpList_append_own_at _ (by rfl) _ _ _ (by rfl) W.heap.size 50 i0 _ 3 48 Tryz.underlying22 hi0 hz0 hz1 hz2 rfl (by omega) v1 (0 + l.length) ([] ++ cellsOf (l.take l.length)) (by rfl) hoA ⟨w1.heap.size, 0, none⟩ 1 1 [.string Y1, .string Y2, .string Y3] (by rfl) (by rfl) hn2 (by simp [Value.oneCell']) (by unfold maxLen; omega) (by omega) hb2' ?_; intro v2 w2 ho2 hg2 hi2 hb2; have HB2 : Hid (Below W.heap.size W w2) := (Below.grown (HB1.out.alloc HB1.out.size _) hg2 (by have := HB1.out.size; simp; omega) (fun k hk => own_block HO1.out hk)); have HO2 : Hid (w2.ownsRow W.heap.size 50 3 v2 (0 + l.length + 1) ([] ++ cellsOf (l.take l.length) ++ [.string Y1, .string Y2, .string Y3])) := ho2; have ho2' := HO2.out;  have hb3' : W.heap.size ≤ w2.heap.size := HB2.out.size; clear ho2 hg2 hi2 hb2 hoA hn2 z0 z1 z2 z3)
            | (at_builtin; refine wpList_append_own_at _ (by rfl) _ _ _ (by rfl) W.heap.size 50 i0 _ 3 48 Tryz.underlying22 hi0 hz0 hz1 hz2 rfl (by omega) v2 (0 + l.length + 1) ([] ++ cellsOf (l.take l.length) ++ [.string Y1, .string Y2, .string Y3]) (by rfl) ho2' ⟨g, 0, none⟩ 0 0 [] (by rfl) (by rfl) (HN3.out _ _) (by simp) (by unfold maxLen; omega) (by omega) hb3' ?_; intro v3 w3 ho3 hg3 hi3 hb3; have HB3 : Hid (Below W.heap.size W w3) := (Below.grown HB2.out hg3 HB2.out.size (fun k hk => own_block HO2.out hk)); have HO3 : Hid (w3.ownsRow W.heap.size 50 3 v3 (0 + l.length + 1 + 0) ([] ++ cellsOf (l.take l.length) ++ [.string Y1, .string Y2, .string Y3] ++ [])) := ho3; clear ho3 hg3 hi3 hb3))
          go_ret
          refine ⟨_, rfl, ?_, HW.out.low.trans (HB3.out.mono hbs)⟩
          rw [HA.out, ins_len]
          have ec : cellsOf (ins l t) = [] ++ cellsOf (l.take l.length) ++ [.string Y1, .string Y2, .string Y3] ++ [] := by
            unfold ins
            rw [HQ.out, ← HCy.out, List.nil_append, List.append_nil, ← cellsOf_app, List.drop_length]
          rw [ec, show l.length + 1 = 0 + l.length + 1 + 0 by omega]
          exact own_mono HO3.out (by omega)

        · have hcq : l.length < cap := by omega
          go_wp2_with (first
            | (at_builtin; refine wpList_append_own_at _ (by rfl) _ _ _ (by rfl) W.heap.size 50 i0 _ 3 48 Tryz.underlying22 hi0 hz0 hz1 hz2 rfl (by omega) (.slice none 0 0) 0 [] (by rfl) hnl ⟨g, 0, none⟩ l.length cap (cellsOf (l.take l.length)) (by rfl) hlt1 hn1 (cells_one _) (by unfold maxLen; omega) (by omega) (Nat.le_refl _) ?_; intro v1 w1 ho1 hg1 hi1 hb1; have HB1 : Hid (Below W.heap.size W w1) := (Below.grown (Below.refl _ _) hg1 (Nat.le_refl _) (fun k hk => by simp [Value.ownBlock] at hk)); have HO1 : Hid (w1.ownsRow W.heap.size 50 3 v1 (0 + l.length) ([] ++ cellsOf (l.take l.length))) := ho1; have hK1 := HW.out.on HB1.out; obtain ⟨z0, z1, z2, z3⟩ := hK1; have hoA := HO1.out.alloc (.cells #[.string Y1, .string Y2, .string Y3] 50); have hn2 := news_new w1 Y1 Y2 Y3 50; have hb2' : W.heap.size ≤ (w1.alloc (.cells #[.string Y1, .string Y2, .string Y3] 50)).heap.size := (by have := HB1.out.size; simp; omega); clear ho1 hg1 hi1 hb1)
            | (at_builtin; refine wpList_append_own_at _ (by rfl) _ _ _ (by rfl) W.heap.size 50 i0 _ 3 48 Tryz.underlying22 hi0 hz0 hz1 hz2 rfl (by omega) v1 (0 + l.length) ([] ++ cellsOf (l.take l.length)) (by rfl) hoA ⟨w1.heap.size, 0, none⟩ 1 1 [.string Y1, .string Y2, .string Y3] (by rfl) (by rfl) hn2 (by simp [Value.oneCell']) (by unfold maxLen; omega) (by omega) hb2' ?_; intro v2 w2 ho2 hg2 hi2 hb2; have HB2 : Hid (Below W.heap.size W w2) := (Below.grown (HB1.out.alloc HB1.out.size _) hg2 (by have := HB1.out.size; simp; omega) (fun k hk => own_block HO1.out hk)); have HO2 : Hid (w2.ownsRow W.heap.size 50 3 v2 (0 + l.length + 1) ([] ++ cellsOf (l.take l.length) ++ [.string Y1, .string Y2, .string Y3])) := ho2; have ho2' := HO2.out;  have hb3' : W.heap.size ≤ w2.heap.size := HB2.out.size; clear ho2 hg2 hi2 hb2 hoA hn2 z0 z1 z2 z3)
            | (at_builtin; refine wpList_append_own_at _ (by rfl) _ _ _ (by rfl) W.heap.size 50 i0 _ 3 48 Tryz.underlying22 hi0 hz0 hz1 hz2 rfl (by omega) v2 (0 + l.length + 1) ([] ++ cellsOf (l.take l.length) ++ [.string Y1, .string Y2, .string Y3]) (by rfl) ho2' ⟨g, l.length * 3, none⟩ 0 (cap - l.length) [] (by rfl) (by rfl) (HN3.out _ _) (by simp) (by unfold maxLen; omega) (by omega) hb3' ?_; intro v3 w3 ho3 hg3 hi3 hb3; have HB3 : Hid (Below W.heap.size W w3) := (Below.grown HB2.out hg3 HB2.out.size (fun k hk => own_block HO2.out hk)); have HO3 : Hid (w3.ownsRow W.heap.size 50 3 v3 (0 + l.length + 1 + 0) ([] ++ cellsOf (l.take l.length) ++ [.string Y1, .string Y2, .string Y3] ++ [])) := ho3; clear ho3 hg3 hi3 hb3))
          go_ret
          refine ⟨_, rfl, ?_, HW.out.low.trans (HB3.out.mono hbs)⟩
          rw [HA.out, ins_len]
          have ec : cellsOf (ins l t) = [] ++ cellsOf (l.take l.length) ++ [.string Y1, .string Y2, .string Y3] ++ [] := by
            unfold ins
            rw [HQ.out, ← HCy.out, List.nil_append, List.append_nil, ← cellsOf_app, List.drop_length]
          rw [ec, show l.length + 1 = 0 + l.length + 1 + 0 by omega]
          exact own_mono HO3.out (by omega)


end Go.Proofs.YtnffjoipinhojabGreatDoor

namespace Go.Proofs.YtnffjoipinhojabGreatDoor
open Go.RowKit

set_option maxHeartbeats 2000000 in
set_option maxRecDepth 20000 in
theorem Ref.add_nil (w : World) (B : Nat) (t : Tri) (hB : B ≤ w.heap.size) :
    Calls Tryz.prog 47 #[.slice none 0 0, triV t] w fun e w' =>
      ∃ v', e = .returned v' ∧ w'.ownsRow B 50 3 v' 1 (cellsOf [t]) ∧ Below w.heap.size w w' := by
  obtain ⟨i0, hi0, hz0, hz1, hz2⟩ := info_parts Ref.infoTri
  obtain ⟨Y1, k1⟩ : ∃ V : ByteArray, V = ⟨t.s.toArray⟩ := ⟨_, rfl⟩
  obtain ⟨Y2, k2⟩ : ∃ V : ByteArray, V = ⟨t.p.toArray⟩ := ⟨_, rfl⟩
  obtain ⟨Y3, k3⟩ : ∃ V : ByteArray, V = ⟨t.o.toArray⟩ := ⟨_, rfl⟩
  have HVy : (triV t) = .agg #[.string Y1, .string Y2, .string Y3] := by rw [k1, k2, k3]
  have HCy : Hid (cellsOf [t] = [.string Y1, .string Y2, .string Y3]) := by unfold Hid; rw [k1, k2, k3]; rfl
  have HM : Hid (KS w w.heap.size Y1 Y2 Y3 (w.alloc (.cells #[.string Y1, .string Y2, .string Y3] 50))) := KS.mk w Y1 Y2 Y3 _
  rw [HVy, HCy.out]
  clear k1 k2 k3 HVy HCy
  go_enter Tryz.func47, Tryz.ntmps47
  go_wp2_with fail
  go_loopw [5, 6] (fun t5 t6 wr => t5 = .int .i64 0 ∧ t6 = .int .i64 0 ∧ KS w w.heap.size Y1 Y2 Y3 wr) (fun t5 t6 wr => 0)
  case atStart => exact ⟨rfl, rfl, HM.out⟩
  case round =>
    obtain ⟨rfl, rfl, hrel⟩ := hrel
    have HK : Hid (KS w w.heap.size Y1 Y2 Y3 wr) := hrel
    clear hrel HM
    go_wp2_with fail
    go_quiet (fail)
    have HW : Hid (KS w w.heap.size Y1 Y2 Y3 (wr.drewN nq)) := HK.out.on (below_drewN (Below.refl _ _) nq)
    clear HK
    generalize wr.drewN nq = W at *
    have hbs : w.heap.size ≤ W.heap.size := HW.out.low.size
    have hK1 := HW.out
    obtain ⟨z0, z1, z2, z3⟩ := hK1
    have hnl := own_nil W W.heap.size 50
    have hoA := hnl.alloc (.cells #[.string Y1, .string Y2, .string Y3] 50)
    have hn2 := news_new W Y1 Y2 Y3 50
    have hb2' : W.heap.size ≤ (W.alloc (.cells #[.string Y1, .string Y2, .string Y3] 50)).heap.size := by simp
    go_wp2_with (first
      | (at_builtin; refine wpList_append_own_none (by rfl) _ _ _ (by rfl) W.heap.size 50 i0 3 Tryz.underlying22 hi0 (.slice none 0 0) 0 [] (by rfl) hnl (by rfl) ?_)
      | (at_builtin; refine wpList_append_own_at _ (by rfl) _ _ _ (by rfl) W.heap.size 50 i0 _ 3 48 Tryz.underlying22 hi0 hz0 hz1 hz2 rfl (by omega) (.slice none 0 0) 0 [] (by rfl) hoA ⟨W.heap.size, 0, none⟩ 1 1 [.string Y1, .string Y2, .string Y3] (by rfl) (by rfl) hn2 (by simp [Value.oneCell']) (by unfold maxLen; omega) (by omega) hb2' ?_; intro v2 w2 ho2 hg2 hi2 hb2; have HB2 : Hid (Below W.heap.size W w2) := (Below.grown ((Below.refl _ W).alloc (Nat.le_refl _) _) hg2 (by simp) (fun k hk => by simp [Value.ownBlock] at hk)); have HO2 : Hid (w2.ownsRow W.heap.size 50 3 v2 (0 + 1) ([] ++ [.string Y1, .string Y2, .string Y3])) := ho2; have ho2' := HO2.out; clear ho2 hg2 hi2 hb2 hoA hn2 z0 z1 z2 z3 hnl)
      | (at_builtin; refine wpList_append_own_none (by rfl) _ _ _ (by rfl) W.heap.size 50 i0 3 Tryz.underlying22 hi0 v2 (0 + 1) ([] ++ [.string Y1, .string Y2, .string Y3]) (by rfl) ho2' (by rfl) ?_))
    go_ret
    exact ⟨_, rfl, own_mono HO2.out (by omega), HW.out.low.trans (HB2.out.mono hbs)⟩

theorem Ref.add_all (w : World) (B : Nat) (v : Value) (l : List Tri) (t : Tri) (hr : Rising l) (ho : w.ownsRow B 50 3 v l.length (cellsOf l)) (hB : B ≤ w.heap.size) (hn : l.length ≤ 1000) :
    Calls Tryz.prog 47 #[v, triV t] w fun e w' =>
      ∃ v', e = .returned v' ∧ w'.ownsRow B 50 3 v' (addL l t).length (cellsOf (addL l t)) ∧ Below w.heap.size w w' := by
  rcases ho.2 with ⟨rfl, h0⟩ | ⟨g, cap, cur, rfl, hg, hh, _⟩
  · obtain rfl := List.length_eq_zero_iff.1 h0
    exact Ref.add_nil w B t hB
  · exact Ref.add_any w B g cap l t hr ho hB (Array.getElem?_eq_some_iff.1 hh).1 hn

theorem addL_rising {l : List Tri} {t : Tri} (hr : Rising l) : Rising (addL l t) := by
  unfold addL
  split
  · exact hr
  · rename_i h
    exact ins_rising hr (fun x => h (thereB_iff.2 x))
theorem addL_len (l : List Tri) (t : Tri) : (addL l t).length ≤ l.length + 1 ∧ l.length ≤ (addL l t).length := by
  unfold addL
  split
  · omega
  · rw [ins_len]; omega

/-- a step of the fold -/
theorem rise_step {set : List Tri} {t : Tri} {r : List Tri} (h : set.length ≤ 300) : rise set (t :: r) = if (addL set t).length ≤ 300 then rise (addL set t) r else none := by
  rw [rise]
  unfold addL
  by_cases ht : thereB set t = true
  · rw [if_pos ht, if_pos ht, if_pos h]
  · rw [if_neg ht, if_neg ht, ins_len]
    by_cases h3 : set.length = 300
    · rw [if_pos h3, if_neg (by omega)]
    · rw [if_neg h3, if_pos (by omega)]

theorem own_form {w : World} {base : Nat} {e : TypeId} {v : Value} {n : Nat} {xs : List Value} (h : w.ownsRow base e 3 v n xs) : ∃ o cap, v = .slice o n cap := by
  rcases h.2 with ⟨hv, rfl⟩ | ⟨g, cap, cur, hv, _⟩
  · exact ⟨none, 0, hv⟩
  · exact ⟨_, cap, hv⟩

/-- what the set of what was read ends in -/
def RisV (w : World) (B : Nat) (T : TypeId) (r : Option (List Tri)) (many : Int) (e : Ending) (w' : World) : Prop := match r with
  | some set => ∃ v', e = .returned (.tuple #[v', .int .i64 0, .int .i64 0]) ∧ w'.ownsRow B T 3 v' set.length (cellsOf set) ∧ Below w.heap.size w w'
  | none => e = .returned (.tuple #[.slice none 0 0, .int .i64 many, .int .i64 0]) ∧ Below w.heap.size w w'

end Go.Proofs.YtnffjoipinhojabGreatDoor

namespace Go.Proofs.YtnffjoipinhojabGreatDoor
open Go.RowKit
namespace Ref

/-- what reading lines ends in -/
def RdV (w : World) (T : TypeId) (s : ByteArray) (e : Ending) (w' : World) : Prop :=
  if 20000 < s.size then e = .returned (.tuple #[.slice none 0 0, .int .i64 1, .int .i64 0]) ∧ Below w.heap.size w w'
  else match linesR s 0 with
    | .bad n j => e = .returned (.tuple #[.slice none 0 0, .int .i64 n, .int .i64 j]) ∧ Below w.heap.size w w'
    | .ok ts _ => RisV w w.heap.size T (rise [] ts) 10 e w'

abbrev penL (w : World) (s : ByteArray) : World := w.alloc (.cells #[.string s, .int .i64 0, .int .i64 0, .int .i64 0] 148)

theorem fb_below {w w' : World} {s : ByteArray} (h : Fb (penL w s) w.heap.size w') : Below w.heap.size w w' :=
  ⟨h.os.1, h.os.2.1, h.os.2.2, by have := h.size; simp at this; omega, fun k hk => by rw [h.but k (by simp; omega) (by omega)]; exact Below.heap_alloc _ _ _ hk⟩

theorem risV_mono {w w1 w' : World} {T : TypeId} {r : Option (List Tri)} {m : Int} {e : Ending} (h : RisV w1 w1.heap.size T r m e w') (hb : Below w.heap.size w w1) : RisV w w.heap.size T r m e w' := by
  unfold RisV at h ⊢
  cases r with
  | none => exact ⟨h.1, hb.trans (h.2.mono hb.size)⟩
  | some set =>
    obtain ⟨v', h1, h2, h3⟩ := h
    exact ⟨v', h1, own_mono h2 hb.size, hb.trans (h3.mono hb.size)⟩

end Ref
end Go.Proofs.YtnffjoipinhojabGreatDoor

namespace Go.Proofs.YtnffjoipinhojabGreatDoor
open Go.RowKit Go.Extern.Stop Go.Stop Go.Extern

/-! closed facts on the entries for internal/reflectlite -/
theorem As.valueOf84 (t : Addr) (w : World) : (ReflectliteValue.unpack (.iface 96 (.pointer (some t)))).run Tryz.prog w
    = .ok (.agg #[.pointer (some ⟨8, 96, none⟩), .pointer (some ⟨w.heap.size, 0, none⟩), .int .u64 150]) (w.alloc (.cells #[.pointer (some t)] 96)) := by kernel_rfl
theorem As.type84 (a : Addr) (w : World) : (ReflectliteValue.methodAny (ReflectliteValue.valueError "reflectlite.Value.Type" 0) (fun t _ _ _ => ReflectliteType.toType t) #[.agg #[.pointer (some ⟨8, 96, none⟩), .pointer (some a), .int .u64 150]]).run Tryz.prog w
    = .ok (.iface 193 (.agg #[.pointer (some ⟨8, 96, none⟩)])) w := by kernel_rfl
theorem As.kind84 (w : World) : ((ReflectliteType.abiMethod fun t => (fun a : Nat => Value.int IntKind.u8 (a : Int)) <$> Rtype.kind t) #[.pointer (some ⟨8, 96, none⟩)]).run Tryz.prog w = .ok (.int .u8 22) w := by kernel_rfl
theorem As.kind82 (w : World) : ((ReflectliteType.abiMethod fun t => (fun a : Nat => Value.int IntKind.u8 (a : Int)) <$> Rtype.kind t) #[.pointer (some ⟨8, 94, none⟩)]).run Tryz.prog w = .ok (.int .u8 25) w := by kernel_rfl
theorem As.parts84 (a : Addr) (w : World) : (ReflectliteValue.parts (.agg #[.pointer (some ⟨8, 96, none⟩), .pointer (some a), .int .u64 150])).run Tryz.prog w = .ok (some (96, a, 150)) w := by kernel_rfl
theorem As.isNil84 (a p : Addr) (W : World) (ha : W.cell? a = some (.pointer (some p))) :
    (ReflectliteValue.method (ReflectliteValue.valueError "reflectlite.Value.IsNil" 0) ReflectliteValue.isNil #[.agg #[.pointer (some ⟨8, 96, none⟩), .pointer (some a), .int .u64 150]]).run Tryz.prog W = .ok (.bool false) W := by
  change Sem.run Tryz.prog (ReflectliteValue.parts (.agg #[.pointer (some ⟨8, 96, none⟩), .pointer (some a), .int .u64 150]) >>= _) W = _
  simp only [Sem.run_bind, As.parts84, Result.andThen]
  simp [ReflectliteValue.isNil, loadVar, isAgg, underlying, Tryz.underlying96, ha, Result.andThen]
theorem As.elem84 (w : World) : (ReflectliteType.method ReflectliteType.elem #[.agg #[.pointer (some ⟨8, 96, none⟩)]]).run Tryz.prog w = .ok (.iface 193 (.agg #[.pointer (some ⟨8, 94, none⟩)])) w := by kernel_rfl
theorem As.implements82 (w : World) : (ReflectliteType.relation "Implements" ReflectliteType.implements_ #[.agg #[.pointer (some ⟨8, 94, none⟩)], .iface 193 (.agg #[.pointer (some ⟨8, 52, none⟩)])]).run Tryz.prog w = .ok (.bool true) w := by kernel_rfl
theorem As.typeOf82 (v : Value) (w : World) : (ReflectliteType.typeOf #[.iface 94 v]).run Tryz.prog w = .ok (.iface 193 (.agg #[.pointer (some ⟨8, 94, none⟩)])) w := by kernel_rfl
theorem As.assignable82 (w : World) : (ReflectliteType.relation "AssignableTo" ReflectliteType.assignableTo #[.agg #[.pointer (some ⟨8, 94, none⟩)], .iface 193 (.agg #[.pointer (some ⟨8, 94, none⟩)])]).run Tryz.prog w = .ok (.bool true) w := by kernel_rfl
theorem As.valueOf82 (n : Int) (w : World) : (ReflectliteValue.unpack (.iface 94 (.agg #[.int .i64 n]))).run Tryz.prog w
    = .ok (.agg #[.pointer (some ⟨8, 94, none⟩), .pointer (some ⟨w.heap.size, 0, none⟩), .int .u64 153]) (w.alloc (.cells #[.int .i64 n] 94)) := by kernel_rfl
theorem As.elemOf84 (w : World) : (Rtype.elem? 96).run Tryz.prog w = .ok (some 94) w := by kernel_rfl
theorem As.mk82 (p : Addr) (w : World) : (ReflectliteValue.mk 94 p ReflectliteValue.flagAddr).run Tryz.prog w = .ok (.agg #[.pointer (some ⟨8, 94, none⟩), .pointer (some p), .int .u64 409]) w := by kernel_rfl
theorem As.elemV84 (a p : Addr) (W : World) (ha : W.cell? a = some (.pointer (some p))) :
    (ReflectliteValue.method (ReflectliteValue.valueError "reflectlite.Value.Elem" 0) ReflectliteValue.elem #[.agg #[.pointer (some ⟨8, 96, none⟩), .pointer (some a), .int .u64 150]]).run Tryz.prog W
      = .ok (.agg #[.pointer (some ⟨8, 94, none⟩), .pointer (some p), .int .u64 409]) W := by
  change Sem.run Tryz.prog (ReflectliteValue.parts (.agg #[.pointer (some ⟨8, 96, none⟩), .pointer (some a), .int .u64 150]) >>= _) W = _
  simp only [Sem.run_bind, As.parts84, Result.andThen]
  simp [ReflectliteValue.elem, loadVar, isAgg, underlying, Tryz.underlying96, ha, Result.andThen, As.elemOf84, As.mk82]
theorem As.parts82a (a : Addr) (w : World) : (ReflectliteValue.parts (.agg #[.pointer (some ⟨8, 94, none⟩), .pointer (some a), .int .u64 409])).run Tryz.prog w = .ok (some (94, a, 409)) w := by kernel_rfl
theorem As.parts82 (a : Addr) (w : World) : (ReflectliteValue.parts (.agg #[.pointer (some ⟨8, 94, none⟩), .pointer (some a), .int .u64 153])).run Tryz.prog w = .ok (some (94, a, 153)) w := by kernel_rfl
theorem As.direct82 (w : World) : (Rtype.directlyAssignable 94 94).run Tryz.prog w = .ok true w := by kernel_rfl
theorem As.info82 : (Tryz.prog.info? 94).map (fun i => i.size) = some 1 := by kernel_rfl
theorem As.load82 (b : Addr) (n : Int) (W : World) (hb : W.cell? b = some (.int .i64 n)) : (loadVar 94 b).run Tryz.prog W = .ok (.agg #[.int .i64 n]) W := by
  have hi := As.info82
  cases h : Tryz.prog.info? 94 with
  | none => rw [h] at hi; cases hi
  | some i =>
    rw [h] at hi
    have hs : i.size = 1 := by simpa using hi
    have hl := run_loadCells_list (P := Tryz.prog) W b [.int .i64 n] (fun j v hj => by
      match j, hj with
      | 0, hj => simp at hj; subst hj; rw [← hb]; congr 1)
    simp only [List.length_cons, List.length_nil, Nat.zero_add] at hl
    simp [loadVar, isAgg, underlying, Tryz.underlying94, Result.andThen, sizeOf, typeInfo, h, hs, hl]
theorem As.set82 (ta b : Addr) (n : Int) (old : Value) (W : World) (hb : W.cell? b = some (.int .i64 n)) (ht : W.cell? ta = some old) (hf : W.frozen? ta = false) :
    (ReflectliteValue.set #[.agg #[.pointer (some ⟨8, 94, none⟩), .pointer (some ta), .int .u64 409], .agg #[.pointer (some ⟨8, 94, none⟩), .pointer (some b), .int .u64 153]]).run Tryz.prog W
      = .ok (.tuple #[]) (W.setCell ta (.int .i64 n)) := by
  change Sem.run Tryz.prog (ReflectliteValue.parts (.agg #[.pointer (some ⟨8, 94, none⟩), .pointer (some ta), .int .u64 409]) >>= fun _ => ReflectliteValue.parts (.agg #[.pointer (some ⟨8, 94, none⟩), .pointer (some b), .int .u64 153]) >>= _) W = _
  simp only [Sem.run_bind, As.parts82a, As.parts82, Result.andThen]
  simp [ReflectliteValue.flagAddr, As.load82 b n W hb, Result.andThen, As.direct82, storeVar, Value.cells, storeCells, Addr.add]
  rw [run_store Tryz.prog W ta _ _ (by rfl)]
  simp [ht, hf]
theorem As.mKind (h : Value) (w : World) : (Go.method 427 193 (.agg #[h]) "Kind").run Tryz.prog w = .ok (265, h) w := by kernel_rfl
theorem As.mElem (h : Value) (w : World) : (Go.method 427 193 (.agg #[h]) "Elem").run Tryz.prog w = .ok (279, .agg #[h]) w := by kernel_rfl
theorem As.mImplements (h : Value) (w : World) : (Go.method 427 193 (.agg #[h]) "Implements").run Tryz.prog w = .ok (280, .agg #[h]) w := by kernel_rfl
theorem As.mAssignableTo (h : Value) (w : World) : (Go.method 427 193 (.agg #[h]) "AssignableTo").run Tryz.prog w = .ok (277, .agg #[h]) w := by kernel_rfl

set_option maxHeartbeats 4000000 in
set_option maxRecDepth 20000 in
/-- errors.As of a refusal, the target a variable of that type: true, and the variable is set. -/
theorem as_hit (n : Int) (t : Addr) (old : Value) (w : World) (hg : w.cell? ⟨0, 0, none⟩ = some (.iface 193 (.agg #[.pointer (some ⟨8, 52, none⟩)]))) (ht0 : w.cell? t = some old) (hf0 : w.frozen? t = false) :
    Calls Tryz.prog 42 #[.iface 94 (.agg #[.int .i64 n]), .iface 96 (.pointer (some t))] w fun ev w' => ev = .returned (.bool true) ∧ w' = ((((w.alloc (.cells #[.pointer (some t)] 96)).alloc (.cells #[.pointer (some ⟨8, 96, none⟩), .pointer (some ⟨w.heap.size, 0, none⟩), .int .u64 150] 134)).alloc (.cells #[.pointer (some ⟨8, 96, none⟩), .pointer (some ⟨w.heap.size, 0, none⟩), .int .u64 150] 134)).alloc (.cells #[.int .i64 n] 94)).setCell t (.int .i64 n) := by
  have h47 := @run_callFunc_extern Tryz.prog 76 _ (fun args => ReflectliteValue.unpack (args.getD 0 (.tuple #[]))) Tryz.func76 (by kernel_rfl) (by kernel_rfl) (by kernel_rfl) (by kernel_rfl)
  have h48 := @run_callFunc_extern Tryz.prog 77 _ (ReflectliteValue.methodAny (ReflectliteValue.valueError "reflectlite.Value.Type" 0) (fun t _ _ _ => ReflectliteType.toType t)) Tryz.func77 (by kernel_rfl) (by kernel_rfl) (by kernel_rfl) (by kernel_rfl)
  have h49 := @run_callFunc_extern Tryz.prog 78 _ (ReflectliteValue.method (ReflectliteValue.valueError "reflectlite.Value.IsNil" 0) ReflectliteValue.isNil) Tryz.func78 (by kernel_rfl) (by kernel_rfl) (by kernel_rfl) (by kernel_rfl)
  have h68 := @run_callFunc_extern Tryz.prog 265 _ (ReflectliteType.abiMethod fun t => do pure (.int .u8 (← Rtype.kind t))) Tryz.func265 (by kernel_rfl) (by kernel_rfl) (by kernel_rfl) (by kernel_rfl)
  have h80 := @run_callFunc_extern Tryz.prog 279 _ (ReflectliteType.method ReflectliteType.elem) Tryz.func279 (by kernel_rfl) (by kernel_rfl) (by kernel_rfl) (by kernel_rfl)
  have h81 := @run_callFunc_extern Tryz.prog 280 _ (ReflectliteType.relation "Implements" ReflectliteType.implements_) Tryz.func280 (by kernel_rfl) (by kernel_rfl) (by kernel_rfl) (by kernel_rfl)
  have h51 := @run_callFunc_extern Tryz.prog 133 _ ReflectliteType.typeOf Tryz.func133 (by kernel_rfl) (by kernel_rfl) (by kernel_rfl) (by kernel_rfl)
  have h78 := @run_callFunc_extern Tryz.prog 277 _ (ReflectliteType.relation "AssignableTo" ReflectliteType.assignableTo) Tryz.func277 (by kernel_rfl) (by kernel_rfl) (by kernel_rfl) (by kernel_rfl)
  have h52 := @run_callFunc_extern Tryz.prog 134 _ (ReflectliteValue.method (ReflectliteValue.valueError "reflectlite.Value.Elem" 0) ReflectliteValue.elem) Tryz.func134 (by kernel_rfl) (by kernel_rfl) (by kernel_rfl) (by kernel_rfl)
  have h53 := @run_callFunc_extern Tryz.prog 135 _ ReflectliteValue.set Tryz.func135 (by kernel_rfl) (by kernel_rfl) (by kernel_rfl) (by kernel_rfl)
  have tO := As.typeOf82
  have mA := As.mAssignableTo
  have a82 := As.assignable82
  have v82 := As.valueOf82
  have f6 := As.valueOf84
  have f7 := As.type84
  have mK := As.mKind
  have mE := As.mElem
  have mI := As.mImplements
  have k84 := As.kind84
  have k82 := As.kind82
  have e84 := As.elem84
  have i82 := As.implements82
  have n8 := As.isNil84 ⟨w.heap.size, 0, none⟩ t ((w.alloc (.cells #[.pointer (some t)] 96)).alloc (.cells #[.pointer (some ⟨8, 96, none⟩), .pointer (some ⟨w.heap.size, 0, none⟩), .int .u64 150] 134)) (by simp)
  have hlt : 0 < w.heap.size := by
    rcases Nat.eq_zero_or_pos w.heap.size with h0 | h
    · simp [World.cell?, h0] at hg
    · exact h
  have hg2 : ((w.alloc (.cells #[.pointer (some t)] 96)).alloc (.cells #[.pointer (some ⟨8, 96, none⟩), .pointer (some ⟨w.heap.size, 0, none⟩), .int .u64 150] 134)).cell? ⟨0, 0, none⟩ = some (.iface 193 (.agg #[.pointer (some ⟨8, 52, none⟩)])) := by
    rw [World.cell?_alloc_lt _ _ ⟨0, 0, none⟩ (by simp), World.cell?_alloc_lt _ _ ⟨0, 0, none⟩ hlt]; exact hg
  have htl : t.block < w.heap.size := by
    rcases Nat.lt_or_ge t.block w.heap.size with h | h
    · exact h
    · simp [World.cell?, Array.getElem?_eq_none h] at ht0
  have el := As.elemV84 ⟨w.heap.size, 0, none⟩ t (((w.alloc (.cells #[.pointer (some t)] 96)).alloc (.cells #[.pointer (some ⟨8, 96, none⟩), .pointer (some ⟨w.heap.size, 0, none⟩), .int .u64 150] 134)).alloc (.cells #[.pointer (some ⟨8, 96, none⟩), .pointer (some ⟨w.heap.size, 0, none⟩), .int .u64 150] 134)) (by rw [World.cell?_alloc_lt _ _ ⟨w.heap.size, 0, none⟩ (by simp; omega)]; simp)
  have st := As.set82 t ⟨w.heap.size + 1 + 1 + 1, 0, none⟩ n old ((((w.alloc (.cells #[.pointer (some t)] 96)).alloc (.cells #[.pointer (some ⟨8, 96, none⟩), .pointer (some ⟨w.heap.size, 0, none⟩), .int .u64 150] 134)).alloc (.cells #[.pointer (some ⟨8, 96, none⟩), .pointer (some ⟨w.heap.size, 0, none⟩), .int .u64 150] 134)).alloc (.cells #[.int .i64 n] 94))
    (by rw [World.cell?_alloc_at _ _ _ _ (by simp)]; rfl)
    (by rw [World.cell?_alloc_lt _ _ t (by simp; omega), World.cell?_alloc_lt _ _ t (by simp; omega), World.cell?_alloc_lt _ _ t (by simp; omega), World.cell?_alloc_lt _ _ t htl]; exact ht0)
    (by rw [World.frozen?_alloc_old _ _ t (by simp; omega), World.frozen?_alloc_old _ _ t (by simp; omega), World.frozen?_alloc_old _ _ t (by simp; omega), World.frozen?_alloc_old _ _ t (Nat.ne_of_lt htl)]; exact hf0)
  go_enter Tryz.func42, Tryz.ntmps42
  go_wp2
  refine wp_loop_rounds 1 ?_
  rw [rounds_succ]
  go_wp2
  go_ret
  exact ⟨rfl, rfl⟩
theorem As.valueOf89 (t : Addr) (w : World) : (ReflectliteValue.unpack (.iface 99 (.pointer (some t)))).run Tryz.prog w
    = .ok (.agg #[.pointer (some ⟨8, 99, none⟩), .pointer (some ⟨w.heap.size, 0, none⟩), .int .u64 150]) (w.alloc (.cells #[.pointer (some t)] 99)) := by kernel_rfl
theorem As.type89 (a : Addr) (w : World) : (ReflectliteValue.methodAny (ReflectliteValue.valueError "reflectlite.Value.Type" 0) (fun t _ _ _ => ReflectliteType.toType t) #[.agg #[.pointer (some ⟨8, 99, none⟩), .pointer (some a), .int .u64 150]]).run Tryz.prog w
    = .ok (.iface 193 (.agg #[.pointer (some ⟨8, 99, none⟩)])) w := by kernel_rfl
theorem As.kind89 (w : World) : ((ReflectliteType.abiMethod fun t => (fun a : Nat => Value.int IntKind.u8 (a : Int)) <$> Rtype.kind t) #[.pointer (some ⟨8, 99, none⟩)]).run Tryz.prog w = .ok (.int .u8 22) w := by kernel_rfl
theorem As.kind88 (w : World) : ((ReflectliteType.abiMethod fun t => (fun a : Nat => Value.int IntKind.u8 (a : Int)) <$> Rtype.kind t) #[.pointer (some ⟨8, 98, none⟩)]).run Tryz.prog w = .ok (.int .u8 25) w := by kernel_rfl
theorem As.parts89 (a : Addr) (w : World) : (ReflectliteValue.parts (.agg #[.pointer (some ⟨8, 99, none⟩), .pointer (some a), .int .u64 150])).run Tryz.prog w = .ok (some (99, a, 150)) w := by kernel_rfl
theorem As.isNil89 (a p : Addr) (W : World) (ha : W.cell? a = some (.pointer (some p))) :
    (ReflectliteValue.method (ReflectliteValue.valueError "reflectlite.Value.IsNil" 0) ReflectliteValue.isNil #[.agg #[.pointer (some ⟨8, 99, none⟩), .pointer (some a), .int .u64 150]]).run Tryz.prog W = .ok (.bool false) W := by
  change Sem.run Tryz.prog (ReflectliteValue.parts (.agg #[.pointer (some ⟨8, 99, none⟩), .pointer (some a), .int .u64 150]) >>= _) W = _
  simp only [Sem.run_bind, As.parts89, Result.andThen]
  simp [ReflectliteValue.isNil, loadVar, isAgg, underlying, Tryz.underlying99, ha, Result.andThen]
theorem As.elem89 (w : World) : (ReflectliteType.method ReflectliteType.elem #[.agg #[.pointer (some ⟨8, 99, none⟩)]]).run Tryz.prog w = .ok (.iface 193 (.agg #[.pointer (some ⟨8, 98, none⟩)])) w := by kernel_rfl
theorem As.implements88 (w : World) : (ReflectliteType.relation "Implements" ReflectliteType.implements_ #[.agg #[.pointer (some ⟨8, 98, none⟩)], .iface 193 (.agg #[.pointer (some ⟨8, 52, none⟩)])]).run Tryz.prog w = .ok (.bool true) w := by kernel_rfl
theorem As.typeOf88 (v : Value) (w : World) : (ReflectliteType.typeOf #[.iface 98 v]).run Tryz.prog w = .ok (.iface 193 (.agg #[.pointer (some ⟨8, 98, none⟩)])) w := by kernel_rfl
theorem As.assignable88 (w : World) : (ReflectliteType.relation "AssignableTo" ReflectliteType.assignableTo #[.agg #[.pointer (some ⟨8, 98, none⟩)], .iface 193 (.agg #[.pointer (some ⟨8, 98, none⟩)])]).run Tryz.prog w = .ok (.bool true) w := by kernel_rfl
theorem As.assignable8882 (w : World) : (ReflectliteType.relation "AssignableTo" ReflectliteType.assignableTo #[.agg #[.pointer (some ⟨8, 98, none⟩)], .iface 193 (.agg #[.pointer (some ⟨8, 94, none⟩)])]).run Tryz.prog w = .ok (.bool false) w := by kernel_rfl
theorem As.assignable8288 (w : World) : (ReflectliteType.relation "AssignableTo" ReflectliteType.assignableTo #[.agg #[.pointer (some ⟨8, 94, none⟩)], .iface 193 (.agg #[.pointer (some ⟨8, 98, none⟩)])]).run Tryz.prog w = .ok (.bool false) w := by kernel_rfl
theorem As.valueOf88 (i n : Int) (w : World) : (ReflectliteValue.unpack (.iface 98 (.agg #[.int .i64 i, .iface 94 (.agg #[.int .i64 n])]))).run Tryz.prog w
    = .ok (.agg #[.pointer (some ⟨8, 98, none⟩), .pointer (some ⟨w.heap.size, 0, none⟩), .int .u64 153]) (w.alloc (.cells #[.int .i64 i, .iface 94 (.agg #[.int .i64 n])] 98)) := by kernel_rfl
theorem As.elemOf89 (w : World) : (Rtype.elem? 99).run Tryz.prog w = .ok (some 98) w := by kernel_rfl
theorem As.mk88 (p : Addr) (w : World) : (ReflectliteValue.mk 98 p ReflectliteValue.flagAddr).run Tryz.prog w = .ok (.agg #[.pointer (some ⟨8, 98, none⟩), .pointer (some p), .int .u64 409]) w := by kernel_rfl
theorem As.elemV89 (a p : Addr) (W : World) (ha : W.cell? a = some (.pointer (some p))) :
    (ReflectliteValue.method (ReflectliteValue.valueError "reflectlite.Value.Elem" 0) ReflectliteValue.elem #[.agg #[.pointer (some ⟨8, 99, none⟩), .pointer (some a), .int .u64 150]]).run Tryz.prog W
      = .ok (.agg #[.pointer (some ⟨8, 98, none⟩), .pointer (some p), .int .u64 409]) W := by
  change Sem.run Tryz.prog (ReflectliteValue.parts (.agg #[.pointer (some ⟨8, 99, none⟩), .pointer (some a), .int .u64 150]) >>= _) W = _
  simp only [Sem.run_bind, As.parts89, Result.andThen]
  simp [ReflectliteValue.elem, loadVar, isAgg, underlying, Tryz.underlying99, ha, Result.andThen, As.elemOf89, As.mk88]
theorem As.parts88a (a : Addr) (w : World) : (ReflectliteValue.parts (.agg #[.pointer (some ⟨8, 98, none⟩), .pointer (some a), .int .u64 409])).run Tryz.prog w = .ok (some (98, a, 409)) w := by kernel_rfl
theorem As.parts88 (a : Addr) (w : World) : (ReflectliteValue.parts (.agg #[.pointer (some ⟨8, 98, none⟩), .pointer (some a), .int .u64 153])).run Tryz.prog w = .ok (some (98, a, 153)) w := by kernel_rfl
theorem As.direct88 (w : World) : (Rtype.directlyAssignable 98 98).run Tryz.prog w = .ok true w := by kernel_rfl
theorem As.info88 : (Tryz.prog.info? 98).map (fun i => i.size) = some 2 := by kernel_rfl
theorem As.load88 (g : Nat) (x y : Value) (W : World) (hx : W.cell? ⟨g, 0, none⟩ = some x) (hy : W.cell? ⟨g, 1, none⟩ = some y) : (loadVar 98 ⟨g, 0, none⟩).run Tryz.prog W = .ok (.agg #[x, y]) W := by
  have hi := As.info88
  cases h : Tryz.prog.info? 98 with
  | none => rw [h] at hi; cases hi
  | some i =>
    rw [h] at hi
    have hs : i.size = 2 := by simpa using hi
    have hl := run_loadCells_list (P := Tryz.prog) W ⟨g, 0, none⟩ [x, y] (fun j v hj => by
      match j, hj with
      | 0, hj => simp at hj; subst hj; rw [← hx]; congr 1
      | 1, hj => simp at hj; subst hj; rw [← hy]; congr 1)
    simp only [List.length_cons, List.length_nil, Nat.zero_add] at hl
    simp [loadVar, isAgg, underlying, Tryz.underlying98, Result.andThen, sizeOf, typeInfo, h, hs, hl]
theorem As.set88 (h g : Nat) (x y o p : Value) (W : World) (hx : W.cell? ⟨g, 0, none⟩ = some x) (hy : W.cell? ⟨g, 1, none⟩ = some y) (ho : W.cell? ⟨h, 0, none⟩ = some o) (hp : W.cell? ⟨h, 1, none⟩ = some p) (f0 : W.frozen? ⟨h, 0, none⟩ = false) (f1 : W.frozen? ⟨h, 1, none⟩ = false)
    (x1 : x.oneCell' = true) (y1 : y.oneCell' = true) :
    (ReflectliteValue.set #[.agg #[.pointer (some ⟨8, 98, none⟩), .pointer (some ⟨h, 0, none⟩), .int .u64 409], .agg #[.pointer (some ⟨8, 98, none⟩), .pointer (some ⟨g, 0, none⟩), .int .u64 153]]).run Tryz.prog W
      = .ok (.tuple #[]) ((W.setCell ⟨h, 0, none⟩ x).setCell ⟨h, 1, none⟩ y) := by
  change Sem.run Tryz.prog (ReflectliteValue.parts (.agg #[.pointer (some ⟨8, 98, none⟩), .pointer (some ⟨h, 0, none⟩), .int .u64 409]) >>= fun _ => ReflectliteValue.parts (.agg #[.pointer (some ⟨8, 98, none⟩), .pointer (some ⟨g, 0, none⟩), .int .u64 153]) >>= _) W = _
  simp only [Sem.run_bind, As.parts88a, As.parts88, Result.andThen]
  simp [ReflectliteValue.flagAddr, As.load88 g x y W hx hy, Result.andThen, As.direct88, storeVar, Value.cells, storeCells, Addr.add]
  have hp' : (W.setCell ⟨h, 0, none⟩ x).cell? ⟨h, 1, none⟩ = some p := (World.cell?_setCell_other _ _ _ _ (by simp)).trans hp
  rw [run_store Tryz.prog W ⟨h, 0, none⟩ _ _ x1]
  simp [ho, f0]
  rw [run_store Tryz.prog (W.setCell ⟨h, 0, none⟩ x) ⟨h, 1, none⟩ _ _ y1, hp']
  simp [f1]
theorem As.assertAs82 (v : Value) (w : World) : (Instr.typeAssert (.iface 94 v) 52 198 true).run Tryz.prog w = .ok (.tuple #[.nilIface, .bool false]) w :=
  run_typeAssert_lacksB Tryz.underlying198 (by kernel_rfl) (by kernel_rfl) v 52 w
theorem As.assertUn82 (v : Value) (w : World) : (Instr.typeAssert (.iface 94 v) 52 201 true).run Tryz.prog w = .ok (.tuple #[.nilIface, .bool false]) w :=
  run_typeAssert_lacksB Tryz.underlying201 (by kernel_rfl) (by kernel_rfl) v 52 w
theorem As.assertUns82 (v : Value) (w : World) : (Instr.typeAssert (.iface 94 v) 52 203 true).run Tryz.prog w = .ok (.tuple #[.nilIface, .bool false]) w :=
  run_typeAssert_lacksB Tryz.underlying203 (by kernel_rfl) (by kernel_rfl) v 52 w
theorem As.assertAs88 (v : Value) (w : World) : (Instr.typeAssert (.iface 98 v) 52 198 true).run Tryz.prog w = .ok (.tuple #[.nilIface, .bool false]) w :=
  run_typeAssert_lacksB Tryz.underlying198 (by kernel_rfl) (by kernel_rfl) v 52 w
theorem As.assertUn88 (v : Value) (w : World) : (Instr.typeAssert (.iface 98 v) 52 201 true).run Tryz.prog w = .ok (.tuple #[.iface 98 v, .bool true]) w := by kernel_rfl
theorem As.mUnwrap (v : Value) (w : World) : (Go.method 427 98 v "Unwrap").run Tryz.prog w = .ok (271, v) w := by kernel_rfl

set_option maxHeartbeats 4000000 in
set_option maxRecDepth 20000 in
theorem as_place_miss (n : Int) (t : Addr) (w : World) (hg : w.cell? ⟨0, 0, none⟩ = some (.iface 193 (.agg #[.pointer (some ⟨8, 52, none⟩)]))) :
    Calls Tryz.prog 42 #[.iface 94 (.agg #[.int .i64 n]), .iface 99 (.pointer (some t))] w fun ev w' => ev = .returned (.bool false) ∧ Below w.heap.size w w' := by
  have h47 := @run_callFunc_extern Tryz.prog 76 _ (fun args => ReflectliteValue.unpack (args.getD 0 (.tuple #[]))) Tryz.func76 (by kernel_rfl) (by kernel_rfl) (by kernel_rfl) (by kernel_rfl)
  have h48 := @run_callFunc_extern Tryz.prog 77 _ (ReflectliteValue.methodAny (ReflectliteValue.valueError "reflectlite.Value.Type" 0) (fun t _ _ _ => ReflectliteType.toType t)) Tryz.func77 (by kernel_rfl) (by kernel_rfl) (by kernel_rfl) (by kernel_rfl)
  have h49 := @run_callFunc_extern Tryz.prog 78 _ (ReflectliteValue.method (ReflectliteValue.valueError "reflectlite.Value.IsNil" 0) ReflectliteValue.isNil) Tryz.func78 (by kernel_rfl) (by kernel_rfl) (by kernel_rfl) (by kernel_rfl)
  have h68 := @run_callFunc_extern Tryz.prog 265 _ (ReflectliteType.abiMethod fun t => do pure (.int .u8 (← Rtype.kind t))) Tryz.func265 (by kernel_rfl) (by kernel_rfl) (by kernel_rfl) (by kernel_rfl)
  have h80 := @run_callFunc_extern Tryz.prog 279 _ (ReflectliteType.method ReflectliteType.elem) Tryz.func279 (by kernel_rfl) (by kernel_rfl) (by kernel_rfl) (by kernel_rfl)
  have h81 := @run_callFunc_extern Tryz.prog 280 _ (ReflectliteType.relation "Implements" ReflectliteType.implements_) Tryz.func280 (by kernel_rfl) (by kernel_rfl) (by kernel_rfl) (by kernel_rfl)
  have h51 := @run_callFunc_extern Tryz.prog 133 _ ReflectliteType.typeOf Tryz.func133 (by kernel_rfl) (by kernel_rfl) (by kernel_rfl) (by kernel_rfl)
  have h78 := @run_callFunc_extern Tryz.prog 277 _ (ReflectliteType.relation "AssignableTo" ReflectliteType.assignableTo) Tryz.func277 (by kernel_rfl) (by kernel_rfl) (by kernel_rfl) (by kernel_rfl)
  have h52 := @run_callFunc_extern Tryz.prog 134 _ (ReflectliteValue.method (ReflectliteValue.valueError "reflectlite.Value.Elem" 0) ReflectliteValue.elem) Tryz.func134 (by kernel_rfl) (by kernel_rfl) (by kernel_rfl) (by kernel_rfl)
  have h53 := @run_callFunc_extern Tryz.prog 135 _ ReflectliteValue.set Tryz.func135 (by kernel_rfl) (by kernel_rfl) (by kernel_rfl) (by kernel_rfl)
  have tO := As.typeOf82
  have a82 := As.assignable8288
  have t1 := As.assertAs82
  have t2 := As.assertUn82
  have t3 := As.assertUns82
  have f6 := As.valueOf89
  have f7 := As.type89
  have mA := As.mAssignableTo
  have mK := As.mKind
  have mE := As.mElem
  have mI := As.mImplements
  have k89 := As.kind89
  have k88 := As.kind88
  have e89 := As.elem89
  have i88 := As.implements88
  have n8 := As.isNil89 ⟨w.heap.size, 0, none⟩ t ((w.alloc (.cells #[.pointer (some t)] 99)).alloc (.cells #[.pointer (some ⟨8, 99, none⟩), .pointer (some ⟨w.heap.size, 0, none⟩), .int .u64 150] 134)) (by simp)
  have hlt : 0 < w.heap.size := by
    rcases Nat.eq_zero_or_pos w.heap.size with h0 | h
    · simp [World.cell?, h0] at hg
    · exact h
  have hg2 : ((w.alloc (.cells #[.pointer (some t)] 99)).alloc (.cells #[.pointer (some ⟨8, 99, none⟩), .pointer (some ⟨w.heap.size, 0, none⟩), .int .u64 150] 134)).cell? ⟨0, 0, none⟩ = some (.iface 193 (.agg #[.pointer (some ⟨8, 52, none⟩)])) := by
    rw [World.cell?_alloc_lt _ _ ⟨0, 0, none⟩ (by simp), World.cell?_alloc_lt _ _ ⟨0, 0, none⟩ hlt]; exact hg
  go_enter Tryz.func42, Tryz.ntmps42
  go_wp2
  refine wp_loop_rounds 1 ?_
  rw [rounds_succ]
  go_wp2
  go_ret
  exact ⟨rfl, (by repeat (first | exact Below.refl _ _ | refine Below.alloc ?_ (by simp; try omega) _ | refine Below.setCell ?_ (by simp; try omega) _ | apply Below.drew))⟩

set_option maxHeartbeats 4000000 in
set_option maxRecDepth 20000 in
/-- errors.As of a placed one, the target a variable of that type. -/
theorem as_place_hit (i n : Int) (h : Nat) (o p : Value) (w : World) (hg : w.cell? ⟨0, 0, none⟩ = some (.iface 193 (.agg #[.pointer (some ⟨8, 52, none⟩)]))) (ho : w.cell? ⟨h, 0, none⟩ = some o) (hp : w.cell? ⟨h, 1, none⟩ = some p) (f0 : w.frozen? ⟨h, 0, none⟩ = false) (f1 : w.frozen? ⟨h, 1, none⟩ = false) :
    Calls Tryz.prog 42 #[.iface 98 (.agg #[.int .i64 i, .iface 94 (.agg #[.int .i64 n])]), .iface 99 (.pointer (some ⟨h, 0, none⟩))] w fun ev w' => ev = .returned (.bool true) ∧ w' = (((((w.alloc (.cells #[.pointer (some ⟨h, 0, none⟩)] 99)).alloc (.cells #[.pointer (some ⟨8, 99, none⟩), .pointer (some ⟨w.heap.size, 0, none⟩), .int .u64 150] 134)).alloc (.cells #[.pointer (some ⟨8, 99, none⟩), .pointer (some ⟨w.heap.size, 0, none⟩), .int .u64 150] 134)).alloc (.cells #[.int .i64 i, .iface 94 (.agg #[.int .i64 n])] 98)).setCell ⟨h, 0, none⟩ (.int .i64 i)).setCell ⟨h, 1, none⟩ (.iface 94 (.agg #[.int .i64 n])) := by
  have h47 := @run_callFunc_extern Tryz.prog 76 _ (fun args => ReflectliteValue.unpack (args.getD 0 (.tuple #[]))) Tryz.func76 (by kernel_rfl) (by kernel_rfl) (by kernel_rfl) (by kernel_rfl)
  have h48 := @run_callFunc_extern Tryz.prog 77 _ (ReflectliteValue.methodAny (ReflectliteValue.valueError "reflectlite.Value.Type" 0) (fun t _ _ _ => ReflectliteType.toType t)) Tryz.func77 (by kernel_rfl) (by kernel_rfl) (by kernel_rfl) (by kernel_rfl)
  have h49 := @run_callFunc_extern Tryz.prog 78 _ (ReflectliteValue.method (ReflectliteValue.valueError "reflectlite.Value.IsNil" 0) ReflectliteValue.isNil) Tryz.func78 (by kernel_rfl) (by kernel_rfl) (by kernel_rfl) (by kernel_rfl)
  have h68 := @run_callFunc_extern Tryz.prog 265 _ (ReflectliteType.abiMethod fun t => do pure (.int .u8 (← Rtype.kind t))) Tryz.func265 (by kernel_rfl) (by kernel_rfl) (by kernel_rfl) (by kernel_rfl)
  have h80 := @run_callFunc_extern Tryz.prog 279 _ (ReflectliteType.method ReflectliteType.elem) Tryz.func279 (by kernel_rfl) (by kernel_rfl) (by kernel_rfl) (by kernel_rfl)
  have h81 := @run_callFunc_extern Tryz.prog 280 _ (ReflectliteType.relation "Implements" ReflectliteType.implements_) Tryz.func280 (by kernel_rfl) (by kernel_rfl) (by kernel_rfl) (by kernel_rfl)
  have h51 := @run_callFunc_extern Tryz.prog 133 _ ReflectliteType.typeOf Tryz.func133 (by kernel_rfl) (by kernel_rfl) (by kernel_rfl) (by kernel_rfl)
  have h78 := @run_callFunc_extern Tryz.prog 277 _ (ReflectliteType.relation "AssignableTo" ReflectliteType.assignableTo) Tryz.func277 (by kernel_rfl) (by kernel_rfl) (by kernel_rfl) (by kernel_rfl)
  have h52 := @run_callFunc_extern Tryz.prog 134 _ (ReflectliteValue.method (ReflectliteValue.valueError "reflectlite.Value.Elem" 0) ReflectliteValue.elem) Tryz.func134 (by kernel_rfl) (by kernel_rfl) (by kernel_rfl) (by kernel_rfl)
  have h53 := @run_callFunc_extern Tryz.prog 135 _ ReflectliteValue.set Tryz.func135 (by kernel_rfl) (by kernel_rfl) (by kernel_rfl) (by kernel_rfl)
  have tO := As.typeOf88
  have a88 := As.assignable88
  have v88 := As.valueOf88
  have f6 := As.valueOf89
  have f7 := As.type89
  have mA := As.mAssignableTo
  have mK := As.mKind
  have mE := As.mElem
  have mI := As.mImplements
  have k89 := As.kind89
  have k88 := As.kind88
  have e89 := As.elem89
  have i88 := As.implements88
  have n8 := As.isNil89 ⟨w.heap.size, 0, none⟩ ⟨h, 0, none⟩ ((w.alloc (.cells #[.pointer (some ⟨h, 0, none⟩)] 99)).alloc (.cells #[.pointer (some ⟨8, 99, none⟩), .pointer (some ⟨w.heap.size, 0, none⟩), .int .u64 150] 134)) (by simp)
  have hlt : 0 < w.heap.size := by
    rcases Nat.eq_zero_or_pos w.heap.size with h0 | h
    · simp [World.cell?, h0] at hg
    · exact h
  have hg2 : ((w.alloc (.cells #[.pointer (some ⟨h, 0, none⟩)] 99)).alloc (.cells #[.pointer (some ⟨8, 99, none⟩), .pointer (some ⟨w.heap.size, 0, none⟩), .int .u64 150] 134)).cell? ⟨0, 0, none⟩ = some (.iface 193 (.agg #[.pointer (some ⟨8, 52, none⟩)])) := by
    rw [World.cell?_alloc_lt _ _ ⟨0, 0, none⟩ (by simp), World.cell?_alloc_lt _ _ ⟨0, 0, none⟩ hlt]; exact hg
  have hhl : h < w.heap.size := World.block_lt_of_cell? w ⟨h, 0, none⟩ ho
  have el := As.elemV89 ⟨w.heap.size, 0, none⟩ ⟨h, 0, none⟩ (((w.alloc (.cells #[.pointer (some ⟨h, 0, none⟩)] 99)).alloc (.cells #[.pointer (some ⟨8, 99, none⟩), .pointer (some ⟨w.heap.size, 0, none⟩), .int .u64 150] 134)).alloc (.cells #[.pointer (some ⟨8, 99, none⟩), .pointer (some ⟨w.heap.size, 0, none⟩), .int .u64 150] 134)) (by rw [World.cell?_alloc_lt _ _ ⟨w.heap.size, 0, none⟩ (by simp; omega)]; simp)
  have old : ∀ k, ((((w.alloc (.cells #[.pointer (some ⟨h, 0, none⟩)] 99)).alloc (.cells #[.pointer (some ⟨8, 99, none⟩), .pointer (some ⟨w.heap.size, 0, none⟩), .int .u64 150] 134)).alloc (.cells #[.pointer (some ⟨8, 99, none⟩), .pointer (some ⟨w.heap.size, 0, none⟩), .int .u64 150] 134)).alloc (.cells #[.int .i64 i, .iface 94 (.agg #[.int .i64 n])] 98)).cell? ⟨h, k, none⟩ = w.cell? ⟨h, k, none⟩ := fun k => by
    rw [World.cell?_alloc_lt _ _ _ (by simp; omega), World.cell?_alloc_lt _ _ _ (by simp; omega), World.cell?_alloc_lt _ _ _ (by simp; omega), World.cell?_alloc_lt _ _ _ hhl]
  have oldf : ∀ k, ((((w.alloc (.cells #[.pointer (some ⟨h, 0, none⟩)] 99)).alloc (.cells #[.pointer (some ⟨8, 99, none⟩), .pointer (some ⟨w.heap.size, 0, none⟩), .int .u64 150] 134)).alloc (.cells #[.pointer (some ⟨8, 99, none⟩), .pointer (some ⟨w.heap.size, 0, none⟩), .int .u64 150] 134)).alloc (.cells #[.int .i64 i, .iface 94 (.agg #[.int .i64 n])] 98)).frozen? ⟨h, k, none⟩ = w.frozen? ⟨h, k, none⟩ := fun k => by
    rw [World.frozen?_alloc_old _ _ _ (by simp; omega), World.frozen?_alloc_old _ _ _ (by simp; omega), World.frozen?_alloc_old _ _ _ (by simp; omega), World.frozen?_alloc_old _ _ _ (Nat.ne_of_lt hhl)]
  have st := As.set88 h (w.heap.size + 1 + 1 + 1) (.int .i64 i) (.iface 94 (.agg #[.int .i64 n])) o p ((((w.alloc (.cells #[.pointer (some ⟨h, 0, none⟩)] 99)).alloc (.cells #[.pointer (some ⟨8, 99, none⟩), .pointer (some ⟨w.heap.size, 0, none⟩), .int .u64 150] 134)).alloc (.cells #[.pointer (some ⟨8, 99, none⟩), .pointer (some ⟨w.heap.size, 0, none⟩), .int .u64 150] 134)).alloc (.cells #[.int .i64 i, .iface 94 (.agg #[.int .i64 n])] 98))
    (by rw [World.cell?_alloc_at _ _ _ _ (by simp)]; rfl) (by rw [World.cell?_alloc_at _ _ _ _ (by simp)]; rfl)
    ((old 0).trans ho) ((old 1).trans hp) ((oldf 0).trans f0) ((oldf 1).trans f1) rfl rfl
  clear old oldf
  go_enter Tryz.func42, Tryz.ntmps42
  go_wp2
  refine wp_loop_rounds 1 ?_
  rw [rounds_succ]
  go_wp2
  go_ret
  exact ⟨rfl, rfl⟩

set_option maxHeartbeats 4000000 in
set_option maxRecDepth 20000 in
/-- errors.As of a placed refusal, the target a variable for a refusal. -/
theorem as_un (i n : Int) (t : Addr) (old : Value) (w : World) (hg : w.cell? ⟨0, 0, none⟩ = some (.iface 193 (.agg #[.pointer (some ⟨8, 52, none⟩)]))) (ht0 : w.cell? t = some old) (hf0 : w.frozen? t = false) :
    Calls Tryz.prog 42 #[.iface 98 (.agg #[.int .i64 i, .iface 94 (.agg #[.int .i64 n])]), .iface 96 (.pointer (some t))] w fun ev w' => ev = .returned (.bool true) ∧ w' = (((((w.alloc (.cells #[.pointer (some t)] 96)).alloc (.cells #[.pointer (some ⟨8, 96, none⟩), .pointer (some ⟨w.heap.size, 0, none⟩), .int .u64 150] 134)).alloc (.cells #[.pointer (some ⟨8, 96, none⟩), .pointer (some ⟨w.heap.size, 0, none⟩), .int .u64 150] 134)).alloc (.cells #[.int .i64 i, .iface 94 (.agg #[.int .i64 n])] 98)).alloc (.cells #[.int .i64 n] 94)).setCell t (.int .i64 n) := by
  have h47 := @run_callFunc_extern Tryz.prog 76 _ (fun args => ReflectliteValue.unpack (args.getD 0 (.tuple #[]))) Tryz.func76 (by kernel_rfl) (by kernel_rfl) (by kernel_rfl) (by kernel_rfl)
  have h48 := @run_callFunc_extern Tryz.prog 77 _ (ReflectliteValue.methodAny (ReflectliteValue.valueError "reflectlite.Value.Type" 0) (fun t _ _ _ => ReflectliteType.toType t)) Tryz.func77 (by kernel_rfl) (by kernel_rfl) (by kernel_rfl) (by kernel_rfl)
  have h49 := @run_callFunc_extern Tryz.prog 78 _ (ReflectliteValue.method (ReflectliteValue.valueError "reflectlite.Value.IsNil" 0) ReflectliteValue.isNil) Tryz.func78 (by kernel_rfl) (by kernel_rfl) (by kernel_rfl) (by kernel_rfl)
  have h68 := @run_callFunc_extern Tryz.prog 265 _ (ReflectliteType.abiMethod fun t => do pure (.int .u8 (← Rtype.kind t))) Tryz.func265 (by kernel_rfl) (by kernel_rfl) (by kernel_rfl) (by kernel_rfl)
  have h80 := @run_callFunc_extern Tryz.prog 279 _ (ReflectliteType.method ReflectliteType.elem) Tryz.func279 (by kernel_rfl) (by kernel_rfl) (by kernel_rfl) (by kernel_rfl)
  have h81 := @run_callFunc_extern Tryz.prog 280 _ (ReflectliteType.relation "Implements" ReflectliteType.implements_) Tryz.func280 (by kernel_rfl) (by kernel_rfl) (by kernel_rfl) (by kernel_rfl)
  have h51 := @run_callFunc_extern Tryz.prog 133 _ ReflectliteType.typeOf Tryz.func133 (by kernel_rfl) (by kernel_rfl) (by kernel_rfl) (by kernel_rfl)
  have h78 := @run_callFunc_extern Tryz.prog 277 _ (ReflectliteType.relation "AssignableTo" ReflectliteType.assignableTo) Tryz.func277 (by kernel_rfl) (by kernel_rfl) (by kernel_rfl) (by kernel_rfl)
  have h52 := @run_callFunc_extern Tryz.prog 134 _ (ReflectliteValue.method (ReflectliteValue.valueError "reflectlite.Value.Elem" 0) ReflectliteValue.elem) Tryz.func134 (by kernel_rfl) (by kernel_rfl) (by kernel_rfl) (by kernel_rfl)
  have h53 := @run_callFunc_extern Tryz.prog 135 _ ReflectliteValue.set Tryz.func135 (by kernel_rfl) (by kernel_rfl) (by kernel_rfl) (by kernel_rfl)
  have tO := As.typeOf82
  have tO8 := As.typeOf88
  have mA := As.mAssignableTo
  have a82 := As.assignable82
  have a88 := As.assignable8882
  have v82 := As.valueOf82
  have f6 := As.valueOf84
  have f7 := As.type84
  have mK := As.mKind
  have mE := As.mElem
  have mI := As.mImplements
  have mU := As.mUnwrap
  have k84 := As.kind84
  have k82 := As.kind82
  have e84 := As.elem84
  have i82 := As.implements82
  have t1 := As.assertAs88
  have t2 := As.assertUn88
  have n8 := As.isNil84 ⟨w.heap.size, 0, none⟩ t ((w.alloc (.cells #[.pointer (some t)] 96)).alloc (.cells #[.pointer (some ⟨8, 96, none⟩), .pointer (some ⟨w.heap.size, 0, none⟩), .int .u64 150] 134)) (by simp)
  have hlt : 0 < w.heap.size := by
    rcases Nat.eq_zero_or_pos w.heap.size with h0 | h
    · simp [World.cell?, h0] at hg
    · exact h
  have hg2 : ((w.alloc (.cells #[.pointer (some t)] 96)).alloc (.cells #[.pointer (some ⟨8, 96, none⟩), .pointer (some ⟨w.heap.size, 0, none⟩), .int .u64 150] 134)).cell? ⟨0, 0, none⟩ = some (.iface 193 (.agg #[.pointer (some ⟨8, 52, none⟩)])) := by
    rw [World.cell?_alloc_lt _ _ ⟨0, 0, none⟩ (by simp), World.cell?_alloc_lt _ _ ⟨0, 0, none⟩ hlt]; exact hg
  have htl : t.block < w.heap.size := World.block_lt_of_cell? w t ht0
  have el := As.elemV84 ⟨w.heap.size, 0, none⟩ t ((((w.alloc (.cells #[.pointer (some t)] 96)).alloc (.cells #[.pointer (some ⟨8, 96, none⟩), .pointer (some ⟨w.heap.size, 0, none⟩), .int .u64 150] 134)).alloc (.cells #[.pointer (some ⟨8, 96, none⟩), .pointer (some ⟨w.heap.size, 0, none⟩), .int .u64 150] 134)).alloc (.cells #[.int .i64 i, .iface 94 (.agg #[.int .i64 n])] 98)) (by rw [World.cell?_alloc_lt _ _ ⟨w.heap.size, 0, none⟩ (by simp; omega), World.cell?_alloc_lt _ _ ⟨w.heap.size, 0, none⟩ (by simp; omega)]; simp)
  have st := As.set82 t ⟨w.heap.size + 1 + 1 + 1 + 1, 0, none⟩ n old (((((w.alloc (.cells #[.pointer (some t)] 96)).alloc (.cells #[.pointer (some ⟨8, 96, none⟩), .pointer (some ⟨w.heap.size, 0, none⟩), .int .u64 150] 134)).alloc (.cells #[.pointer (some ⟨8, 96, none⟩), .pointer (some ⟨w.heap.size, 0, none⟩), .int .u64 150] 134)).alloc (.cells #[.int .i64 i, .iface 94 (.agg #[.int .i64 n])] 98)).alloc (.cells #[.int .i64 n] 94))
    (by rw [World.cell?_alloc_at _ _ _ _ (by simp)]; rfl)
    (by rw [World.cell?_alloc_lt _ _ t (by simp; omega), World.cell?_alloc_lt _ _ t (by simp; omega), World.cell?_alloc_lt _ _ t (by simp; omega), World.cell?_alloc_lt _ _ t (by simp; omega), World.cell?_alloc_lt _ _ t htl]; exact ht0)
    (by rw [World.frozen?_alloc_old _ _ t (by simp; omega), World.frozen?_alloc_old _ _ t (by simp; omega), World.frozen?_alloc_old _ _ t (by simp; omega), World.frozen?_alloc_old _ _ t (by simp; omega), World.frozen?_alloc_old _ _ t (Nat.ne_of_lt htl)]; exact hf0)
  go_enter Tryz.func42, Tryz.ntmps42
  go_wp2
  refine wp_loop_rounds 2 ?_
  rw [rounds_succ]
  go_wp2
  rw [rounds_succ]
  go_wp2
  go_ret
  exact ⟨rfl, rfl⟩
/-- The cell of errors.errorType. -/
def Handle (w : World) : Prop := w.cell? ⟨0, 0, none⟩ = some (.iface 193 (.agg #[.pointer (some ⟨8, 52, none⟩)]))
theorem Handle.pos {w : World} (hg : Handle w) : 0 < w.heap.size := by
  rcases Nat.eq_zero_or_pos w.heap.size with h0 | h
  · simp [Handle, World.cell?, h0] at hg
  · exact h
theorem Handle.below {w w' : World} (hg : Handle w) (hb : Below w.heap.size w w') : Handle w' := by
  have := hb.cell (p := ⟨0, 0, none⟩) hg.pos
  unfold Handle at hg ⊢
  rw [this, hg]

/-- fault.Number of a refusal -/
theorem number_any (n : Int) (w : World) (hg : Handle w) :
    Calls Tryz.prog 20 #[.iface 94 (.agg #[.int .i64 n])] w fun e w' => e = .returned (.int .i64 n) ∧ Below w.heap.size w w' := by
  have hlt := hg.pos
  have hgA : (w.alloc (.cells #[.int .i64 0] 94)).cell? ⟨0, 0, none⟩ = some (.iface 193 (.agg #[.pointer (some ⟨8, 52, none⟩)])) := by
    rw [World.cell?_alloc_lt _ _ ⟨0, 0, none⟩ hlt]; exact hg
  clear hg
  go_enter Tryz.func20, Tryz.ntmps20
  go_wp2_with fail
  refine (as_hit n _ (.int .i64 0) _ hgA (by simp) (by simp)).mono ?_
  rintro e w' ⟨rfl, rfl⟩
  go_wp2
  go_ret
  refine ⟨rfl, ?_⟩
  repeat (first | exact Below.refl _ _ | refine Below.alloc ?_ (by simp; try omega) _ | refine Below.setCell ?_ (by simp) _ | apply Below.drew)

/-- fault.Number of a refusal that was met at a place -/
theorem number_placed (i n : Int) (w : World) (hg : Handle w) :
    Calls Tryz.prog 20 #[.iface 98 (.agg #[.int .i64 i, .iface 94 (.agg #[.int .i64 n])])] w fun e w' => e = .returned (.int .i64 n) ∧ Below w.heap.size w w' := by
  have hlt := hg.pos
  have hgA : (w.alloc (.cells #[.int .i64 0] 94)).cell? ⟨0, 0, none⟩ = some (.iface 193 (.agg #[.pointer (some ⟨8, 52, none⟩)])) := by
    rw [World.cell?_alloc_lt _ _ ⟨0, 0, none⟩ hlt]; exact hg
  clear hg
  go_enter Tryz.func20, Tryz.ntmps20
  go_wp2_with fail
  refine (as_un i n _ (.int .i64 0) _ hgA (by simp) (by simp)).mono ?_
  rintro e w' ⟨rfl, rfl⟩
  go_wp2
  go_ret
  refine ⟨rfl, ?_⟩
  repeat (first | exact Below.refl _ _ | refine Below.alloc ?_ (by simp; try omega) _ | refine Below.setCell ?_ (by simp) _ | apply Below.drew)

/-- fault.Place of a refusal that was met at a place -/
theorem place_placed (i n : Int) (w : World) (hg : Handle w) :
    Calls Tryz.prog 21 #[.iface 98 (.agg #[.int .i64 i, .iface 94 (.agg #[.int .i64 n])])] w fun e w' => e = .returned (.int .i64 i) ∧ Below w.heap.size w w' := by
  have hlt := hg.pos
  have hgA : (w.alloc (.cells #[.int .i64 0, .nilIface] 98)).cell? ⟨0, 0, none⟩ = some (.iface 193 (.agg #[.pointer (some ⟨8, 52, none⟩)])) := by
    rw [World.cell?_alloc_lt _ _ ⟨0, 0, none⟩ hlt]; exact hg
  clear hg
  go_enter Tryz.func21, Tryz.ntmps21
  go_wp2_with fail
  refine (as_place_hit i n w.heap.size (.int .i64 0) .nilIface _ hgA (by simp) (by simp) (by simp) (by simp)).mono ?_
  rintro e w' ⟨rfl, rfl⟩
  go_wp2
  go_ret
  refine ⟨rfl, ?_⟩
  repeat (first | exact Below.refl _ _ | refine Below.alloc ?_ (by simp; try omega) _ | refine Below.setCell ?_ (by simp) _ | apply Below.drew)
end Go.Proofs.YtnffjoipinhojabGreatDoor

