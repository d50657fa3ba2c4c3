import Derived.Test.YtfapcangooodeabGreatDoorK44
import Derived.Deep.RegionLaw
import Derived.Deep.AppendLies
import Derived.Deep.RegionHeld3
set_option linter.unusedSimpArgs false
set_option linter.unusedVariables false
namespace Go.Proofs.YtfapcangooodeabGreatDoor
open Go.RowKit
namespace Tu

theorem numT (w : World) (n : Int) (h0 : 0 ≤ n) (h1 : n ≤ 100) : Calls Tryz.prog 11 #[.int .i64 n] w fun e w' => e = .returned (.int .i64 n) ∧ w' = w := by
  have hw : IntKind.i64.wrap n = n := by rw [IntKind.wrap_i64]; omega
  go_enter Tryz.func11, Tryz.ntmps11
  go_wp2
  go_ret
  exact ⟨rfl, rfl⟩

end Tu
end Go.Proofs.YtfapcangooodeabGreatDoor

set_option linter.unusedSimpArgs false
set_option linter.unusedVariables false
namespace Go.Proofs.YtfapcangooodeabGreatDoor
open Go.RowKit
namespace Tu

/-! The document's names as the program's. -/

def cellsN (ns : List Nam2) : List Value := ns.flatMap fun x => [str x.1, str x.2]
theorem cellsN_len (ns : List Nam2) : (cellsN ns).length = ns.length * 2 := by
  induction ns with
  | nil => rfl
  | cons x l ih => simp only [cellsN, List.flatMap_cons, List.length_append, List.length_cons, List.length_nil] at *; omega
theorem cellsN_app (ns ms : List Nam2) : cellsN (ns ++ ms) = cellsN ns ++ cellsN ms := by unfold cellsN; simp
theorem cellsN_at {l : List Nam2} {k : Nat} {x : Nam2} (h : l[k]? = some x) : (cellsN l)[k * 2]? = some (str x.1) ∧ (cellsN l)[k * 2 + 1]? = some (str x.2) := by
  induction l generalizing k with
  | nil => simp at h
  | cons y l ih =>
    have e : cellsN (y :: l) = str y.1 :: str y.2 :: cellsN l := rfl
    cases k with
    | zero => simp at h; subst h; rw [e]; exact ⟨rfl, rfl⟩
    | succ k =>
      have := ih (k := k) (by simpa using h)
      rw [e, show (k + 1) * 2 = k * 2 + 2 by omega, show k * 2 + 2 + 1 = (k * 2 + 1) + 2 by omega]
      exact this

/-- names that a caller hands in lie anywhere in their block -/
def LiesN (w : World) (g off : Nat) (l : List Nam2) : Prop := ∀ (k : Nat) (x : Nam2), l[k]? = some x → w.cell? ⟨g, off + k * 2, none⟩ = some (str x.1) ∧ w.cell? ⟨g, off + k * 2 + 1, none⟩ = some (str x.2)
theorem LiesN.below {w w' : World} {g off : Nat} {l : List Nam2} {B : Nat} (h : LiesN w g off l) (hg : g < B) (hb : Below B w w') : LiesN w' g off l := fun k x hk => by
  obtain ⟨h0, h1⟩ := h k x hk
  exact ⟨(hb.cell (p := ⟨g, _, none⟩) hg).trans h0, (hb.cell (p := ⟨g, _, none⟩) hg).trans h1⟩

theorem infoNam : (Tryz.prog.info? 35).map (fun i => (i.zero, i.size, i.bytes)) = some (some (.agg #[.string ⟨#[]⟩, .string ⟨#[]⟩]), 2, 32) := by kernel_rfl

theorem news2_drew (w : World) (a b : ByteArray) (T : TypeId) : ∀ (j : Nat) (u : Value), [Value.string a, .string b][j]? = some u → (w.alloc (.cells #[.string a, .string b] T)).drew.cell? ((⟨w.heap.size, 0, none⟩ : Addr).add j) = some u := by
  intro j u hj
  have hh : (w.alloc (.cells #[.string a, .string b] T)).drew.heap[w.heap.size]? = some (.cells #[.string a, .string b] T) := heap_new _ _
  rw [add_addr, Lib.cell_of_heap hh, Nat.zero_add]
  simpa using hj

theorem nam_grown {w wr w1 : World} {v : Value} {n : Nat} {xs : List Value} {o : Obj} (hb : Below w.heap.size w wr) (h : wr.ownsRow w.heap.size 35 2 v n xs) (hg : (wr.alloc o).drew.grownBy w1 v.ownBlock) : Below w.heap.size w w1 :=
  Below.grown (hb.alloc hb.size o).drew hg (by have := hb.size; simp; omega) (fun k hk => own_block h hk)

set_option maxHeartbeats 4000000 in
set_option maxRecDepth 20000 in
theorem names_at (w : World) (g off cap : Nat) (l : List Nam2) (hg : g < w.heap.size) (hL : LiesN w g off l) (hn : l.length ≤ 4398046511104) :
    Calls Tryz.prog 7 #[.slice (some ⟨g, off, none⟩) l.length cap] w fun e w' => ∃ v, e = .returned v ∧ w'.ownsRow w.heap.size 35 2 v l.length (cellsN l) ∧ Below w.heap.size w w' := by
  have HL : Hid (LiesN w g off l) := hL
  have HB0 : Hid (Below w.heap.size w w) := Below.refl _ w
  have HN0 : Hid (w.ownsRow w.heap.size 35 2 (.slice none 0 0) 0 []) := World.ownsRow_nil _ _ _ _
  obtain ⟨i0, hi0, hz0, hz1, hz2⟩ := info_parts infoNam
  clear hL
  go_enter Tryz.func7, Tryz.ntmps7
  go_wp2_with fail
  go_loopw [3, 4] (fun t3 t4 wr => ∃ (q : Nat) (o : Option Addr) (c : Nat), q ≤ l.length ∧ t4 = .int .i64 q ∧ t3 = .slice o q c ∧ wr.ownsRow w.heap.size 35 2 (.slice o q c) q (cellsN (l.take q)) ∧ Below w.heap.size w wr) (fun t3 t4 wr => l.length - (intOf t4).toNat)
  case atStart => exact ⟨0, none, 0, Nat.zero_le _, rfl, rfl, HN0.out, HB0.out⟩
  case round =>
    obtain ⟨q, o, c, hq, rfl, rfl, ho, hb⟩ := hrel
    have HO : Hid (wr.ownsRow w.heap.size 35 2 (.slice o q c) q (cellsN (l.take q))) := ho
    have HB : Hid (Below w.heap.size w wr) := hb
    clear ho hb
    by_cases hlt : q < l.length
    · obtain ⟨x, hx⟩ : ∃ x, l[q]? = some x := ⟨_, List.getElem?_eq_getElem hlt⟩
      obtain ⟨q0, q1⟩ := (HL.out.below hg HB.out) q x hx
      have hd : l.take (q + 1) = l.take q ++ [x] := by
        rw [List.take_add_one, hx]; rfl
      obtain ⟨Y1, k1⟩ : ∃ V : ByteArray, V = ⟨x.1.toArray⟩ := ⟨_, rfl⟩
      obtain ⟨Y2, k2⟩ : ∃ V : ByteArray, V = ⟨x.2.toArray⟩ := ⟨_, rfl⟩
      have HCy : Hid (cellsN (l.take (q + 1)) = cellsN (l.take q) ++ [.string Y1, .string Y2]) := by unfold Hid; rw [hd, cellsN_app, k1, k2]; rfl
      have q0' : wr.cell? ⟨g, off + q * 2, none⟩ = some (.string Y1) := by rw [k1]; exact q0
      have q1' : wr.cell? ⟨g, off + q * 2 + 1, none⟩ = some (.string Y2) := by rw [k2]; exact q1
      clear q0 q1 k1 k2 hd hx
      have hbs := HB.out.size
      go_wp2_with fail
      go_region_law (refine step_append_lies _ (by rfl) _ _ _ (by rfl) w.heap.size 35 i0 _ 2 32 Tryz.underlying26 hi0 hz0 hz1 hz2 rfl (by omega) (.slice o q c) q (cellsN (l.take q)) (by rfl) ((HO.out.alloc _).drew) ⟨wr.heap.size, 0, none⟩ 1 1 [.string Y1, .string Y2] (by rfl) (by rfl) (news2_drew _ _ _ _) (by simp [Value.oneCell']) (by omega) (by unfold maxLen; omega) (by omega) (by simp; omega) (wr.heap.size + 1) (by simp) ?_; intro g2 cap2 w1 hown1 hgrow hat hlt2)
      all_goals
        have HB3 : Hid (Below w.heap.size w w1) := nam_grown HB.out HO.out hgrow
        have HO3 : Hid (w1.ownsRow w.heap.size 35 2 (.slice (some ⟨g2, 0, none⟩) (q + 1) cap2) (q + 1) (cellsN (l.take (q + 1)))) := by
          unfold Hid
          rw [HCy.out]
          exact hown1
        clear hgrow hown1 hat hlt2 q0' q1'
        go_wp2
        go_roundw
        case rel => exact ⟨q + 1, some ⟨g2, 0, none⟩, cap2, by omega, by go_num, rfl, HO3.out, HB3.out⟩
        case measure => simp [intOf]; omega
    · obtain rfl : q = l.length := by omega
      rw [List.take_length] at HO
      go_wp2_with fail
      go_ret
      exact ⟨_, rfl, HO.out, HB.out⟩

set_option maxHeartbeats 4000000 in
set_option maxRecDepth 20000 in
theorem names_zero (w : World) (o : Option Addr) (c : Nat) : Calls Tryz.prog 7 #[.slice o 0 c] w fun e w' => ∃ v, e = .returned v ∧ w'.ownsRow w.heap.size 35 2 v ([] : List Nam2).length (cellsN []) ∧ Below w.heap.size w w' := by
  have HN0 : Hid (w.ownsRow w.heap.size 35 2 (.slice none 0 0) 0 []) := World.ownsRow_nil _ _ _ _
  go_enter Tryz.func7, Tryz.ntmps7
  go_wp2_with fail
  go_loopw [3, 4] (fun t3 t4 wr => t3 = .slice none 0 0 ∧ t4 = .int .i64 0 ∧ wr = w) (fun t3 t4 wr => 0)
  case atStart => exact ⟨rfl, rfl, rfl⟩
  case round =>
    obtain ⟨rfl, rfl, rfl⟩ := hrel
    go_wp2_with fail
    go_ret
    exact ⟨_, rfl, HN0.out, Below.refl _ _⟩

/-- what names yields, as the printer has it -/
theorem own_names {w : World} {bs : Nat} {v : Value} {ns : List Nam2} (h : w.ownsRow bs 35 2 v ns.length (cellsN ns)) : NmL w.heap.size v ns w := by
  rcases h.2 with ⟨rfl, hz⟩ | ⟨g, cap, cur, rfl, _, hgg, _⟩
  · exact .inl ⟨rfl, List.length_eq_zero_iff.1 hz⟩
  · refine .inr ⟨g, cap, rfl, (Array.getElem?_eq_some_iff.1 hgg).1, fun k x hk => ?_⟩
    have hl := (List.getElem?_eq_some_iff.1 hk).1
    obtain ⟨h1, h2⟩ := cellsN_at hk
    exact ⟨(h.cellAt _ (by omega)).trans h1, (h.cellAt _ (by omega)).trans h2⟩

end Tu
end Go.Proofs.YtfapcangooodeabGreatDoor

set_option linter.unusedSimpArgs false
set_option linter.unusedVariables false
namespace Go.Proofs.YtfapcangooodeabGreatDoor
open Go.RowKit
namespace Tu

/-! Names that may be printed. -/

def nameB (x : Nam2) : Bool := (x.1.isEmpty || isRowL x.1) && decide (kindOf ⟨x.2.toArray⟩ = 1)
def anyS (l : List Nam2) (t : List UInt8) : Bool := l.any fun x => x.1 == t

theorem kindOf_four (l : List UInt8) : kindOf ⟨l.toArray⟩ = 0 ∨ kindOf ⟨l.toArray⟩ = 1 ∨ kindOf ⟨l.toArray⟩ = 2 ∨ kindOf ⟨l.toArray⟩ = 3 := by
  by_cases h : kindOf (Back.arr l) = 0
  · exact .inl h
  · rcases kind_cases h with ⟨a, _⟩ | ⟨a, _⟩ | ⟨a, _⟩
    · exact .inr (.inl a)
    · exact .inr (.inr (.inl a))
    · exact .inr (.inr (.inr a))

set_option maxHeartbeats 4000000 in
set_option maxRecDepth 20000 in
theorem isName_any (w : World) (x : Nam2) (hT : Tabs w) (hG : 8 ≤ w.heap.size) :
    Calls Tryz.prog 38 #[.agg #[str x.1, str x.2]] w fun e w' => e = .returned (.bool (nameB x)) ∧ Below w.heap.size w w' := by
  obtain ⟨r, l⟩ := x
  have HR : Hid (∀ w1, Below w.heap.size w w1 → Calls Tryz.prog 69 #[str r] w1 fun e w' => e = .returned (.bool (isRowL r)) ∧ Below w1.heap.size w1 w') := fun w1 hb => isRow_any w1 r (hT.below hb (by omega) (by omega)) (Nat.le_trans hG hb.size)
  have HK : Hid (∀ w1, Below w.heap.size w w1 → Calls Tryz.prog 70 #[str l] w1 fun e w' => e = .returned (.int .i64 (kindOf ⟨l.toArray⟩)) ∧ Below w1.heap.size w1 w') := fun w1 hb => kind_any w1 ⟨l.toArray⟩ (hT.below hb (by omega) (by omega)) (Nat.le_trans hG hb.size)
  have h4 := kindOf_four l
  have hN : nameB (r, l) = ((r.isEmpty || isRowL r) && decide (kindOf ⟨l.toArray⟩ = 1)) := rfl
  rw [hN]
  generalize kindOf ⟨l.toArray⟩ = K at HK h4 ⊢
  obtain ⟨V, hV⟩ : ∃ V : ByteArray, V = ⟨r.toArray⟩ := ⟨_, rfl⟩
  have eV : str r = .string V := by rw [hV]
  have HBa : Hid (∀ o, Below w.heap.size w (w.alloc o)) := fun o => (Below.refl _ w).alloc (Nat.le_refl _) o
  by_cases h0 : r = []
  · have hv : V.toList.isEmpty = true := by rw [hV, str_toList, h0]; rfl
    have hre : (r.isEmpty || isRowL r) = true := by rw [h0]; rfl
    rw [hre]
    simp only
    rw [eV]
    clear hN hT hG HR hV eV hre h0
    rcases h4 with rfl | rfl | rfl | rfl
    all_goals
      go_enter Tryz.func38, Tryz.ntmps38
      go_wp2_with fail
      refine (HK.out _ (HBa.out _)).mono ?_
      rintro e w1 ⟨rfl, hb1⟩
      have HB1 : Hid (Below w.heap.size w w1) := (HBa.out _).trans (hb1.mono (HBa.out _).size)
      clear hb1
      go_wp2
      go_ret
      exact ⟨rfl, HB1.out⟩
  · have hv : V.toList.isEmpty = false := by
      rw [hV, str_toList]
      cases r with
      | nil => exact absurd rfl h0
      | cons c r => rfl
    have hre : r.isEmpty = false := by
      cases r with
      | nil => exact absurd rfl h0
      | cons c r => rfl
    rw [hre, Bool.false_or]
    rw [eV] at HR ⊢
    generalize isRowL r = B at HR ⊢
    clear hN hT hG hV eV hre h0
    cases B with
    | false =>
      go_enter Tryz.func38, Tryz.ntmps38
      go_wp2_with fail
      refine (HR.out _ (HBa.out _)).mono ?_
      rintro e w1 ⟨rfl, hb1⟩
      have HB1 : Hid (Below w.heap.size w w1) := (HBa.out _).trans (hb1.mono (HBa.out _).size)
      clear hb1
      go_wp2
      go_ret
      exact ⟨rfl, HB1.out⟩
    | true =>
      rcases h4 with rfl | rfl | rfl | rfl
      all_goals
        go_enter Tryz.func38, Tryz.ntmps38
        go_wp2_with fail
        refine (HR.out _ (HBa.out _)).mono ?_
        rintro e w1 ⟨rfl, hb1⟩
        have HB1 : Hid (Below w.heap.size w w1) := (HBa.out _).trans (hb1.mono (HBa.out _).size)
        have e2 : w1.cell? ⟨w.heap.size, 1, none⟩ = some (str l) := (hb1.cell (p := ⟨w.heap.size, 1, none⟩) (by simp)).trans (by rw [World.cell?_alloc_at _ _ _ _ (by simp)]; rfl)
        clear hb1
        go_wp2_with fail
        refine (HK.out _ HB1.out).mono ?_
        rintro e w2 ⟨rfl, hb2⟩
        have HB2 : Hid (Below w.heap.size w w2) := HB1.out.trans (hb2.mono HB1.out.size)
        clear hb2 e2
        go_wp2
        go_ret
        exact ⟨rfl, HB2.out⟩

set_option maxHeartbeats 4000000 in
set_option maxRecDepth 20000 in
/-- what hasShort asks of each name -/
theorem clo_short (w : World) (x : Nam2) (ks : Nat) (t : List UInt8) (hc : w.cell? ⟨ks, 0, none⟩ = some (str t)) :
    Calls Tryz.prog 72 #[.agg #[str x.1, str x.2], .pointer (some ⟨ks, 0, none⟩)] w fun e w' => e = .returned (.bool (x.1 == t)) ∧ Below w.heap.size w w' := by
  obtain ⟨V, hV⟩ : ∃ V : ByteArray, V = ⟨x.1.toArray⟩ := ⟨_, rfl⟩
  obtain ⟨S, hS⟩ : ∃ S : ByteArray, S = ⟨t.toArray⟩ := ⟨_, rfl⟩
  have eV : str x.1 = .string V := by rw [hV]
  have eS : str t = .string S := by rw [hS]
  have HEq : Hid ((V.toList == S.toList) = (x.1 == t)) := by unfold Hid; rw [hV, hS, str_toList, str_toList]
  have hlt : ks < w.heap.size := World.block_lt_of_cell? w ⟨ks, 0, none⟩ hc
  rw [eS] at hc
  have hc2 : ∀ o, (w.alloc o).cell? ⟨ks, 0, none⟩ = some (.string S) := fun o => (World.cell?_alloc_lt _ _ ⟨ks, 0, none⟩ hlt).trans hc
  have HBa : Hid (∀ o, Below w.heap.size w (w.alloc o)) := fun o => (Below.refl _ w).alloc (Nat.le_refl _) o
  rw [eV]
  clear eV eS hV hS hc
  go_enter Tryz.func72, Tryz.ntmps72
  go_wp2
  go_ret
  exact ⟨by rw [← HEq.out]; rfl, HBa.out _⟩

theorem anyS_step {l : List Nam2} {p : Nat} {x : Nam2} (h : l[p]? = some x) (t : List UInt8) : anyS (l.take (p + 1)) t = (anyS (l.take p) t || (x.1 == t)) := by
  unfold anyS
  rw [List.take_add_one, h]
  simp

set_option maxHeartbeats 4000000 in
set_option maxRecDepth 20000 in
theorem index_short (w : World) (g cap q ks : Nat) (ns : List Nam2) (t : List UInt8) (hq : q ≤ ns.length) (hg : g < w.heap.size) (hL : LiesN w g 0 ns) (hks : w.cell? ⟨ks, 0, none⟩ = some (str t)) (hn : ns.length ≤ 12) :
    Calls Tryz.prog 119 #[.slice (some ⟨g, 0, none⟩) q cap, .func (.func 72) #[] #[.pointer (some ⟨ks, 0, none⟩)]] w fun e w' => ((e = .returned (.int .i64 (-1)) ∧ anyS (ns.take q) t = false) ∨ ∃ p : Nat, e = .returned (.int .i64 p) ∧ anyS (ns.take q) t = true) ∧ Below w.heap.size w w' := by
  have hlt : ks < w.heap.size := World.block_lt_of_cell? w ⟨ks, 0, none⟩ hks
  have HL : Hid (LiesN w g 0 ns) := hL
  have HC : Hid (∀ (w1 : World) (x : Nam2), Below w.heap.size w w1 → Calls Tryz.prog 72 #[.agg #[str x.1, str x.2], .pointer (some ⟨ks, 0, none⟩)] w1 fun e w' => e = .returned (.bool (x.1 == t)) ∧ Below w1.heap.size w1 w') := fun w1 x hb => clo_short w1 x ks t ((hb.cell (p := ⟨ks, 0, none⟩) hlt).trans hks)
  have HB0 : Hid (Below w.heap.size w w) := Below.refl _ w
  have hup : ∀ p, p ≤ q → anyS (ns.take p) t = true → anyS (ns.take q) t = true := fun p hp h => by
    unfold anyS at h ⊢
    rw [List.any_eq_true] at h ⊢
    obtain ⟨x, hx, he⟩ := h
    refine ⟨x, ?_, he⟩
    have : ns.take p = (ns.take q).take p := by rw [List.take_take, Nat.min_eq_left hp]
    rw [this] at hx
    exact List.mem_of_mem_take hx
  have HUp : Hid (∀ p, p ≤ q → anyS (ns.take p) t = true → anyS (ns.take q) t = true) := hup
  clear hL hks hup
  go_enter Tryz.func119, Tryz.ntmps119
  go_wp2_with fail
  go_loopw [8] (fun i wr => ∃ p : Nat, i = .int .i64 p ∧ p ≤ q ∧ anyS (ns.take p) t = false ∧ Below w.heap.size w wr) (fun i wr => q - (intOf i).toNat)
  case atStart => exact ⟨0, rfl, Nat.zero_le _, rfl, HB0.out⟩
  case round =>
    obtain ⟨p, rfl, hp, ha, hb⟩ := hrel
    have HB : Hid (Below w.heap.size w wr) := hb
    have HA : Hid (anyS (ns.take p) t = false) := ha
    clear ha hb
    by_cases hpq : p < q
    · obtain ⟨x, hx⟩ : ∃ x, ns[p]? = some x := ⟨_, List.getElem?_eq_getElem (by omega)⟩
      obtain ⟨c0, c1⟩ := HL.out p x hx
      rw [Nat.zero_add] at c0 c1
      have d0 : wr.cell? ⟨g, p * 2, none⟩ = some (str x.1) := (HB.out.cell (p := ⟨g, _, none⟩) hg).trans c0
      have d1 : wr.cell? ⟨g, p * 2 + 1, none⟩ = some (str x.2) := (HB.out.cell (p := ⟨g, _, none⟩) hg).trans c1
      have HSt : Hid (anyS (ns.take (p + 1)) t = (anyS (ns.take p) t || (x.1 == t))) := anyS_step hx t
      have HC1 := HC.out wr x HB.out
      generalize (x.1 == t) = b at HC1 HSt
      have HC2 : Hid (Calls Tryz.prog 72 #[.agg #[str x.1, str x.2], .pointer (some ⟨ks, 0, none⟩)] wr fun e w' => e = .returned (.bool b) ∧ Below wr.heap.size wr w') := HC1
      clear c0 c1 hx HC1
      cases b with
      | true =>
        have HR : Hid (anyS (ns.take q) t = true) := HUp.out (p + 1) (by omega) (by rw [HSt.out]; simp)
        go_wp2_with fail
        refine HC2.out.mono ?_
        rintro e w2 ⟨rfl, hb2⟩
        have HB2 : Hid (Below w.heap.size w w2) := HB.out.trans (hb2.mono HB.out.size)
        clear hb2
        go_wp2_with fail
        go_ret
        exact ⟨.inr ⟨p, rfl, HR.out⟩, HB2.out⟩
      | false =>
        have HR : Hid (anyS (ns.take (p + 1)) t = false) := by unfold Hid; rw [HSt.out, HA.out]; rfl
        go_wp2_with fail
        refine HC2.out.mono ?_
        rintro e w2 ⟨rfl, hb2⟩
        have HB2 : Hid (Below w.heap.size w w2) := HB.out.trans (hb2.mono HB.out.size)
        clear hb2
        go_wp2_with fail
        go_roundw
        case rel => exact ⟨p + 1, by go_num, by omega, HR.out, HB2.out⟩
        case measure => simp [intOf]; omega
    · obtain rfl : p = q := by omega
      go_wp2_with fail
      go_ret
      exact ⟨.inl ⟨rfl, HA.out⟩, HB.out⟩

set_option maxHeartbeats 4000000 in
set_option maxRecDepth 20000 in
theorem hasShort_any (w : World) (g cap q : Nat) (ns : List Nam2) (t : List UInt8) (hq : q ≤ ns.length) (hg : g < w.heap.size) (hL : LiesN w g 0 ns) (hn : ns.length ≤ 12) :
    Calls Tryz.prog 39 #[.slice (some ⟨g, 0, none⟩) q cap, str t] w fun e w' => e = .returned (.bool (anyS (ns.take q) t)) ∧ Below w.heap.size w w' := by
  have HBa : Hid (∀ o, Below w.heap.size w (w.alloc o)) := fun o => (Below.refl _ w).alloc (Nat.le_refl _) o
  have HCf : Hid (∀ w1 ks, w1.cell? ⟨ks, 0, none⟩ = some (str t) → Below w.heap.size w w1 → Calls Tryz.prog 71 #[.slice (some ⟨g, 0, none⟩) q cap, .func (.func 72) #[] #[.pointer (some ⟨ks, 0, none⟩)]] w1 fun e w' => e = .returned (.bool (anyS (ns.take q) t)) ∧ Below w1.heap.size w1 w') := by
    intro w1 ks hks hb
    have HI : Hid (Calls Tryz.prog 119 #[.slice (some ⟨g, 0, none⟩) q cap, .func (.func 72) #[] #[.pointer (some ⟨ks, 0, none⟩)]] w1 fun e w' => ((e = .returned (.int .i64 (-1)) ∧ anyS (ns.take q) t = false) ∨ ∃ p : Nat, e = .returned (.int .i64 p) ∧ anyS (ns.take q) t = true) ∧ Below w1.heap.size w1 w') := index_short w1 g cap q ks ns t hq (Nat.lt_of_lt_of_le hg hb.size) (hL.below hg hb) hks hn
    clear hL hks hb HBa
    go_enter Tryz.func71, Tryz.ntmps71
    go_wp2_with fail
    refine HI.out.mono ?_
    rintro e w2 ⟨⟨rfl, ha⟩ | ⟨p, rfl, ha⟩, hb2⟩
    · have HA : Hid (anyS (ns.take q) t = false) := ha
      clear ha
      go_wp2
      go_ret
      exact ⟨by rw [HA.out]; rfl, hb2⟩
    · have HA : Hid (anyS (ns.take q) t = true) := ha
      have hp2 : (0 : Int) ≤ (p : Int) := by omega
      clear ha
      go_wp2
      go_ret
      exact ⟨by rw [HA.out]; rfl, hb2⟩
  have hnew : (w.alloc (.cells #[str t] 9)).cell? ⟨w.heap.size, 0, none⟩ = some (str t) := by rw [World.cell?_alloc_at _ _ _ _ (by simp)]; rfl
  have HN : Hid ((w.alloc (.cells #[str t] 9)).cell? ⟨w.heap.size, 0, none⟩ = some (str t)) := hnew
  clear hL hnew
  go_enter Tryz.func39, Tryz.ntmps39
  go_wp2_with fail
  refine (HCf.out _ _ HN.out (HBa.out _)).mono ?_
  rintro e w2 ⟨rfl, hb2⟩
  have HB2 : Hid (Below w.heap.size w w2) := (HBa.out _).trans (hb2.mono (HBa.out _).size)
  clear hb2
  go_wp2
  go_ret
  exact ⟨rfl, HB2.out⟩

end Tu
end Go.Proofs.YtfapcangooodeabGreatDoor

set_option linter.unusedSimpArgs false
set_option linter.unusedVariables false
namespace Go.Proofs.YtfapcangooodeabGreatDoor
open Go.RowKit
namespace Tu

/-! unprintable. -/

/-- the names up to place q may be printed -/
def okUp (ns : List Nam2) (q : Nat) : Prop := ∀ (k : Nat) (x : Nam2), k < q → ns[k]? = some x → nameB x = true ∧ anyS (ns.take k) x.1 = false
theorem okUp_zero (ns : List Nam2) : okUp ns 0 := fun k x h _ => by omega
theorem okUp_step {ns : List Nam2} {q : Nat} {x : Nam2} (h : okUp ns q) (hx : ns[q]? = some x) (h1 : nameB x = true) (h2 : anyS (ns.take q) x.1 = false) : okUp ns (q + 1) := fun k y hk hy => by
  by_cases e : k = q
  · subst e
    rw [hx] at hy
    cases hy
    exact ⟨h1, h2⟩
  · exact h k y (by omega) hy
theorem okUp_names {ns : List Nam2} (h : okUp ns ns.length) : NamesOk ns := fun x hx => by
  obtain ⟨k, hk⟩ := List.mem_iff_getElem?.1 hx
  have hl := (List.getElem?_eq_some_iff.1 hk).1
  have := (h k x hl hk).1
  unfold nameB at this
  simp only [Bool.and_eq_true, Bool.or_eq_true, List.isEmpty_iff, decide_eq_true_eq] at this
  exact ⟨this.1, this.2⟩
theorem okUp_apart {ns : List Nam2} (h : okUp ns ns.length) : Apart ns := fun x hx y hy e => by
  obtain ⟨i, hi⟩ := List.mem_iff_getElem?.1 hx
  obtain ⟨j, hj⟩ := List.mem_iff_getElem?.1 hy
  have li := (List.getElem?_eq_some_iff.1 hi).1
  have lj := (List.getElem?_eq_some_iff.1 hj).1
  have key : ∀ (a b : Nat) (u v : Nam2), ns[a]? = some u → ns[b]? = some v → a < b → u.1 = v.1 → False := fun a b u v ha hb hab huv => by
    have := (h b v (List.getElem?_eq_some_iff.1 hb).1 hb).2
    unfold anyS at this
    rw [List.any_eq_false] at this
    refine this u ?_ (by simpa using huv)
    refine List.mem_iff_getElem?.2 ⟨a, ?_⟩
    rw [List.getElem?_take_of_lt hab]
    exact ha
  rcases Nat.lt_trichotomy i j with hlt | heq | hgt
  · exact (key i j x y hi hj hlt e.symm).elim
  · subst heq
    rw [hi] at hj
    exact (Option.some.inj hj).symm
  · exact (key j i y x hj hi hgt e).elim

/-- what unprintable answers -/
def UnR (set : List Tri) (ns : List Nam2) (v : Value) : Prop :=
  (v = .nilIface ∧ ns.length ≤ 12 ∧ NamesOk ns ∧ Apart ns ∧ set.any madeT = false) ∨ v = .iface 94 (.agg #[.int .i64 10]) ∨ ∃ (n : Int) (i : Nat), (n = 5 ∨ n = 6) ∧ v = placedV n i

set_option maxHeartbeats 8000000 in
set_option maxRecDepth 20000 in
theorem unprintable_any (w : World) (o : Option Addr) (c : Nat) (set : List Tri) (on : Option Addr) (cn : Nat) (ns : List Nam2)
    (ho : 0 < set.length → ∃ g, o = some ⟨g, 0, none⟩ ∧ g < w.heap.size ∧ Lies w g set) (hno : 0 < ns.length → ∃ g, on = some ⟨g, 0, none⟩ ∧ g < w.heap.size ∧ LiesN w g 0 ns ∧ ns.length ≤ cn)
    (hx : ∀ x ∈ set, soundT x = true) (hlen : set.length ≤ 300) (hnl : ns.length ≤ 4398046511104) (hT : Tabs w) (hG : 8 ≤ w.heap.size) :
    Calls Tryz.prog 19 #[.slice o set.length c, .slice on ns.length cn] w fun e w' => (∃ v, e = .returned v ∧ UnR set ns v) ∧ Below w.heap.size w w' := by
  have HO : Hid (0 < set.length → ∃ g, o = some ⟨g, 0, none⟩ ∧ g < w.heap.size ∧ Lies w g set) := ho
  have HNo : Hid (0 < ns.length → ∃ g, on = some ⟨g, 0, none⟩ ∧ g < w.heap.size ∧ LiesN w g 0 ns ∧ ns.length ≤ cn) := hno
  have HM : Hid (∀ (w1 : World) (l : List UInt8), Below w.heap.size w w1 → l.length ≤ 1000 → Calls Tryz.prog 41 #[str l] w1 fun e w' => e = .returned (.bool (isMade l)) ∧ Below w1.heap.size w1 w') := fun w1 l hb hl => isMade_any w1 l (by omega) (hT.below hb (by omega) (by omega)) (Nat.le_trans hG hb.size)
  have HIn : Hid (∀ (w1 : World) (x : Nam2), Below w.heap.size w w1 → Calls Tryz.prog 38 #[.agg #[str x.1, str x.2]] w1 fun e w' => e = .returned (.bool (nameB x)) ∧ Below w1.heap.size w1 w') := fun w1 x hb => isName_any w1 x (hT.below hb (by omega) (by omega)) (Nat.le_trans hG hb.size)
  have HSz : Hid (∀ x ∈ set, x.s.length ≤ 200 ∧ x.o.length ≤ 200) := fun x hm => by
    have k := sound_kinds (hx x hm)
    exact ⟨kind_len (by omega), kind_len k.2.2⟩
  have HB0 : Hid (Below w.heap.size w w) := Below.refl _ w
  clear ho hno hT hx
  by_cases h12 : 12 < ns.length
  · go_enter Tryz.func19, Tryz.ntmps19
    go_wp2_with fail
    refine (new_b _ _).mono ?_
    rintro e w1 ⟨rfl, hb1⟩
    go_wp2_with fail
    go_ret
    exact ⟨⟨_, rfl, .inr (.inl rfl)⟩, hb1⟩
  · go_enter Tryz.func19, Tryz.ntmps19
    go_wp2_with fail
    go_loopw [15] (fun i wr => ∃ q : Nat, i = .int .i64 q ∧ q ≤ ns.length ∧ okUp ns q ∧ Below w.heap.size w wr) (fun i wr => ns.length - (intOf i).toNat)
    case atStart => exact ⟨0, rfl, Nat.zero_le _, okUp_zero ns, HB0.out⟩
    case round =>
      obtain ⟨q, rfl, hq, hok, hb⟩ := hrel
      have HB : Hid (Below w.heap.size w wr) := hb
      have HOk : Hid (okUp ns q) := hok
      clear hb hok
      by_cases hlt : q < ns.length
      · obtain ⟨g, hon, hg, hL, hcn⟩ := HNo.out (by omega)
        subst hon
        obtain ⟨x, hxq⟩ : ∃ x, ns[q]? = some x := ⟨_, List.getElem?_eq_getElem hlt⟩
        obtain ⟨c0, c1⟩ := hL q x hxq
        rw [Nat.zero_add] at c0 c1
        have d0 : wr.cell? ⟨g, q * 2, none⟩ = some (str x.1) := (HB.out.cell (p := ⟨g, _, none⟩) hg).trans c0
        have d1 : wr.cell? ⟨g, q * 2 + 1, none⟩ = some (str x.2) := (HB.out.cell (p := ⟨g, _, none⟩) hg).trans c1
        have HSt : Hid (nameB x = true → anyS (ns.take q) x.1 = false → okUp ns (q + 1)) := fun h1 h2 => okUp_step HOk.out hxq h1 h2
        have HHs : Hid (∀ w1, Below w.heap.size w w1 → Calls Tryz.prog 39 #[.slice (some ⟨g, 0, none⟩) q cn, str x.1] w1 fun e w' => e = .returned (.bool (anyS (ns.take q) x.1)) ∧ Below w1.heap.size w1 w') := fun w1 hb => hasShort_any w1 g cn q ns x.1 hq (Nat.lt_of_lt_of_le hg hb.size) (hL.below hg hb) (by omega)
        have HNm := fun w1 (hb : Below w.heap.size w w1) => HIn.out w1 x hb
        have b3 : Below w.heap.size w (wr.alloc (.cells #[str x.1, str x.2] 35)) := HB.out.alloc HB.out.size _
        have k0 : (wr.alloc (.cells #[str x.1, str x.2] 35)).cell? ⟨wr.heap.size, 0, none⟩ = some (str x.1) := by rw [World.cell?_alloc_at _ _ _ _ (by simp)]; rfl
        have k1 : (wr.alloc (.cells #[str x.1, str x.2] 35)).cell? ⟨wr.heap.size, 1, none⟩ = some (str x.2) := by rw [World.cell?_alloc_at _ _ _ _ (by simp)]; rfl
        have mixed : Tryz.prog.follows Departure.mixedOrders = true := by kernel_rfl
        have hq0 : (0 : Int) ≤ (q : Int) := by omega
        have hqc : (q : Int) ≤ (cn : Int) := by omega
        generalize nameB x = B1 at HNm HSt
        generalize anyS (ns.take q) x.1 = B2 at HHs HSt
        have hgo : ∀ {w1 w2 : World}, (w1.cell? ⟨wr.heap.size, 0, none⟩ = some (str x.1) ∧ w1.cell? ⟨wr.heap.size, 1, none⟩ = some (str x.2) ∧ Below w.heap.size w w1) → Below w1.heap.size w1 w2 → (w2.cell? ⟨wr.heap.size, 0, none⟩ = some (str x.1) ∧ w2.cell? ⟨wr.heap.size, 1, none⟩ = some (str x.2) ∧ Below w.heap.size w w2) := fun {w1 w2} h hb2 => by
          have hl1 : wr.heap.size < w1.heap.size := World.block_lt_of_cell? w1 ⟨wr.heap.size, 0, none⟩ h.1
          exact ⟨(hb2.cell (p := ⟨wr.heap.size, 0, none⟩) hl1).trans h.1, (hb2.cell (p := ⟨wr.heap.size, 1, none⟩) hl1).trans h.2.1, h.2.2.trans (hb2.mono h.2.2.size)⟩
        have HN2 : Hid (∀ w1, (w1.cell? ⟨wr.heap.size, 0, none⟩ = some (str x.1) ∧ w1.cell? ⟨wr.heap.size, 1, none⟩ = some (str x.2) ∧ Below w.heap.size w w1) → Calls Tryz.prog 38 #[.agg #[str x.1, str x.2]] w1 fun e w' => e = .returned (.bool B1) ∧ (w'.cell? ⟨wr.heap.size, 0, none⟩ = some (str x.1) ∧ w'.cell? ⟨wr.heap.size, 1, none⟩ = some (str x.2) ∧ Below w.heap.size w w')) := fun w1 h1 => (HNm w1 h1.2.2).mono fun e w' z => ⟨z.1, hgo h1 z.2⟩
        have HH2 : Hid (∀ w1, (w1.cell? ⟨wr.heap.size, 0, none⟩ = some (str x.1) ∧ w1.cell? ⟨wr.heap.size, 1, none⟩ = some (str x.2) ∧ Below w.heap.size w w1) → Calls Tryz.prog 39 #[.slice (some ⟨g, 0, none⟩) q cn, str x.1] w1 fun e w' => e = .returned (.bool B2) ∧ (w'.cell? ⟨wr.heap.size, 0, none⟩ = some (str x.1) ∧ w'.cell? ⟨wr.heap.size, 1, none⟩ = some (str x.2) ∧ Below w.heap.size w w')) := fun w1 h1 => (HHs.out w1 h1.2.2).mono fun e w' z => ⟨z.1, hgo h1 z.2⟩
        clear c0 c1 hxq hL HNm HHs hgo
        cases B1 with
        | false =>
          go_wp2_with fail
          refine wp_region_held_drew (S := fun w' => w'.cell? ⟨wr.heap.size, 0, none⟩ = some (str x.1) ∧ w'.cell? ⟨wr.heap.size, 1, none⟩ = some (str x.2) ∧ Below w.heap.size w w') (by kernel_rfl) ⟨k0, k1, b3.drew⟩ (fun hHeld => ?_)
          refine wpAnyH_take (i := 0) (v := .agg #[str x.1, str x.2]) rfl (by kernel_rfl) (by kernel_rfl) (by kernel_rfl) (fun _ _ _ h => h) (Or.inl ⟨by rfl, fun w' hSw => ?_⟩) (by assumption) ?_
          · obtain ⟨g0, g1, g2⟩ := hSw
            go_simp
          go_simp
          refine wpAnyH_ready (rs := [1]) (by kernel_rfl) (by simp) (AllReadyH.cons rfl (fun K hK => ?_) AllReadyH.nil)
          go_simp
          go_at_call 38
          refine (HN2.out _ hHeld).mono ?_
          rintro e w2 ⟨rfl, hS⟩
          refine hK.out _ _ hS (fun hHeld2 => ?_)
          refine wpAnyH_take (i := 2) (v := .bool true) rfl (by kernel_rfl) (by kernel_rfl) (by kernel_rfl) (fun _ _ _ h => h) (Or.inl ⟨by rfl, fun w' hSw => ?_⟩) (by assumption) ?_
          · obtain ⟨g0, g1, g2⟩ := hSw
            go_simp
          go_simp
          refine wpAnyH_take (i := 3) (v := .bool true) rfl (by kernel_rfl) (by kernel_rfl) (by kernel_rfl) (fun _ _ _ h => h) (Or.inl ⟨by rfl, fun w' hSw => ?_⟩) (by assumption) ?_
          · obtain ⟨g0, g1, g2⟩ := hSw
            go_simp
          go_simp
          refine wpAnyH_take (i := 4) (v := undef) rfl (by kernel_rfl) (by kernel_rfl) (by kernel_rfl) (fun _ _ _ h => h) (Or.inr ⟨by kernel_rfl, rfl⟩) (by assumption) ?_
          go_simp
          refine wpAnyH_take (i := 5) (v := undef) rfl (by kernel_rfl) (by kernel_rfl) (by kernel_rfl) (fun _ _ _ h => h) (Or.inr ⟨by kernel_rfl, rfl⟩) (by assumption) ?_
          go_simp
          refine wpAnyH_take (i := 6) (v := undef) rfl (by kernel_rfl) (by kernel_rfl) (by kernel_rfl) (fun _ _ _ h => h) (Or.inr ⟨by kernel_rfl, rfl⟩) (by assumption) ?_
          go_simp
          refine wpAnyH_take (i := 7) (v := undef) rfl (by kernel_rfl) (by kernel_rfl) (by kernel_rfl) (fun _ _ _ h => h) (Or.inr ⟨by kernel_rfl, rfl⟩) (by assumption) ?_
          go_simp
          refine wpAnyH_take (i := 8) (v := undef) rfl (by kernel_rfl) (by kernel_rfl) (by kernel_rfl) (fun _ _ _ h => h) (Or.inr ⟨by kernel_rfl, rfl⟩) (by assumption) ?_
          go_simp
          refine wpAnyH_take (i := 9) (v := undef) rfl (by kernel_rfl) (by kernel_rfl) (by kernel_rfl) (fun _ _ _ h => h) (Or.inr ⟨by kernel_rfl, rfl⟩) (by assumption) ?_
          go_simp
          refine wpAnyH_take (i := 10) (v := .bool true) rfl (by kernel_rfl) (by kernel_rfl) (by kernel_rfl) (fun _ _ _ h => h) (Or.inl ⟨by kernel_rfl, fun w' hSw => ?_⟩) (by assumption) ?_
          · obtain ⟨g0, g1, g2⟩ := hSw
            go_simp
          go_simp
          refine wpAnyH_done (by kernel_rfl) ?_ _
          all_goals
            have HS : Hid (Below w.heap.size w w2) := hS.2.2
            clear hS k0 k1 b3
            go_wp2_with fail
            refine (new_b _ _).mono ?_
            rintro e w5 ⟨rfl, hb5⟩
            have HB5 : Hid (Below w.heap.size w w5) := HS.out.trans (hb5.mono HS.out.size)
            clear hb5
            go_wp2_with fail
            refine (at_any _ _ _).mono ?_
            rintro e w6 ⟨rfl, hb6⟩
            have HB6 : Hid (Below w.heap.size w w6) := HB5.out.trans (hb6.mono HB5.out.size)
            clear hb6
            go_wp2_with fail
            go_ret
            exact ⟨⟨_, rfl, .inr (.inr ⟨5, q, .inl rfl, rfl⟩)⟩, HB6.out⟩
        | true =>
          cases B2 with
          | true =>
            go_wp2_with fail
            go_region_held3 (fun w' => w'.cell? ⟨wr.heap.size, 0, none⟩ = some (str x.1) ∧ w'.cell? ⟨wr.heap.size, 1, none⟩ = some (str x.2) ∧ Below w.heap.size w w') (first | assumption | exact ⟨k0, k1, b3⟩ | exact ⟨k0, k1, b3.drew⟩) (first | (go_at_call 38; refine (HN2.out _ (by first | assumption | exact ⟨by assumption, by assumption, by first | assumption | exact b3.drew⟩)).mono ?_; rintro e2 w2 ⟨rfl, hS⟩) | (go_at_call 39; refine (HH2.out _ (by first | assumption | exact ⟨by assumption, by assumption, by first | assumption | exact b3.drew⟩)).mono ?_; rintro e3 w3 ⟨rfl, hS3⟩))
            all_goals
              have HS : Hid (Below w.heap.size w w3) := hS3.2.2
              clear hS3 k0 k1 b3
              go_wp2_with fail
              refine (new_b _ _).mono ?_
              rintro e w5 ⟨rfl, hb5⟩
              have HB5 : Hid (Below w.heap.size w w5) := HS.out.trans (hb5.mono HS.out.size)
              clear hb5
              go_wp2_with fail
              refine (at_any _ _ _).mono ?_
              rintro e w6 ⟨rfl, hb6⟩
              have HB6 : Hid (Below w.heap.size w w6) := HB5.out.trans (hb6.mono HB5.out.size)
              clear hb6
              go_wp2_with fail
              go_ret
              exact ⟨⟨_, rfl, .inr (.inr ⟨5, q, .inl rfl, rfl⟩)⟩, HB6.out⟩
          | false =>
            have HOk2 : Hid (okUp ns (q + 1)) := HSt.out rfl rfl
            go_wp2_with fail
            go_region_held3 (fun w' => w'.cell? ⟨wr.heap.size, 0, none⟩ = some (str x.1) ∧ w'.cell? ⟨wr.heap.size, 1, none⟩ = some (str x.2) ∧ Below w.heap.size w w') (first | assumption | exact ⟨k0, k1, b3⟩ | exact ⟨k0, k1, b3.drew⟩) (first | (go_at_call 38; refine (HN2.out _ (by first | assumption | exact ⟨by assumption, by assumption, by first | assumption | exact b3.drew⟩)).mono ?_; rintro e2 w2 ⟨rfl, hS⟩) | (go_at_call 39; refine (HH2.out _ (by first | assumption | exact ⟨by assumption, by assumption, by first | assumption | exact b3.drew⟩)).mono ?_; rintro e3 w3 ⟨rfl, hS3⟩))
            all_goals
              have HS : Hid (Below w.heap.size w w3) := hS3.2.2
              clear hS3 k0 k1 b3
              go_wp2_with fail
              go_roundw
              case rel => exact ⟨q + 1, by go_num, by omega, HOk2.out, HS.out⟩
              case measure => simp [intOf]; omega
      · obtain rfl : q = ns.length := by omega
        have HFin : Hid (ns.length ≤ 12 ∧ NamesOk ns ∧ Apart ns) := ⟨by omega, okUp_names HOk.out, okUp_apart HOk.out⟩
        have HBw : Hid (Below w.heap.size w wr) := HB.out
        clear HOk HIn HNo HB
        go_wp2_with fail
        go_loopw [37] (fun i wr => ∃ q : Nat, i = .int .i64 q ∧ q ≤ set.length ∧ madeAt q (set.drop q) = madeAt 0 set ∧ Below w.heap.size w wr) (fun i wr => set.length - (intOf i).toNat)
        case atStart => exact ⟨0, rfl, Nat.zero_le _, rfl, HBw.out⟩
        case round =>
          obtain ⟨q, rfl, hq, hmd, hb⟩ := hrel
          have HB : Hid (Below w.heap.size w wr) := hb
          clear hb
          by_cases hlt : q < set.length
          · obtain ⟨g, hon, hg, hL⟩ := HO.out (by omega)
            subst hon
            obtain ⟨x, hxq⟩ : ∃ x, set[q]? = some x := ⟨_, List.getElem?_eq_getElem hlt⟩
            obtain ⟨z1, z2⟩ := HSz.out x (List.mem_of_getElem? hxq)
            obtain ⟨c0, c1, c2⟩ := hL q x hxq
            have d0 : wr.cell? ⟨g, q * 3, none⟩ = some (str x.s) := (HB.out.cell (p := ⟨g, _, none⟩) hg).trans c0
            have d1 : wr.cell? ⟨g, q * 3 + 1, none⟩ = some (str x.p) := (HB.out.cell (p := ⟨g, _, none⟩) hg).trans c1
            have d2 : wr.cell? ⟨g, q * 3 + 2, none⟩ = some (str x.o) := (HB.out.cell (p := ⟨g, _, none⟩) hg).trans c2
            rw [madeAt_drop hxq] at hmd
            have HMd : Hid ((if madeT x = true then some q else madeAt (q + 1) (set.drop (q + 1))) = madeAt 0 set) := hmd
            clear c0 c1 c2 hxq hmd hL
            have HMs : Hid (∀ w1, Below w.heap.size w w1 → Calls Tryz.prog 41 #[str x.s] w1 fun e w' => e = .returned (.bool (isMade x.s)) ∧ Below w1.heap.size w1 w') := fun w1 hb => HM.out w1 x.s hb (by omega)
            have HMo : Hid (∀ w1, Below w.heap.size w w1 → Calls Tryz.prog 41 #[str x.o] w1 fun e w' => e = .returned (.bool (isMade x.o)) ∧ Below w1.heap.size w1 w') := fun w1 hb => HM.out w1 x.o hb (by omega)
            unfold madeT at HMd
            cases hms : isMade x.s with
            | true =>
              rw [hms] at HMs HMd
              go_wp2_with fail
              refine (HMs.out _ (HB.out.alloc HB.out.size _)).mono ?_
              rintro e w3 ⟨rfl, hb3⟩
              have HB3 : Hid (Below w.heap.size w w3) := (HB.out.alloc HB.out.size _).trans (hb3.mono (by have := HB.out.size; simp; omega))
              clear hb3
              go_wp2_with fail
              refine (new_b _ _).mono ?_
              rintro e w5 ⟨rfl, hb5⟩
              have HB5 : Hid (Below w.heap.size w w5) := HB3.out.trans (hb5.mono HB3.out.size)
              clear hb5
              go_wp2_with fail
              refine (at_any _ _ _).mono ?_
              rintro e w6 ⟨rfl, hb6⟩
              have HB6 : Hid (Below w.heap.size w w6) := HB5.out.trans (hb6.mono HB5.out.size)
              clear hb6
              go_wp2_with fail
              go_ret
              exact ⟨⟨_, rfl, .inr (.inr ⟨6, q, .inr rfl, rfl⟩)⟩, HB6.out⟩
            | false =>
              rw [hms] at HMs HMd
              cases hmo : isMade x.o with
              | true =>
                rw [hmo] at HMo HMd
                go_wp2_with fail
                refine (HMs.out _ (HB.out.alloc HB.out.size _)).mono ?_
                rintro e w3 ⟨rfl, hb3⟩
                have e2 : w3.cell? ⟨wr.heap.size, 2, none⟩ = some (str x.o) := (hb3.cell (p := ⟨wr.heap.size, 2, none⟩) (by simp)).trans (by rw [World.cell?_alloc_at _ _ _ _ (by simp)]; rfl)
                have HB3 : Hid (Below w.heap.size w w3) := (HB.out.alloc HB.out.size _).trans (hb3.mono (by have := HB.out.size; simp; omega))
                clear hb3
                go_wp2_with fail
                refine (HMo.out _ HB3.out).mono ?_
                rintro e w4 ⟨rfl, hb4⟩
                have HB4 : Hid (Below w.heap.size w w4) := HB3.out.trans (hb4.mono HB3.out.size)
                clear hb4
                go_wp2_with fail
                refine (new_b _ _).mono ?_
                rintro e w5 ⟨rfl, hb5⟩
                have HB5 : Hid (Below w.heap.size w w5) := HB4.out.trans (hb5.mono HB4.out.size)
                clear hb5
                go_wp2_with fail
                refine (at_any _ _ _).mono ?_
                rintro e w6 ⟨rfl, hb6⟩
                have HB6 : Hid (Below w.heap.size w w6) := HB5.out.trans (hb6.mono HB5.out.size)
                clear hb6
                go_wp2_with fail
                go_ret
                exact ⟨⟨_, rfl, .inr (.inr ⟨6, q, .inr rfl, rfl⟩)⟩, HB6.out⟩
              | false =>
                rw [hmo] at HMo HMd
                have HMd2 : Hid (madeAt (q + 1) (set.drop (q + 1)) = madeAt 0 set) := HMd.out
                go_wp2_with fail
                refine (HMs.out _ (HB.out.alloc HB.out.size _)).mono ?_
                rintro e w3 ⟨rfl, hb3⟩
                have e2 : w3.cell? ⟨wr.heap.size, 2, none⟩ = some (str x.o) := (hb3.cell (p := ⟨wr.heap.size, 2, none⟩) (by simp)).trans (by rw [World.cell?_alloc_at _ _ _ _ (by simp)]; rfl)
                have HB3 : Hid (Below w.heap.size w w3) := (HB.out.alloc HB.out.size _).trans (hb3.mono (by have := HB.out.size; simp; omega))
                clear hb3
                go_wp2_with fail
                refine (HMo.out _ HB3.out).mono ?_
                rintro e w4 ⟨rfl, hb4⟩
                have HB4 : Hid (Below w.heap.size w w4) := HB3.out.trans (hb4.mono HB3.out.size)
                clear hb4
                go_wp2_with fail
                go_roundw
                case rel => exact ⟨q + 1, by go_num, by omega, HMd2.out, HB4.out⟩
                case measure => simp [intOf]; omega
          · have hqe : q = set.length := by omega
            subst hqe
            have HR : Hid (set.any madeT = false) := by unfold Hid; rw [← madeAt_none set 0, ← hmd]; simp [madeAt]
            go_wp2
            go_ret
            exact ⟨⟨_, rfl, .inl ⟨rfl, HFin.out.1, HFin.out.2.1, HFin.out.2.2, HR.out⟩⟩, HB.out⟩

end Tu
end Go.Proofs.YtfapcangooodeabGreatDoor

