import Derived.Test.YtfapcangooodeabGreatDoorK45
import Derived.BigQuiet
import Derived.Deep.QuietTactic
set_option linter.unusedSimpArgs false
set_option linter.unusedVariables false
namespace Go.Proofs.YtfapcangooodeabGreatDoor
open Go.RowKit
namespace Tu

/-! turtle.Print. -/

set_option maxHeartbeats 2000000 in
set_option maxRecDepth 100000 in
/-- what a writer that holds no byte has -/
theorem bstring_e (w : World) (B b : Nat) (nv : Value) (h : Pb B b nv [] w) (hBw : B ≤ w.heap.size) :
    Calls Tryz.prog 24 #[.pointer (some ⟨b, 0, none⟩)] w fun e w' => e = .returned (.string ⟨#[]⟩) ∧ Below B w w' := by
  have hlt := h.lt
  obtain ⟨p, hAt⟩ : ∃ p, PbAt B b nv p [] w := by
    rcases h with h | h
    · exact ⟨_, h⟩
    · exact ⟨_, h⟩
  obtain ⟨hB, v, hbk, hown, hne⟩ := hAt
  have hUS : ∀ (W : World) (q : Option Addr), (Builtin.unsafeString_ #[103, 3] 9 #[.pointer q, .int .i64 0]).run Tryz.prog W = .ok (.string .empty) W := fun W q => Lib.run_unsafeString_none W _ _ _ q
  have mixed : Tryz.prog.follows Departure.mixedOrders = true := by kernel_rfl
  rcases hown.2 with ⟨rfl, _⟩ | ⟨g, cap, cur, fz, rfl, hbg, hg, _, _, _, _, _⟩
  · have c1 : w.drew.cell? ⟨b, 1, none⟩ = some (.slice none 0 0) := by
      have : w.drew.heap[b]? = some (.cells #[p, .slice none 0 0, nv] 61 (0, 0)) := hbk
      rw [Lib.cell_of_heap this]; rfl
    have hSD : (Builtin.unsafeSliceData_ #[57] 103 #[.slice none 0 0]).run Tryz.prog w.drew = .ok (.pointer none) w.drew := rfl
    clear hown hne hbk h
    go_enter Tryz.func24, Tryz.ntmps24
    go_wp2
    go_region_o
    all_goals (go_wp2; go_ret; exact ⟨rfl, Below.drew (Below.refl B w)⟩)
  · change w.heap[b]? = some (.cells #[p, .slice (some ⟨g, 0, none⟩) 0 cap, nv] 61 (0, 0)) at hbk
    by_cases hc0 : cap = 0
    · subst hc0
      have c1 : w.drew.cell? ⟨b, 1, none⟩ = some (.slice (some ⟨g, 0, none⟩) 0 0) := by
        have : w.drew.heap[b]? = some (.cells #[p, .slice (some ⟨g, 0, none⟩) 0 0, nv] 61 (0, 0)) := hbk
        rw [Lib.cell_of_heap this]; rfl
      have hSD : (Builtin.unsafeSliceData_ #[57] 103 #[.slice (some ⟨g, 0, none⟩) 0 0]).run Tryz.prog w.drew = .ok (.pointer (some ⟨w.drew.heap.size, 0, none⟩)) (w.drew.alloc (.view ⟨g, 0, none⟩ 5)) :=
        Lib.run_unsafeSliceData_zero w.drew _ _ 5 Tryz.underlying103 ⟨g, 0, none⟩ 0 (5, cur.size) (by have hg' : w.drew.heap[g]? = some (.cells cur 5 fz) := hg; simp [World.shape?, hg'])
      have c2 : (w.drew.alloc (.view ⟨g, 0, none⟩ 5)).cell? ⟨b, 1, none⟩ = some (.slice (some ⟨g, 0, none⟩) 0 0) := by
        have : (w.drew.alloc (.view ⟨g, 0, none⟩ 5)).heap[b]? = _ := (Lib.alloc_old w.drew _ b hlt).trans hbk
        rw [Lib.cell_of_heap this]; rfl
      have c3 : (w.alloc (.view ⟨g, 0, none⟩ 5)).drew.cell? ⟨b, 1, none⟩ = some (.slice (some ⟨g, 0, none⟩) 0 0) := c2
      have c0 : w.cell? ⟨b, 1, none⟩ = some (.slice (some ⟨g, 0, none⟩) 0 0) := c1
      clear hown hne hbk h
      go_enter Tryz.func24, Tryz.ntmps24
      go_wp2
      go_region_o
      all_goals (go_wp2; go_ret; exact ⟨rfl, (Below.drew (Below.refl B w)).alloc hBw _⟩)
    · have c1 : w.drew.cell? ⟨b, 1, none⟩ = some (.slice (some ⟨g, 0, none⟩) 0 cap) := by
        have : w.drew.heap[b]? = some (.cells #[p, .slice (some ⟨g, 0, none⟩) 0 cap, nv] 61 (0, 0)) := hbk
        rw [Lib.cell_of_heap this]; rfl
      have hSD : (Builtin.unsafeSliceData_ #[57] 103 #[.slice (some ⟨g, 0, none⟩) 0 cap]).run Tryz.prog w.drew = .ok (.pointer (some ⟨g, 0, none⟩)) w.drew :=
        Lib.run_unsafeSliceData_row _ _ _ _ _ _ hc0
      clear hown hne hbk h hc0
      go_enter Tryz.func24, Tryz.ntmps24
      go_wp2
      go_region_o
      all_goals (go_wp2; go_ret; exact ⟨rfl, Below.drew (Below.refl B w)⟩)

theorem bstring_any (w : World) (B b : Nat) (nv : Value) (l : List UInt8) (h : Pb B b nv l w) (hBw : B ≤ w.heap.size) :
    Calls Tryz.prog 24 #[.pointer (some ⟨b, 0, none⟩)] w fun e w' => e = .returned (str l) ∧ Below B w w' := by
  by_cases h0 : l = []
  · subst h0
    exact bstring_e w B b nv h hBw
  · exact (bstring_k w B b nv l h h0).mono fun e w' z => ⟨z.1, z.2.1⟩

set_option maxHeartbeats 4000000 in
set_option maxRecDepth 20000 in
theorem sentences_none (w : World) (b : Nat) (o : Option Addr) (c : Nat) :
    Calls Tryz.prog 23 #[.pointer (some ⟨b, 0, none⟩), .slice o 0 c] w fun e w' => e = .returned (.tuple #[]) ∧ Below w.heap.size w w' := by
  have HB0 : Hid (∀ x, Below w.heap.size w (w.alloc x)) := fun x => (Below.refl _ w).alloc (Nat.le_refl _) x
  go_enter Tryz.func23, Tryz.ntmps23
  go_wp2_with fail
  go_loopw [9] (fun i wr => i = .int .i64 0 ∧ Below w.heap.size w wr) (fun i wr => 0)
  case atStart => exact ⟨rfl, HB0.out _⟩
  case round =>
    obtain ⟨rfl, hb⟩ := hrel
    go_wp2
    go_end0
    exact ⟨rfl, hb⟩

theorem NmL.up {B B' : Nat} {nv : Value} {ns : List Nam2} {w : World} (h : NmL B nv ns w) (hB : B ≤ B') : NmL B' nv ns w := by
  rcases h with h | ⟨g, cap, h1, h2, h3⟩
  · exact .inl h
  · exact .inr ⟨g, cap, h1, Nat.lt_of_lt_of_le h2 hB, h3⟩

theorem nmb_ok {ns : List Nam2} (h : NamesOk ns) (hl : ns.length ≤ 12) : NmB ns := ⟨hl, fun x hx => ⟨(h x hx).1.facts.1, kind_len (by rw [(h x hx).2]; decide)⟩⟩

set_option maxRecDepth 20000 in
theorem restN_bnd {ns : List Nam2} (hs : NmB ns) : ∀ (l : List Tri) (a : Option Tri), (∀ x ∈ l, soundT x = true) → (restN ns a l).length ≤ l.length * 4000
  | [], a, _ => by simp [restN]
  | x :: l, a, h => by
    have ih := restN_bnd hs l (some x) (fun y hy => h y (List.mem_cons_of_mem _ hy))
    have k := sound_kinds (h x (List.mem_cons_self ..))
    have h1 := termN_len ns hs x.s (by have := k.1; unfold Back.arr at this; omega)
    have h2 := termN_len ns hs x.o k.2.2
    have h3 := verbN_len ns hs x.p (by have := kind_len (t := x.p) (by omega); exact this)
    have hh : (headN ns a x).length ≤ 2010 := by
      cases a with
      | none => simp only [headN, List.length_append, List.length_cons, List.length_nil]; omega
      | some a =>
        simp only [headN]
        split
        · simp only [List.length_append, List.length_cons, List.length_nil]; omega
        · split
          · simp only [List.length_append, List.length_cons, List.length_nil]; omega
          · simp
    simp only [restN, List.length_append, List.length_cons]
    omega
set_option maxRecDepth 20000 in
theorem setN_bnd {ns : List Nam2} (hs : NmB ns) {l : List Tri} (h : ∀ x ∈ l, soundT x = true) : (setN ns l).length ≤ l.length * 4000 + 3 := by
  have := restN_bnd hs l .none h
  unfold setN
  split
  · simp; omega
  · simp; omega

/-- a list that a call hands on, as its reader has it -/
theorem own_set {w : World} {bs : Nat} {v : Value} {l : List Tri} (h : w.ownsRow bs 44 3 v l.length (cellsOf l)) : ∃ o c, v = .slice o l.length c ∧ (0 < l.length → ∃ g, o = some ⟨g, 0, none⟩ ∧ g < w.heap.size ∧ Lies w g l) := by
  rcases h.2 with ⟨rfl, hz⟩ | ⟨g, cap, cur, rfl, _, hgg, _⟩
  · exact ⟨none, 0, by rw [hz], fun h => by omega⟩
  · exact ⟨some ⟨g, 0, none⟩, cap, rfl, fun _ => ⟨g, rfl, (Array.getElem?_eq_some_iff.1 hgg).1, own_lies h⟩⟩
theorem own_nset {w : World} {bs : Nat} {v : Value} {l : List Nam2} (h : w.ownsRow bs 35 2 v l.length (cellsN l)) : ∃ o c, v = .slice o l.length c ∧ (0 < l.length → ∃ g, o = some ⟨g, 0, none⟩ ∧ g < w.heap.size ∧ LiesN w g 0 l ∧ l.length ≤ c) := by
  rcases h.2 with ⟨rfl, hz⟩ | ⟨g, cap, cur, rfl, _, hgg, hnc, _⟩
  · exact ⟨none, 0, by rw [hz], fun h => by omega⟩
  · refine ⟨some ⟨g, 0, none⟩, cap, rfl, fun _ => ⟨g, rfl, (Array.getElem?_eq_some_iff.1 hgg).1, fun k x hk => ?_, hnc⟩⟩
    have hl := (List.getElem?_eq_some_iff.1 hk).1
    obtain ⟨h1, h2⟩ := cellsN_at hk
    rw [Nat.zero_add]
    exact ⟨(h.cellAt _ (by omega)).trans h1, (h.cellAt _ (by omega)).trans h2⟩

set_option maxHeartbeats 4000000 in
set_option maxRecDepth 20000 in
/-- Print where Set refuses -/
theorem print_bad (w : World) (v nv : Value) (n j : Int) (hn : n = 4 ∨ n = 10) (hS : Calls Tryz.prog 14 #[v] w fun e w' => e = .returned (.tuple #[.slice none 0 0, .int .i64 n, .int .i64 j]) ∧ Below w.heap.size w w') :
    Calls Tryz.prog 8 #[v, nv] w fun e w' => e = .returned (.tuple #[.string ⟨#[]⟩, .int .i64 n, .int .i64 j]) ∧ Below w.heap.size w w' := by
  have HS : Hid (Calls Tryz.prog 14 #[v] w fun e w' => e = .returned (.tuple #[.slice none 0 0, .int .i64 n, .int .i64 j]) ∧ Below w.heap.size w w') := hS
  have hn0 : (n != 0) = true := by rcases hn with rfl | rfl <;> rfl
  have hn1 : n ≠ 0 := by omega
  clear hS hn
  go_enter Tryz.func8, Tryz.ntmps8
  go_wp2_with fail
  refine HS.out.mono ?_
  rintro e w1 ⟨rfl, hb1⟩
  go_wp2_with fail
  refine bodyPost_ret (v := .tuple #[.string ⟨#[]⟩, .int .i64 n, .int .i64 j]) (by simp [results, Tryz.results8, go_sem]) rfl ?_
  exact ⟨rfl, hb1⟩

/-- what Print answers of a set -/
def PrR (set : List Tri) (ns : List Nam2) (e : Ending) : Prop :=
  (∃ n j : Int, (n = 5 ∨ n = 6 ∨ n = 10) ∧ e = .returned (.tuple #[.string ⟨#[]⟩, .int .i64 n, .int .i64 j])) ∨ (NamesOk ns ∧ Apart ns ∧ set.any madeT = false ∧ e = .returned (.tuple #[str (preN ns ++ setN ns set), .int .i64 0, .int .i64 0]))

set_option maxHeartbeats 8000000 in
set_option maxRecDepth 20000 in
theorem print_ok (w : World) (v : Value) (nb : Nat) (nv : Value) (ns : List Nam2) (set : List Tri) (hN : w.ownsRow nb 35 2 nv ns.length (cellsN ns)) (hnl : ns.length ≤ 4398046511104) (hx : ∀ x ∈ set, soundT x = true) (hlen : set.length ≤ 300)
    (hS : Calls Tryz.prog 14 #[v] w fun e w' => ∃ v', e = .returned (.tuple #[v', .int .i64 0, .int .i64 0]) ∧ w'.ownsRow w.heap.size 44 3 v' set.length (cellsOf set) ∧ Below w.heap.size w w')
    (hT : Tabs w) (hG : 8 ≤ w.heap.size) (hH : Handle w) :
    Calls Tryz.prog 8 #[v, nv] w fun e w' => PrR set ns e ∧ Below w.heap.size w w' := by
  have HHd : Hid (∀ w', Below w.heap.size w w' → Handle w') := fun w' hb => hH.below hb
  have HTb : Hid (∀ w', Below w.heap.size w w' → Tabs w' ∧ 8 ≤ w'.heap.size) := fun w' hb => ⟨hT.below hb (by omega) (by omega), Nat.le_trans hG hb.size⟩
  have HNl : Hid (∀ w', Below w.heap.size w w' → NmL w.heap.size nv ns w') := fun w' hb => (own_names hN).below hb
  obtain ⟨on, cn, hnv, hno⟩ := own_nset hN
  subst hnv
  have HSe : Hid (Calls Tryz.prog 14 #[v] w fun e w' => ∃ o c, e = .returned (.tuple #[.slice o set.length c, .int .i64 0, .int .i64 0]) ∧ (0 < set.length → ∃ g, o = some ⟨g, 0, none⟩ ∧ g < w'.heap.size ∧ Lies w' g set) ∧ Below w.heap.size w w') := hS.mono fun e w' z => by
    obtain ⟨v', rfl, h2, h3⟩ := z
    obtain ⟨o, c, rfl, h4⟩ := own_set h2
    exact ⟨o, c, rfl, h4, h3⟩
  have HUn : Hid (∀ w1 o c, Below w.heap.size w w1 → (0 < set.length → ∃ g, o = some ⟨g, 0, none⟩ ∧ g < w1.heap.size ∧ Lies w1 g set) → Calls Tryz.prog 19 #[.slice o set.length c, (.slice on ns.length cn)] w1 fun e w' => (∃ v, e = .returned v ∧ UnR set ns v) ∧ Below w1.heap.size w1 w') := fun w1 o c hb ho => by
    exact unprintable_any w1 o c set on cn ns ho (fun h => by
      obtain ⟨g, h1, h2, h3, h4⟩ := hno h
      exact ⟨g, h1, Nat.lt_of_lt_of_le h2 hb.size, h3.below h2 hb, h4⟩) hx hlen hnl (HTb.out _ hb).1 (HTb.out _ hb).2
  have HPf : Hid (NmB ns → ∀ w1, Below w.heap.size w w1 → Calls Tryz.prog 22 #[.pointer (some ⟨w1.heap.size, 0, none⟩)] (w1.alloc (.cells #[.pointer none, .slice none 0 0, (.slice on ns.length cn)] 61)) fun e w' => e = .returned (.tuple #[]) ∧ Pb w1.heap.size w1.heap.size (.slice on ns.length cn) (preN ns) w' ∧ Below w1.heap.size w1 w') := fun hs w1 hb => by
    have ha : Below w1.heap.size w1 (w1.alloc (.cells #[.pointer none, .slice none 0 0, (.slice on ns.length cn)] 61)) := (Below.refl _ w1).alloc (Nat.le_refl _) _
    exact (prefixes_any _ w1.heap.size w1.heap.size (.slice on ns.length cn) ns (Pb.fresh w1 (.slice on ns.length cn)) ((HNl.out _ (hb.trans (ha.mono hb.size))).up hb.size) hs ha.size).mono fun e w' z => ⟨z.1, z.2.1, ha.trans z.2.2⟩
  have HSn : Hid (NmB ns → ∀ w1 o c b, Below w.heap.size w w1 → (0 < set.length → ∃ g, o = some ⟨g, 0, none⟩ ∧ g < b ∧ Lies w1 g set) → b ≤ w1.heap.size → w.heap.size ≤ b → Pb b b (.slice on ns.length cn) (preN ns) w1 → Calls Tryz.prog 23 #[.pointer (some ⟨b, 0, none⟩), .slice o set.length c] w1 fun e w' => e = .returned (.tuple #[]) ∧ Pb b b (.slice on ns.length cn) (preN ns ++ setN ns set) w' ∧ Below b w1 w') := fun hs w1 o c b hb ho hbb hwb hp => by
    by_cases h0 : set.length = 0
    · have hs0 : set = [] := List.length_eq_zero_iff.1 h0
      have e : preN ns ++ setN ns set = preN ns := by rw [hs0]; simp [setN, restN]
      rw [e, h0]
      exact (sentences_none w1 b o c).mono fun e w' z => ⟨z.1, hp.below z.2, z.2.mono hbb⟩
    · obtain ⟨g, rfl, hg, hL⟩ := ho (by omega)
      have h1 := setN_bnd hs hx
      have h2 := preN_le hs.sz
      have h3 := hs.le
      exact sentences_some w1 b b g c (.slice on ns.length cn) ns (preN ns) set hp ((HNl.out _ hb).up hwb) hs (HTb.out _ hb).1 (Nat.le_trans hG hwb) hbb hg hL hx hlen (by omega) (by omega)
  clear hT hH hN hS hno HNl
  go_enter Tryz.func8, Tryz.ntmps8
  go_wp2_with fail
  refine HSe.out.mono ?_
  rintro e w1 ⟨o, c, rfl, l1, hb1⟩
  have HB1 : Hid (Below w.heap.size w w1) := hb1
  have HU1 : Hid (Calls Tryz.prog 19 #[.slice o set.length c, (.slice on ns.length cn)] w1 fun e w' => (∃ v, e = .returned v ∧ UnR set ns v) ∧ Below w1.heap.size w1 w') := HUn.out w1 o c hb1 l1
  have HL1 : Hid (0 < set.length → ∃ g, o = some ⟨g, 0, none⟩ ∧ g < w1.heap.size ∧ Lies w1 g set) := l1
  clear hb1 l1 HUn HSe
  go_wp2_with fail
  refine HU1.out.mono ?_
  rintro e w2 ⟨⟨uv, rfl, hu⟩, hb2⟩
  have HB2 : Hid (Below w.heap.size w w2) := HB1.out.trans (hb2.mono HB1.out.size)
  have HL2 : Hid (0 < set.length → ∃ g, o = some ⟨g, 0, none⟩ ∧ g < w2.heap.size ∧ Lies w2 g set) := fun h => by
    obtain ⟨g, h1, h2, h3⟩ := HL1.out h
    exact ⟨g, h1, Nat.lt_of_lt_of_le h2 hb2.size, h3.below h2 hb2⟩
  clear hb2 HL1 HU1 HB1
  rcases hu with ⟨rfl, u1, u2, u3, u4⟩ | rfl | ⟨n, i, hn, rfl⟩
  · have HF : Hid (NmB ns ∧ NamesOk ns ∧ Apart ns ∧ set.any madeT = false) := ⟨nmb_ok u2 u1, u2, u3, u4⟩
    clear u1 u2 u3 u4
    go_wp2_with fail
    refine (HPf.out HF.out.1 w2 HB2.out).mono ?_
    rintro e w3 ⟨rfl, p3, b3⟩
    have HB3 : Hid (Below w.heap.size w w3) := HB2.out.trans (b3.mono HB2.out.size)
    have HS3 : Hid (Calls Tryz.prog 23 #[.pointer (some ⟨w2.heap.size, 0, none⟩), .slice o set.length c] w3 fun e w' => e = .returned (.tuple #[]) ∧ Pb w2.heap.size w2.heap.size (.slice on ns.length cn) (preN ns ++ setN ns set) w' ∧ Below w2.heap.size w3 w') := HSn.out HF.out.1 w3 o c w2.heap.size HB3.out (fun h => by
      obtain ⟨g, h1, h2, h3⟩ := HL2.out h
      exact ⟨g, h1, h2, h3.below h2 b3⟩) b3.size HB2.out.size p3
    have hw23 : w2.heap.size ≤ w3.heap.size := b3.size
    clear p3 b3
    go_wp2_with fail
    refine HS3.out.mono ?_
    rintro e w4 ⟨rfl, p4, b4⟩
    have HB4 : Hid (Below w.heap.size w w4) := HB3.out.trans (b4.mono HB2.out.size)
    have HStr : Hid (Calls Tryz.prog 24 #[.pointer (some ⟨w2.heap.size, 0, none⟩)] w4 fun e w' => e = .returned (str (preN ns ++ setN ns set)) ∧ Below w.heap.size w w') := (bstring_any w4 _ _ _ _ p4 (Nat.le_trans hw23 b4.size)).mono fun e w' z => ⟨z.1, HB4.out.trans (z.2.mono HB2.out.size)⟩
    clear p4 b4
    go_wp2_with fail
    refine HStr.out.mono ?_
    rintro e w5 ⟨rfl, b5⟩
    go_wp2_with fail
    refine bodyPost_ret (v := .tuple #[str (preN ns ++ setN ns set), .int .i64 0, .int .i64 0]) (by simp [results, Tryz.results8, go_sem]) rfl ?_
    exact ⟨.inr ⟨HF.out.2.1, HF.out.2.2.1, HF.out.2.2.2, rfl⟩, b5⟩
  · go_wp2_with fail
    refine (Go.Proofs.YtfapcangooodeabGreatDoor.number_any _ _ (HHd.out _ HB2.out)).mono ?_
    rintro e w3 ⟨rfl, hb3⟩
    have HB3 : Hid (Below w.heap.size w w3) := HB2.out.trans (hb3.mono HB2.out.size)
    clear hb3
    go_wp2_with fail
    refine (place_refusal _ _ (HHd.out _ HB3.out)).mono ?_
    rintro e w4 ⟨rfl, hb4⟩
    have HB4 : Hid (Below w.heap.size w w4) := HB3.out.trans (hb4.mono HB3.out.size)
    clear hb4
    go_wp2_with fail
    refine bodyPost_ret (v := .tuple #[.string ⟨#[]⟩, .int .i64 10, .int .i64 0]) (by simp [results, Tryz.results8, go_sem]) rfl ?_
    exact ⟨.inl ⟨10, 0, .inr (.inr rfl), rfl⟩, HB4.out⟩
  · go_wp2_with fail
    refine (number_placed _ _ _ (HHd.out _ HB2.out)).mono ?_
    rintro e w3 ⟨rfl, hb3⟩
    have HB3 : Hid (Below w.heap.size w w3) := HB2.out.trans (hb3.mono HB2.out.size)
    clear hb3
    go_wp2_with fail
    refine (place_placed _ _ _ (HHd.out _ HB3.out)).mono ?_
    rintro e w4 ⟨rfl, hb4⟩
    have HB4 : Hid (Below w.heap.size w w4) := HB3.out.trans (hb4.mono HB3.out.size)
    clear hb4
    go_wp2_with fail
    refine bodyPost_ret (v := .tuple #[.string ⟨#[]⟩, .int .i64 n, .int .i64 i]) (by simp [results, Tryz.results8, go_sem]) rfl ?_
    exact ⟨.inl ⟨n, i, hn.imp id .inl, rfl⟩, HB4.out⟩

end Tu
end Go.Proofs.YtfapcangooodeabGreatDoor

set_option linter.unusedSimpArgs false
set_option linter.unusedVariables false
namespace Go.Proofs.YtfapcangooodeabGreatDoor
open Go.RowKit
open Back
namespace Tu

theorem numW (w : World) (n : Int) : Calls Tryz.prog 11 #[.int .i64 n] w fun e w' => (∃ m : Int, e = .returned (.int .i64 m)) ∧ w' = w := by
  go_enter Tryz.func11, Tryz.ntmps11
  go_wp2
  go_ret
  exact ⟨⟨_, rfl⟩, rfl⟩

/-- what the law's calls ask of the world, and what they answer -/
structure Lw (w : World) (v nv : Value) (l : List Tri) (ns : List Nam2) (s : ByteArray) : Prop where
  alive : Calls Tryz.prog 12 #[] w fun e w' => e = .returned (.bool true) ∧ Below w.heap.size w w'
  triples : ∀ w1, Below w.heap.size w w1 → Calls Tryz.prog 6 #[v] w1 fun e w' => ∃ v', e = .returned v' ∧ w'.ownsRow w1.heap.size 44 3 v' l.length (cellsOf l) ∧ Below w.heap.size w w' ∧ Below w1.heap.size w1 w'
  names : ∀ w1, Below w.heap.size w w1 → Calls Tryz.prog 7 #[nv] w1 fun e w' => ∃ v', e = .returned v' ∧ w'.ownsRow w1.heap.size 35 2 v' ns.length (cellsN ns) ∧ Below w.heap.size w w' ∧ Below w1.heap.size w1 w'
  parse : ∀ w1, Below w.heap.size w w1 → Calls Tryz.prog 13 #[.string s] w1 fun e w' => (∃ n j : Int, e = .returned (.tuple #[.slice none 0 0, .int .i64 n, .int .i64 j]) ∧ Below w.heap.size w w') ∨ ∃ (o : Option Addr) (c : Nat) (set : List Tri), e = .returned (.tuple #[.slice o set.length c, .int .i64 0, .int .i64 0]) ∧ (w'.ownsRow w1.heap.size 44 3 (.slice o set.length c) set.length (cellsOf set) ∧ Below w.heap.size w w') ∧ (set.length ≤ 300 ∧ Rising set ∧ ∀ x ∈ set, soundT x = true)
  lprint : ∀ w1 bs v set, Below w.heap.size w w1 → w1.ownsRow bs 44 3 v set.length (cellsOf set) → (set.length ≤ 300 ∧ Rising set ∧ ∀ x ∈ set, soundT x = true) → Calls Tryz.prog 15 #[v] w1 fun e w' => e = .returned (.tuple #[.string (arr (printT set)), .int .i64 0, .int .i64 0]) ∧ Below w.heap.size w w'
  lparse : ∀ w1 set, Below w.heap.size w w1 → (set.length ≤ 300 ∧ Rising set ∧ ∀ x ∈ set, soundT x = true) → Calls Tryz.prog 16 #[.string (arr (printT set))] w1 fun e w' => if 20000 < (printT set).length then e = .returned (.tuple #[.slice none 0 0, .int .i64 1, .int .i64 0]) ∧ Below w.heap.size w w' else ∃ o c, e = .returned (.tuple #[.slice o set.length c, .int .i64 0, .int .i64 0]) ∧ Below w.heap.size w w'

theorem lw_of (w : World) (v nv : Value) (l : List Tri) (ns : List Nam2) (s : ByteArray) (hT : Tabs w) (hN : Tens w) (hG : 8 ≤ w.heap.size) (hH : Handle w)
    (htr : ∀ w1, Below w.heap.size w w1 → Calls Tryz.prog 6 #[v] w1 fun e w' => ∃ v', e = .returned v' ∧ w'.ownsRow w1.heap.size 44 3 v' l.length (cellsOf l) ∧ Below w1.heap.size w1 w')
    (hnm : ∀ w1, Below w.heap.size w w1 → Calls Tryz.prog 7 #[nv] w1 fun e w' => ∃ v', e = .returned v' ∧ w'.ownsRow w1.heap.size 35 2 v' ns.length (cellsN ns) ∧ Below w1.heap.size w1 w') : Lw w v nv l ns s := by
  have hgt : 5 < w.heap.size := Nat.lt_of_lt_of_le (by decide : 5 < 8) hG
  have HTb : ∀ w', Below w.heap.size w w' → Tabs w' ∧ Tens w' ∧ 8 ≤ w'.heap.size ∧ Handle w' := fun w' hb => ⟨hT.below hb (by omega) (by omega), hN.same (hb.block _ hgt), Nat.le_trans hG hb.size, hH.below hb⟩
  refine ⟨alive_any w hT hN hG hH, fun w1 hb => (htr w1 hb).mono fun e w' ⟨v', q1, q2, q3⟩ => ⟨v', q1, q2, hb.trans (q3.mono hb.size), q3⟩, fun w1 hb => (hnm w1 hb).mono fun e w' ⟨v', q1, q2, q3⟩ => ⟨v', q1, q2, hb.trans (q3.mono hb.size), q3⟩, fun w1 hb => ?_, fun w1 bs v set hb ho hs => ?_, fun w1 set hb hs => ?_⟩
  · refine (parseT_any w1 s (HTb _ hb).1 (HTb _ hb).2.1 (HTb _ hb).2.2.1 (HTb _ hb).2.2.2).mono fun e w' h => ?_
    rcases tp_cases s with ⟨n, j, hc⟩ | ⟨set, h1, h2, h3, hc⟩
    · obtain ⟨q1, q2⟩ := hc _ _ _ h
      exact .inl ⟨n, j, q1, hb.trans (q2.mono hb.size)⟩
    · obtain ⟨v', q1, q2, q3⟩ := hc _ _ _ h
      obtain ⟨o, c, rfl⟩ := own_form q2
      exact .inr ⟨o, c, set, q1, ⟨q2, hb.trans (q3.mono hb.size)⟩, h1, h2, h3⟩
  · exact (lprint_own w1 bs v set ho hs.2.2 hs.2.1 hs.1 (HTb _ hb).1 (HTb _ hb).2.2.1 (HTb _ hb).2.2.2).mono fun e w' h => ⟨h.1, hb.trans (h.2.mono hb.size)⟩
  · refine (lparse_back w1 set hs.2.2 hs.2.1 hs.1 (HTb _ hb).1 (HTb _ hb).2.2.1 (HTb _ hb).2.2.2).mono fun e w' h => ?_
    split
    · rename_i h2
      rw [if_pos h2] at h
      exact ⟨h.1, hb.trans (h.2.mono hb.size)⟩
    · rename_i h2
      rw [if_neg h2] at h
      obtain ⟨v', q1, q2, q3⟩ := h
      obtain ⟨o, c, rfl⟩ := own_form q2
      exact ⟨o, c, q1, hb.trans (q3.mono hb.size)⟩

end Tu
end Go.Proofs.YtfapcangooodeabGreatDoor

set_option linter.unusedSimpArgs false
set_option linter.unusedVariables false
namespace Go.Proofs.YtfapcangooodeabGreatDoor
open Go.RowKit
open Back
namespace Tu

set_option maxHeartbeats 16000000 in
set_option maxRecDepth 20000 in
theorem back_bad (w : World) (v nv : Value) (l : List Tri) (ns : List Nam2) (s : ByteArray) (n j : Int) (hn : n = 4 ∨ n = 10) (h : Lw w v nv l ns s)
    (hpr : ∀ w1 bs v' nb nv', Below w.heap.size w w1 → w1.ownsRow bs 44 3 v' l.length (cellsOf l) → w1.ownsRow nb 35 2 nv' ns.length (cellsN ns) → Calls Tryz.prog 8 #[v', nv'] w1 fun e w' => e = .returned (.tuple #[.string ⟨#[]⟩, .int .i64 n, .int .i64 j]) ∧ Below w.heap.size w w') :
    Calls Tryz.prog 4 #[v, nv, .string s] w fun e w' => e = .returned (.bool true) ∧ Below w.heap.size w w' := by
  have HA : Hid (Calls Tryz.prog 12 #[] w fun e w' => e = .returned (.bool true) ∧ Below w.heap.size w w') := h.alive
  have HTr : Hid (∀ w1, Below w.heap.size w w1 → Calls Tryz.prog 6 #[v] w1 fun e w' => ∃ v', e = .returned v' ∧ w'.ownsRow w1.heap.size 44 3 v' l.length (cellsOf l) ∧ Below w.heap.size w w' ∧ Below w1.heap.size w1 w') := h.triples
  have HNm : Hid (∀ w1, Below w.heap.size w w1 → Calls Tryz.prog 7 #[nv] w1 fun e w' => ∃ v', e = .returned v' ∧ w'.ownsRow w1.heap.size 35 2 v' ns.length (cellsN ns) ∧ Below w.heap.size w w' ∧ Below w1.heap.size w1 w') := h.names
  have HPt : Hid (∀ w1, Below w.heap.size w w1 → Calls Tryz.prog 13 #[.string s] w1 fun e w' => (∃ n j : Int, e = .returned (.tuple #[.slice none 0 0, .int .i64 n, .int .i64 j]) ∧ Below w.heap.size w w') ∨ ∃ (o : Option Addr) (c : Nat) (set : List Tri), e = .returned (.tuple #[.slice o set.length c, .int .i64 0, .int .i64 0]) ∧ (w'.ownsRow w1.heap.size 44 3 (.slice o set.length c) set.length (cellsOf set) ∧ Below w.heap.size w w') ∧ (set.length ≤ 300 ∧ Rising set ∧ ∀ x ∈ set, soundT x = true)) := h.parse
  have HLp : Hid (∀ w1 bs v set, Below w.heap.size w w1 → w1.ownsRow bs 44 3 v set.length (cellsOf set) → (set.length ≤ 300 ∧ Rising set ∧ ∀ x ∈ set, soundT x = true) → Calls Tryz.prog 15 #[v] w1 fun e w' => e = .returned (.tuple #[.string (arr (printT set)), .int .i64 0, .int .i64 0]) ∧ Below w.heap.size w w') := h.lprint
  have HLb : Hid (∀ w1 set, Below w.heap.size w w1 → (set.length ≤ 300 ∧ Rising set ∧ ∀ x ∈ set, soundT x = true) → Calls Tryz.prog 16 #[.string (arr (printT set))] w1 fun e w' => if 20000 < (printT set).length then e = .returned (.tuple #[.slice none 0 0, .int .i64 1, .int .i64 0]) ∧ Below w.heap.size w w' else ∃ o c, e = .returned (.tuple #[.slice o set.length c, .int .i64 0, .int .i64 0]) ∧ Below w.heap.size w w') := h.lparse
  have HN0 : Hid (∀ w1, Calls Tryz.prog 11 #[.int .i64 0] w1 fun e w' => e = .returned (.int .i64 0) ∧ w' = w1) := fun w1 => numT w1 0 (by omega) (by omega)
  have HPr : Hid (∀ w1 bs v' nb nv', Below w.heap.size w w1 → w1.ownsRow bs 44 3 v' l.length (cellsOf l) → w1.ownsRow nb 35 2 nv' ns.length (cellsN ns) → Calls Tryz.prog 8 #[v', nv'] w1 fun e w' => e = .returned (.tuple #[.string ⟨#[]⟩, .int .i64 n, .int .i64 j]) ∧ Below w.heap.size w w') := hpr
  have HNu : Hid (∀ w1, Calls Tryz.prog 11 #[.int .i64 n] w1 fun e w' => e = .returned (.int .i64 n) ∧ w' = w1) := fun w1 => numT w1 n (by omega) (by omega)
  have hn0 : n ≠ 0 := by omega
  have hn1 : (n == 0) = false := by rcases hn with rfl | rfl <;> rfl
  clear h hpr hn
  go_enter Tryz.func4, Tryz.ntmps4
  go_wp2_with fail
  refine HA.out.mono ?_
  rintro e w1 ⟨rfl, hb1⟩
  have HB1 : Hid (Below w.heap.size w w1) := hb1
  clear hb1
  go_wp2_with fail
  refine (HTr.out _ HB1.out).mono ?_
  rintro e w2 ⟨v2, rfl, o2, hb2⟩
  have H2 : Hid (Below w.heap.size w w2 ∧ w2.ownsRow w1.heap.size 44 3 v2 l.length (cellsOf l)) := ⟨hb2.1, o2⟩
  clear hb2 o2
  go_wp2_with fail
  refine (HNm.out _ H2.out.1).mono ?_
  rintro e w3 ⟨nv3, rfl, o3, hb3⟩
  have H3 : Hid (Below w.heap.size w w3 ∧ w3.ownsRow w1.heap.size 44 3 v2 l.length (cellsOf l) ∧ w3.ownsRow w2.heap.size 35 2 nv3 ns.length (cellsN ns)) := ⟨hb3.1, own_same H2.out.2 fun g _ hg => hb3.2.block g hg, o3⟩
  clear hb3 o3
  go_wp2_with fail
  refine (HPr.out _ _ _ _ _ H3.out.1 H3.out.2.1 H3.out.2.2).mono ?_
  rintro e w4 ⟨rfl, hb4⟩
  have HB4 : Hid (Below w.heap.size w w4) := hb4
  clear hb4
  go_wp2_with fail
  refine (HNu.out _).mono ?_
  rintro e w5 ⟨rfl, rfl⟩
  clear hn0
  have hn0 : n ≠ 0 := by intro e; rw [e] at hn1; cases hn1
  go_wp2_with fail
  refine (HPt.out _ HB4.out).mono ?_
  intro e wA hA
  rcases hA with ⟨n, j, rfl, hbA⟩ | ⟨oA, cA, setA, rfl, hoA, hfA⟩
  · have HBA : Hid (Below w.heap.size w wA) := hbA
    clear hbA
    go_wp2_with fail
    refine (numW _ n).mono ?_
    rintro e wB ⟨⟨m, rfl⟩, rfl⟩
    by_cases hm : m = 0
    · subst hm
      go_wp2_with fail
      refine (HLp.out _ _ (.slice none 0 0) [] HBA.out (own_nil _ 0 _) ⟨by simp, List.Pairwise.nil, by simp⟩).mono ?_
      rintro e wC ⟨rfl, hbC⟩
      have HBC : Hid (Below w.heap.size w wC) := hbC
      clear hbC
      go_wp2_with fail
      refine (HLb.out _ [] HBC.out ⟨by simp, List.Pairwise.nil, by simp⟩).mono ?_
      intro e wD hD
      rw [if_neg (by simp [printT])] at hD
      obtain ⟨oD, cD, rfl, hbD⟩ := hD
      have HBD : Hid (Below w.heap.size w wD) := hbD
      have hps : (arr (printT [])).size = 0 := by rw [arr_sz]; rfl
      clear hbD
      go_wp2_with fail
      refine (HN0.out _).mono ?_
      rintro e wE ⟨rfl, rfl⟩
      go_wp2_with fail
      refine (HN0.out _).mono ?_
      rintro e wF ⟨rfl, rfl⟩
      go_wp2_with fail
      go_ret
      exact ⟨rfl, HBD.out⟩
    · have hm1 : (m != 0) = true := by simpa using hm
      go_wp2_with fail
      go_ret
      exact ⟨rfl, HBA.out⟩
  · have HOA : Hid (_ ∧ _) := hoA
    have HFA : Hid (_ ∧ _) := hfA
    clear hoA hfA
    go_wp2_with fail
    refine (HN0.out _).mono ?_
    rintro e wB ⟨rfl, rfl⟩
    go_wp2_with fail
    refine (HLp.out _ _ _ setA HOA.out.2 HOA.out.1 HFA.out).mono ?_
    rintro e wC ⟨rfl, hbC⟩
    have HBC : Hid (Below w.heap.size w wC) := hbC
    have hps : (arr (printT setA)).size = (printT setA).length := arr_sz _
    clear hbC
    go_wp2_with fail
    refine (HLb.out _ setA HBC.out HFA.out).mono ?_
    intro e wD hD
    by_cases hlA : 20000 < (printT setA).length
    · rw [if_pos hlA] at hD
      obtain ⟨rfl, hbD⟩ := hD
      have HBD : Hid (Below w.heap.size w wD) := hbD
      clear hbD
      go_wp2_with fail
      refine (HN0.out _).mono ?_
      rintro e wE ⟨rfl, rfl⟩
      go_wp2_with fail
      go_ret
      exact ⟨rfl, HBD.out⟩
    · rw [if_neg hlA] at hD
      obtain ⟨oD, cD, rfl, hbD⟩ := hD
      have HBD : Hid (Below w.heap.size w wD) := hbD
      clear hbD
      go_wp2_with fail
      refine (HN0.out _).mono ?_
      rintro e wE ⟨rfl, rfl⟩
      go_wp2_with fail
      refine (HN0.out _).mono ?_
      rintro e wF ⟨rfl, rfl⟩
      go_wp2_with fail
      go_ret
      exact ⟨rfl, HBD.out⟩

end Tu
end Go.Proofs.YtfapcangooodeabGreatDoor

set_option linter.unusedSimpArgs false
set_option linter.unusedVariables false
namespace Go.Proofs.YtfapcangooodeabGreatDoor
open Go.RowKit
open Back
namespace Tu

set_option maxHeartbeats 16000000 in
set_option maxRecDepth 20000 in
theorem back_long (w : World) (v nv : Value) (l : List Tri) (ns : List Nam2) (s X : ByteArray) (set : List Tri) (hz : 20000 < X.size) (h : Lw w v nv l ns s)
    (hpr : ∀ w1 bs v' nb nv', Below w.heap.size w w1 → w1.ownsRow bs 44 3 v' l.length (cellsOf l) → w1.ownsRow nb 35 2 nv' ns.length (cellsN ns) → Calls Tryz.prog 8 #[v', nv'] w1 fun e w' => ((∃ n j : Int, (n = 5 ∨ n = 6 ∨ n = 10) ∧ e = .returned (.tuple #[.string ⟨#[]⟩, .int .i64 n, .int .i64 j])) ∨ ((NamesOk ns ∧ Apart ns ∧ set.any madeT = false) ∧ e = .returned (.tuple #[.string X, .int .i64 0, .int .i64 0]))) ∧ Below w.heap.size w w')
    (hse : ∀ w1 bs v', Below w.heap.size w w1 → w1.ownsRow bs 44 3 v' l.length (cellsOf l) → Calls Tryz.prog 14 #[v'] w1 fun e w' => ∃ o c, e = .returned (.tuple #[.slice o set.length c, .int .i64 0, .int .i64 0]) ∧ w'.ownsRow w1.heap.size 44 3 (.slice o set.length c) set.length (cellsOf set) ∧ Below w.heap.size w w' ∧ Below w1.heap.size w1 w')
    (hpx : ∀ w1, Below w.heap.size w w1 → Calls Tryz.prog 13 #[.string X] w1 fun e w' => e = .returned (.tuple #[.slice none 0 0, .int .i64 1, .int .i64 0]) ∧ Below w.heap.size w w') :
    Calls Tryz.prog 4 #[v, nv, .string s] w fun e w' => e = .returned (.bool true) ∧ Below w.heap.size w w' := by
  have HA : Hid (Calls Tryz.prog 12 #[] w fun e w' => e = .returned (.bool true) ∧ Below w.heap.size w w') := h.alive
  have HTr : Hid (∀ w1, Below w.heap.size w w1 → Calls Tryz.prog 6 #[v] w1 fun e w' => ∃ v', e = .returned v' ∧ w'.ownsRow w1.heap.size 44 3 v' l.length (cellsOf l) ∧ Below w.heap.size w w' ∧ Below w1.heap.size w1 w') := h.triples
  have HNm : Hid (∀ w1, Below w.heap.size w w1 → Calls Tryz.prog 7 #[nv] w1 fun e w' => ∃ v', e = .returned v' ∧ w'.ownsRow w1.heap.size 35 2 v' ns.length (cellsN ns) ∧ Below w.heap.size w w' ∧ Below w1.heap.size w1 w') := h.names
  have HPt : Hid (∀ w1, Below w.heap.size w w1 → Calls Tryz.prog 13 #[.string s] w1 fun e w' => (∃ n j : Int, e = .returned (.tuple #[.slice none 0 0, .int .i64 n, .int .i64 j]) ∧ Below w.heap.size w w') ∨ ∃ (o : Option Addr) (c : Nat) (set : List Tri), e = .returned (.tuple #[.slice o set.length c, .int .i64 0, .int .i64 0]) ∧ (w'.ownsRow w1.heap.size 44 3 (.slice o set.length c) set.length (cellsOf set) ∧ Below w.heap.size w w') ∧ (set.length ≤ 300 ∧ Rising set ∧ ∀ x ∈ set, soundT x = true)) := h.parse
  have HLp : Hid (∀ w1 bs v set, Below w.heap.size w w1 → w1.ownsRow bs 44 3 v set.length (cellsOf set) → (set.length ≤ 300 ∧ Rising set ∧ ∀ x ∈ set, soundT x = true) → Calls Tryz.prog 15 #[v] w1 fun e w' => e = .returned (.tuple #[.string (arr (printT set)), .int .i64 0, .int .i64 0]) ∧ Below w.heap.size w w') := h.lprint
  have HLb : Hid (∀ w1 set, Below w.heap.size w w1 → (set.length ≤ 300 ∧ Rising set ∧ ∀ x ∈ set, soundT x = true) → Calls Tryz.prog 16 #[.string (arr (printT set))] w1 fun e w' => if 20000 < (printT set).length then e = .returned (.tuple #[.slice none 0 0, .int .i64 1, .int .i64 0]) ∧ Below w.heap.size w w' else ∃ o c, e = .returned (.tuple #[.slice o set.length c, .int .i64 0, .int .i64 0]) ∧ Below w.heap.size w w') := h.lparse
  have HN0 : Hid (∀ w1, Calls Tryz.prog 11 #[.int .i64 0] w1 fun e w' => e = .returned (.int .i64 0) ∧ w' = w1) := fun w1 => numT w1 0 (by omega) (by omega)
  have HPr : Hid (∀ w1 bs v' nb nv', Below w.heap.size w w1 → w1.ownsRow bs 44 3 v' l.length (cellsOf l) → w1.ownsRow nb 35 2 nv' ns.length (cellsN ns) → Calls Tryz.prog 8 #[v', nv'] w1 fun e w' => ((∃ n j : Int, (n = 5 ∨ n = 6 ∨ n = 10) ∧ e = .returned (.tuple #[.string ⟨#[]⟩, .int .i64 n, .int .i64 j])) ∨ ((NamesOk ns ∧ Apart ns ∧ set.any madeT = false) ∧ e = .returned (.tuple #[.string X, .int .i64 0, .int .i64 0]))) ∧ Below w.heap.size w w') := hpr
  have HSe : Hid (∀ w1 bs v', Below w.heap.size w w1 → w1.ownsRow bs 44 3 v' l.length (cellsOf l) → Calls Tryz.prog 14 #[v'] w1 fun e w' => ∃ o c, e = .returned (.tuple #[.slice o set.length c, .int .i64 0, .int .i64 0]) ∧ w'.ownsRow w1.heap.size 44 3 (.slice o set.length c) set.length (cellsOf set) ∧ Below w.heap.size w w' ∧ Below w1.heap.size w1 w') := hse
  have HPx : Hid (∀ w1, Below w.heap.size w w1 → Calls Tryz.prog 13 #[.string X] w1 fun e w' => e = .returned (.tuple #[.slice none 0 0, .int .i64 1, .int .i64 0]) ∧ Below w.heap.size w w') := hpx
  clear h hpr hse hpx
  go_enter Tryz.func4, Tryz.ntmps4
  go_wp2_with fail
  refine HA.out.mono ?_
  rintro e w1 ⟨rfl, hb1⟩
  have HB1 : Hid (Below w.heap.size w w1) := hb1
  clear hb1
  go_wp2_with fail
  refine (HTr.out _ HB1.out).mono ?_
  rintro e w2 ⟨v2, rfl, o2, hb2⟩
  have H2 : Hid (Below w.heap.size w w2 ∧ w2.ownsRow w1.heap.size 44 3 v2 l.length (cellsOf l)) := ⟨hb2.1, o2⟩
  clear hb2 o2
  go_wp2_with fail
  refine (HNm.out _ H2.out.1).mono ?_
  rintro e w3 ⟨nv3, rfl, o3, hb3⟩
  have H3 : Hid (Below w.heap.size w w3 ∧ w3.ownsRow w1.heap.size 44 3 v2 l.length (cellsOf l) ∧ w3.ownsRow w2.heap.size 35 2 nv3 ns.length (cellsN ns)) := ⟨hb3.1, own_same H2.out.2 fun g _ hg => hb3.2.block g hg, o3⟩
  clear hb3 o3
  go_wp2_with fail
  refine (HPr.out _ _ _ _ _ H3.out.1 H3.out.2.1 H3.out.2.2).mono ?_
  rintro e w4 ⟨⟨n, j, hn, rfl⟩ | ⟨hGo, rfl⟩, hb4⟩
  · have HB4 : Hid (Below w.heap.size w w4) := hb4
    have HNu : Hid (∀ w1, Calls Tryz.prog 11 #[.int .i64 n] w1 fun e w' => e = .returned (.int .i64 n) ∧ w' = w1) := fun w1 => numT w1 n (by omega) (by omega)
    have hn0 : n ≠ 0 := by omega
    have hn1 : (n == 0) = false := by rcases hn with rfl | rfl | rfl <;> rfl
    clear hb4 hn
    go_wp2_with fail
    refine (HNu.out _).mono ?_
    rintro e w5 ⟨rfl, rfl⟩
    go_wp2_with fail
    refine (HPt.out _ HB4.out).mono ?_
    intro e wA hA
    rcases hA with ⟨n, j, rfl, hbA⟩ | ⟨oA, cA, setA, rfl, hoA, hfA⟩
    · have HBA : Hid (Below w.heap.size w wA) := hbA
      clear hbA
      go_wp2_with fail
      refine (numW _ n).mono ?_
      rintro e wB ⟨⟨m, rfl⟩, rfl⟩
      by_cases hm : m = 0
      · subst hm
        go_wp2_with fail
        refine (HLp.out _ _ (.slice none 0 0) [] HBA.out (own_nil _ 0 _) ⟨by simp, List.Pairwise.nil, by simp⟩).mono ?_
        rintro e wC ⟨rfl, hbC⟩
        have HBC : Hid (Below w.heap.size w wC) := hbC
        clear hbC
        go_wp2_with fail
        refine (HLb.out _ [] HBC.out ⟨by simp, List.Pairwise.nil, by simp⟩).mono ?_
        intro e wD hD
        rw [if_neg (by simp [printT])] at hD
        obtain ⟨oD, cD, rfl, hbD⟩ := hD
        have HBD : Hid (Below w.heap.size w wD) := hbD
        have hps : (arr (printT [])).size = 0 := by rw [arr_sz]; rfl
        clear hbD
        go_wp2_with fail
        refine (HN0.out _).mono ?_
        rintro e wE ⟨rfl, rfl⟩
        go_wp2_with fail
        refine (HN0.out _).mono ?_
        rintro e wF ⟨rfl, rfl⟩
        go_wp2_with fail
        go_ret
        exact ⟨rfl, HBD.out⟩
      · have hm1 : (m != 0) = true := by simpa using hm
        go_wp2_with fail
        go_ret
        exact ⟨rfl, HBA.out⟩
    · have HOA : Hid (_ ∧ _) := hoA
      have HFA : Hid (_ ∧ _) := hfA
      clear hoA hfA
      go_wp2_with fail
      refine (HN0.out _).mono ?_
      rintro e wB ⟨rfl, rfl⟩
      go_wp2_with fail
      refine (HLp.out _ _ _ setA HOA.out.2 HOA.out.1 HFA.out).mono ?_
      rintro e wC ⟨rfl, hbC⟩
      have HBC : Hid (Below w.heap.size w wC) := hbC
      have hps : (arr (printT setA)).size = (printT setA).length := arr_sz _
      clear hbC
      go_wp2_with fail
      refine (HLb.out _ setA HBC.out HFA.out).mono ?_
      intro e wD hD
      by_cases hlA : 20000 < (printT setA).length
      · rw [if_pos hlA] at hD
        obtain ⟨rfl, hbD⟩ := hD
        have HBD : Hid (Below w.heap.size w wD) := hbD
        clear hbD
        go_wp2_with fail
        refine (HN0.out _).mono ?_
        rintro e wE ⟨rfl, rfl⟩
        go_wp2_with fail
        go_ret
        exact ⟨rfl, HBD.out⟩
      · rw [if_neg hlA] at hD
        obtain ⟨oD, cD, rfl, hbD⟩ := hD
        have HBD : Hid (Below w.heap.size w wD) := hbD
        clear hbD
        go_wp2_with fail
        refine (HN0.out _).mono ?_
        rintro e wE ⟨rfl, rfl⟩
        go_wp2_with fail
        refine (HN0.out _).mono ?_
        rintro e wF ⟨rfl, rfl⟩
        go_wp2_with fail
        go_ret
        exact ⟨rfl, HBD.out⟩
  · have HB4 : Hid (Below w.heap.size w w4) := hb4
    have HGo : Hid (NamesOk ns ∧ Apart ns ∧ set.any madeT = false) := hGo
    clear hb4 hGo
    go_wp2_with fail
    refine (HN0.out _).mono ?_
    rintro e w5 ⟨rfl, rfl⟩
    go_wp2_with fail
    refine (HPx.out _ HB4.out).mono ?_
    rintro e w6 ⟨rfl, hb6⟩
    have HB6 : Hid (Below w.heap.size w w6) := hb6
    clear hb6
    go_wp2_with fail
    refine (HTr.out _ HB6.out).mono ?_
    rintro e w7 ⟨v7, rfl, o7, hb7⟩
    have H7 : Hid (Below w.heap.size w w7 ∧ w7.ownsRow w6.heap.size 44 3 v7 l.length (cellsOf l)) := ⟨hb7.1, o7⟩
    clear hb7 o7
    go_wp2_with fail
    refine (HSe.out _ _ _ H7.out.1 H7.out.2).mono ?_
    rintro e w8 ⟨o8, c8, rfl, q8, hb8, _⟩
    have HB8 : Hid (Below w.heap.size w w8) := hb8
    clear hb8 q8
    go_wp2_with fail
    refine (numT _ 1 (by omega) (by omega)).mono ?_
    rintro e w9 ⟨rfl, rfl⟩
    go_wp2_with fail
    refine (HPt.out _ HB8.out).mono ?_
    intro e wA hA
    rcases hA with ⟨n, j, rfl, hbA⟩ | ⟨oA, cA, setA, rfl, hoA, hfA⟩
    · have HBA : Hid (Below w.heap.size w wA) := hbA
      clear hbA
      go_wp2_with fail
      refine (numW _ n).mono ?_
      rintro e wB ⟨⟨m, rfl⟩, rfl⟩
      by_cases hm : m = 0
      · subst hm
        go_wp2_with fail
        refine (HLp.out _ _ (.slice none 0 0) [] HBA.out (own_nil _ 0 _) ⟨by simp, List.Pairwise.nil, by simp⟩).mono ?_
        rintro e wC ⟨rfl, hbC⟩
        have HBC : Hid (Below w.heap.size w wC) := hbC
        clear hbC
        go_wp2_with fail
        refine (HLb.out _ [] HBC.out ⟨by simp, List.Pairwise.nil, by simp⟩).mono ?_
        intro e wD hD
        rw [if_neg (by simp [printT])] at hD
        obtain ⟨oD, cD, rfl, hbD⟩ := hD
        have HBD : Hid (Below w.heap.size w wD) := hbD
        have hps : (arr (printT [])).size = 0 := by rw [arr_sz]; rfl
        clear hbD
        go_wp2_with fail
        refine (HN0.out _).mono ?_
        rintro e wE ⟨rfl, rfl⟩
        go_wp2_with fail
        refine (HN0.out _).mono ?_
        rintro e wF ⟨rfl, rfl⟩
        go_wp2_with fail
        go_ret
        exact ⟨rfl, HBD.out⟩
      · have hm1 : (m != 0) = true := by simpa using hm
        go_wp2_with fail
        go_ret
        exact ⟨rfl, HBA.out⟩
    · have HOA : Hid (_ ∧ _) := hoA
      have HFA : Hid (_ ∧ _) := hfA
      clear hoA hfA
      go_wp2_with fail
      refine (HN0.out _).mono ?_
      rintro e wB ⟨rfl, rfl⟩
      go_wp2_with fail
      refine (HLp.out _ _ _ setA HOA.out.2 HOA.out.1 HFA.out).mono ?_
      rintro e wC ⟨rfl, hbC⟩
      have HBC : Hid (Below w.heap.size w wC) := hbC
      have hps : (arr (printT setA)).size = (printT setA).length := arr_sz _
      clear hbC
      go_wp2_with fail
      refine (HLb.out _ setA HBC.out HFA.out).mono ?_
      intro e wD hD
      by_cases hlA : 20000 < (printT setA).length
      · rw [if_pos hlA] at hD
        obtain ⟨rfl, hbD⟩ := hD
        have HBD : Hid (Below w.heap.size w wD) := hbD
        clear hbD
        go_wp2_with fail
        refine (HN0.out _).mono ?_
        rintro e wE ⟨rfl, rfl⟩
        go_wp2_with fail
        go_ret
        exact ⟨rfl, HBD.out⟩
      · rw [if_neg hlA] at hD
        obtain ⟨oD, cD, rfl, hbD⟩ := hD
        have HBD : Hid (Below w.heap.size w wD) := hbD
        clear hbD
        go_wp2_with fail
        refine (HN0.out _).mono ?_
        rintro e wE ⟨rfl, rfl⟩
        go_wp2_with fail
        refine (HN0.out _).mono ?_
        rintro e wF ⟨rfl, rfl⟩
        go_wp2_with fail
        go_ret
        exact ⟨rfl, HBD.out⟩

end Tu
end Go.Proofs.YtfapcangooodeabGreatDoor

