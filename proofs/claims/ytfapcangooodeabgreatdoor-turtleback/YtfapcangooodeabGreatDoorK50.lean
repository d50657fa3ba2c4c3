import Derived.Test.YtfapcangooodeabGreatDoorK49
import Derived.BigQuiet
import Derived.Deep.QuietTactic
set_option linter.unusedSimpArgs false
set_option linter.unusedVariables false
namespace Go.Proofs.YtfapcangooodeabGreatDoor
open Go.RowKit
open Back
namespace Tu

set_option maxHeartbeats 16000000 in
set_option maxRecDepth 20000 in
theorem back_bad (w : World) (v nv : Value) (l : List Tri) (ns : List Nam2) (s : ByteArray) (n j : Int) (hn : n = 4 ∨ n = 10) (h : Lw w v nv l ns s)
    (hpr : ∀ w1 bs v' nb nv', Below w.heap.size w w1 → w1.ownsRow bs 44 3 v' l.length (cellsOf l) → w1.ownsRow nb 35 2 nv' ns.length (cellsN ns) → Calls Tryz.prog 8 #[v', nv'] w1 fun e w' => e = .returned (.tuple #[.string ⟨#[]⟩, .int .i64 n, .int .i64 j]) ∧ Below w.heap.size w w') :
    Calls Tryz.prog 4 #[v, nv, .string s] w fun e w' => e = .returned (.bool true) ∧ Below w.heap.size w w' := by
  have HA : Hid (Calls Tryz.prog 12 #[] w fun e w' => e = .returned (.bool true) ∧ Below w.heap.size w w') := h.alive
  have HTr : Hid (∀ w1, Below w.heap.size w w1 → Calls Tryz.prog 6 #[v] w1 fun e w' => ∃ v', e = .returned v' ∧ w'.ownsRow w1.heap.size 44 3 v' l.length (cellsOf l) ∧ Below w.heap.size w w' ∧ Below w1.heap.size w1 w') := h.triples
  have HNm : Hid (∀ w1, Below w.heap.size w w1 → Calls Tryz.prog 7 #[nv] w1 fun e w' => ∃ v', e = .returned v' ∧ w'.ownsRow w1.heap.size 35 2 v' ns.length (cellsN ns) ∧ Below w.heap.size w w' ∧ Below w1.heap.size w1 w') := h.names
  have HPt : Hid (∀ w1, Below w.heap.size w w1 → Calls Tryz.prog 13 #[.string s] w1 fun e w' => (∃ n j : Int, e = .returned (.tuple #[.slice none 0 0, .int .i64 n, .int .i64 j]) ∧ Below w.heap.size w w') ∨ ∃ (o : Option Addr) (c : Nat) (set : List Tri), e = .returned (.tuple #[.slice o set.length c, .int .i64 0, .int .i64 0]) ∧ (w'.ownsRow w1.heap.size 44 3 (.slice o set.length c) set.length (cellsOf set) ∧ Below w.heap.size w w') ∧ (set.length ≤ 300 ∧ Rising set ∧ ∀ x ∈ set, soundT x = true)) := h.parse
  have HLp : Hid (∀ w1 bs v set, Below w.heap.size w w1 → w1.ownsRow bs 44 3 v set.length (cellsOf set) → (set.length ≤ 300 ∧ Rising set ∧ ∀ x ∈ set, soundT x = true) → Calls Tryz.prog 15 #[v] w1 fun e w' => e = .returned (.tuple #[.string (arr (printT set)), .int .i64 0, .int .i64 0]) ∧ Below w.heap.size w w') := h.lprint
  have HLb : Hid (∀ w1 set, Below w.heap.size w w1 → (set.length ≤ 300 ∧ Rising set ∧ ∀ x ∈ set, soundT x = true) → Calls Tryz.prog 16 #[.string (arr (printT set))] w1 fun e w' => if 20000 < (printT set).length then e = .returned (.tuple #[.slice none 0 0, .int .i64 1, .int .i64 0]) ∧ Below w.heap.size w w' else ∃ o c, e = .returned (.tuple #[.slice o set.length c, .int .i64 0, .int .i64 0]) ∧ Below w.heap.size w w') := h.lparse
  have HN0 : Hid (∀ w1, Calls Tryz.prog 11 #[.int .i64 0] w1 fun e w' => e = .returned (.int .i64 0) ∧ w' = w1) := fun w1 => numT w1 0 (by omega) (by omega)
  have HPr : Hid (∀ w1 bs v' nb nv', Below w.heap.size w w1 → w1.ownsRow bs 44 3 v' l.length (cellsOf l) → w1.ownsRow nb 35 2 nv' ns.length (cellsN ns) → Calls Tryz.prog 8 #[v', nv'] w1 fun e w' => e = .returned (.tuple #[.string ⟨#[]⟩, .int .i64 n, .int .i64 j]) ∧ Below w.heap.size w w') := hpr
  have HNu : Hid (∀ w1, Calls Tryz.prog 11 #[.int .i64 n] w1 fun e w' => e = .returned (.int .i64 n) ∧ w' = w1) := fun w1 => numT w1 n (by omega) (by omega)
  have hn0 : n ≠ 0 := by omega
  have hn1 : (n == 0) = false := by rcases hn with rfl | rfl <;> rfl
  clear h hpr hn
  go_enter Tryz.func4, Tryz.ntmps4
  go_wp2_with fail
  refine HA.out.mono ?_
  rintro e w1 ⟨rfl, hb1⟩
  have HB1 : Hid (Below w.heap.size w w1) := hb1
  clear hb1
  go_wp2_with fail
  refine (HTr.out _ HB1.out).mono ?_
  rintro e w2 ⟨v2, rfl, o2, hb2⟩
  have H2 : Hid (Below w.heap.size w w2 ∧ w2.ownsRow w1.heap.size 44 3 v2 l.length (cellsOf l)) := ⟨hb2.1, o2⟩
  clear hb2 o2
  go_wp2_with fail
  refine (HNm.out _ H2.out.1).mono ?_
  rintro e w3 ⟨nv3, rfl, o3, hb3⟩
  have H3 : Hid (Below w.heap.size w w3 ∧ w3.ownsRow w1.heap.size 44 3 v2 l.length (cellsOf l) ∧ w3.ownsRow w2.heap.size 35 2 nv3 ns.length (cellsN ns)) := ⟨hb3.1, own_same H2.out.2 fun g _ hg => hb3.2.block g hg, o3⟩
  clear hb3 o3
  go_wp2_with fail
  refine (HPr.out _ _ _ _ _ H3.out.1 H3.out.2.1 H3.out.2.2).mono ?_
  rintro e w4 ⟨rfl, hb4⟩
  have HB4 : Hid (Below w.heap.size w w4) := hb4
  clear hb4
  go_wp2_with fail
  refine (HNu.out _).mono ?_
  rintro e w5 ⟨rfl, rfl⟩
  clear hn0
  have hn0 : n ≠ 0 := by intro e; rw [e] at hn1; cases hn1
  go_wp2_with fail
  refine (HPt.out _ HB4.out).mono ?_
  intro e wA hA
  rcases hA with ⟨n, j, rfl, hbA⟩ | ⟨oA, cA, setA, rfl, hoA, hfA⟩
  · have HBA : Hid (Below w.heap.size w wA) := hbA
    clear hbA
    go_wp2_with fail
    refine (numW _ n).mono ?_
    rintro e wB ⟨⟨m, rfl⟩, rfl⟩
    by_cases hm : m = 0
    · subst hm
      go_wp2_with fail
      refine (HLp.out _ _ (.slice none 0 0) [] HBA.out (own_nil _ 0 _) ⟨by simp, List.Pairwise.nil, by simp⟩).mono ?_
      rintro e wC ⟨rfl, hbC⟩
      have HBC : Hid (Below w.heap.size w wC) := hbC
      clear hbC
      go_wp2_with fail
      refine (HLb.out _ [] HBC.out ⟨by simp, List.Pairwise.nil, by simp⟩).mono ?_
      intro e wD hD
      rw [if_neg (by simp [printT])] at hD
      obtain ⟨oD, cD, rfl, hbD⟩ := hD
      have HBD : Hid (Below w.heap.size w wD) := hbD
      have hps : (arr (printT [])).size = 0 := by rw [arr_sz]; rfl
      clear hbD
      go_wp2_with fail
      refine (HN0.out _).mono ?_
      rintro e wE ⟨rfl, rfl⟩
      go_wp2_with fail
      refine (HN0.out _).mono ?_
      rintro e wF ⟨rfl, rfl⟩
      go_wp2_with fail
      go_ret
      exact ⟨rfl, HBD.out⟩
    · have hm1 : (m != 0) = true := by simpa using hm
      go_wp2_with fail
      go_ret
      exact ⟨rfl, HBA.out⟩
  · have HOA : Hid (_ ∧ _) := hoA
    have HFA : Hid (_ ∧ _) := hfA
    clear hoA hfA
    go_wp2_with fail
    refine (HN0.out _).mono ?_
    rintro e wB ⟨rfl, rfl⟩
    go_wp2_with fail
    refine (HLp.out _ _ _ setA HOA.out.2 HOA.out.1 HFA.out).mono ?_
    rintro e wC ⟨rfl, hbC⟩
    have HBC : Hid (Below w.heap.size w wC) := hbC
    have hps : (arr (printT setA)).size = (printT setA).length := arr_sz _
    clear hbC
    go_wp2_with fail
    refine (HLb.out _ setA HBC.out HFA.out).mono ?_
    intro e wD hD
    by_cases hlA : 20000 < (printT setA).length
    · rw [if_pos hlA] at hD
      obtain ⟨rfl, hbD⟩ := hD
      have HBD : Hid (Below w.heap.size w wD) := hbD
      clear hbD
      go_wp2_with fail
      refine (HN0.out _).mono ?_
      rintro e wE ⟨rfl, rfl⟩
      go_wp2_with fail
      go_ret
      exact ⟨rfl, HBD.out⟩
    · rw [if_neg hlA] at hD
      obtain ⟨oD, cD, rfl, hbD⟩ := hD
      have HBD : Hid (Below w.heap.size w wD) := hbD
      clear hbD
      go_wp2_with fail
      refine (HN0.out _).mono ?_
      rintro e wE ⟨rfl, rfl⟩
      go_wp2_with fail
      refine (HN0.out _).mono ?_
      rintro e wF ⟨rfl, rfl⟩
      go_wp2_with fail
      go_ret
      exact ⟨rfl, HBD.out⟩

end Tu
end Go.Proofs.YtfapcangooodeabGreatDoor

set_option linter.unusedSimpArgs false
set_option linter.unusedVariables false
namespace Go.Proofs.YtfapcangooodeabGreatDoor
open Go.RowKit
open Back
namespace Tu

set_option maxHeartbeats 16000000 in
set_option maxRecDepth 20000 in
theorem back_long (w : World) (v nv : Value) (l : List Tri) (ns : List Nam2) (s X : ByteArray) (set : List Tri) (hz : 20000 < X.size) (h : Lw w v nv l ns s)
    (hpr : ∀ w1 bs v' nb nv', Below w.heap.size w w1 → w1.ownsRow bs 44 3 v' l.length (cellsOf l) → w1.ownsRow nb 35 2 nv' ns.length (cellsN ns) → Calls Tryz.prog 8 #[v', nv'] w1 fun e w' => ((∃ n j : Int, (n = 5 ∨ n = 6 ∨ n = 10) ∧ e = .returned (.tuple #[.string ⟨#[]⟩, .int .i64 n, .int .i64 j])) ∨ ((NamesOk ns ∧ Apart ns ∧ set.any madeT = false) ∧ e = .returned (.tuple #[.string X, .int .i64 0, .int .i64 0]))) ∧ Below w.heap.size w w')
    (hse : ∀ w1 bs v', Below w.heap.size w w1 → w1.ownsRow bs 44 3 v' l.length (cellsOf l) → Calls Tryz.prog 14 #[v'] w1 fun e w' => ∃ o c, e = .returned (.tuple #[.slice o set.length c, .int .i64 0, .int .i64 0]) ∧ w'.ownsRow w1.heap.size 44 3 (.slice o set.length c) set.length (cellsOf set) ∧ Below w.heap.size w w' ∧ Below w1.heap.size w1 w')
    (hpx : ∀ w1, Below w.heap.size w w1 → Calls Tryz.prog 13 #[.string X] w1 fun e w' => e = .returned (.tuple #[.slice none 0 0, .int .i64 1, .int .i64 0]) ∧ Below w.heap.size w w') :
    Calls Tryz.prog 4 #[v, nv, .string s] w fun e w' => e = .returned (.bool true) ∧ Below w.heap.size w w' := by
  have HA : Hid (Calls Tryz.prog 12 #[] w fun e w' => e = .returned (.bool true) ∧ Below w.heap.size w w') := h.alive
  have HTr : Hid (∀ w1, Below w.heap.size w w1 → Calls Tryz.prog 6 #[v] w1 fun e w' => ∃ v', e = .returned v' ∧ w'.ownsRow w1.heap.size 44 3 v' l.length (cellsOf l) ∧ Below w.heap.size w w' ∧ Below w1.heap.size w1 w') := h.triples
  have HNm : Hid (∀ w1, Below w.heap.size w w1 → Calls Tryz.prog 7 #[nv] w1 fun e w' => ∃ v', e = .returned v' ∧ w'.ownsRow w1.heap.size 35 2 v' ns.length (cellsN ns) ∧ Below w.heap.size w w' ∧ Below w1.heap.size w1 w') := h.names
  have HPt : Hid (∀ w1, Below w.heap.size w w1 → Calls Tryz.prog 13 #[.string s] w1 fun e w' => (∃ n j : Int, e = .returned (.tuple #[.slice none 0 0, .int .i64 n, .int .i64 j]) ∧ Below w.heap.size w w') ∨ ∃ (o : Option Addr) (c : Nat) (set : List Tri), e = .returned (.tuple #[.slice o set.length c, .int .i64 0, .int .i64 0]) ∧ (w'.ownsRow w1.heap.size 44 3 (.slice o set.length c) set.length (cellsOf set) ∧ Below w.heap.size w w') ∧ (set.length ≤ 300 ∧ Rising set ∧ ∀ x ∈ set, soundT x = true)) := h.parse
  have HLp : Hid (∀ w1 bs v set, Below w.heap.size w w1 → w1.ownsRow bs 44 3 v set.length (cellsOf set) → (set.length ≤ 300 ∧ Rising set ∧ ∀ x ∈ set, soundT x = true) → Calls Tryz.prog 15 #[v] w1 fun e w' => e = .returned (.tuple #[.string (arr (printT set)), .int .i64 0, .int .i64 0]) ∧ Below w.heap.size w w') := h.lprint
  have HLb : Hid (∀ w1 set, Below w.heap.size w w1 → (set.length ≤ 300 ∧ Rising set ∧ ∀ x ∈ set, soundT x = true) → Calls Tryz.prog 16 #[.string (arr (printT set))] w1 fun e w' => if 20000 < (printT set).length then e = .returned (.tuple #[.slice none 0 0, .int .i64 1, .int .i64 0]) ∧ Below w.heap.size w w' else ∃ o c, e = .returned (.tuple #[.slice o set.length c, .int .i64 0, .int .i64 0]) ∧ Below w.heap.size w w') := h.lparse
  have HN0 : Hid (∀ w1, Calls Tryz.prog 11 #[.int .i64 0] w1 fun e w' => e = .returned (.int .i64 0) ∧ w' = w1) := fun w1 => numT w1 0 (by omega) (by omega)
  have HPr : Hid (∀ w1 bs v' nb nv', Below w.heap.size w w1 → w1.ownsRow bs 44 3 v' l.length (cellsOf l) → w1.ownsRow nb 35 2 nv' ns.length (cellsN ns) → Calls Tryz.prog 8 #[v', nv'] w1 fun e w' => ((∃ n j : Int, (n = 5 ∨ n = 6 ∨ n = 10) ∧ e = .returned (.tuple #[.string ⟨#[]⟩, .int .i64 n, .int .i64 j])) ∨ ((NamesOk ns ∧ Apart ns ∧ set.any madeT = false) ∧ e = .returned (.tuple #[.string X, .int .i64 0, .int .i64 0]))) ∧ Below w.heap.size w w') := hpr
  have HSe : Hid (∀ w1 bs v', Below w.heap.size w w1 → w1.ownsRow bs 44 3 v' l.length (cellsOf l) → Calls Tryz.prog 14 #[v'] w1 fun e w' => ∃ o c, e = .returned (.tuple #[.slice o set.length c, .int .i64 0, .int .i64 0]) ∧ w'.ownsRow w1.heap.size 44 3 (.slice o set.length c) set.length (cellsOf set) ∧ Below w.heap.size w w' ∧ Below w1.heap.size w1 w') := hse
  have HPx : Hid (∀ w1, Below w.heap.size w w1 → Calls Tryz.prog 13 #[.string X] w1 fun e w' => e = .returned (.tuple #[.slice none 0 0, .int .i64 1, .int .i64 0]) ∧ Below w.heap.size w w') := hpx
  clear h hpr hse hpx
  go_enter Tryz.func4, Tryz.ntmps4
  go_wp2_with fail
  refine HA.out.mono ?_
  rintro e w1 ⟨rfl, hb1⟩
  have HB1 : Hid (Below w.heap.size w w1) := hb1
  clear hb1
  go_wp2_with fail
  refine (HTr.out _ HB1.out).mono ?_
  rintro e w2 ⟨v2, rfl, o2, hb2⟩
  have H2 : Hid (Below w.heap.size w w2 ∧ w2.ownsRow w1.heap.size 44 3 v2 l.length (cellsOf l)) := ⟨hb2.1, o2⟩
  clear hb2 o2
  go_wp2_with fail
  refine (HNm.out _ H2.out.1).mono ?_
  rintro e w3 ⟨nv3, rfl, o3, hb3⟩
  have H3 : Hid (Below w.heap.size w w3 ∧ w3.ownsRow w1.heap.size 44 3 v2 l.length (cellsOf l) ∧ w3.ownsRow w2.heap.size 35 2 nv3 ns.length (cellsN ns)) := ⟨hb3.1, own_same H2.out.2 fun g _ hg => hb3.2.block g hg, o3⟩
  clear hb3 o3
  go_wp2_with fail
  refine (HPr.out _ _ _ _ _ H3.out.1 H3.out.2.1 H3.out.2.2).mono ?_
  rintro e w4 ⟨⟨n, j, hn, rfl⟩ | ⟨hGo, rfl⟩, hb4⟩
  · have HB4 : Hid (Below w.heap.size w w4) := hb4
    have HNu : Hid (∀ w1, Calls Tryz.prog 11 #[.int .i64 n] w1 fun e w' => e = .returned (.int .i64 n) ∧ w' = w1) := fun w1 => numT w1 n (by omega) (by omega)
    have hn0 : n ≠ 0 := by omega
    have hn1 : (n == 0) = false := by rcases hn with rfl | rfl | rfl <;> rfl
    clear hb4 hn
    go_wp2_with fail
    refine (HNu.out _).mono ?_
    rintro e w5 ⟨rfl, rfl⟩
    go_wp2_with fail
    refine (HPt.out _ HB4.out).mono ?_
    intro e wA hA
    rcases hA with ⟨n, j, rfl, hbA⟩ | ⟨oA, cA, setA, rfl, hoA, hfA⟩
    · have HBA : Hid (Below w.heap.size w wA) := hbA
      clear hbA
      go_wp2_with fail
      refine (numW _ n).mono ?_
      rintro e wB ⟨⟨m, rfl⟩, rfl⟩
      by_cases hm : m = 0
      · subst hm
        go_wp2_with fail
        refine (HLp.out _ _ (.slice none 0 0) [] HBA.out (own_nil _ 0 _) ⟨by simp, List.Pairwise.nil, by simp⟩).mono ?_
        rintro e wC ⟨rfl, hbC⟩
        have HBC : Hid (Below w.heap.size w wC) := hbC
        clear hbC
        go_wp2_with fail
        refine (HLb.out _ [] HBC.out ⟨by simp, List.Pairwise.nil, by simp⟩).mono ?_
        intro e wD hD
        rw [if_neg (by simp [printT])] at hD
        obtain ⟨oD, cD, rfl, hbD⟩ := hD
        have HBD : Hid (Below w.heap.size w wD) := hbD
        have hps : (arr (printT [])).size = 0 := by rw [arr_sz]; rfl
        clear hbD
        go_wp2_with fail
        refine (HN0.out _).mono ?_
        rintro e wE ⟨rfl, rfl⟩
        go_wp2_with fail
        refine (HN0.out _).mono ?_
        rintro e wF ⟨rfl, rfl⟩
        go_wp2_with fail
        go_ret
        exact ⟨rfl, HBD.out⟩
      · have hm1 : (m != 0) = true := by simpa using hm
        go_wp2_with fail
        go_ret
        exact ⟨rfl, HBA.out⟩
    · have HOA : Hid (_ ∧ _) := hoA
      have HFA : Hid (_ ∧ _) := hfA
      clear hoA hfA
      go_wp2_with fail
      refine (HN0.out _).mono ?_
      rintro e wB ⟨rfl, rfl⟩
      go_wp2_with fail
      refine (HLp.out _ _ _ setA HOA.out.2 HOA.out.1 HFA.out).mono ?_
      rintro e wC ⟨rfl, hbC⟩
      have HBC : Hid (Below w.heap.size w wC) := hbC
      have hps : (arr (printT setA)).size = (printT setA).length := arr_sz _
      clear hbC
      go_wp2_with fail
      refine (HLb.out _ setA HBC.out HFA.out).mono ?_
      intro e wD hD
      by_cases hlA : 20000 < (printT setA).length
      · rw [if_pos hlA] at hD
        obtain ⟨rfl, hbD⟩ := hD
        have HBD : Hid (Below w.heap.size w wD) := hbD
        clear hbD
        go_wp2_with fail
        refine (HN0.out _).mono ?_
        rintro e wE ⟨rfl, rfl⟩
        go_wp2_with fail
        go_ret
        exact ⟨rfl, HBD.out⟩
      · rw [if_neg hlA] at hD
        obtain ⟨oD, cD, rfl, hbD⟩ := hD
        have HBD : Hid (Below w.heap.size w wD) := hbD
        clear hbD
        go_wp2_with fail
        refine (HN0.out _).mono ?_
        rintro e wE ⟨rfl, rfl⟩
        go_wp2_with fail
        refine (HN0.out _).mono ?_
        rintro e wF ⟨rfl, rfl⟩
        go_wp2_with fail
        go_ret
        exact ⟨rfl, HBD.out⟩
  · have HB4 : Hid (Below w.heap.size w w4) := hb4
    have HGo : Hid (NamesOk ns ∧ Apart ns ∧ set.any madeT = false) := hGo
    clear hb4 hGo
    go_wp2_with fail
    refine (HN0.out _).mono ?_
    rintro e w5 ⟨rfl, rfl⟩
    go_wp2_with fail
    refine (HPx.out _ HB4.out).mono ?_
    rintro e w6 ⟨rfl, hb6⟩
    have HB6 : Hid (Below w.heap.size w w6) := hb6
    clear hb6
    go_wp2_with fail
    refine (HTr.out _ HB6.out).mono ?_
    rintro e w7 ⟨v7, rfl, o7, hb7⟩
    have H7 : Hid (Below w.heap.size w w7 ∧ w7.ownsRow w6.heap.size 44 3 v7 l.length (cellsOf l)) := ⟨hb7.1, o7⟩
    clear hb7 o7
    go_wp2_with fail
    refine (HSe.out _ _ _ H7.out.1 H7.out.2).mono ?_
    rintro e w8 ⟨o8, c8, rfl, q8, hb8, _⟩
    have HB8 : Hid (Below w.heap.size w w8) := hb8
    clear hb8 q8
    go_wp2_with fail
    refine (numT _ 1 (by omega) (by omega)).mono ?_
    rintro e w9 ⟨rfl, rfl⟩
    go_wp2_with fail
    refine (HPt.out _ HB8.out).mono ?_
    intro e wA hA
    rcases hA with ⟨n, j, rfl, hbA⟩ | ⟨oA, cA, setA, rfl, hoA, hfA⟩
    · have HBA : Hid (Below w.heap.size w wA) := hbA
      clear hbA
      go_wp2_with fail
      refine (numW _ n).mono ?_
      rintro e wB ⟨⟨m, rfl⟩, rfl⟩
      by_cases hm : m = 0
      · subst hm
        go_wp2_with fail
        refine (HLp.out _ _ (.slice none 0 0) [] HBA.out (own_nil _ 0 _) ⟨by simp, List.Pairwise.nil, by simp⟩).mono ?_
        rintro e wC ⟨rfl, hbC⟩
        have HBC : Hid (Below w.heap.size w wC) := hbC
        clear hbC
        go_wp2_with fail
        refine (HLb.out _ [] HBC.out ⟨by simp, List.Pairwise.nil, by simp⟩).mono ?_
        intro e wD hD
        rw [if_neg (by simp [printT])] at hD
        obtain ⟨oD, cD, rfl, hbD⟩ := hD
        have HBD : Hid (Below w.heap.size w wD) := hbD
        have hps : (arr (printT [])).size = 0 := by rw [arr_sz]; rfl
        clear hbD
        go_wp2_with fail
        refine (HN0.out _).mono ?_
        rintro e wE ⟨rfl, rfl⟩
        go_wp2_with fail
        refine (HN0.out _).mono ?_
        rintro e wF ⟨rfl, rfl⟩
        go_wp2_with fail
        go_ret
        exact ⟨rfl, HBD.out⟩
      · have hm1 : (m != 0) = true := by simpa using hm
        go_wp2_with fail
        go_ret
        exact ⟨rfl, HBA.out⟩
    · have HOA : Hid (_ ∧ _) := hoA
      have HFA : Hid (_ ∧ _) := hfA
      clear hoA hfA
      go_wp2_with fail
      refine (HN0.out _).mono ?_
      rintro e wB ⟨rfl, rfl⟩
      go_wp2_with fail
      refine (HLp.out _ _ _ setA HOA.out.2 HOA.out.1 HFA.out).mono ?_
      rintro e wC ⟨rfl, hbC⟩
      have HBC : Hid (Below w.heap.size w wC) := hbC
      have hps : (arr (printT setA)).size = (printT setA).length := arr_sz _
      clear hbC
      go_wp2_with fail
      refine (HLb.out _ setA HBC.out HFA.out).mono ?_
      intro e wD hD
      by_cases hlA : 20000 < (printT setA).length
      · rw [if_pos hlA] at hD
        obtain ⟨rfl, hbD⟩ := hD
        have HBD : Hid (Below w.heap.size w wD) := hbD
        clear hbD
        go_wp2_with fail
        refine (HN0.out _).mono ?_
        rintro e wE ⟨rfl, rfl⟩
        go_wp2_with fail
        go_ret
        exact ⟨rfl, HBD.out⟩
      · rw [if_neg hlA] at hD
        obtain ⟨oD, cD, rfl, hbD⟩ := hD
        have HBD : Hid (Below w.heap.size w wD) := hbD
        clear hbD
        go_wp2_with fail
        refine (HN0.out _).mono ?_
        rintro e wE ⟨rfl, rfl⟩
        go_wp2_with fail
        refine (HN0.out _).mono ?_
        rintro e wF ⟨rfl, rfl⟩
        go_wp2_with fail
        go_ret
        exact ⟨rfl, HBD.out⟩

end Tu
end Go.Proofs.YtfapcangooodeabGreatDoor

