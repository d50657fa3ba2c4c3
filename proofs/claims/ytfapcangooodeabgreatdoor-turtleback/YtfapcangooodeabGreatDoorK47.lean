import Derived.Test.YtfapcangooodeabGreatDoorK46
import Derived.BigQuiet
import Derived.Deep.QuietTactic
set_option linter.unusedSimpArgs false
set_option linter.unusedVariables false
namespace Go.Proofs.YtfapcangooodeabGreatDoor
open Go.RowKit
open Back
namespace Tu

set_option maxHeartbeats 16000000 in
set_option maxRecDepth 20000 in
theorem back_short0 (w : World) (v nv : Value) (l : List Tri) (ns : List Nam2) (s X : ByteArray) (set : List Tri) (hz : ¬ 20000 < X.size) (h : Lw w v nv l ns s)
    (hpr : ∀ w1 bs v' nb nv', Below w.heap.size w w1 → w1.ownsRow bs 44 3 v' l.length (cellsOf l) → w1.ownsRow nb 35 2 nv' ns.length (cellsN ns) → Calls Tryz.prog 8 #[v', nv'] w1 fun e w' => ((∃ n j : Int, (n = 5 ∨ n = 6 ∨ n = 10) ∧ e = .returned (.tuple #[.string ⟨#[]⟩, .int .i64 n, .int .i64 j])) ∨ ((NamesOk ns ∧ Apart ns ∧ set.any madeT = false) ∧ e = .returned (.tuple #[.string X, .int .i64 0, .int .i64 0]))) ∧ Below w.heap.size w w')
    (hse : ∀ w1 bs v', Below w.heap.size w w1 → w1.ownsRow bs 44 3 v' l.length (cellsOf l) → Calls Tryz.prog 14 #[v'] w1 fun e w' => ∃ o c, e = .returned (.tuple #[.slice o 0 c, .int .i64 0, .int .i64 0]) ∧ Below w.heap.size w w')
    (hpx : (NamesOk ns ∧ Apart ns ∧ set.any madeT = false) → ∀ w1, Below w.heap.size w w1 → Calls Tryz.prog 13 #[.string X] w1 fun e w' => ∃ o c, e = .returned (.tuple #[.slice o 0 c, .int .i64 0, .int .i64 0]) ∧ Below w.heap.size w w') :
    Calls Tryz.prog 4 #[v, nv, .string s] w fun e w' => e = .returned (.bool true) ∧ Below w.heap.size w w' := by
  have HA : Hid (Calls Tryz.prog 12 #[] w fun e w' => e = .returned (.bool true) ∧ Below w.heap.size w w') := h.alive
  have HTr : Hid (∀ w1, Below w.heap.size w w1 → Calls Tryz.prog 6 #[v] w1 fun e w' => ∃ v', e = .returned v' ∧ w'.ownsRow w1.heap.size 44 3 v' l.length (cellsOf l) ∧ Below w.heap.size w w' ∧ Below w1.heap.size w1 w') := h.triples
  have HNm : Hid (∀ w1, Below w.heap.size w w1 → Calls Tryz.prog 7 #[nv] w1 fun e w' => ∃ v', e = .returned v' ∧ w'.ownsRow w1.heap.size 35 2 v' ns.length (cellsN ns) ∧ Below w.heap.size w w' ∧ Below w1.heap.size w1 w') := h.names
  have HPt : Hid (∀ w1, Below w.heap.size w w1 → Calls Tryz.prog 13 #[.string s] w1 fun e w' => (∃ n j : Int, e = .returned (.tuple #[.slice none 0 0, .int .i64 n, .int .i64 j]) ∧ Below w.heap.size w w') ∨ ∃ (o : Option Addr) (c : Nat) (set : List Tri), e = .returned (.tuple #[.slice o set.length c, .int .i64 0, .int .i64 0]) ∧ (w'.ownsRow w1.heap.size 44 3 (.slice o set.length c) set.length (cellsOf set) ∧ Below w.heap.size w w') ∧ (set.length ≤ 300 ∧ Rising set ∧ ∀ x ∈ set, soundT x = true)) := h.parse
  have HLp : Hid (∀ w1 bs v set, Below w.heap.size w w1 → w1.ownsRow bs 44 3 v set.length (cellsOf set) → (set.length ≤ 300 ∧ Rising set ∧ ∀ x ∈ set, soundT x = true) → Calls Tryz.prog 15 #[v] w1 fun e w' => e = .returned (.tuple #[.string (arr (printT set)), .int .i64 0, .int .i64 0]) ∧ Below w.heap.size w w') := h.lprint
  have HLb : Hid (∀ w1 set, Below w.heap.size w w1 → (set.length ≤ 300 ∧ Rising set ∧ ∀ x ∈ set, soundT x = true) → Calls Tryz.prog 16 #[.string (arr (printT set))] w1 fun e w' => if 20000 < (printT set).length then e = .returned (.tuple #[.slice none 0 0, .int .i64 1, .int .i64 0]) ∧ Below w.heap.size w w' else ∃ o c, e = .returned (.tuple #[.slice o set.length c, .int .i64 0, .int .i64 0]) ∧ Below w.heap.size w w') := h.lparse
  have HN0 : Hid (∀ w1, Calls Tryz.prog 11 #[.int .i64 0] w1 fun e w' => e = .returned (.int .i64 0) ∧ w' = w1) := fun w1 => numT w1 0 (by omega) (by omega)
  have HPr : Hid (∀ w1 bs v' nb nv', Below w.heap.size w w1 → w1.ownsRow bs 44 3 v' l.length (cellsOf l) → w1.ownsRow nb 35 2 nv' ns.length (cellsN ns) → Calls Tryz.prog 8 #[v', nv'] w1 fun e w' => ((∃ n j : Int, (n = 5 ∨ n = 6 ∨ n = 10) ∧ e = .returned (.tuple #[.string ⟨#[]⟩, .int .i64 n, .int .i64 j])) ∨ ((NamesOk ns ∧ Apart ns ∧ set.any madeT = false) ∧ e = .returned (.tuple #[.string X, .int .i64 0, .int .i64 0]))) ∧ Below w.heap.size w w') := hpr
  have HSe : Hid (∀ w1 bs v', Below w.heap.size w w1 → w1.ownsRow bs 44 3 v' l.length (cellsOf l) → Calls Tryz.prog 14 #[v'] w1 fun e w' => ∃ o c, e = .returned (.tuple #[.slice o 0 c, .int .i64 0, .int .i64 0]) ∧ Below w.heap.size w w') := hse
  have HPx : Hid ((NamesOk ns ∧ Apart ns ∧ set.any madeT = false) → ∀ w1, Below w.heap.size w w1 → Calls Tryz.prog 13 #[.string X] w1 fun e w' => ∃ o c, e = .returned (.tuple #[.slice o 0 c, .int .i64 0, .int .i64 0]) ∧ Below w.heap.size w w') := hpx
  clear h hpr hse hpx
  go_enter Tryz.func4, Tryz.ntmps4
  go_wp2_with fail
  refine HA.out.mono ?_
  rintro e w1 ⟨rfl, hb1⟩
  have HB1 : Hid (Below w.heap.size w w1) := hb1
  clear hb1
  go_wp2_with fail
  refine (HTr.out _ HB1.out).mono ?_
  rintro e w2 ⟨v2, rfl, o2, hb2⟩
  have H2 : Hid (Below w.heap.size w w2 ∧ w2.ownsRow w1.heap.size 44 3 v2 l.length (cellsOf l)) := ⟨hb2.1, o2⟩
  clear hb2 o2
  go_wp2_with fail
  refine (HNm.out _ H2.out.1).mono ?_
  rintro e w3 ⟨nv3, rfl, o3, hb3⟩
  have H3 : Hid (Below w.heap.size w w3 ∧ w3.ownsRow w1.heap.size 44 3 v2 l.length (cellsOf l) ∧ w3.ownsRow w2.heap.size 35 2 nv3 ns.length (cellsN ns)) := ⟨hb3.1, own_same H2.out.2 fun g _ hg => hb3.2.block g hg, o3⟩
  clear hb3 o3
  go_wp2_with fail
  refine (HPr.out _ _ _ _ _ H3.out.1 H3.out.2.1 H3.out.2.2).mono ?_
  rintro e w4 ⟨⟨n, j, hn, rfl⟩ | ⟨hGo, rfl⟩, hb4⟩
  · have HB4 : Hid (Below w.heap.size w w4) := hb4
    have HNu : Hid (∀ w1, Calls Tryz.prog 11 #[.int .i64 n] w1 fun e w' => e = .returned (.int .i64 n) ∧ w' = w1) := fun w1 => numT w1 n (by omega) (by omega)
    have hn0 : n ≠ 0 := by omega
    have hn1 : (n == 0) = false := by rcases hn with rfl | rfl | rfl <;> rfl
    clear hb4 hn
    go_wp2_with fail
    refine (HNu.out _).mono ?_
    rintro e w5 ⟨rfl, rfl⟩
    go_wp2_with fail
    refine (HPt.out _ HB4.out).mono ?_
    intro e wA hA
    rcases hA with ⟨n, j, rfl, hbA⟩ | ⟨oA, cA, setA, rfl, hoA, hfA⟩
    · have HBA : Hid (Below w.heap.size w wA) := hbA
      clear hbA
      go_wp2_with fail
      refine (numW _ n).mono ?_
      rintro e wB ⟨⟨m, rfl⟩, rfl⟩
      by_cases hm : m = 0
      · subst hm
        go_wp2_with fail
        refine (HLp.out _ _ (.slice none 0 0) [] HBA.out (own_nil _ 0 _) ⟨by simp, List.Pairwise.nil, by simp⟩).mono ?_
        rintro e wC ⟨rfl, hbC⟩
        have HBC : Hid (Below w.heap.size w wC) := hbC
        clear hbC
        go_wp2_with fail
        refine (HLb.out _ [] HBC.out ⟨by simp, List.Pairwise.nil, by simp⟩).mono ?_
        intro e wD hD
        rw [if_neg (by simp [printT])] at hD
        obtain ⟨oD, cD, rfl, hbD⟩ := hD
        have HBD : Hid (Below w.heap.size w wD) := hbD
        have hps : (arr (printT [])).size = 0 := by rw [arr_sz]; rfl
        clear hbD
        go_wp2_with fail
        refine (HN0.out _).mono ?_
        rintro e wE ⟨rfl, rfl⟩
        go_wp2_with fail
        refine (HN0.out _).mono ?_
        rintro e wF ⟨rfl, rfl⟩
        go_wp2_with fail
        go_ret
        exact ⟨rfl, HBD.out⟩
      · have hm1 : (m != 0) = true := by simpa using hm
        go_wp2_with fail
        go_ret
        exact ⟨rfl, HBA.out⟩
    · have HOA : Hid (_ ∧ _) := hoA
      have HFA : Hid (_ ∧ _) := hfA
      clear hoA hfA
      go_wp2_with fail
      refine (HN0.out _).mono ?_
      rintro e wB ⟨rfl, rfl⟩
      go_wp2_with fail
      refine (HLp.out _ _ _ setA HOA.out.2 HOA.out.1 HFA.out).mono ?_
      rintro e wC ⟨rfl, hbC⟩
      have HBC : Hid (Below w.heap.size w wC) := hbC
      have hps : (arr (printT setA)).size = (printT setA).length := arr_sz _
      clear hbC
      go_wp2_with fail
      refine (HLb.out _ setA HBC.out HFA.out).mono ?_
      intro e wD hD
      by_cases hlA : 20000 < (printT setA).length
      · rw [if_pos hlA] at hD
        obtain ⟨rfl, hbD⟩ := hD
        have HBD : Hid (Below w.heap.size w wD) := hbD
        clear hbD
        go_wp2_with fail
        refine (HN0.out _).mono ?_
        rintro e wE ⟨rfl, rfl⟩
        go_wp2_with fail
        go_ret
        exact ⟨rfl, HBD.out⟩
      · rw [if_neg hlA] at hD
        obtain ⟨oD, cD, rfl, hbD⟩ := hD
        have HBD : Hid (Below w.heap.size w wD) := hbD
        clear hbD
        go_wp2_with fail
        refine (HN0.out _).mono ?_
        rintro e wE ⟨rfl, rfl⟩
        go_wp2_with fail
        refine (HN0.out _).mono ?_
        rintro e wF ⟨rfl, rfl⟩
        go_wp2_with fail
        go_ret
        exact ⟨rfl, HBD.out⟩
  · have HB4 : Hid (Below w.heap.size w w4) := hb4
    have HGo : Hid (NamesOk ns ∧ Apart ns ∧ set.any madeT = false) := hGo
    clear hb4 hGo
    go_wp2_with fail
    refine (HN0.out _).mono ?_
    rintro e w5 ⟨rfl, rfl⟩
    go_wp2_with fail
    refine (HPx.out HGo.out _ HB4.out).mono ?_
    rintro e w6 ⟨o6, c6, rfl, hb6⟩
    have HB6 : Hid (Below w.heap.size w w6) := hb6
    clear hb6
    go_wp2_with fail
    refine (HTr.out _ HB6.out).mono ?_
    rintro e w7 ⟨v7, rfl, o7, hb7⟩
    have H7 : Hid (Below w.heap.size w w7 ∧ w7.ownsRow w6.heap.size 44 3 v7 l.length (cellsOf l)) := ⟨hb7.1, o7⟩
    clear hb7 o7
    go_wp2_with fail
    refine (HSe.out _ _ _ H7.out.1 H7.out.2).mono ?_
    rintro e w8 ⟨o8, c8, rfl, hb8⟩
    have HB8 : Hid (Below w.heap.size w w8) := hb8
    clear hb8
    go_wp2_with fail
    refine (HN0.out _).mono ?_
    rintro e w9 ⟨rfl, rfl⟩
    go_wp2_with fail
    go_loopw [17] (fun i wr => i = .int .i64 0 ∧ wr = w9) (fun i wr => 0)
    case atStart => exact ⟨rfl, rfl⟩
    case round =>
      obtain ⟨rfl, hwr⟩ := hrel
      have hwr := hwr.symm
      subst hwr
      go_wp2_with fail
      refine (HPt.out _ HB8.out).mono ?_
      intro e wA hA
      rcases hA with ⟨n, j, rfl, hbA⟩ | ⟨oA, cA, setA, rfl, hoA, hfA⟩
      · have HBA : Hid (Below w.heap.size w wA) := hbA
        clear hbA
        go_wp2_with fail
        refine (numW _ n).mono ?_
        rintro e wB ⟨⟨m, rfl⟩, rfl⟩
        by_cases hm : m = 0
        · subst hm
          go_wp2_with fail
          refine (HLp.out _ _ (.slice none 0 0) [] HBA.out (own_nil _ 0 _) ⟨by simp, List.Pairwise.nil, by simp⟩).mono ?_
          rintro e wC ⟨rfl, hbC⟩
          have HBC : Hid (Below w.heap.size w wC) := hbC
          clear hbC
          go_wp2_with fail
          refine (HLb.out _ [] HBC.out ⟨by simp, List.Pairwise.nil, by simp⟩).mono ?_
          intro e wD hD
          rw [if_neg (by simp [printT])] at hD
          obtain ⟨oD, cD, rfl, hbD⟩ := hD
          have HBD : Hid (Below w.heap.size w wD) := hbD
          have hps : (arr (printT [])).size = 0 := by rw [arr_sz]; rfl
          clear hbD
          go_wp2_with fail
          refine (HN0.out _).mono ?_
          rintro e wE ⟨rfl, rfl⟩
          go_wp2_with fail
          refine (HN0.out _).mono ?_
          rintro e wF ⟨rfl, rfl⟩
          go_wp2_with fail
          go_ret
          exact ⟨rfl, HBD.out⟩
        · have hm1 : (m != 0) = true := by simpa using hm
          go_wp2_with fail
          go_ret
          exact ⟨rfl, HBA.out⟩
      · have HOA : Hid (_ ∧ _) := hoA
        have HFA : Hid (_ ∧ _) := hfA
        clear hoA hfA
        go_wp2_with fail
        refine (HN0.out _).mono ?_
        rintro e wB ⟨rfl, rfl⟩
        go_wp2_with fail
        refine (HLp.out _ _ _ setA HOA.out.2 HOA.out.1 HFA.out).mono ?_
        rintro e wC ⟨rfl, hbC⟩
        have HBC : Hid (Below w.heap.size w wC) := hbC
        have hps : (arr (printT setA)).size = (printT setA).length := arr_sz _
        clear hbC
        go_wp2_with fail
        refine (HLb.out _ setA HBC.out HFA.out).mono ?_
        intro e wD hD
        by_cases hlA : 20000 < (printT setA).length
        · rw [if_pos hlA] at hD
          obtain ⟨rfl, hbD⟩ := hD
          have HBD : Hid (Below w.heap.size w wD) := hbD
          clear hbD
          go_wp2_with fail
          refine (HN0.out _).mono ?_
          rintro e wE ⟨rfl, rfl⟩
          go_wp2_with fail
          go_ret
          exact ⟨rfl, HBD.out⟩
        · rw [if_neg hlA] at hD
          obtain ⟨oD, cD, rfl, hbD⟩ := hD
          have HBD : Hid (Below w.heap.size w wD) := hbD
          clear hbD
          go_wp2_with fail
          refine (HN0.out _).mono ?_
          rintro e wE ⟨rfl, rfl⟩
          go_wp2_with fail
          refine (HN0.out _).mono ?_
          rintro e wF ⟨rfl, rfl⟩
          go_wp2_with fail
          go_ret
          exact ⟨rfl, HBD.out⟩

end Tu
end Go.Proofs.YtfapcangooodeabGreatDoor

set_option linter.unusedSimpArgs false
set_option linter.unusedVariables false
namespace Go.Proofs.YtfapcangooodeabGreatDoor
open Go.RowKit
open Back
namespace Tu

set_option maxHeartbeats 16000000 in
set_option maxRecDepth 20000 in
theorem back_short1 (w : World) (v nv : Value) (l : List Tri) (ns : List Nam2) (s X : ByteArray) (set : List Tri) (hz : ¬ 20000 < X.size) (hlen : set.length ≤ 300) (h : Lw w v nv l ns s)
    (hpr : ∀ w1 bs v' nb nv', Below w.heap.size w w1 → w1.ownsRow bs 44 3 v' l.length (cellsOf l) → w1.ownsRow nb 35 2 nv' ns.length (cellsN ns) → Calls Tryz.prog 8 #[v', nv'] w1 fun e w' => ((∃ n j : Int, (n = 5 ∨ n = 6 ∨ n = 10) ∧ e = .returned (.tuple #[.string ⟨#[]⟩, .int .i64 n, .int .i64 j])) ∨ ((NamesOk ns ∧ Apart ns ∧ set.any madeT = false) ∧ e = .returned (.tuple #[.string X, .int .i64 0, .int .i64 0]))) ∧ Below w.heap.size w w')
    (hse : ∀ w1 bs v', Below w.heap.size w w1 → w1.ownsRow bs 44 3 v' l.length (cellsOf l) → Calls Tryz.prog 14 #[v'] w1 fun e w' => ∃ g c, e = .returned (.tuple #[.slice (some ⟨g, 0, none⟩) set.length c, .int .i64 0, .int .i64 0]) ∧ (Lies w' g set ∧ g < w'.heap.size) ∧ Below w.heap.size w w' ∧ Below w1.heap.size w1 w')
    (hpx : (NamesOk ns ∧ Apart ns ∧ set.any madeT = false) → ∀ w1, Below w.heap.size w w1 → Calls Tryz.prog 13 #[.string X] w1 fun e w' => ∃ g c, e = .returned (.tuple #[.slice (some ⟨g, 0, none⟩) set.length c, .int .i64 0, .int .i64 0]) ∧ (Lies w' g set ∧ g < w'.heap.size) ∧ Below w.heap.size w w') :
    Calls Tryz.prog 4 #[v, nv, .string s] w fun e w' => e = .returned (.bool true) ∧ Below w.heap.size w w' := by
  have HA : Hid (Calls Tryz.prog 12 #[] w fun e w' => e = .returned (.bool true) ∧ Below w.heap.size w w') := h.alive
  have HTr : Hid (∀ w1, Below w.heap.size w w1 → Calls Tryz.prog 6 #[v] w1 fun e w' => ∃ v', e = .returned v' ∧ w'.ownsRow w1.heap.size 44 3 v' l.length (cellsOf l) ∧ Below w.heap.size w w' ∧ Below w1.heap.size w1 w') := h.triples
  have HNm : Hid (∀ w1, Below w.heap.size w w1 → Calls Tryz.prog 7 #[nv] w1 fun e w' => ∃ v', e = .returned v' ∧ w'.ownsRow w1.heap.size 35 2 v' ns.length (cellsN ns) ∧ Below w.heap.size w w' ∧ Below w1.heap.size w1 w') := h.names
  have HPt : Hid (∀ w1, Below w.heap.size w w1 → Calls Tryz.prog 13 #[.string s] w1 fun e w' => (∃ n j : Int, e = .returned (.tuple #[.slice none 0 0, .int .i64 n, .int .i64 j]) ∧ Below w.heap.size w w') ∨ ∃ (o : Option Addr) (c : Nat) (set : List Tri), e = .returned (.tuple #[.slice o set.length c, .int .i64 0, .int .i64 0]) ∧ (w'.ownsRow w1.heap.size 44 3 (.slice o set.length c) set.length (cellsOf set) ∧ Below w.heap.size w w') ∧ (set.length ≤ 300 ∧ Rising set ∧ ∀ x ∈ set, soundT x = true)) := h.parse
  have HLp : Hid (∀ w1 bs v set, Below w.heap.size w w1 → w1.ownsRow bs 44 3 v set.length (cellsOf set) → (set.length ≤ 300 ∧ Rising set ∧ ∀ x ∈ set, soundT x = true) → Calls Tryz.prog 15 #[v] w1 fun e w' => e = .returned (.tuple #[.string (arr (printT set)), .int .i64 0, .int .i64 0]) ∧ Below w.heap.size w w') := h.lprint
  have HLb : Hid (∀ w1 set, Below w.heap.size w w1 → (set.length ≤ 300 ∧ Rising set ∧ ∀ x ∈ set, soundT x = true) → Calls Tryz.prog 16 #[.string (arr (printT set))] w1 fun e w' => if 20000 < (printT set).length then e = .returned (.tuple #[.slice none 0 0, .int .i64 1, .int .i64 0]) ∧ Below w.heap.size w w' else ∃ o c, e = .returned (.tuple #[.slice o set.length c, .int .i64 0, .int .i64 0]) ∧ Below w.heap.size w w') := h.lparse
  have HN0 : Hid (∀ w1, Calls Tryz.prog 11 #[.int .i64 0] w1 fun e w' => e = .returned (.int .i64 0) ∧ w' = w1) := fun w1 => numT w1 0 (by omega) (by omega)
  have HPr : Hid (∀ w1 bs v' nb nv', Below w.heap.size w w1 → w1.ownsRow bs 44 3 v' l.length (cellsOf l) → w1.ownsRow nb 35 2 nv' ns.length (cellsN ns) → Calls Tryz.prog 8 #[v', nv'] w1 fun e w' => ((∃ n j : Int, (n = 5 ∨ n = 6 ∨ n = 10) ∧ e = .returned (.tuple #[.string ⟨#[]⟩, .int .i64 n, .int .i64 j])) ∨ ((NamesOk ns ∧ Apart ns ∧ set.any madeT = false) ∧ e = .returned (.tuple #[.string X, .int .i64 0, .int .i64 0]))) ∧ Below w.heap.size w w') := hpr
  have HSe : Hid (∀ w1 bs v', Below w.heap.size w w1 → w1.ownsRow bs 44 3 v' l.length (cellsOf l) → Calls Tryz.prog 14 #[v'] w1 fun e w' => ∃ g c, e = .returned (.tuple #[.slice (some ⟨g, 0, none⟩) set.length c, .int .i64 0, .int .i64 0]) ∧ (Lies w' g set ∧ g < w'.heap.size) ∧ Below w.heap.size w w' ∧ Below w1.heap.size w1 w') := hse
  have HPx : Hid ((NamesOk ns ∧ Apart ns ∧ set.any madeT = false) → ∀ w1, Below w.heap.size w w1 → Calls Tryz.prog 13 #[.string X] w1 fun e w' => ∃ g c, e = .returned (.tuple #[.slice (some ⟨g, 0, none⟩) set.length c, .int .i64 0, .int .i64 0]) ∧ (Lies w' g set ∧ g < w'.heap.size) ∧ Below w.heap.size w w') := hpx
  clear h hpr hse hpx
  go_enter Tryz.func4, Tryz.ntmps4
  go_wp2_with fail
  refine HA.out.mono ?_
  rintro e w1 ⟨rfl, hb1⟩
  have HB1 : Hid (Below w.heap.size w w1) := hb1
  clear hb1
  go_wp2_with fail
  refine (HTr.out _ HB1.out).mono ?_
  rintro e w2 ⟨v2, rfl, o2, hb2⟩
  have H2 : Hid (Below w.heap.size w w2 ∧ w2.ownsRow w1.heap.size 44 3 v2 l.length (cellsOf l)) := ⟨hb2.1, o2⟩
  clear hb2 o2
  go_wp2_with fail
  refine (HNm.out _ H2.out.1).mono ?_
  rintro e w3 ⟨nv3, rfl, o3, hb3⟩
  have H3 : Hid (Below w.heap.size w w3 ∧ w3.ownsRow w1.heap.size 44 3 v2 l.length (cellsOf l) ∧ w3.ownsRow w2.heap.size 35 2 nv3 ns.length (cellsN ns)) := ⟨hb3.1, own_same H2.out.2 fun g _ hg => hb3.2.block g hg, o3⟩
  clear hb3 o3
  go_wp2_with fail
  refine (HPr.out _ _ _ _ _ H3.out.1 H3.out.2.1 H3.out.2.2).mono ?_
  rintro e w4 ⟨⟨n, j, hn, rfl⟩ | ⟨hGo, rfl⟩, hb4⟩
  · have HB4 : Hid (Below w.heap.size w w4) := hb4
    have HNu : Hid (∀ w1, Calls Tryz.prog 11 #[.int .i64 n] w1 fun e w' => e = .returned (.int .i64 n) ∧ w' = w1) := fun w1 => numT w1 n (by omega) (by omega)
    have hn0 : n ≠ 0 := by omega
    have hn1 : (n == 0) = false := by rcases hn with rfl | rfl | rfl <;> rfl
    clear hb4 hn
    go_wp2_with fail
    refine (HNu.out _).mono ?_
    rintro e w5 ⟨rfl, rfl⟩
    go_wp2_with fail
    refine (HPt.out _ HB4.out).mono ?_
    intro e wA hA
    rcases hA with ⟨n, j, rfl, hbA⟩ | ⟨oA, cA, setA, rfl, hoA, hfA⟩
    · have HBA : Hid (Below w.heap.size w wA) := hbA
      clear hbA
      go_wp2_with fail
      refine (numW _ n).mono ?_
      rintro e wB ⟨⟨m, rfl⟩, rfl⟩
      by_cases hm : m = 0
      · subst hm
        go_wp2_with fail
        refine (HLp.out _ _ (.slice none 0 0) [] HBA.out (own_nil _ 0 _) ⟨by simp, List.Pairwise.nil, by simp⟩).mono ?_
        rintro e wC ⟨rfl, hbC⟩
        have HBC : Hid (Below w.heap.size w wC) := hbC
        clear hbC
        go_wp2_with fail
        refine (HLb.out _ [] HBC.out ⟨by simp, List.Pairwise.nil, by simp⟩).mono ?_
        intro e wD hD
        rw [if_neg (by simp [printT])] at hD
        obtain ⟨oD, cD, rfl, hbD⟩ := hD
        have HBD : Hid (Below w.heap.size w wD) := hbD
        have hps : (arr (printT [])).size = 0 := by rw [arr_sz]; rfl
        clear hbD
        go_wp2_with fail
        refine (HN0.out _).mono ?_
        rintro e wE ⟨rfl, rfl⟩
        go_wp2_with fail
        refine (HN0.out _).mono ?_
        rintro e wF ⟨rfl, rfl⟩
        go_wp2_with fail
        go_ret
        exact ⟨rfl, HBD.out⟩
      · have hm1 : (m != 0) = true := by simpa using hm
        go_wp2_with fail
        go_ret
        exact ⟨rfl, HBA.out⟩
    · have HOA : Hid (_ ∧ _) := hoA
      have HFA : Hid (_ ∧ _) := hfA
      clear hoA hfA
      go_wp2_with fail
      refine (HN0.out _).mono ?_
      rintro e wB ⟨rfl, rfl⟩
      go_wp2_with fail
      refine (HLp.out _ _ _ setA HOA.out.2 HOA.out.1 HFA.out).mono ?_
      rintro e wC ⟨rfl, hbC⟩
      have HBC : Hid (Below w.heap.size w wC) := hbC
      have hps : (arr (printT setA)).size = (printT setA).length := arr_sz _
      clear hbC
      go_wp2_with fail
      refine (HLb.out _ setA HBC.out HFA.out).mono ?_
      intro e wD hD
      by_cases hlA : 20000 < (printT setA).length
      · rw [if_pos hlA] at hD
        obtain ⟨rfl, hbD⟩ := hD
        have HBD : Hid (Below w.heap.size w wD) := hbD
        clear hbD
        go_wp2_with fail
        refine (HN0.out _).mono ?_
        rintro e wE ⟨rfl, rfl⟩
        go_wp2_with fail
        go_ret
        exact ⟨rfl, HBD.out⟩
      · rw [if_neg hlA] at hD
        obtain ⟨oD, cD, rfl, hbD⟩ := hD
        have HBD : Hid (Below w.heap.size w wD) := hbD
        clear hbD
        go_wp2_with fail
        refine (HN0.out _).mono ?_
        rintro e wE ⟨rfl, rfl⟩
        go_wp2_with fail
        refine (HN0.out _).mono ?_
        rintro e wF ⟨rfl, rfl⟩
        go_wp2_with fail
        go_ret
        exact ⟨rfl, HBD.out⟩
  · have HB4 : Hid (Below w.heap.size w w4) := hb4
    have HGo : Hid (NamesOk ns ∧ Apart ns ∧ set.any madeT = false) := hGo
    clear hb4 hGo
    go_wp2_with fail
    refine (HN0.out _).mono ?_
    rintro e w5 ⟨rfl, rfl⟩
    go_wp2_with fail
    refine (HPx.out HGo.out _ HB4.out).mono ?_
    rintro e w6 ⟨ga, ca, rfl, q6, hb6⟩
    have H6 : Hid (Below w.heap.size w w6 ∧ (Lies w6 ga set ∧ ga < w6.heap.size)) := ⟨hb6, q6⟩
    clear hb6 q6
    go_wp2_with fail
    refine (HTr.out _ H6.out.1).mono ?_
    rintro e w7 ⟨v7, rfl, o7, hb7⟩
    have H7 : Hid (Below w.heap.size w w7 ∧ w7.ownsRow w6.heap.size 44 3 v7 l.length (cellsOf l) ∧ (Lies w7 ga set ∧ ga < w7.heap.size)) := ⟨hb7.1, o7, H6.out.2.1.below H6.out.2.2 hb7.2, Nat.lt_of_lt_of_le H6.out.2.2 hb7.2.size⟩
    clear hb7 o7
    go_wp2_with fail
    refine (HSe.out _ _ _ H7.out.1 H7.out.2.1).mono ?_
    rintro e w8 ⟨gb, cb, rfl, q8, hb8, hc8⟩
    have H8 : Hid (Below w.heap.size w w8 ∧ (Lies w8 ga set ∧ ga < w8.heap.size) ∧ Lies w8 gb set ∧ gb < w8.heap.size) := ⟨hb8, ⟨H7.out.2.2.1.below H7.out.2.2.2 hc8, Nat.lt_of_lt_of_le H7.out.2.2.2 hc8.size⟩, q8⟩
    clear hb8 q8 hc8
    have hne := neqA
    go_wp2_with fail
    refine (HN0.out _).mono ?_
    rintro e w9 ⟨rfl, rfl⟩
    go_wp2_with fail
    go_loopw [17] (fun i wr => ∃ q : Nat, i = .int .i64 q ∧ q ≤ set.length ∧ Below w.heap.size w wr ∧ (Lies wr ga set ∧ ga < wr.heap.size) ∧ Lies wr gb set ∧ gb < wr.heap.size) (fun i wr => set.length - (intOf i).toNat)
    case atStart => exact ⟨0, rfl, Nat.zero_le _, H8.out⟩
    case round =>
      obtain ⟨q, rfl, hq, hrest⟩ := hrel
      have HI : Hid (Below w.heap.size w wr ∧ (Lies wr ga set ∧ ga < wr.heap.size) ∧ Lies wr gb set ∧ gb < wr.heap.size) := hrest
      clear hrest
      by_cases hlt : q < set.length
      · obtain ⟨x, hxq⟩ : ∃ x, set[q]? = some x := ⟨_, List.getElem?_eq_getElem hlt⟩
        obtain ⟨f0, f1, f2⟩ := HI.out.2.1.1 q x hxq
        obtain ⟨k0, k1, k2⟩ := HI.out.2.2.1 q x hxq
        clear hxq
        go_wp2_with fail
        go_quiet (fail)
        go_wp2_with fail
        have hdr : ∀ n, Below wr.heap.size wr (wr.drewN n) := fun n => below_drewN (Below.refl _ _) n
        exact ⟨⟨q + 1, by go_num, by omega, below_drewN HI.out.1 _, ⟨HI.out.2.1.1.below HI.out.2.1.2 (hdr _), Nat.lt_of_lt_of_le HI.out.2.1.2 (hdr _).size⟩, HI.out.2.2.1.below HI.out.2.2.2 (hdr _), Nat.lt_of_lt_of_le HI.out.2.2.2 (hdr _).size⟩, by simp [intOf]; omega⟩
      · have hqe : q = set.length := by omega
        subst hqe
        go_wp2_with fail
        refine (HPt.out _ HI.out.1).mono ?_
        intro e wA hA
        rcases hA with ⟨n, j, rfl, hbA⟩ | ⟨oA, cA, setA, rfl, hoA, hfA⟩
        · have HBA : Hid (Below w.heap.size w wA) := hbA
          clear hbA
          go_wp2_with fail
          refine (numW _ n).mono ?_
          rintro e wB ⟨⟨m, rfl⟩, rfl⟩
          by_cases hm : m = 0
          · subst hm
            go_wp2_with fail
            refine (HLp.out _ _ (.slice none 0 0) [] HBA.out (own_nil _ 0 _) ⟨by simp, List.Pairwise.nil, by simp⟩).mono ?_
            rintro e wC ⟨rfl, hbC⟩
            have HBC : Hid (Below w.heap.size w wC) := hbC
            clear hbC
            go_wp2_with fail
            refine (HLb.out _ [] HBC.out ⟨by simp, List.Pairwise.nil, by simp⟩).mono ?_
            intro e wD hD
            rw [if_neg (by simp [printT])] at hD
            obtain ⟨oD, cD, rfl, hbD⟩ := hD
            have HBD : Hid (Below w.heap.size w wD) := hbD
            have hps : (arr (printT [])).size = 0 := by rw [arr_sz]; rfl
            clear hbD
            go_wp2_with fail
            refine (HN0.out _).mono ?_
            rintro e wE ⟨rfl, rfl⟩
            go_wp2_with fail
            refine (HN0.out _).mono ?_
            rintro e wF ⟨rfl, rfl⟩
            go_wp2_with fail
            go_ret
            exact ⟨rfl, HBD.out⟩
          · have hm1 : (m != 0) = true := by simpa using hm
            go_wp2_with fail
            go_ret
            exact ⟨rfl, HBA.out⟩
        · have HOA : Hid (_ ∧ _) := hoA
          have HFA : Hid (_ ∧ _) := hfA
          clear hoA hfA
          go_wp2_with fail
          refine (HN0.out _).mono ?_
          rintro e wB ⟨rfl, rfl⟩
          go_wp2_with fail
          refine (HLp.out _ _ _ setA HOA.out.2 HOA.out.1 HFA.out).mono ?_
          rintro e wC ⟨rfl, hbC⟩
          have HBC : Hid (Below w.heap.size w wC) := hbC
          have hps : (arr (printT setA)).size = (printT setA).length := arr_sz _
          clear hbC
          go_wp2_with fail
          refine (HLb.out _ setA HBC.out HFA.out).mono ?_
          intro e wD hD
          by_cases hlA : 20000 < (printT setA).length
          · rw [if_pos hlA] at hD
            obtain ⟨rfl, hbD⟩ := hD
            have HBD : Hid (Below w.heap.size w wD) := hbD
            clear hbD
            go_wp2_with fail
            refine (HN0.out _).mono ?_
            rintro e wE ⟨rfl, rfl⟩
            go_wp2_with fail
            go_ret
            exact ⟨rfl, HBD.out⟩
          · rw [if_neg hlA] at hD
            obtain ⟨oD, cD, rfl, hbD⟩ := hD
            have HBD : Hid (Below w.heap.size w wD) := hbD
            clear hbD
            go_wp2_with fail
            refine (HN0.out _).mono ?_
            rintro e wE ⟨rfl, rfl⟩
            go_wp2_with fail
            refine (HN0.out _).mono ?_
            rintro e wF ⟨rfl, rfl⟩
            go_wp2_with fail
            go_ret
            exact ⟨rfl, HBD.out⟩

end Tu
end Go.Proofs.YtfapcangooodeabGreatDoor

set_option linter.unusedSimpArgs false
set_option linter.unusedVariables false
namespace Go.Proofs.YtfapcangooodeabGreatDoor
open Go.RowKit
open Back
namespace Tu

/-- THE LAW TurtleBack -/
theorem turtleBack_of (w : World) (v nv : Value) (l : List Tri) (ns : List Nam2) (s : ByteArray) (hnl : ns.length ≤ 4398046511104) (hT : Tabs w) (hN : Tens w) (hG : 8 ≤ w.heap.size) (hH : Handle w)
    (htr : ∀ w1, Below w.heap.size w w1 → Calls Tryz.prog 6 #[v] w1 fun e w' => ∃ v', e = .returned v' ∧ w'.ownsRow w1.heap.size 44 3 v' l.length (cellsOf l) ∧ Below w1.heap.size w1 w')
    (hnm : ∀ w1, Below w.heap.size w w1 → Calls Tryz.prog 7 #[nv] w1 fun e w' => ∃ v', e = .returned v' ∧ w'.ownsRow w1.heap.size 35 2 v' ns.length (cellsN ns) ∧ Below w1.heap.size w1 w') :
    Calls Tryz.prog 4 #[v, nv, .string s] w fun e w' => e = .returned (.bool true) ∧ Below w.heap.size w w' := by
  have hL := lw_of w v nv l ns s hT hN hG hH htr hnm
  have hgt : 5 < w.heap.size := Nat.lt_of_lt_of_le (by decide : 5 < 8) hG
  have HTb : ∀ w', Below w.heap.size w w' → Tabs w' ∧ Tens w' ∧ 8 ≤ w'.heap.size ∧ Handle w' := fun w' hb => ⟨hT.below hb (by omega) (by omega), hN.same (hb.block _ hgt), Nat.le_trans hG hb.size, hH.below hb⟩
  have hln : ∀ (w1 : World) (bs : Nat) (v' : Value), w1.ownsRow bs 44 3 v' l.length (cellsOf l) → l.length ≤ maxLen := fun w1 bs v' ho => by
    rcases ho.2 with ⟨_, hz⟩ | ⟨g, cap, cur, _, _, _, h1, h2, _⟩
    · rw [hz]; exact Nat.zero_le _
    · exact Nat.le_trans h1 h2
  have HSe : ∀ (w1 : World) (bs : Nat) (v' : Value), Below w.heap.size w w1 → w1.ownsRow bs 44 3 v' l.length (cellsOf l) → Calls Tryz.prog 14 #[v'] w1 (SeV w1 44 l) := fun w1 bs v' hb ho => set_of w1 v' l (setOf_own w1 bs v' l ho (hln _ _ _ ho) (HTb _ hb).1 (HTb _ hb).2.2.1) (HTb _ hb).2.2.2
  rcases set_cases l with ⟨n, j, hn, hc, hp⟩ | ⟨set, hlen, hri, hso, hc, hp⟩
  · refine back_bad w v nv l ns s n j hn hL (fun w1 bs v' nb nv' hb ho hno => ?_)
    exact (print_bad w1 v' nv' n j hn ((HSe w1 bs v' hb ho).mono fun e w' h => hc _ _ _ _ h)).mono fun e w' h => ⟨h.1, hb.trans (h.2.mono hb.size)⟩
  · have hpr : ∀ (w1 : World) (bs : Nat) (v' : Value) (nb : Nat) (nv' : Value), Below w.heap.size w w1 → w1.ownsRow bs 44 3 v' l.length (cellsOf l) → w1.ownsRow nb 35 2 nv' ns.length (cellsN ns) → Calls Tryz.prog 8 #[v', nv'] w1 fun e w' => ((∃ n j : Int, (n = 5 ∨ n = 6 ∨ n = 10) ∧ e = .returned (.tuple #[.string ⟨#[]⟩, .int .i64 n, .int .i64 j])) ∨ ((NamesOk ns ∧ Apart ns ∧ set.any madeT = false) ∧ e = .returned (.tuple #[.string (arr (preN ns ++ setN ns set)), .int .i64 0, .int .i64 0]))) ∧ Below w.heap.size w w' := fun w1 bs v' nb nv' hb ho hno => by
      refine (print_ok w1 v' nb nv' ns set hno hnl hso hlen ((HSe w1 bs v' hb ho).mono fun e w' h => hc _ _ _ _ h) (HTb _ hb).1 (HTb _ hb).2.2.1 (HTb _ hb).2.2.2).mono fun e w' h => ⟨?_, hb.trans (h.2.mono hb.size)⟩
      rcases h.1 with h1 | ⟨h1, h2, h3, h4⟩
      · exact .inl h1
      · exact .inr ⟨⟨h1, h2, h3⟩, h4⟩
    have hse : ∀ (w1 : World) (bs : Nat) (v' : Value), Below w.heap.size w w1 → w1.ownsRow bs 44 3 v' l.length (cellsOf l) → Calls Tryz.prog 14 #[v'] w1 fun e w' => ∃ o c, e = .returned (.tuple #[.slice o set.length c, .int .i64 0, .int .i64 0]) ∧ w'.ownsRow w1.heap.size 44 3 (.slice o set.length c) set.length (cellsOf set) ∧ Below w.heap.size w w' ∧ Below w1.heap.size w1 w' := fun w1 bs v' hb ho => (HSe w1 bs v' hb ho).mono fun e w' h => by
      obtain ⟨v3, q1, q2, q3⟩ := hc _ _ _ _ h
      obtain ⟨o, c, rfl⟩ := own_form q2
      exact ⟨o, c, q1, q2, hb.trans (q3.mono hb.size), q3⟩
    by_cases hz : 20000 < (arr (preN ns ++ setN ns set)).size
    · exact back_long w v nv l ns s _ set hz hL hpr hse (fun w1 hb => (parseT_any w1 _ (HTb _ hb).1 (HTb _ hb).2.1 (HTb _ hb).2.2.1 (HTb _ hb).2.2.2).mono fun e w' h => by
        obtain ⟨q1, q2⟩ := tp_long hz _ _ _ h
        exact ⟨q1, hb.trans (q2.mono hb.size)⟩)
    · have hpx : (NamesOk ns ∧ Apart ns ∧ set.any madeT = false) → ∀ w1, Below w.heap.size w w1 → Calls Tryz.prog 13 #[.string (arr (preN ns ++ setN ns set))] w1 fun e w' => ∃ v', e = .returned (.tuple #[v', .int .i64 0, .int .i64 0]) ∧ w'.ownsRow w1.heap.size 44 3 v' set.length (cellsOf set) ∧ Below w.heap.size w w' := fun hg w1 hb => (parseT_any w1 _ (HTb _ hb).1 (HTb _ hb).2.1 (HTb _ hb).2.2.1 (HTb _ hb).2.2.2).mono fun e w' h => by
        obtain ⟨v', q1, q2, q3⟩ := tp_print hg.1 hg.2.1 hso hg.2.2 hri hlen (by rw [arr_sz] at hz; omega) _ _ _ h
        exact ⟨v', q1, q2, hb.trans (q3.mono hb.size)⟩
      by_cases h0 : set.length = 0
      · refine back_short0 w v nv l ns s _ set hz hL hpr (fun w1 bs v' hb ho => (hse w1 bs v' hb ho).mono fun e w' h => ?_) (fun hg w1 hb => (hpx hg w1 hb).mono fun e w' h => ?_)
        · obtain ⟨o, c, q1, q2, q3, _⟩ := h
          rw [h0] at q1
          exact ⟨o, c, q1, q3⟩
        · obtain ⟨v', q1, q2, q3⟩ := h
          obtain ⟨o, c, rfl⟩ := own_form q2
          rw [h0] at q1
          exact ⟨o, c, q1, q3⟩
      · refine back_short1 w v nv l ns s _ set hz hlen hL hpr (fun w1 bs v' hb ho => (hse w1 bs v' hb ho).mono fun e w' h => ?_) (fun hg w1 hb => (hpx hg w1 hb).mono fun e w' h => ?_)
        · obtain ⟨o, c, q1, q2, q3, q4⟩ := h
          obtain ⟨g, c2, e3, _, hg⟩ := q2.form (by omega)
          cases e3
          exact ⟨g, c, q1, ⟨own_lies q2, hg⟩, q3, q4⟩
        · obtain ⟨v', q1, q2, q3⟩ := h
          obtain ⟨g, c2, rfl, _, hg⟩ := q2.form (by omega)
          exact ⟨g, c2, q1, ⟨own_lies q2, hg⟩, q3⟩

end Tu
end Go.Proofs.YtfapcangooodeabGreatDoor

