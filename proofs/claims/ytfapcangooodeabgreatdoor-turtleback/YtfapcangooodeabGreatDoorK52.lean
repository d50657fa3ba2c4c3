import Derived.Test.YtfapcangooodeabGreatDoorK51
set_option linter.unusedSimpArgs false
set_option linter.unusedVariables false
namespace Go.Proofs.YtfapcangooodeabGreatDoor
open Go.RowKit
open Back
namespace Tu

/-- THE LAW TurtleBack -/
theorem turtleBack_of (w : World) (v nv : Value) (l : List Tri) (ns : List Nam2) (s : ByteArray) (hnl : ns.length ≤ 4398046511104) (hT : Tabs w) (hN : Tens w) (hG : 8 ≤ w.heap.size) (hH : Handle w)
    (htr : ∀ w1, Below w.heap.size w w1 → Calls Tryz.prog 6 #[v] w1 fun e w' => ∃ v', e = .returned v' ∧ w'.ownsRow w1.heap.size 44 3 v' l.length (cellsOf l) ∧ Below w1.heap.size w1 w')
    (hnm : ∀ w1, Below w.heap.size w w1 → Calls Tryz.prog 7 #[nv] w1 fun e w' => ∃ v', e = .returned v' ∧ w'.ownsRow w1.heap.size 35 2 v' ns.length (cellsN ns) ∧ Below w1.heap.size w1 w') :
    Calls Tryz.prog 4 #[v, nv, .string s] w fun e w' => e = .returned (.bool true) ∧ Below w.heap.size w w' := by
  have hL := lw_of w v nv l ns s hT hN hG hH htr hnm
  have hgt : 5 < w.heap.size := Nat.lt_of_lt_of_le (by decide : 5 < 8) hG
  have HTb : ∀ w', Below w.heap.size w w' → Tabs w' ∧ Tens w' ∧ 8 ≤ w'.heap.size ∧ Handle w' := fun w' hb => ⟨hT.below hb (by omega) (by omega), hN.same (hb.block _ hgt), Nat.le_trans hG hb.size, hH.below hb⟩
  have hln : ∀ (w1 : World) (bs : Nat) (v' : Value), w1.ownsRow bs 44 3 v' l.length (cellsOf l) → l.length ≤ maxLen := fun w1 bs v' ho => by
    rcases ho.2 with ⟨_, hz⟩ | ⟨g, cap, cur, _, _, _, h1, h2, _⟩
    · rw [hz]; exact Nat.zero_le _
    · exact Nat.le_trans h1 h2
  have HSe : ∀ (w1 : World) (bs : Nat) (v' : Value), Below w.heap.size w w1 → w1.ownsRow bs 44 3 v' l.length (cellsOf l) → Calls Tryz.prog 14 #[v'] w1 (SeV w1 44 l) := fun w1 bs v' hb ho => set_of w1 v' l (setOf_own w1 bs v' l ho (hln _ _ _ ho) (HTb _ hb).1 (HTb _ hb).2.2.1) (HTb _ hb).2.2.2
  rcases set_cases l with ⟨n, j, hn, hc, hp⟩ | ⟨set, hlen, hri, hso, hc, hp⟩
  · refine back_bad w v nv l ns s n j hn hL (fun w1 bs v' nb nv' hb ho hno => ?_)
    exact (print_bad w1 v' nv' n j hn ((HSe w1 bs v' hb ho).mono fun e w' h => hc _ _ _ _ h)).mono fun e w' h => ⟨h.1, hb.trans (h.2.mono hb.size)⟩
  · have hpr : ∀ (w1 : World) (bs : Nat) (v' : Value) (nb : Nat) (nv' : Value), Below w.heap.size w w1 → w1.ownsRow bs 44 3 v' l.length (cellsOf l) → w1.ownsRow nb 35 2 nv' ns.length (cellsN ns) → Calls Tryz.prog 8 #[v', nv'] w1 fun e w' => ((∃ n j : Int, (n = 5 ∨ n = 6 ∨ n = 10) ∧ e = .returned (.tuple #[.string ⟨#[]⟩, .int .i64 n, .int .i64 j])) ∨ ((NamesOk ns ∧ Apart ns ∧ set.any madeT = false) ∧ e = .returned (.tuple #[.string (arr (preN ns ++ setN ns set)), .int .i64 0, .int .i64 0]))) ∧ Below w.heap.size w w' := fun w1 bs v' nb nv' hb ho hno => by
      refine (print_ok w1 v' nb nv' ns set hno hnl hso hlen ((HSe w1 bs v' hb ho).mono fun e w' h => hc _ _ _ _ h) (HTb _ hb).1 (HTb _ hb).2.2.1 (HTb _ hb).2.2.2).mono fun e w' h => ⟨?_, hb.trans (h.2.mono hb.size)⟩
      rcases h.1 with h1 | ⟨h1, h2, h3, h4⟩
      · exact .inl h1
      · exact .inr ⟨⟨h1, h2, h3⟩, h4⟩
    have hse : ∀ (w1 : World) (bs : Nat) (v' : Value), Below w.heap.size w w1 → w1.ownsRow bs 44 3 v' l.length (cellsOf l) → Calls Tryz.prog 14 #[v'] w1 fun e w' => ∃ o c, e = .returned (.tuple #[.slice o set.length c, .int .i64 0, .int .i64 0]) ∧ w'.ownsRow w1.heap.size 44 3 (.slice o set.length c) set.length (cellsOf set) ∧ Below w.heap.size w w' ∧ Below w1.heap.size w1 w' := fun w1 bs v' hb ho => (HSe w1 bs v' hb ho).mono fun e w' h => by
      obtain ⟨v3, q1, q2, q3⟩ := hc _ _ _ _ h
      obtain ⟨o, c, rfl⟩ := own_form q2
      exact ⟨o, c, q1, q2, hb.trans (q3.mono hb.size), q3⟩
    by_cases hz : 20000 < (arr (preN ns ++ setN ns set)).size
    · exact back_long w v nv l ns s _ set hz hL hpr hse (fun w1 hb => (parseT_any w1 _ (HTb _ hb).1 (HTb _ hb).2.1 (HTb _ hb).2.2.1 (HTb _ hb).2.2.2).mono fun e w' h => by
        obtain ⟨q1, q2⟩ := tp_long hz _ _ _ h
        exact ⟨q1, hb.trans (q2.mono hb.size)⟩)
    · have hpx : (NamesOk ns ∧ Apart ns ∧ set.any madeT = false) → ∀ w1, Below w.heap.size w w1 → Calls Tryz.prog 13 #[.string (arr (preN ns ++ setN ns set))] w1 fun e w' => ∃ v', e = .returned (.tuple #[v', .int .i64 0, .int .i64 0]) ∧ w'.ownsRow w1.heap.size 44 3 v' set.length (cellsOf set) ∧ Below w.heap.size w w' := fun hg w1 hb => (parseT_any w1 _ (HTb _ hb).1 (HTb _ hb).2.1 (HTb _ hb).2.2.1 (HTb _ hb).2.2.2).mono fun e w' h => by
        obtain ⟨v', q1, q2, q3⟩ := tp_print hg.1 hg.2.1 hso hg.2.2 hri hlen (by rw [arr_sz] at hz; omega) _ _ _ h
        exact ⟨v', q1, q2, hb.trans (q3.mono hb.size)⟩
      by_cases h0 : set.length = 0
      · refine back_short0 w v nv l ns s _ set hz hL hpr (fun w1 bs v' hb ho => (hse w1 bs v' hb ho).mono fun e w' h => ?_) (fun hg w1 hb => (hpx hg w1 hb).mono fun e w' h => ?_)
        · obtain ⟨o, c, q1, q2, q3, _⟩ := h
          rw [h0] at q1
          exact ⟨o, c, q1, q3⟩
        · obtain ⟨v', q1, q2, q3⟩ := h
          obtain ⟨o, c, rfl⟩ := own_form q2
          rw [h0] at q1
          exact ⟨o, c, q1, q3⟩
      · refine back_short1 w v nv l ns s _ set hz hlen hL hpr (fun w1 bs v' hb ho => (hse w1 bs v' hb ho).mono fun e w' h => ?_) (fun hg w1 hb => (hpx hg w1 hb).mono fun e w' h => ?_)
        · obtain ⟨o, c, q1, q2, q3, q4⟩ := h
          obtain ⟨g, c2, e3, _, hg⟩ := q2.form (by omega)
          cases e3
          exact ⟨g, c, q1, ⟨own_lies q2, hg⟩, q3, q4⟩
        · obtain ⟨v', q1, q2, q3⟩ := h
          obtain ⟨g, c2, rfl, _, hg⟩ := q2.form (by omega)
          exact ⟨g, c2, q1, ⟨own_lies q2, hg⟩, q3⟩

end Tu
end Go.Proofs.YtfapcangooodeabGreatDoor

