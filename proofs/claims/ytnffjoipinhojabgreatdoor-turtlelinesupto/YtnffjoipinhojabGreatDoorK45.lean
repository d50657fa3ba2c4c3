import Derived.Test.YtnffjoipinhojabGreatDoorK44
import Derived.BigQuiet
import Derived.Deep.QuietTactic
set_option linter.unusedSimpArgs false
set_option linter.unusedVariables false
namespace Go.Proofs.YtnffjoipinhojabGreatDoor
open Go.RowKit
open Back
namespace Tu

theorem tp_lines (l : List Tri) (hx : ∀ x ∈ l, soundT x = true) (hr : Rising l) (hn : l.length ≤ 300) (hz : (printT l).length ≤ 20000) :
    (l.any madeT = true → ∃ j : Nat, ∀ w e w', TpV w (arr (printT l)) e w' → e = .returned (.tuple #[.slice none 0 0, .int .i64 6, .int .i64 j]) ∧ Below w.heap.size w w') ∧
    (l.any madeT = false → ∀ w e w', TpV w (arr (printT l)) e w' → ∃ v, e = .returned (.tuple #[v, .int .i64 0, .int .i64 0]) ∧ w'.ownsRow w.heap.size 44 3 v l.length (cellsOf l) ∧ Below w.heap.size w w') := by
  obtain ⟨h1, h2⟩ := textP_lines l hx
  have hs : ¬ 20000 < (arr (printT l)).size := by rw [arr_sz]; omega
  refine ⟨fun hm => ?_, fun hm w e w' h => ?_⟩
  · obtain ⟨j, hj⟩ := h1 hm
    refine ⟨j, fun w e w' h => ?_⟩
    unfold TpV at h
    rw [if_neg hs, hj] at h
    exact h
  · obtain ⟨st, ht, hsd⟩ := h2 hm
    unfold TpV at h
    rw [if_neg hs, ht] at h
    simp only at h
    rw [hsd] at h
    have hb : badAt 0 l = none := by
      have : ∀ (l : List Tri) (q : Nat), (∀ x ∈ l, soundT x = true) → badAt q l = none := by
        intro l
        induction l with
        | nil => intro q _; rfl
        | cons x l ih => intro q h; rw [badAt, if_pos (h x (List.mem_cons_self ..))]; exact ih _ (fun y hy => h y (List.mem_cons_of_mem _ hy))
      exact this l 0 hx
    have hrs : rise [] l = some l := by simpa using rise_self l [] (by simpa using hr) (by simpa using hn)
    unfold SeV at h
    rw [hb] at h
    simp only at h
    unfold RisV at h
    rw [hrs] at h
    exact h

theorem labelled_own (w : World) (bs : Nat) (v : Value) (set : List Tri) (ho : w.ownsRow bs 44 3 v set.length (cellsOf set)) (hx : ∀ x ∈ set, soundT x = true) (hlen : set.length ≤ 300) (hT : Tabs w) (hG : 8 ≤ w.heap.size) (hH : Handle w) :
    Calls Tryz.prog 17 #[v] w fun e w' => e = .returned (.bool (set.any madeT)) ∧ Below w.heap.size w w' := by
  rcases ho.2 with ⟨rfl, hz⟩ | ⟨g, cap, cur, rfl, _, hgg, _⟩
  · have : set = [] := List.length_eq_zero_iff.1 hz
    subst this
    exact labelled_nil w none 0
  · exact labelled_some w g cap set (Array.getElem?_eq_some_iff.1 hgg).1 (own_lies ho) hx hlen hT hG hH

set_option maxHeartbeats 8000000 in
set_option maxRecDepth 20000 in
theorem turtleLines_of (w : World) (v : Value) (l : List Tri) (hT : Tabs w) (hN : Tens w) (hG : 8 ≤ w.heap.size) (hH : Handle w)
    (htr : ∀ w1, Below w.heap.size w w1 → Calls Tryz.prog 6 #[v] w1 fun e w' => ∃ v', e = .returned v' ∧ w'.ownsRow w1.heap.size 44 3 v' l.length (cellsOf l) ∧ Below w1.heap.size w1 w') :
    Calls Tryz.prog 5 #[v] w fun e w' => e = .returned (.bool true) ∧ Below w.heap.size w w' := by
  have hgt : 5 < w.heap.size := Nat.lt_of_lt_of_le (by decide : 5 < 8) hG
  have HTb : Hid (∀ w', Below w.heap.size w w' → Tabs w' ∧ Tens w' ∧ 8 ≤ w'.heap.size ∧ Handle w') := fun w' hb => ⟨hT.below hb (by omega) (by omega), hN.same (hb.block _ hgt), Nat.le_trans hG hb.size, hH.below hb⟩
  have HA : Hid (Calls Tryz.prog 12 #[] w fun e w' => e = .returned (.bool true) ∧ Below w.heap.size w w') := alive_any w hT hN hG hH
  have HTr : Hid (∀ w1, Below w.heap.size w w1 → Calls Tryz.prog 6 #[v] w1 fun e w' => ∃ v', e = .returned v' ∧ w'.ownsRow w1.heap.size 44 3 v' l.length (cellsOf l) ∧ Below w.heap.size w w') := fun w1 hb => (htr w1 hb).mono fun e w' ⟨v', q1, q2, q3⟩ => ⟨v', q1, q2, hb.trans (q3.mono hb.size)⟩
  have hln : ∀ (w1 : World) (bs : Nat) (v' : Value), w1.ownsRow bs 44 3 v' l.length (cellsOf l) → l.length ≤ maxLen := fun w1 bs v' ho => by
    rcases ho.2 with ⟨_, hz⟩ | ⟨g, cap, cur, _, _, _, h1, h2, _⟩
    · rw [hz]; exact Nat.zero_le _
    · exact Nat.le_trans h1 h2
  have HSo : ∀ (w1 : World) (bs : Nat) (v' : Value), Below w.heap.size w w1 → w1.ownsRow bs 44 3 v' l.length (cellsOf l) → Calls Tryz.prog 32 #[v'] w1 (SoP w1 l) := fun w1 bs v' hb ho => setOf_own w1 bs v' l ho (hln _ _ _ ho) (HTb.out _ hb).1 (HTb.out _ hb).2.2.1
  rcases set_cases l with ⟨n, j, hn, hc, hp⟩ | ⟨set, hlen, hri, hso, hc, hp⟩
  · have HSe : Hid (∀ w1 bs v', Below w.heap.size w w1 → w1.ownsRow bs 44 3 v' l.length (cellsOf l) → Calls Tryz.prog 14 #[v'] w1 fun e w' => e = .returned (.tuple #[.slice none 0 0, .int .i64 n, .int .i64 j]) ∧ Below w.heap.size w w') := fun w1 bs v' hb ho => (set_of w1 v' l (HSo w1 bs v' hb ho) (HTb.out _ hb).2.2.2).mono fun e w' h => ⟨(hc w1 _ e w' h).1, hb.trans ((hc w1 _ e w' h).2.mono hb.size)⟩
    have HPr : Hid (∀ w1 bs v', Below w.heap.size w w1 → w1.ownsRow bs 44 3 v' l.length (cellsOf l) → Calls Tryz.prog 15 #[v'] w1 fun e w' => e = .returned (.tuple #[.string ⟨#[]⟩, .int .i64 n, .int .i64 j]) ∧ Below w.heap.size w w') := fun w1 bs v' hb ho => (print_of w1 v' l (HSo w1 bs v' hb ho) (HTb.out _ hb).2.2.2).mono fun e w' h => ⟨(hp w1 e w' h).1, hb.trans ((hp w1 e w' h).2.mono hb.size)⟩
    have HNu : Hid (∀ w1, Calls Tryz.prog 11 #[.int .i64 n] w1 fun e w' => e = .returned (.int .i64 n) ∧ w' = w1) := fun w1 => numT w1 n (by omega) (by omega)
    have hn0 : (n != 0) = true := by rcases hn with rfl | rfl <;> rfl
    clear hT hN hG hH htr hc hp hn hln HSo HTb
    go_enter Tryz.func5, Tryz.ntmps5
    go_wp2_with fail
    refine HA.out.mono ?_
    rintro e w1 ⟨rfl, hb1⟩
    have HB1 : Hid (Below w.heap.size w w1) := hb1
    clear hb1
    go_wp2_with fail
    refine (HTr.out _ HB1.out).mono ?_
    rintro e w2 ⟨v2, rfl, o2, hb2⟩
    have H2 : Hid (Below w.heap.size w w2 ∧ w2.ownsRow w1.heap.size 44 3 v2 l.length (cellsOf l)) := ⟨hb2, o2⟩
    clear hb2 o2
    go_wp2_with fail
    refine (HSe.out _ _ _ H2.out.1 H2.out.2).mono ?_
    rintro e w3 ⟨rfl, hb3⟩
    have HB3 : Hid (Below w.heap.size w w3) := hb3
    clear hb3
    go_wp2_with fail
    refine (HTr.out _ HB3.out).mono ?_
    rintro e w4 ⟨v4, rfl, o4, hb4⟩
    have H4 : Hid (Below w.heap.size w w4 ∧ w4.ownsRow w3.heap.size 44 3 v4 l.length (cellsOf l)) := ⟨hb4, o4⟩
    clear hb4 o4
    go_wp2_with fail
    refine (HPr.out _ _ _ H4.out.1 H4.out.2).mono ?_
    rintro e w5 ⟨rfl, hb5⟩
    have HB5 : Hid (Below w.heap.size w w5) := hb5
    clear hb5
    go_wp2_with fail
    refine (HNu.out _).mono ?_
    rintro e w6 ⟨rfl, rfl⟩
    go_wp2_with fail
    refine (HNu.out _).mono ?_
    rintro e w6 ⟨rfl, rfl⟩
    go_wp2_with fail
    refine (HNu.out _).mono ?_
    rintro e w6 ⟨rfl, rfl⟩
    go_wp2_with fail
    go_ret
    exact ⟨rfl, HB5.out⟩
  · have HSe : Hid (∀ (w1 : World) (bs : Nat) (v' : Value), Below w.heap.size w w1 → w1.ownsRow bs 44 3 v' l.length (cellsOf l) → Calls Tryz.prog 14 #[v'] w1 fun e w' => ∃ v3, e = .returned (.tuple #[v3, .int .i64 0, .int .i64 0]) ∧ w'.ownsRow w1.heap.size 44 3 v3 set.length (cellsOf set) ∧ Below w.heap.size w w') := fun w1 bs v' hb ho => (set_of w1 v' l (HSo w1 bs v' hb ho) (HTb.out _ hb).2.2.2).mono fun e w' h => by
      obtain ⟨v3, q1, q2, q3⟩ := hc w1 _ e w' h
      exact ⟨v3, q1, q2, hb.trans (q3.mono hb.size)⟩
    have HPr : Hid (∀ (w1 : World) (bs : Nat) (v' : Value), Below w.heap.size w w1 → w1.ownsRow bs 44 3 v' l.length (cellsOf l) → Calls Tryz.prog 15 #[v'] w1 fun e w' => e = .returned (.tuple #[.string (arr (printT set)), .int .i64 0, .int .i64 0]) ∧ Below w.heap.size w w' ∧ Below w1.heap.size w1 w') := fun w1 bs v' hb ho => (print_of w1 v' l (HSo w1 bs v' hb ho) (HTb.out _ hb).2.2.2).mono fun e w' h => ⟨(hp w1 e w' h).1, hb.trans ((hp w1 e w' h).2.mono hb.size), (hp w1 e w' h).2⟩
    have HTr : Hid (∀ w1, Below w.heap.size w w1 → Calls Tryz.prog 6 #[v] w1 fun e w' => ∃ v', e = .returned v' ∧ w'.ownsRow w1.heap.size 44 3 v' l.length (cellsOf l) ∧ Below w.heap.size w w' ∧ Below w1.heap.size w1 w') := fun w1 hb => (htr w1 hb).mono fun e w' ⟨v', q1, q2, q3⟩ => ⟨v', q1, q2, hb.trans (q3.mono hb.size), q3⟩
    have HN0 : Hid (∀ w1, Calls Tryz.prog 11 #[.int .i64 0] w1 fun e w' => e = .returned (.int .i64 0) ∧ w' = w1) := fun w1 => numT w1 0 (by omega) (by omega)
    have hps : (arr (printT set)).size = (printT set).length := arr_sz _
    by_cases hlong : 20000 < (printT set).length
    · clear hT hN hG hH htr hc hp hln HSo HTb
      go_enter Tryz.func5, Tryz.ntmps5
      go_wp2_with fail
      refine HA.out.mono ?_
      rintro e w1 ⟨rfl, hb1⟩
      have HB1 : Hid (Below w.heap.size w w1) := hb1
      clear hb1
      go_wp2_with fail
      refine (HTr.out _ HB1.out).mono ?_
      rintro e w2 ⟨v2, rfl, o2, hb2⟩
      have H2 : Hid (Below w.heap.size w w2 ∧ w2.ownsRow w1.heap.size 44 3 v2 l.length (cellsOf l)) := ⟨hb2.1, o2⟩
      clear hb2 o2
      go_wp2_with fail
      refine (HSe.out _ _ _ H2.out.1 H2.out.2).mono ?_
      rintro e w3 ⟨v3, rfl, o3, hb3⟩
      have H3 : Hid (Below w.heap.size w w3 ∧ w3.ownsRow w2.heap.size 44 3 v3 set.length (cellsOf set)) := ⟨hb3, o3⟩
      clear hb3 o3
      go_wp2_with fail
      refine (HTr.out _ H3.out.1).mono ?_
      rintro e w4 ⟨v4, rfl, o4, hb4⟩
      have H4 : Hid (Below w.heap.size w w4 ∧ w4.ownsRow w3.heap.size 44 3 v4 l.length (cellsOf l) ∧ w4.ownsRow w2.heap.size 44 3 v3 set.length (cellsOf set)) := ⟨hb4.1, o4, own_same H3.out.2 fun g _ hg => hb4.2.block g hg⟩
      clear hb4 o4
      go_wp2_with fail
      refine (HPr.out _ _ _ H4.out.1 H4.out.2.1).mono ?_
      rintro e w5 ⟨rfl, hb5⟩
      have H5 : Hid (Below w.heap.size w w5 ∧ w5.ownsRow w2.heap.size 44 3 v3 set.length (cellsOf set)) := ⟨hb5.1, own_same H4.out.2.2 fun g _ hg => hb5.2.block g hg⟩
      clear hb5
      go_wp2_with fail
      refine (HN0.out _).mono ?_
      rintro e w6 ⟨rfl, rfl⟩
      go_wp2_with fail
      refine (HN0.out _).mono ?_
      rintro e w6 ⟨rfl, rfl⟩
      go_wp2_with fail
      refine (HN0.out _).mono ?_
      rintro e w6 ⟨rfl, rfl⟩
      go_wp2_with fail
      go_ret
      exact ⟨rfl, H5.out.1⟩
    · obtain ⟨t1, t2⟩ := tp_lines set hso hri hlen (by omega)
      have HLb : Hid (∀ (w1 : World) (bs : Nat) (v' : Value), Below w.heap.size w w1 → w1.ownsRow bs 44 3 v' set.length (cellsOf set) → Calls Tryz.prog 17 #[v'] w1 fun e w' => e = .returned (.bool (set.any madeT)) ∧ Below w.heap.size w w' ∧ Below w1.heap.size w1 w') := fun w1 bs v' hb ho => (labelled_own w1 bs v' set ho hso hlen (HTb.out _ hb).1 (HTb.out _ hb).2.2.1 (HTb.out _ hb).2.2.2).mono fun e w' h => ⟨h.1, hb.trans (h.2.mono hb.size), h.2⟩
      have HPa := fun w1 (hb : Below w.heap.size w w1) => parseT_any w1 (arr (printT set)) (HTb.out _ hb).1 (HTb.out _ hb).2.1 (HTb.out _ hb).2.2.1 (HTb.out _ hb).2.2.2
      cases hm : set.any madeT with
      | true =>
        rw [hm] at HLb
        obtain ⟨j, hj⟩ := t1 hm
        have HPb : Hid (∀ w1, Below w.heap.size w w1 → Calls Tryz.prog 13 #[.string (arr (printT set))] w1 fun e w' => e = .returned (.tuple #[.slice none 0 0, .int .i64 6, .int .i64 j]) ∧ Below w.heap.size w w' ∧ Below w1.heap.size w1 w') := fun w1 hb => (HPa w1 hb).mono fun e w' h => ⟨(hj _ _ _ h).1, hb.trans ((hj _ _ _ h).2.mono hb.size), (hj _ _ _ h).2⟩
        have HN6 : Hid (∀ w1, Calls Tryz.prog 11 #[.int .i64 6] w1 fun e w' => e = .returned (.int .i64 6) ∧ w' = w1) := fun w1 => numT w1 6 (by omega) (by omega)
        clear hT hN hG hH htr hc hp hln HSo HTb HPa t1 t2 hj hm
        go_enter Tryz.func5, Tryz.ntmps5
        go_wp2_with fail
        refine HA.out.mono ?_
        rintro e w1 ⟨rfl, hb1⟩
        have HB1 : Hid (Below w.heap.size w w1) := hb1
        clear hb1
        go_wp2_with fail
        refine (HTr.out _ HB1.out).mono ?_
        rintro e w2 ⟨v2, rfl, o2, hb2⟩
        have H2 : Hid (Below w.heap.size w w2 ∧ w2.ownsRow w1.heap.size 44 3 v2 l.length (cellsOf l)) := ⟨hb2.1, o2⟩
        clear hb2 o2
        go_wp2_with fail
        refine (HSe.out _ _ _ H2.out.1 H2.out.2).mono ?_
        rintro e w3 ⟨v3, rfl, o3, hb3⟩
        have H3 : Hid (Below w.heap.size w w3 ∧ w3.ownsRow w2.heap.size 44 3 v3 set.length (cellsOf set)) := ⟨hb3, o3⟩
        clear hb3 o3
        go_wp2_with fail
        refine (HTr.out _ H3.out.1).mono ?_
        rintro e w4 ⟨v4, rfl, o4, hb4⟩
        have H4 : Hid (Below w.heap.size w w4 ∧ w4.ownsRow w3.heap.size 44 3 v4 l.length (cellsOf l) ∧ w4.ownsRow w2.heap.size 44 3 v3 set.length (cellsOf set)) := ⟨hb4.1, o4, own_same H3.out.2 fun g _ hg => hb4.2.block g hg⟩
        clear hb4 o4
        go_wp2_with fail
        refine (HPr.out _ _ _ H4.out.1 H4.out.2.1).mono ?_
        rintro e w5 ⟨rfl, hb5⟩
        have H5 : Hid (Below w.heap.size w w5 ∧ w5.ownsRow w2.heap.size 44 3 v3 set.length (cellsOf set)) := ⟨hb5.1, own_same H4.out.2.2 fun g _ hg => hb5.2.block g hg⟩
        clear hb5
        go_wp2_with fail
        refine (HN0.out _).mono ?_
        rintro e w6 ⟨rfl, rfl⟩
        go_wp2_with fail
        refine (HN0.out _).mono ?_
        rintro e w6 ⟨rfl, rfl⟩
        go_wp2_with fail
        refine (HN0.out _).mono ?_
        rintro e w6 ⟨rfl, rfl⟩
        go_wp2_with fail
        refine (HPb.out _ H5.out.1).mono ?_
        rintro e w7 ⟨rfl, hb7, hc7⟩
        have H7 : Hid (Below w.heap.size w w7 ∧ w7.ownsRow w2.heap.size 44 3 v3 set.length (cellsOf set)) := ⟨hb7, own_same H5.out.2 fun g _ hg => hc7.block g hg⟩
        clear hb7 hc7
        go_wp2_with fail
        refine (HLb.out _ _ _ H7.out.1 H7.out.2).mono ?_
        rintro e w8 ⟨rfl, hb8, hc8⟩
        have HB8 : Hid (Below w.heap.size w w8) := hb8
        clear hb8 hc8
        go_wp2_with fail
        refine (HN6.out _).mono ?_
        rintro e w9 ⟨rfl, rfl⟩
        go_wp2_with fail
        go_ret
        exact ⟨rfl, HB8.out⟩
      | false =>
        rw [hm] at HLb
        have HPb : Hid (∀ w1, Below w.heap.size w w1 → Calls Tryz.prog 13 #[.string (arr (printT set))] w1 fun e w' => ∃ v6, e = .returned (.tuple #[v6, .int .i64 0, .int .i64 0]) ∧ w'.ownsRow w1.heap.size 44 3 v6 set.length (cellsOf set) ∧ Below w.heap.size w w' ∧ Below w1.heap.size w1 w') := fun w1 hb => (HPa w1 hb).mono fun e w' h => by
          obtain ⟨v6, q1, q2, q3⟩ := t2 hm _ _ _ h
          exact ⟨v6, q1, q2, hb.trans (q3.mono hb.size), q3⟩
        clear hT hN hG hH htr hc hp hln HSo HTb HPa t1 t2 hm hri hso
        go_enter Tryz.func5, Tryz.ntmps5
        go_wp2_with fail
        refine HA.out.mono ?_
        rintro e w1 ⟨rfl, hb1⟩
        have HB1 : Hid (Below w.heap.size w w1) := hb1
        clear hb1
        go_wp2_with fail
        refine (HTr.out _ HB1.out).mono ?_
        rintro e w2 ⟨v2, rfl, o2, hb2⟩
        have H2 : Hid (Below w.heap.size w w2 ∧ w2.ownsRow w1.heap.size 44 3 v2 l.length (cellsOf l)) := ⟨hb2.1, o2⟩
        clear hb2 o2
        go_wp2_with fail
        refine (HSe.out _ _ _ H2.out.1 H2.out.2).mono ?_
        rintro e w3 ⟨v3, rfl, o3, hb3⟩
        have H3 : Hid (Below w.heap.size w w3 ∧ w3.ownsRow w2.heap.size 44 3 v3 set.length (cellsOf set)) := ⟨hb3, o3⟩
        clear hb3 o3
        go_wp2_with fail
        refine (HTr.out _ H3.out.1).mono ?_
        rintro e w4 ⟨v4, rfl, o4, hb4⟩
        have H4 : Hid (Below w.heap.size w w4 ∧ w4.ownsRow w3.heap.size 44 3 v4 l.length (cellsOf l) ∧ w4.ownsRow w2.heap.size 44 3 v3 set.length (cellsOf set)) := ⟨hb4.1, o4, own_same H3.out.2 fun g _ hg => hb4.2.block g hg⟩
        clear hb4 o4
        go_wp2_with fail
        refine (HPr.out _ _ _ H4.out.1 H4.out.2.1).mono ?_
        rintro e w5 ⟨rfl, hb5⟩
        have H5 : Hid (Below w.heap.size w w5 ∧ w5.ownsRow w2.heap.size 44 3 v3 set.length (cellsOf set)) := ⟨hb5.1, own_same H4.out.2.2 fun g _ hg => hb5.2.block g hg⟩
        clear hb5
        go_wp2_with fail
        refine (HN0.out _).mono ?_
        rintro e w6 ⟨rfl, rfl⟩
        go_wp2_with fail
        refine (HN0.out _).mono ?_
        rintro e w6 ⟨rfl, rfl⟩
        go_wp2_with fail
        refine (HN0.out _).mono ?_
        rintro e w6 ⟨rfl, rfl⟩
        go_wp2_with fail
        refine (HPb.out _ H5.out.1).mono ?_
        rintro e w7 ⟨v6, rfl, o6, hb7, hc7⟩
        have H7 : Hid (Below w.heap.size w w7 ∧ w7.ownsRow w2.heap.size 44 3 v3 set.length (cellsOf set) ∧ w7.ownsRow w6.heap.size 44 3 v6 set.length (cellsOf set)) := ⟨hb7, own_same H5.out.2 fun g _ hg => hc7.block g hg, o6⟩
        clear hb7 hc7 o6
        go_wp2_with fail
        refine (HLb.out _ _ _ H7.out.1 H7.out.2.1).mono ?_
        rintro e w8 ⟨rfl, hb8, hc8⟩
        have H8 : Hid (Below w.heap.size w w8 ∧ w8.ownsRow w2.heap.size 44 3 v3 set.length (cellsOf set) ∧ w8.ownsRow w6.heap.size 44 3 v6 set.length (cellsOf set)) := ⟨hb8, own_same H7.out.2.1 fun g _ hg => hc8.block g hg, own_same H7.out.2.2 fun g _ hg => hc8.block g hg⟩
        clear hb8 hc8
        by_cases h0 : set.length = 0
        · obtain ⟨oa, ca, e3⟩ := own_form H8.out.2.1
          obtain ⟨ob, cb, e6⟩ := own_form H8.out.2.2
          rw [h0] at e3 e6
          subst e3 e6
          go_wp2_with fail
          refine (HN0.out _).mono ?_
          rintro e w9 ⟨rfl, rfl⟩
          go_wp2_with fail
          go_loopw [14] (fun i wr => i = .int .i64 0 ∧ wr = w9) (fun i wr => 0)
          case atStart => exact ⟨rfl, rfl⟩
          case round =>
            obtain ⟨rfl, hwr⟩ := hrel
            have hwr := hwr.symm
            subst hwr
            go_wp2
            go_ret
            exact ⟨rfl, H8.out.1⟩
        · obtain ⟨ga, ca, e3, _, hga⟩ := H8.out.2.1.form (by omega)
          obtain ⟨gb, cb, e6, _, hgb⟩ := H8.out.2.2.form (by omega)
          subst e3 e6
          have HLa : Hid (Lies w8 ga set ∧ Lies w8 gb set) := ⟨own_lies H8.out.2.1, own_lies H8.out.2.2⟩
          have hne := neqA
          go_wp2_with fail
          refine (HN0.out _).mono ?_
          rintro e w9 ⟨rfl, rfl⟩
          go_wp2_with fail
          go_loopw [14] (fun i wr => ∃ q : Nat, i = .int .i64 q ∧ q ≤ set.length ∧ Below w.heap.size w wr ∧ (Lies wr ga set ∧ ga < wr.heap.size) ∧ Lies wr gb set ∧ gb < wr.heap.size) (fun i wr => set.length - (intOf i).toNat)
          case atStart => exact ⟨0, rfl, Nat.zero_le _, H8.out.1, ⟨HLa.out.1, hga⟩, HLa.out.2, hgb⟩
          case round =>
            obtain ⟨q, rfl, hq, hbw, ⟨la, ga2⟩, lb, gb2⟩ := hrel
            have HI : Hid (Below w.heap.size w wr ∧ (Lies wr ga set ∧ ga < wr.heap.size) ∧ Lies wr gb set ∧ gb < wr.heap.size) := ⟨hbw, ⟨la, ga2⟩, lb, gb2⟩
            clear hbw la lb ga2 gb2 hga hgb
            by_cases hlt : q < set.length
            · obtain ⟨x, hxq⟩ : ∃ x, set[q]? = some x := ⟨_, List.getElem?_eq_getElem hlt⟩
              obtain ⟨f0, f1, f2⟩ := HI.out.2.1.1 q x hxq
              obtain ⟨k0, k1, k2⟩ := HI.out.2.2.1 q x hxq
              clear hxq
              go_wp2_with fail
              go_quiet (fail)
              go_wp2_with fail
              have hdr : ∀ n, Below wr.heap.size wr (wr.drewN n) := fun n => below_drewN (Below.refl _ _) n
              exact ⟨⟨q + 1, by go_num, by omega, below_drewN HI.out.1 _, ⟨HI.out.2.1.1.below HI.out.2.1.2 (hdr _), Nat.lt_of_lt_of_le HI.out.2.1.2 (hdr _).size⟩, HI.out.2.2.1.below HI.out.2.2.2 (hdr _), Nat.lt_of_lt_of_le HI.out.2.2.2 (hdr _).size⟩, by simp [intOf]; omega⟩
            · have hqe : q = set.length := by omega
              subst hqe
              go_wp2
              go_ret
              exact ⟨rfl, HI.out.1⟩

end Tu
end Go.Proofs.YtnffjoipinhojabGreatDoor

