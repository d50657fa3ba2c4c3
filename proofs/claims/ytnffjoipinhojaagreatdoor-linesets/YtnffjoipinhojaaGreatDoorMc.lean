import Derived.Test.YtnffjoipinhojaaGreatDoorMa
import Derived.Test.YtnffjoipinhojaaGreatDoorPr
import Derived.Test.YtnffjoipinhojaaGreatDoorMb
import Derived.Laws.AppendOwnNone
import Derived.Maps.AppendAt
import Derived.Laws.StructEq
set_option linter.unusedSimpArgs false
set_option linter.unusedVariables false
namespace Go.Proofs.YtnffjoipinhojaaGreatDoor
open Go.RowKit
namespace Ref

theorem Mv.drewN {w : World} {b : Nat} {s : ByteArray} {i : Nat} {e a : Int} (h : Pn w b s i e a) (n : Nat) : Mv b s i e a w (w.drewN n) := Mv.stayN h n

set_option maxHeartbeats 1000000 in
theorem blanks_live (w : World) (b i : Nat) (s : ByteArray) (a : Int) (h : Pn w b s i 0 a) (hi : i ≤ s.size) :
    Calls Tryz.prog 97 #[.pointer (some ⟨b, 0, none⟩)] w fun e w' => e = .returned (.tuple #[]) ∧ Mv b s (skipB s i) 0 a w w' := by
  have H0 : Hid (Mv b s i 0 a w w) := Mv.stayN h 0
  clear h
  go_enter Tryz.func97, Tryz.ntmps97
  go_wp2_with fail
  go_loopw [] (fun wr => ∃ q, q ≤ s.size ∧ Mv b s q 0 a w wr ∧ skipB s q = skipB s i) (fun wr => s.size - (intOf ((wr.cell? ⟨b, 1, none⟩).getD undef)).toNat)
  case atStart => exact ⟨i, hi, H0.out, rfl⟩
  case round =>
    obtain ⟨q, hqs, hM, hq⟩ := hrel
    have HM : Hid (Mv b s q 0 a w wr) := hM
    have HN : Hid (∀ n, Calls Tryz.prog 71 #[.pointer (some ⟨b, 0, none⟩)] (wr.drewN n) fun e w' => e = .returned (.int .i64 (nb s q 0)) ∧ ∃ m, w' = (wr.drewN n).drewN m) := fun n => next_any _ b q s 0 a (HM.out.pn.drewN n)
    have HN0 : Hid (Calls Tryz.prog 71 #[.pointer (some ⟨b, 0, none⟩)] wr fun e w' => e = .returned (.int .i64 (nb s q 0)) ∧ ∃ m, w' = wr.drewN m) := next_any _ b q s 0 a HM.out.pn
    have HP : Hid ((intOf ((wr.cell? ⟨b, 1, none⟩).getD undef)).toNat = q) := by unfold Hid; rw [HM.out.pn.c1]; simp [intOf]
    have n32 := nb_live s q 32 (by omega) (by omega)
    have n9 := nb_live s q 9 (by omega) (by omega)
    generalize nb s q 0 = y at *
    obtain ⟨c0, c1, c2, c3, fz, ms, le⟩ := hM.pn
    clear hM
    by_cases k1 : bt s q = 32
    · have hlt := bt_in k1 (by omega)
      have hy : (y == 32) = true := by simpa using n32.2 k1
      have HQ : Hid (skipB s (q + 1) = skipB s i) := by unfold Hid; rw [← hq, skipB_on (Or.inl k1)]
      clear k1 hq n32 n9
      go_wp2_with fail
      refine HN0.out.mono ?_
      rintro e w2 ⟨rfl, m, rfl⟩
      go_wp2_with fail
      have hM3 : Mv b s (q + 1) 0 a w ((wr.drewN m).setCell ⟨b, 1, none⟩ (.int .i64 ((q : Int) + 1))) := (HM.out.trans (Mv.stayN HM.out.pn m)).trans (Mv.at' (HM.out.pn.drewN m) (q + 1) (by omega))
      go_roundw
      case rel => exact ⟨q + 1, by omega, hM3, HQ.out⟩
      case measure => rw [hM3.pn.c1, HP.out]; simp [intOf]; omega
    · have hy : (y == 32) = false := by rw [beq_eq_false_iff_ne]; exact fun e => k1 (n32.1 e)
      by_cases k2 : bt s q = 9
      · have hlt := bt_in k2 (by omega)
        have hy2 : (y == 9) = true := by simpa using n9.2 k2
        have HQ : Hid (skipB s (q + 1) = skipB s i) := by unfold Hid; rw [← hq, skipB_on (Or.inr k2)]
        clear k1 k2 hq n32 n9
        go_wp2_with fail
        refine HN0.out.mono ?_
        rintro e w2 ⟨rfl, m, rfl⟩
        go_wp2_with fail
        refine (HN.out m).mono ?_
        rintro e w3 ⟨rfl, m2, rfl⟩
        go_wp2_with fail
        have hM3 : Mv b s (q + 1) 0 a w ((wr.drewN (m + m2)).setCell ⟨b, 1, none⟩ (.int .i64 ((q : Int) + 1))) := (HM.out.trans (Mv.stayN HM.out.pn (m + m2))).trans (Mv.at' (HM.out.pn.drewN (m + m2)) (q + 1) (by omega))
        go_roundw
        case rel => exact ⟨q + 1, by omega, hM3, HQ.out⟩
        case measure => rw [hM3.pn.c1, HP.out]; simp [intOf]; omega
      · have hy2 : (y == 9) = false := by rw [beq_eq_false_iff_ne]; exact fun e => k2 (n9.1 e)
        have HQ : Hid (skipB s i = q) := by unfold Hid; rw [← hq, skipB_end (by omega)]
        clear k1 k2 hq n32 n9
        go_wp2_with fail
        refine HN0.out.mono ?_
        rintro e w2 ⟨rfl, m, rfl⟩
        go_wp2_with fail
        refine (HN.out m).mono ?_
        rintro e w3 ⟨rfl, m2, rfl⟩
        go_wp2_with fail
        go_end0
        exact ⟨rfl, by rw [HQ.out]; exact HM.out.trans (Mv.stayN HM.out.pn _)⟩

set_option maxHeartbeats 1000000 in
theorem blanks_dead (w : World) (b i : Nat) (s : ByteArray) (x a : Int) (h : Pn w b s i x a) (hx : x ≠ 0) :
    Calls Tryz.prog 97 #[.pointer (some ⟨b, 0, none⟩)] w fun e w' => e = .returned (.tuple #[]) ∧ Mv b s i x a w w' := by
  have H : Hid (Pn w b s i x a) := h
  have HN0 : Hid (∀ n, Calls Tryz.prog 71 #[.pointer (some ⟨b, 0, none⟩)] (w.drewN n) fun e w' => e = .returned (.int .i64 (-1)) ∧ ∃ m, w' = (w.drewN n).drewN m) := by
    intro n
    have := next_any _ b i s x a (H.out.drewN n)
    rw [nb_dead s i hx] at this
    exact this
  have HN : Hid (Calls Tryz.prog 71 #[.pointer (some ⟨b, 0, none⟩)] w fun e w' => e = .returned (.int .i64 (-1)) ∧ ∃ m, w' = w.drewN m) := HN0.out 0
  clear h
  go_enter Tryz.func97, Tryz.ntmps97
  go_wp2_with fail
  go_loopw [] (fun wr => wr = w) (fun wr => 0)
  case atStart => rfl
  case round =>
    subst hrel
    go_wp2_with fail
    refine HN.out.mono ?_
    rintro e w2 ⟨rfl, m, rfl⟩
    go_wp2_with fail
    refine (HN0.out m).mono ?_
    rintro e w3 ⟨rfl, m2, rfl⟩
    go_wp2_with fail
    go_end0
    exact ⟨rfl, Mv.stayN H.out _⟩

set_option maxHeartbeats 1000000 in
theorem rest_live (w : World) (b i : Nat) (s : ByteArray) (a : Int) (h : Pn w b s i 0 a) (hi : i ≤ s.size) :
    Calls Tryz.prog 99 #[.pointer (some ⟨b, 0, none⟩)] w fun e w' => e = .returned (.tuple #[]) ∧ Mv b s (cmt s i) 0 a w w' := by
  have H : Hid (Pn w b s i 0 a) := h
  have HN0 : Hid (Calls Tryz.prog 71 #[.pointer (some ⟨b, 0, none⟩)] w fun e w' => e = .returned (.int .i64 (nb s i 0)) ∧ ∃ m, w' = w.drewN m) := next_any _ b i s 0 a H.out
  have n35 := nb_live s i 35 (by omega) (by omega)
  clear h
  by_cases c : bt s i = 35
  · have HC : Hid (cmt s i = skipL s i) := by unfold Hid cmt; rw [if_pos c]
    rw [n35.2 c] at HN0
    rw [HC.out]
    clear c n35 HC
    go_enter Tryz.func99, Tryz.ntmps99
    go_wp2_with fail
    refine HN0.out.mono ?_
    rintro e w2 ⟨rfl, m0, rfl⟩
    go_wp2_with fail
    have H1 : Hid (Mv b s i 0 a w (w.drewN m0)) := Mv.stayN H.out m0
    clear HN0
    go_loopw [] (fun wr => ∃ q, q ≤ s.size ∧ Mv b s q 0 a w wr ∧ skipL s q = skipL s i) (fun wr => s.size - (intOf ((wr.cell? ⟨b, 1, none⟩).getD undef)).toNat)
    case atStart => exact ⟨i, hi, H1.out, rfl⟩
    case round =>
      obtain ⟨q, hqs, hM, hq⟩ := hrel
      have HM : Hid (Mv b s q 0 a w wr) := hM
      have HN : Hid (∀ n, Calls Tryz.prog 71 #[.pointer (some ⟨b, 0, none⟩)] (wr.drewN n) fun e w' => e = .returned (.int .i64 (nb s q 0)) ∧ ∃ m, w' = (wr.drewN n).drewN m) := fun n => next_any _ b q s 0 a (HM.out.pn.drewN n)
      have HN1 : Hid (Calls Tryz.prog 71 #[.pointer (some ⟨b, 0, none⟩)] wr fun e w' => e = .returned (.int .i64 (nb s q 0)) ∧ ∃ m, w' = wr.drewN m) := next_any _ b q s 0 a HM.out.pn
      have HP : Hid ((intOf ((wr.cell? ⟨b, 1, none⟩).getD undef)).toNat = q) := by unfold Hid; rw [HM.out.pn.c1]; simp [intOf]
      obtain ⟨c0, c1, c2, c3, fz, ms, le⟩ := hM.pn
      clear hM
      by_cases k1 : q < s.size
      · have hy1 := nb_bt k1
        have hbr := bt_range s q
        have hlt2 := bt_lt k1
        rw [hy1] at HN HN1
        by_cases k2 : bt s q = 10
        · have HQ : Hid (skipL s i = q) := by unfold Hid; rw [← hq, skipL_end (Or.inr k2)]
          rw [k2] at HN HN1
          clear hy1 hbr hlt2 k2 hq
          go_wp2_with fail
          refine HN1.out.mono ?_
          rintro e w2 ⟨rfl, m, rfl⟩
          go_wp2_with fail
          refine (HN.out m).mono ?_
          rintro e w3 ⟨rfl, m2, rfl⟩
          go_wp2_with fail
          go_end0
          exact ⟨rfl, by rw [HQ.out]; exact HM.out.trans (Mv.stayN HM.out.pn _)⟩
        · have HQ : Hid (skipL s (q + 1) = skipL s i) := by unfold Hid; rw [← hq, skipL_on k1 k2]
          have hge : 0 ≤ bt s q := by omega
          have hne : (bt s q != 10) = true := by simpa using k2
          generalize bt s q = y at *
          clear hy1 hbr hlt2 k2 hq
          go_wp2_with fail
          refine HN1.out.mono ?_
          rintro e w2 ⟨rfl, m, rfl⟩
          go_wp2_with fail
          refine (HN.out m).mono ?_
          rintro e w3 ⟨rfl, m2, rfl⟩
          go_wp2_with fail
          have hM3 : Mv b s (q + 1) 0 a w ((wr.drewN (m + m2)).setCell ⟨b, 1, none⟩ (.int .i64 ((q : Int) + 1))) := (HM.out.trans (Mv.stayN HM.out.pn (m + m2))).trans (Mv.at' (HM.out.pn.drewN (m + m2)) (q + 1) (by omega))
          go_roundw
          case rel => exact ⟨q + 1, by omega, hM3, HQ.out⟩
          case measure => rw [hM3.pn.c1, HP.out]; simp [intOf]; omega
      · have HQ : Hid (skipL s i = q) := by unfold Hid; rw [← hq, skipL_end (Or.inl k1)]
        have hy : nb s q 0 = -1 := by unfold nb; rw [if_neg (by simp), if_neg k1]
        rw [hy] at HN HN1
        clear hy hq
        go_wp2_with fail
        refine HN1.out.mono ?_
        rintro e w2 ⟨rfl, m, rfl⟩
        go_wp2_with fail
        go_end0
        exact ⟨rfl, by rw [HQ.out]; exact HM.out.trans (Mv.stayN HM.out.pn _)⟩
  · have HC : Hid (cmt s i = i) := by unfold Hid cmt; rw [if_neg c]
    have hy : (nb s i 0 == 35) = false := by rw [beq_eq_false_iff_ne]; exact fun e => c (n35.1 e)
    rw [HC.out]
    generalize nb s i 0 = y at *
    clear c n35 HC
    go_enter Tryz.func99, Tryz.ntmps99
    go_wp2_with fail
    refine HN0.out.mono ?_
    rintro e w2 ⟨rfl, m0, rfl⟩
    go_wp2_with fail
    go_end0
    exact ⟨rfl, Mv.stayN H.out m0⟩

theorem rest_dead (w : World) (b i : Nat) (s : ByteArray) (x a : Int) (h : Pn w b s i x a) (hx : x ≠ 0) :
    Calls Tryz.prog 99 #[.pointer (some ⟨b, 0, none⟩)] w fun e w' => e = .returned (.tuple #[]) ∧ Mv b s i x a w w' := by
  have H : Hid (Pn w b s i x a) := h
  have hN := next_any w b i s x a h
  rw [nb_dead s i hx] at hN
  clear h
  go_enter Tryz.func99, Tryz.ntmps99
  go_wp2_with fail
  refine hN.mono ?_
  rintro e w2 ⟨rfl, m, rfl⟩
  go_wp2_with fail
  go_end0
  exact ⟨rfl, Mv.stayN H.out m⟩

end Ref
end Go.Proofs.YtnffjoipinhojaaGreatDoor

namespace Go.Proofs.YtnffjoipinhojaaGreatDoor
open Go.RowKit
namespace Ref

def ksOf (what : Nat) : List Nat := if what = 0 then [1, 2] else if what = 1 then [1] else [1, 2, 3]

theorem term_other {s : ByteArray} {i : Nat} (h1 : bt s i ≠ 60) (h2 : bt s i ≠ 95) (h3 : bt s i ≠ 34) : term s i = .bad i := by unfold term; rw [if_neg h1, if_neg h2, if_neg h3]

theorem of0 {s : ByteArray} {i : Nat} (h : bt s i ≠ 34) : termOf s i [1, 2] = term s i := by
  simp only [termOf, firstB, readK, term]
  by_cases h1 : bt s i = 60
  · simp [h1]
    cases iri s i <;> rfl
  · by_cases h2 : bt s i = 95
    · simp [h2]
      cases blank s i <;> rfl
    · simp [h1, h2, h]
theorem of0b {s : ByteArray} {i : Nat} (h : bt s i = 34) : termOf s i [1, 2] = .bad i := by
  simp [termOf, firstB, h]
theorem of1 {s : ByteArray} {i : Nat} (h : bt s i = 60) : termOf s i [1] = term s i := by
  simp [termOf, firstB, readK, term, h]
  cases iri s i <;> rfl
theorem of1b {s : ByteArray} {i : Nat} (h : bt s i ≠ 60) : termOf s i [1] = .bad i := by
  simp [termOf, firstB, h]

/-- what reading a term at a place of a sentence ends in -/
def PL (b : Nat) (s : ByteArray) (a : Int) (w : World) (r : RL (List UInt8)) (e : Ending) (w' : World) : Prop := match r with
  | .ok l j => e = .returned (str l) ∧ Mv b s j 0 a w w'
  | .bad n j => n ≠ 0 ∧ ∃ (v : ByteArray) (k : Nat), e = .returned (.string v) ∧ Mv b s k n j w w'

theorem pl_bad {b : Nat} {s : ByteArray} {a n : Int} {j : Nat} {w w' : World} {e : Ending} (hn : n ≠ 0) (v : ByteArray) (k : Nat) (he : e = .returned (.string v)) (hm : Mv b s k n j w w') : PL b s a w (.bad n j) e w' := ⟨hn, v, k, he, hm⟩

set_option maxHeartbeats 1000000 in
set_option maxRecDepth 20000 in
theorem place0_live (w : World) (b i : Nat) (s : ByteArray) (a : Int) (h : Pn w b s i 0 a) (hi : i ≤ s.size) :
    Calls Tryz.prog 98 #[.pointer (some ⟨b, 0, none⟩), .int .i64 0] w (PL b s a w (lterm s (skipB s i) (ksOf 0))) := by
  obtain ⟨i1, hi1⟩ : ∃ i1, i1 = skipB s i := ⟨_, rfl⟩
  have his : i1 ≤ s.size := by rw [hi1]; exact skipB_sz hi
  have HB : Hid (Calls Tryz.prog 97 #[.pointer (some ⟨b, 0, none⟩)] w fun e w' => e = .returned (.tuple #[]) ∧ Mv b s i1 0 a w w') := by unfold Hid; rw [hi1]; exact blanks_live w b i s a h hi
  rw [← hi1]
  clear h hi hi1
  have HN : Hid (∀ w1, Pn w1 b s i1 0 a → Calls Tryz.prog 71 #[.pointer (some ⟨b, 0, none⟩)] w1 fun e w' => e = .returned (.int .i64 (nb s i1 0)) ∧ ∃ n, w' = w1.drewN n) := fun w1 h => next_any w1 b i1 s 0 a h
  have HT0 : ∀ w1, Pn w1 b s i1 0 a → Calls Tryz.prog 38 #[.pointer (some ⟨b, 0, none⟩)] w1 (Pout3 b s a w1 (lessK (term s i1))) := fun w1 h => term_any w1 b i1 s a h
  show Calls _ _ _ _ (PL b s a w (lterm s i1 [1, 2]))
  have nl := nb_live s i1 34 (by omega) (by omega)
  by_cases hq : bt s i1 = 34
  · have HR : Hid (lterm s i1 [1, 2] = .bad 2 i1) := by unfold Hid lterm; rw [of0b hq]
    have hy : (nb s i1 0 == 34) = true := by simpa using nl.2 hq
    rw [HR.out]
    clear HT0 nl hq
    generalize nb s i1 0 = y at *
    go_enter Tryz.func98, Tryz.ntmps98
    go_wp2_with fail
    refine HB.out.mono ?_
    rintro e w1 ⟨rfl, m1⟩
    have HM1 : Hid (Mv b s i1 0 a w w1) := m1
    obtain ⟨c0, c1, c2, c3, fz, ms, le⟩ := m1.pn
    clear m1
    go_wp2_with fail
    refine (HN.out _ HM1.out.pn).mono ?_
    rintro e w2 ⟨rfl, n2, rfl⟩
    go_wp2_with fail
    refine (fail_live _ _ _ _ _ _ _ (HM1.out.pn.drewN n2)).mono ?_
    rintro e w3 ⟨rfl, m3⟩
    have HM3 : Hid (Mv b s i1 2 i1 w w3) := (HM1.out.trans (Mv.stayN HM1.out.pn n2)).trans m3
    clear m3
    go_wp2_with fail
    go_ret
    exact pl_bad (by omega) ⟨#[]⟩ i1 rfl HM3.out
  · have HK : termOf s i1 [1, 2] = term s i1 := of0 hq
    have hy : (nb s i1 0 == 34) = false := by rw [beq_eq_false_iff_ne]; exact fun e => hq (nl.1 e)
    clear nl hq
    cases ht : term s i1 with
    | bad j =>
      have HR : Hid (lterm s i1 [1, 2] = .bad 2 j) := by unfold Hid lterm; rw [HK, ht]
      rw [ht] at HT0
      have HT : Hid (∀ w1, Pn w1 b s i1 0 a → Calls Tryz.prog 38 #[.pointer (some ⟨b, 0, none⟩)] w1 fun e w' => ∃ (v : ByteArray) (k : Nat), e = .returned (.string v) ∧ Mv b s k 2 j w1 w') := HT0
      rw [HR.out]
      clear HT0 ht HK
      generalize nb s i1 0 = y at *
      go_enter Tryz.func98, Tryz.ntmps98
      go_wp2_with fail
      refine HB.out.mono ?_
      rintro e w1 ⟨rfl, m1⟩
      have HM1 : Hid (Mv b s i1 0 a w w1) := m1
      obtain ⟨c0, c1, c2, c3, fz, ms, le⟩ := m1.pn
      clear m1
      go_wp2_with fail
      refine (HN.out _ HM1.out.pn).mono ?_
      rintro e w2 ⟨rfl, n2, rfl⟩
      go_wp2_with fail
      refine (HT.out _ (HM1.out.pn.drewN n2)).mono ?_
      rintro e w3 ⟨v, k, rfl, m3⟩
      have HM3 : Hid (Mv b s k 2 j w w3) := (HM1.out.trans (Mv.stayN HM1.out.pn n2)).trans m3
      clear m3
      by_cases h200 : 200 < v.size
      · go_wp2_with fail
        refine (fail_dead _ _ _ _ _ _ _ _ HM3.out.pn (by omega)).mono ?_
        rintro e w4 ⟨rfl, rfl⟩
        go_wp2_with fail
        go_ret
        exact pl_bad (by omega) v k rfl HM3.out
      · go_wp2_with fail
        go_ret
        exact pl_bad (by omega) v k rfl HM3.out
    | ok x j =>
      rw [ht] at HT0
      obtain ⟨V, hV⟩ : ∃ V : ByteArray, V = ⟨x.2.toArray⟩ := ⟨_, rfl⟩
      have hVl : V.size = x.2.length := by rw [hV, arr_size]
      have HT : Hid (∀ w1, Pn w1 b s i1 0 a → Calls Tryz.prog 38 #[.pointer (some ⟨b, 0, none⟩)] w1 fun e w' => e = .returned (.string V) ∧ Mv b s j 0 a w1 w') := by unfold Hid; rw [hV]; exact HT0
      have HV : Hid (V = ⟨x.2.toArray⟩) := hV
      by_cases h200 : 200 < x.2.length
      · have HR : Hid (lterm s i1 [1, 2] = .bad 4 i1) := by unfold Hid lterm; rw [HK, ht]; simp only; rw [if_pos h200]
        rw [← hVl] at h200
        rw [HR.out]
        clear HT0 ht HK hV hVl
        generalize nb s i1 0 = y at *
        go_enter Tryz.func98, Tryz.ntmps98
        go_wp2_with fail
        refine HB.out.mono ?_
        rintro e w1 ⟨rfl, m1⟩
        have HM1 : Hid (Mv b s i1 0 a w w1) := m1
        obtain ⟨c0, c1, c2, c3, fz, ms, le⟩ := m1.pn
        clear m1
        go_wp2_with fail
        refine (HN.out _ HM1.out.pn).mono ?_
        rintro e w2 ⟨rfl, n2, rfl⟩
        go_wp2_with fail
        refine (HT.out _ (HM1.out.pn.drewN n2)).mono ?_
        rintro e w3 ⟨rfl, m3⟩
        have HM3 : Hid (Mv b s j 0 a w w3) := (HM1.out.trans (Mv.stayN HM1.out.pn n2)).trans m3
        clear m3
        go_wp2_with fail
        refine (fail_live _ _ _ _ _ _ _ HM3.out.pn).mono ?_
        rintro e w4 ⟨rfl, m4⟩
        have HM4 : Hid (Mv b s j 4 i1 w w4) := HM3.out.trans m4
        clear m4
        go_wp2_with fail
        go_ret
        exact pl_bad (by omega) V j rfl HM4.out
      · have HR : Hid (lterm s i1 [1, 2] = .ok x.2 j) := by unfold Hid lterm; rw [HK, ht]; simp only; rw [if_neg h200]
        rw [← hVl] at h200
        rw [HR.out]
        clear HT0 ht HK hV hVl
        generalize nb s i1 0 = y at *
        go_enter Tryz.func98, Tryz.ntmps98
        go_wp2_with fail
        refine HB.out.mono ?_
        rintro e w1 ⟨rfl, m1⟩
        have HM1 : Hid (Mv b s i1 0 a w w1) := m1
        obtain ⟨c0, c1, c2, c3, fz, ms, le⟩ := m1.pn
        clear m1
        go_wp2_with fail
        refine (HN.out _ HM1.out.pn).mono ?_
        rintro e w2 ⟨rfl, n2, rfl⟩
        go_wp2_with fail
        refine (HT.out _ (HM1.out.pn.drewN n2)).mono ?_
        rintro e w3 ⟨rfl, m3⟩
        have HM3 : Hid (Mv b s j 0 a w w3) := (HM1.out.trans (Mv.stayN HM1.out.pn n2)).trans m3
        clear m3
        go_wp2_with fail
        go_ret
        exact ⟨by rw [HV.out]; rfl, HM3.out⟩

set_option maxHeartbeats 1000000 in
set_option maxRecDepth 20000 in
theorem place1_live (w : World) (b i : Nat) (s : ByteArray) (a : Int) (h : Pn w b s i 0 a) (hi : i ≤ s.size) :
    Calls Tryz.prog 98 #[.pointer (some ⟨b, 0, none⟩), .int .i64 1] w (PL b s a w (lterm s (skipB s i) (ksOf 1))) := by
  obtain ⟨i1, hi1⟩ : ∃ i1, i1 = skipB s i := ⟨_, rfl⟩
  have his : i1 ≤ s.size := by rw [hi1]; exact skipB_sz hi
  have HB : Hid (Calls Tryz.prog 97 #[.pointer (some ⟨b, 0, none⟩)] w fun e w' => e = .returned (.tuple #[]) ∧ Mv b s i1 0 a w w') := by unfold Hid; rw [hi1]; exact blanks_live w b i s a h hi
  rw [← hi1]
  clear h hi hi1
  have HN : Hid (∀ w1, Pn w1 b s i1 0 a → Calls Tryz.prog 71 #[.pointer (some ⟨b, 0, none⟩)] w1 fun e w' => e = .returned (.int .i64 (nb s i1 0)) ∧ ∃ n, w' = w1.drewN n) := fun w1 h => next_any w1 b i1 s 0 a h
  have HT0 : ∀ w1, Pn w1 b s i1 0 a → Calls Tryz.prog 38 #[.pointer (some ⟨b, 0, none⟩)] w1 (Pout3 b s a w1 (lessK (term s i1))) := fun w1 h => term_any w1 b i1 s a h
  show Calls _ _ _ _ (PL b s a w (lterm s i1 [1]))
  have nl := nb_live s i1 60 (by omega) (by omega)
  by_cases hq : bt s i1 ≠ 60
  · have HR : Hid (lterm s i1 [1] = .bad 2 i1) := by unfold Hid lterm; rw [of1b hq]
    have hy : (nb s i1 0 != 60) = true := by simpa using fun e => hq (nl.1 e)
    rw [HR.out]
    clear HT0 nl hq
    generalize nb s i1 0 = y at *
    go_enter Tryz.func98, Tryz.ntmps98
    go_wp2_with fail
    refine HB.out.mono ?_
    rintro e w1 ⟨rfl, m1⟩
    have HM1 : Hid (Mv b s i1 0 a w w1) := m1
    obtain ⟨c0, c1, c2, c3, fz, ms, le⟩ := m1.pn
    clear m1
    go_wp2_with fail
    refine (HN.out _ HM1.out.pn).mono ?_
    rintro e w2 ⟨rfl, n2, rfl⟩
    go_wp2_with fail
    refine (fail_live _ _ _ _ _ _ _ (HM1.out.pn.drewN n2)).mono ?_
    rintro e w3 ⟨rfl, m3⟩
    have HM3 : Hid (Mv b s i1 2 i1 w w3) := (HM1.out.trans (Mv.stayN HM1.out.pn n2)).trans m3
    clear m3
    go_wp2_with fail
    go_ret
    exact pl_bad (by omega) ⟨#[]⟩ i1 rfl HM3.out
  · have HK : termOf s i1 [1] = term s i1 := of1 (by simpa using hq)
    have hy : (nb s i1 0 != 60) = false := by simpa using nl.2 (by simpa using hq)
    clear nl hq
    cases ht : term s i1 with
    | bad j =>
      have HR : Hid (lterm s i1 [1] = .bad 2 j) := by unfold Hid lterm; rw [HK, ht]
      rw [ht] at HT0
      have HT : Hid (∀ w1, Pn w1 b s i1 0 a → Calls Tryz.prog 38 #[.pointer (some ⟨b, 0, none⟩)] w1 fun e w' => ∃ (v : ByteArray) (k : Nat), e = .returned (.string v) ∧ Mv b s k 2 j w1 w') := HT0
      rw [HR.out]
      clear HT0 ht HK
      generalize nb s i1 0 = y at *
      go_enter Tryz.func98, Tryz.ntmps98
      go_wp2_with fail
      refine HB.out.mono ?_
      rintro e w1 ⟨rfl, m1⟩
      have HM1 : Hid (Mv b s i1 0 a w w1) := m1
      obtain ⟨c0, c1, c2, c3, fz, ms, le⟩ := m1.pn
      clear m1
      go_wp2_with fail
      refine (HN.out _ HM1.out.pn).mono ?_
      rintro e w2 ⟨rfl, n2, rfl⟩
      go_wp2_with fail
      refine (HT.out _ (HM1.out.pn.drewN n2)).mono ?_
      rintro e w3 ⟨v, k, rfl, m3⟩
      have HM3 : Hid (Mv b s k 2 j w w3) := (HM1.out.trans (Mv.stayN HM1.out.pn n2)).trans m3
      clear m3
      by_cases h200 : 200 < v.size
      · go_wp2_with fail
        refine (fail_dead _ _ _ _ _ _ _ _ HM3.out.pn (by omega)).mono ?_
        rintro e w4 ⟨rfl, rfl⟩
        go_wp2_with fail
        go_ret
        exact pl_bad (by omega) v k rfl HM3.out
      · go_wp2_with fail
        go_ret
        exact pl_bad (by omega) v k rfl HM3.out
    | ok x j =>
      rw [ht] at HT0
      obtain ⟨V, hV⟩ : ∃ V : ByteArray, V = ⟨x.2.toArray⟩ := ⟨_, rfl⟩
      have hVl : V.size = x.2.length := by rw [hV, arr_size]
      have HT : Hid (∀ w1, Pn w1 b s i1 0 a → Calls Tryz.prog 38 #[.pointer (some ⟨b, 0, none⟩)] w1 fun e w' => e = .returned (.string V) ∧ Mv b s j 0 a w1 w') := by unfold Hid; rw [hV]; exact HT0
      have HV : Hid (V = ⟨x.2.toArray⟩) := hV
      by_cases h200 : 200 < x.2.length
      · have HR : Hid (lterm s i1 [1] = .bad 4 i1) := by unfold Hid lterm; rw [HK, ht]; simp only; rw [if_pos h200]
        rw [← hVl] at h200
        rw [HR.out]
        clear HT0 ht HK hV hVl
        generalize nb s i1 0 = y at *
        go_enter Tryz.func98, Tryz.ntmps98
        go_wp2_with fail
        refine HB.out.mono ?_
        rintro e w1 ⟨rfl, m1⟩
        have HM1 : Hid (Mv b s i1 0 a w w1) := m1
        obtain ⟨c0, c1, c2, c3, fz, ms, le⟩ := m1.pn
        clear m1
        go_wp2_with fail
        refine (HN.out _ HM1.out.pn).mono ?_
        rintro e w2 ⟨rfl, n2, rfl⟩
        go_wp2_with fail
        refine (HT.out _ (HM1.out.pn.drewN n2)).mono ?_
        rintro e w3 ⟨rfl, m3⟩
        have HM3 : Hid (Mv b s j 0 a w w3) := (HM1.out.trans (Mv.stayN HM1.out.pn n2)).trans m3
        clear m3
        go_wp2_with fail
        refine (fail_live _ _ _ _ _ _ _ HM3.out.pn).mono ?_
        rintro e w4 ⟨rfl, m4⟩
        have HM4 : Hid (Mv b s j 4 i1 w w4) := HM3.out.trans m4
        clear m4
        go_wp2_with fail
        go_ret
        exact pl_bad (by omega) V j rfl HM4.out
      · have HR : Hid (lterm s i1 [1] = .ok x.2 j) := by unfold Hid lterm; rw [HK, ht]; simp only; rw [if_neg h200]
        rw [← hVl] at h200
        rw [HR.out]
        clear HT0 ht HK hV hVl
        generalize nb s i1 0 = y at *
        go_enter Tryz.func98, Tryz.ntmps98
        go_wp2_with fail
        refine HB.out.mono ?_
        rintro e w1 ⟨rfl, m1⟩
        have HM1 : Hid (Mv b s i1 0 a w w1) := m1
        obtain ⟨c0, c1, c2, c3, fz, ms, le⟩ := m1.pn
        clear m1
        go_wp2_with fail
        refine (HN.out _ HM1.out.pn).mono ?_
        rintro e w2 ⟨rfl, n2, rfl⟩
        go_wp2_with fail
        refine (HT.out _ (HM1.out.pn.drewN n2)).mono ?_
        rintro e w3 ⟨rfl, m3⟩
        have HM3 : Hid (Mv b s j 0 a w w3) := (HM1.out.trans (Mv.stayN HM1.out.pn n2)).trans m3
        clear m3
        go_wp2_with fail
        go_ret
        exact ⟨by rw [HV.out]; rfl, HM3.out⟩

set_option maxHeartbeats 1000000 in
set_option maxRecDepth 20000 in
theorem place2_live (w : World) (b i : Nat) (s : ByteArray) (a : Int) (h : Pn w b s i 0 a) (hi : i ≤ s.size) :
    Calls Tryz.prog 98 #[.pointer (some ⟨b, 0, none⟩), .int .i64 2] w (PL b s a w (lterm s (skipB s i) (ksOf 2))) := by
  obtain ⟨i1, hi1⟩ : ∃ i1, i1 = skipB s i := ⟨_, rfl⟩
  have his : i1 ≤ s.size := by rw [hi1]; exact skipB_sz hi
  have HB : Hid (Calls Tryz.prog 97 #[.pointer (some ⟨b, 0, none⟩)] w fun e w' => e = .returned (.tuple #[]) ∧ Mv b s i1 0 a w w') := by unfold Hid; rw [hi1]; exact blanks_live w b i s a h hi
  rw [← hi1]
  clear h hi hi1
  have HN : Hid (∀ w1, Pn w1 b s i1 0 a → Calls Tryz.prog 71 #[.pointer (some ⟨b, 0, none⟩)] w1 fun e w' => e = .returned (.int .i64 (nb s i1 0)) ∧ ∃ n, w' = w1.drewN n) := fun w1 h => next_any w1 b i1 s 0 a h
  have HT0 : ∀ w1, Pn w1 b s i1 0 a → Calls Tryz.prog 38 #[.pointer (some ⟨b, 0, none⟩)] w1 (Pout3 b s a w1 (lessK (term s i1))) := fun w1 h => term_any w1 b i1 s a h
  show Calls _ _ _ _ (PL b s a w (lterm s i1 [1, 2, 3]))
  have HK : termOf s i1 [1, 2, 3] = term s i1 := termOf_all s i1
  cases ht : term s i1 with
  | bad j =>
    have HR : Hid (lterm s i1 [1, 2, 3] = .bad 2 j) := by unfold Hid lterm; rw [HK, ht]
    rw [ht] at HT0
    have HT : Hid (∀ w1, Pn w1 b s i1 0 a → Calls Tryz.prog 38 #[.pointer (some ⟨b, 0, none⟩)] w1 fun e w' => ∃ (v : ByteArray) (k : Nat), e = .returned (.string v) ∧ Mv b s k 2 j w1 w') := HT0
    rw [HR.out]
    clear HT0 ht HK
    generalize nb s i1 0 = y at *
    go_enter Tryz.func98, Tryz.ntmps98
    go_wp2_with fail
    refine HB.out.mono ?_
    rintro e w1 ⟨rfl, m1⟩
    have HM1 : Hid (Mv b s i1 0 a w w1) := m1
    obtain ⟨c0, c1, c2, c3, fz, ms, le⟩ := m1.pn
    clear m1
    go_wp2_with fail
    refine (HN.out _ HM1.out.pn).mono ?_
    rintro e w2 ⟨rfl, n2, rfl⟩
    go_wp2_with fail
    refine (HT.out _ (HM1.out.pn.drewN n2)).mono ?_
    rintro e w3 ⟨v, k, rfl, m3⟩
    have HM3 : Hid (Mv b s k 2 j w w3) := (HM1.out.trans (Mv.stayN HM1.out.pn n2)).trans m3
    clear m3
    by_cases h200 : 200 < v.size
    · go_wp2_with fail
      refine (fail_dead _ _ _ _ _ _ _ _ HM3.out.pn (by omega)).mono ?_
      rintro e w4 ⟨rfl, rfl⟩
      go_wp2_with fail
      go_ret
      exact pl_bad (by omega) v k rfl HM3.out
    · go_wp2_with fail
      go_ret
      exact pl_bad (by omega) v k rfl HM3.out
  | ok x j =>
    rw [ht] at HT0
    obtain ⟨V, hV⟩ : ∃ V : ByteArray, V = ⟨x.2.toArray⟩ := ⟨_, rfl⟩
    have hVl : V.size = x.2.length := by rw [hV, arr_size]
    have HT : Hid (∀ w1, Pn w1 b s i1 0 a → Calls Tryz.prog 38 #[.pointer (some ⟨b, 0, none⟩)] w1 fun e w' => e = .returned (.string V) ∧ Mv b s j 0 a w1 w') := by unfold Hid; rw [hV]; exact HT0
    have HV : Hid (V = ⟨x.2.toArray⟩) := hV
    by_cases h200 : 200 < x.2.length
    · have HR : Hid (lterm s i1 [1, 2, 3] = .bad 4 i1) := by unfold Hid lterm; rw [HK, ht]; simp only; rw [if_pos h200]
      rw [← hVl] at h200
      rw [HR.out]
      clear HT0 ht HK hV hVl
      generalize nb s i1 0 = y at *
      go_enter Tryz.func98, Tryz.ntmps98
      go_wp2_with fail
      refine HB.out.mono ?_
      rintro e w1 ⟨rfl, m1⟩
      have HM1 : Hid (Mv b s i1 0 a w w1) := m1
      obtain ⟨c0, c1, c2, c3, fz, ms, le⟩ := m1.pn
      clear m1
      go_wp2_with fail
      refine (HN.out _ HM1.out.pn).mono ?_
      rintro e w2 ⟨rfl, n2, rfl⟩
      go_wp2_with fail
      refine (HT.out _ (HM1.out.pn.drewN n2)).mono ?_
      rintro e w3 ⟨rfl, m3⟩
      have HM3 : Hid (Mv b s j 0 a w w3) := (HM1.out.trans (Mv.stayN HM1.out.pn n2)).trans m3
      clear m3
      go_wp2_with fail
      refine (fail_live _ _ _ _ _ _ _ HM3.out.pn).mono ?_
      rintro e w4 ⟨rfl, m4⟩
      have HM4 : Hid (Mv b s j 4 i1 w w4) := HM3.out.trans m4
      clear m4
      go_wp2_with fail
      go_ret
      exact pl_bad (by omega) V j rfl HM4.out
    · have HR : Hid (lterm s i1 [1, 2, 3] = .ok x.2 j) := by unfold Hid lterm; rw [HK, ht]; simp only; rw [if_neg h200]
      rw [← hVl] at h200
      rw [HR.out]
      clear HT0 ht HK hV hVl
      generalize nb s i1 0 = y at *
      go_enter Tryz.func98, Tryz.ntmps98
      go_wp2_with fail
      refine HB.out.mono ?_
      rintro e w1 ⟨rfl, m1⟩
      have HM1 : Hid (Mv b s i1 0 a w w1) := m1
      obtain ⟨c0, c1, c2, c3, fz, ms, le⟩ := m1.pn
      clear m1
      go_wp2_with fail
      refine (HN.out _ HM1.out.pn).mono ?_
      rintro e w2 ⟨rfl, n2, rfl⟩
      go_wp2_with fail
      refine (HT.out _ (HM1.out.pn.drewN n2)).mono ?_
      rintro e w3 ⟨rfl, m3⟩
      have HM3 : Hid (Mv b s j 0 a w w3) := (HM1.out.trans (Mv.stayN HM1.out.pn n2)).trans m3
      clear m3
      go_wp2_with fail
      go_ret
      exact ⟨by rw [HV.out]; rfl, HM3.out⟩

theorem term_dead (w : World) (b i : Nat) (s : ByteArray) (x a : Int) (h : Pn w b s i x a) (hx : x ≠ 0) :
    Calls Tryz.prog 38 #[.pointer (some ⟨b, 0, none⟩)] w fun e w' => e = .returned (.string ⟨#[]⟩) ∧ Mv b s i x a w w' := by
  have H : Hid (Pn w b s i x a) := h
  have hN := next_any w b i s x a h
  rw [nb_dead s i hx] at hN
  have HN : Hid (Calls Tryz.prog 71 #[.pointer (some ⟨b, 0, none⟩)] w fun e w' => e = .returned (.int .i64 (-1)) ∧ ∃ n, w' = w.drewN n) := hN
  obtain ⟨c0, c1, c2, c3, fz, ms, le⟩ := h
  clear hN
  go_enter Tryz.func38, Tryz.ntmps38
  go_wp2_with fail
  refine HN.out.mono ?_
  rintro e w2 ⟨rfl, n, rfl⟩
  go_wp2_with fail
  refine (fail_dead _ _ _ _ _ _ _ _ (H.out.drewN n) hx).mono ?_
  rintro e w3 ⟨rfl, rfl⟩
  go_wp2_with fail
  go_ret
  exact ⟨rfl, Mv.stayN H.out n⟩

set_option maxHeartbeats 1000000 in
theorem place0_dead (w : World) (b i : Nat) (s : ByteArray) (x a : Int) (h : Pn w b s i x a) (hx : x ≠ 0) :
    Calls Tryz.prog 98 #[.pointer (some ⟨b, 0, none⟩), .int .i64 0] w fun e w' => e = .returned (.string ⟨#[]⟩) ∧ Mv b s i x a w w' := by
  have HB : Hid (Calls Tryz.prog 97 #[.pointer (some ⟨b, 0, none⟩)] w fun e w' => e = .returned (.tuple #[]) ∧ Mv b s i x a w w') := blanks_dead w b i s x a h hx
  have HN : Hid (∀ w1, Pn w1 b s i x a → Calls Tryz.prog 71 #[.pointer (some ⟨b, 0, none⟩)] w1 fun e w' => e = .returned (.int .i64 (-1)) ∧ ∃ n, w' = w1.drewN n) := by
    intro w1 h1
    have := next_any w1 b i s x a h1
    rw [nb_dead s i hx] at this
    exact this
  clear h
  go_enter Tryz.func98, Tryz.ntmps98
  go_wp2_with fail
  refine HB.out.mono ?_
  rintro e w1 ⟨rfl, m1⟩
  have HM1 : Hid (Mv b s i x a w w1) := m1
  obtain ⟨c0, c1, c2, c3, fz, ms, le⟩ := m1.pn
  clear m1
  go_wp2_with fail
  refine (HN.out _ HM1.out.pn).mono ?_
  rintro e w2 ⟨rfl, n2, rfl⟩
  go_wp2_with fail
  refine (term_dead _ _ _ _ _ _ (HM1.out.pn.drewN n2) hx).mono ?_
  rintro e w3 ⟨rfl, m3⟩
  have HM3 : Hid (Mv b s i x a w w3) := (HM1.out.trans (Mv.stayN HM1.out.pn n2)).trans m3
  clear m3
  go_wp2_with fail
  go_ret
  exact ⟨rfl, HM3.out⟩

set_option maxHeartbeats 1000000 in
theorem place1_dead (w : World) (b i : Nat) (s : ByteArray) (x a : Int) (h : Pn w b s i x a) (hx : x ≠ 0) :
    Calls Tryz.prog 98 #[.pointer (some ⟨b, 0, none⟩), .int .i64 1] w fun e w' => e = .returned (.string ⟨#[]⟩) ∧ Mv b s i x a w w' := by
  have HB : Hid (Calls Tryz.prog 97 #[.pointer (some ⟨b, 0, none⟩)] w fun e w' => e = .returned (.tuple #[]) ∧ Mv b s i x a w w') := blanks_dead w b i s x a h hx
  have HN : Hid (∀ w1, Pn w1 b s i x a → Calls Tryz.prog 71 #[.pointer (some ⟨b, 0, none⟩)] w1 fun e w' => e = .returned (.int .i64 (-1)) ∧ ∃ n, w' = w1.drewN n) := by
    intro w1 h1
    have := next_any w1 b i s x a h1
    rw [nb_dead s i hx] at this
    exact this
  clear h
  go_enter Tryz.func98, Tryz.ntmps98
  go_wp2_with fail
  refine HB.out.mono ?_
  rintro e w1 ⟨rfl, m1⟩
  have HM1 : Hid (Mv b s i x a w w1) := m1
  obtain ⟨c0, c1, c2, c3, fz, ms, le⟩ := m1.pn
  clear m1
  go_wp2_with fail
  refine (HN.out _ HM1.out.pn).mono ?_
  rintro e w2 ⟨rfl, n2, rfl⟩
  go_wp2_with fail
  refine (fail_dead _ _ _ _ _ _ _ _ (HM1.out.pn.drewN n2) hx).mono ?_
  rintro e w3 ⟨rfl, rfl⟩
  go_wp2_with fail
  go_ret
  exact ⟨rfl, HM1.out.trans (Mv.stayN HM1.out.pn n2)⟩

set_option maxHeartbeats 1000000 in
theorem place2_dead (w : World) (b i : Nat) (s : ByteArray) (x a : Int) (h : Pn w b s i x a) (hx : x ≠ 0) :
    Calls Tryz.prog 98 #[.pointer (some ⟨b, 0, none⟩), .int .i64 2] w fun e w' => e = .returned (.string ⟨#[]⟩) ∧ Mv b s i x a w w' := by
  have HB : Hid (Calls Tryz.prog 97 #[.pointer (some ⟨b, 0, none⟩)] w fun e w' => e = .returned (.tuple #[]) ∧ Mv b s i x a w w') := blanks_dead w b i s x a h hx
  have HN : Hid (∀ w1, Pn w1 b s i x a → Calls Tryz.prog 71 #[.pointer (some ⟨b, 0, none⟩)] w1 fun e w' => e = .returned (.int .i64 (-1)) ∧ ∃ n, w' = w1.drewN n) := by
    intro w1 h1
    have := next_any w1 b i s x a h1
    rw [nb_dead s i hx] at this
    exact this
  clear h
  go_enter Tryz.func98, Tryz.ntmps98
  go_wp2_with fail
  refine HB.out.mono ?_
  rintro e w1 ⟨rfl, m1⟩
  have HM1 : Hid (Mv b s i x a w w1) := m1
  obtain ⟨c0, c1, c2, c3, fz, ms, le⟩ := m1.pn
  clear m1
  go_wp2_with fail
  refine (HN.out _ HM1.out.pn).mono ?_
  rintro e w2 ⟨rfl, n2, rfl⟩
  go_wp2_with fail
  refine (term_dead _ _ _ _ _ _ (HM1.out.pn.drewN n2) hx).mono ?_
  rintro e w3 ⟨rfl, m3⟩
  have HM3 : Hid (Mv b s i x a w w3) := (HM1.out.trans (Mv.stayN HM1.out.pn n2)).trans m3
  clear m3
  go_wp2_with fail
  go_ret
  exact ⟨rfl, HM3.out⟩

end Ref
end Go.Proofs.YtnffjoipinhojaaGreatDoor

namespace Go.Proofs.YtnffjoipinhojaaGreatDoor
open Go.RowKit
namespace Ref

theorem infoTri : (Tryz.prog.info? 30).map (fun i => (i.zero, i.size, i.bytes)) = some (some (.agg #[.string ⟨#[]⟩, .string ⟨#[]⟩, .string ⟨#[]⟩]), 3, 48) := by kernel_rfl

/-- a list of sentences, v, that was made behind w0; nothing else of w0 turned but for block b -/
structure Pt (w0 : World) (b : Nat) (v : Value) (ts : List Tri) (w : World) : Prop where
  own : w.ownsRow w0.heap.size 30 3 v ts.length (cellsOf ts)
  fb : Fb w0 b w
  lt : b < w0.heap.size

theorem Pt.mv {w0 w w' : World} {b : Nat} {v : Value} {ts : List Tri} {s : ByteArray} {j : Nat} {e a : Int} (h : Pt w0 b v ts w) (m : Mv b s j e a w w') : Pt w0 b v ts w' :=
  ⟨own_same h.own fun g hg hlt => m.but g hlt (by have := h.lt; omega), ⟨Nat.le_trans h.fb.size m.size, ⟨m.os.1.trans h.fb.os.1, m.os.2.1.trans h.fb.os.2.1, m.os.2.2.trans h.fb.os.2.2⟩, fun k hk hb => (m.but k (Nat.lt_of_lt_of_le hk h.fb.size) hb).trans (h.fb.but k hk hb)⟩, h.lt⟩

/-- a sentence more -/
theorem Pt.more {w0 w w' : World} {b g cap n j : Nat} {v : Value} {ts : List Tri} {t : Tri} {s : ByteArray} {a : Int} {T : TypeId} (h : Pt w0 b v ts w) (hp : Pn w b s j 0 a) (hn : n = (ts ++ [t]).length)
    (hown : w'.ownsRow w0.heap.size 30 3 (.slice (some ⟨g, 0, none⟩) n cap) n (cellsOf (ts ++ [t])))
    (hgr : (w.alloc (.cells #[str t.s, str t.p, str t.o] T)).grownBy w' v.ownBlock) :
    Pt w0 b (.slice (some ⟨g, 0, none⟩) n cap) (ts ++ [t]) w' ∧ Pn w' b s j 0 a := by
  have hblt := h.lt
  have hsz := h.fb.size
  have hold : ∀ k, k < w0.heap.size → w'.heap[k]? = w.heap[k]? := fun k hk => by
    rw [hgr.block k (by simp; omega) (fun e => by have := own_block h.own e.symm; omega), Below.heap_alloc _ _ _ (by omega)]
  have hb := hold b hblt
  refine ⟨⟨by rw [← hn]; exact hown, ⟨?_, ⟨hgr.os.trans h.fb.os.1, hgr.tape.trans h.fb.os.2.1, hgr.output.trans h.fb.os.2.2⟩, fun k hk hkb => (hold k hk).trans (h.fb.but k hk hkb)⟩, hblt⟩, ?_⟩
  · have := hgr.size
    simp at this
    omega
  · exact ⟨(World.cell?_of_block (a := ⟨b, 0, none⟩) hb).trans hp.c0, (World.cell?_of_block (a := ⟨b, 1, none⟩) hb).trans hp.c1, (World.cell?_of_block (a := ⟨b, 2, none⟩) hb).trans hp.c2, (World.cell?_of_block (a := ⟨b, 3, none⟩) hb).trans hp.c3, fun o => (World.frozen?_of_block (a := ⟨b, o, none⟩) hb).trans (hp.fz o), hp.ms, hp.le⟩

/-- what a line ends in -/
def PLn (w0 : World) (b : Nat) (s : ByteArray) (a : Int) (v : Value) (ts : List Tri) (r : RL (List Tri)) (e : Ending) (w' : World) : Prop := match r with
  | .ok m j => ∃ v', e = .returned v' ∧ Pt w0 b v' (ts ++ m) w' ∧ Pn w' b s j 0 a
  | .bad n j => ∃ k, e = .returned v ∧ n ≠ 0 ∧ Pt w0 b v ts w' ∧ Pn w' b s k n j

/-- a list and the Pen -/
def Ps (w0 : World) (b : Nat) (s : ByteArray) (v : Value) (ts : List Tri) (i : Nat) (e a : Int) (w : World) : Prop := Pt w0 b v ts w ∧ Pn w b s i e a

theorem Ps.mv {w0 w w' : World} {b : Nat} {s : ByteArray} {v : Value} {ts : List Tri} {i j : Nat} {e a e' a' : Int} (h : Ps w0 b s v ts i e a w) (m : Mv b s j e' a' w w') : Ps w0 b s v ts j e' a' w' := ⟨h.1.mv m, m.pn⟩

theorem skipB_idem (s : ByteArray) : ∀ n i, s.size - i < n → skipB s (skipB s i) = skipB s i := by
  intro n
  induction n with
  | zero => intro i h; omega
  | succ n ih =>
    intro i h
    by_cases hb : bt s i = 32 ∨ bt s i = 9
    · have hlt : i < s.size := by rcases hb with h | h <;> exact bt_in h (by omega)
      rw [skipB_on hb]
      exact ih (i + 1) (by omega)
    · rw [skipB_end hb, skipB_end hb]

set_option maxHeartbeats 4000000 in
set_option maxRecDepth 20000 in
theorem line_live (w0 w : World) (b i : Nat) (s : ByteArray) (a : Int) (v : Value) (ts : List Tri) (h : Ps w0 b s v ts i 0 a w) (hi : i ≤ s.size) (hc : ts.length ≤ 1099511627776) :
    Calls Tryz.prog 53 #[.pointer (some ⟨b, 0, none⟩), v] w (PLn w0 b s a v ts (lineR s i)) := by
  obtain ⟨i0, hi0, hz0, hz1, hz2⟩ := info_parts infoTri
  have HB : Hid (∀ i w, i ≤ s.size → Ps w0 b s v ts i 0 a w → Calls Tryz.prog 97 #[.pointer (some ⟨b, 0, none⟩)] w fun e w' => e = .returned (.tuple #[]) ∧ Ps w0 b s v ts (skipB s i) 0 a w') := fun i w hi h => (blanks_live w b i s a h.2 hi).mono fun e w' ho => ⟨ho.1, h.mv ho.2⟩
  have HBd : Hid (∀ k n j w, n ≠ 0 → Ps w0 b s v ts k n j w → Calls Tryz.prog 97 #[.pointer (some ⟨b, 0, none⟩)] w fun e w' => e = .returned (.tuple #[]) ∧ Ps w0 b s v ts k n j w') := fun k n j w hn h => (blanks_dead w b k s n j h.2 hn).mono fun e w' ho => ⟨ho.1, h.mv ho.2⟩
  have HD1 : Hid (∀ k n j w, n ≠ 0 → Ps w0 b s v ts k n j w → Calls Tryz.prog 98 #[.pointer (some ⟨b, 0, none⟩), .int .i64 1] w fun e w' => e = .returned (.string ⟨#[]⟩) ∧ Ps w0 b s v ts k n j w') := fun k n j w hn h => (place1_dead w b k s n j h.2 hn).mono fun e w' ho => ⟨ho.1, h.mv ho.2⟩
  have HD2 : Hid (∀ k n j w, n ≠ 0 → Ps w0 b s v ts k n j w → Calls Tryz.prog 98 #[.pointer (some ⟨b, 0, none⟩), .int .i64 2] w fun e w' => e = .returned (.string ⟨#[]⟩) ∧ Ps w0 b s v ts k n j w') := fun k n j w hn h => (place2_dead w b k s n j h.2 hn).mono fun e w' ho => ⟨ho.1, h.mv ho.2⟩
  have HND : Hid (∀ k n j w, n ≠ 0 → Ps w0 b s v ts k n j w → Calls Tryz.prog 54 #[.pointer (some ⟨b, 0, none⟩), .int .i64 46] w fun e w' => e = .returned (.tuple #[]) ∧ Ps w0 b s v ts k n j w') := fun k n j w hn h => (need_dead w b k s n j 46 h.2 hn (by omega)).mono fun e w' ⟨h1, m, h2⟩ => ⟨h1, by rw [h2]; exact h.mv (Mv.stayN h.2 m)⟩
  have HRD : Hid (∀ k n j w, n ≠ 0 → Ps w0 b s v ts k n j w → Calls Tryz.prog 99 #[.pointer (some ⟨b, 0, none⟩)] w fun e w' => e = .returned (.tuple #[]) ∧ Ps w0 b s v ts k n j w') := fun k n j w hn h => (rest_dead w b k s n j h.2 hn).mono fun e w' ho => ⟨ho.1, h.mv ho.2⟩
  have HX : Hid (∀ i w, Ps w0 b s v ts i 0 a w → Calls Tryz.prog 71 #[.pointer (some ⟨b, 0, none⟩)] w fun e w' => e = .returned (.int .i64 (nb s i 0)) ∧ Ps w0 b s v ts i 0 a w') := fun i w h => (next_any w b i s 0 a h.2).mono fun e w' ⟨h1, m, h2⟩ => ⟨h1, by rw [h2]; exact h.mv (Mv.stayN h.2 m)⟩
  have H : Hid (Ps w0 b s v ts i 0 a w) := h
  obtain ⟨i1, hi1⟩ : ∃ i1, i1 = skipB s i := ⟨_, rfl⟩
  have his : i1 ≤ s.size := by rw [hi1]; exact skipB_sz hi
  have hid : skipB s i1 = i1 := by rw [hi1]; exact skipB_idem s _ i (Nat.lt_succ_self _)
  have HB0 : Hid (Calls Tryz.prog 97 #[.pointer (some ⟨b, 0, none⟩)] w fun e w' => e = .returned (.tuple #[]) ∧ Ps w0 b s v ts i1 0 a w') := by unfold Hid; rw [hi1]; exact HB.out i w hi H.out
  have hl0 : lineR s i = if bt s i1 = 256 ∨ bt s i1 = 10 ∨ bt s i1 = 35 then .ok [] (cmt s i1) else match sentence s i1 with
      | .bad n j => .bad n j
      | .ok t j => .ok [t] (cmt s (skipB s j)) := by
    rw [hi1]
    unfold lineR
    split
    · rfl
    · cases sentence s (skipB s i) <;> rfl
  have hnb : nb s i1 0 = if bt s i1 = 256 then -1 else bt s i1 := by
    unfold nb
    rw [if_neg (by simp)]
    by_cases hlt : i1 < s.size
    · have h1 := bt_lt hlt
      have h2 := s[i1].toNat_lt
      rw [if_pos hlt, if_neg (by omega)]
    · rw [if_neg hlt, if_pos (bt_end (by omega))]
  have hbr := bt_range s i1
  clear h hi1
  by_cases c1 : bt s i1 = 256 ∨ bt s i1 = 10 ∨ bt s i1 = 35
  · have HR : Hid (lineR s i = .ok [] (cmt s i1)) := by unfold Hid; rw [hl0, if_pos c1]
    have HRl : Hid (∀ w, Ps w0 b s v ts i1 0 a w → Calls Tryz.prog 99 #[.pointer (some ⟨b, 0, none⟩)] w fun e w' => e = .returned (.tuple #[]) ∧ Ps w0 b s v ts (cmt s i1) 0 a w') := fun w h => (rest_live w b i1 s a h.2 his).mono fun e w' ho => ⟨ho.1, h.mv ho.2⟩
    have hy : nb s i1 0 = -1 ∨ nb s i1 0 = 10 ∨ nb s i1 0 = 35 := by
      rw [hnb]
      split <;> omega
    have HX1 := HX.out i1
    rw [HR.out]
    clear hl0 hnb c1 HB HBd HD1 HD2 HND HRD HX hbr
    generalize nb s i1 0 = y at *
    rcases hy with rfl | rfl | rfl
    all_goals
      have HX2 : Hid (∀ w, Ps w0 b s v ts i1 0 a w → Calls Tryz.prog 71 #[.pointer (some ⟨b, 0, none⟩)] w fun e w' => e = .returned (.int .i64 _) ∧ Ps w0 b s v ts i1 0 a w') := HX1
      clear HX1
      go_enter Tryz.func53, Tryz.ntmps53
      go_wp2_with fail
      refine HB0.out.mono ?_
      rintro e w1 ⟨rfl, h1⟩
      go_wp2_with fail
      refine (HX2.out _ h1).mono ?_
      rintro e w2 ⟨rfl, h2⟩
      go_wp2_with fail
      refine (HRl.out _ h2).mono ?_
      rintro e w3 ⟨rfl, h3⟩
      go_wp2_with fail
      go_ret
      exact ⟨v, rfl, by rw [List.append_nil]; exact h3.1, h3.2⟩
  · have hl : lineR s i = match sentence s i1 with
      | .bad n j => .bad n j
      | .ok t j => .ok [t] (cmt s (skipB s j)) := by rw [hl0, if_neg c1]
    have hy0 : 0 ≤ nb s i1 0 := by rw [hnb, if_neg (by omega)]; omega
    have hy1 : (nb s i1 0 != 10) = true := by rw [hnb, if_neg (by omega)]; simp; omega
    have hy2 : (nb s i1 0 != 35) = true := by rw [hnb, if_neg (by omega)]; simp; omega
    have HX2 : Hid (∀ w, Ps w0 b s v ts i1 0 a w → Calls Tryz.prog 71 #[.pointer (some ⟨b, 0, none⟩)] w fun e w' => e = .returned (.int .i64 (nb s i1 0)) ∧ Ps w0 b s v ts i1 0 a w') := HX.out i1
    have P0 : ∀ w, Ps w0 b s v ts i1 0 a w → Calls Tryz.prog 98 #[.pointer (some ⟨b, 0, none⟩), .int .i64 0] w (PL b s a w (lterm s i1 [1, 2])) := fun w h => by
      have := place0_live w b i1 s a h.2 his
      rw [hid] at this
      exact this
    generalize nb s i1 0 = y at *
    clear hl0 hnb c1 HX hbr
    cases h1 : lterm s i1 [1, 2] with
    | bad n j =>
      rw [h1] at P0
      have HR : Hid (lineR s i = .bad n j) := by unfold Hid; rw [hl]; unfold sentence; rw [h1]
      have HPb : Hid (∀ w, Ps w0 b s v ts i1 0 a w → Calls Tryz.prog 98 #[.pointer (some ⟨b, 0, none⟩), .int .i64 0] w fun e w' => n ≠ 0 ∧ ∃ (u : ByteArray) (q : Nat), e = .returned (.string u) ∧ Ps w0 b s v ts q n j w') := fun w h => (P0 w h).mono fun e w' ⟨hn, u, q, h1, h2⟩ => ⟨hn, u, q, h1, h.mv h2⟩
      rw [HR.out]
      clear P0 hl h1 HB
      go_enter Tryz.func53, Tryz.ntmps53
      go_wp2_with fail
      refine HB0.out.mono ?_
      rintro e w1 ⟨rfl, q1⟩
      go_wp2_with fail
      refine (HX2.out _ q1).mono ?_
      rintro e w2 ⟨rfl, q2⟩
      go_wp2_with fail
      refine (HPb.out _ q2).mono ?_
      rintro e w3 ⟨hn0, u, q, rfl, q3⟩
      go_wp2_with fail
      refine (HD1.out _ _ _ _ hn0 q3).mono ?_
      rintro e w4 ⟨rfl, q4⟩
      go_wp2_with fail
      refine (HD2.out _ _ _ _ hn0 q4).mono ?_
      rintro e w5 ⟨rfl, q5⟩
      go_wp2_with fail
      refine (HBd.out _ _ _ _ hn0 q5).mono ?_
      rintro e w6 ⟨rfl, q6⟩
      go_wp2_with fail
      refine (HND.out _ _ _ _ hn0 q6).mono ?_
      rintro e w7 ⟨rfl, q7⟩
      go_wp2_with fail
      refine (HBd.out _ _ _ _ hn0 q7).mono ?_
      rintro e w8 ⟨rfl, q8⟩
      have HQ8 : Hid (Ps w0 b s v ts q n j w8) := q8
      obtain ⟨p0, p1, p2, p3, pf, pms, ple⟩ := q8.2
      have hnb : (n == 0) = false := by simpa using hn0
      clear q1 q2 q3 q4 q5 q6 q7 q8
      go_wp2_with fail
      refine (HRD.out _ _ _ _ hn0 HQ8.out).mono ?_
      rintro e wz ⟨rfl, qz⟩
      go_wp2_with fail
      go_ret
      exact ⟨_, rfl, hn0, qz.1, qz.2⟩
    | ok t1 j1 =>
      rw [h1] at P0
      have hj1 := (lterm_le h1).2
      obtain ⟨S1, hS1⟩ : ∃ V : ByteArray, V = ⟨t1.toArray⟩ := ⟨_, rfl⟩
      have HP0 : Hid (∀ w, Ps w0 b s v ts i1 0 a w → Calls Tryz.prog 98 #[.pointer (some ⟨b, 0, none⟩), .int .i64 0] w fun e w' => e = .returned (.string S1) ∧ Ps w0 b s v ts j1 0 a w') := fun w h => (P0 w h).mono fun e w' ho => ⟨by rw [hS1]; exact ho.1, h.mv ho.2⟩
      have P1 : ∀ w, Ps w0 b s v ts j1 0 a w → Calls Tryz.prog 98 #[.pointer (some ⟨b, 0, none⟩), .int .i64 1] w (PL b s a w (lterm s (skipB s j1) [1])) := fun w h => place1_live w b j1 s a h.2 hj1
      clear P0
      cases h2 : lterm s (skipB s j1) [1] with
      | bad n j =>
        rw [h2] at P1
        have HR : Hid (lineR s i = .bad n j) := by unfold Hid; rw [hl]; unfold sentence; rw [h1]; simp only; rw [h2]
        have HPb : Hid (∀ w, Ps w0 b s v ts j1 0 a w → Calls Tryz.prog 98 #[.pointer (some ⟨b, 0, none⟩), .int .i64 1] w fun e w' => n ≠ 0 ∧ ∃ (u : ByteArray) (q : Nat), e = .returned (.string u) ∧ Ps w0 b s v ts q n j w') := fun w h => (P1 w h).mono fun e w' ⟨hn, u, q, h1, h2⟩ => ⟨hn, u, q, h1, h.mv h2⟩
        rw [HR.out]
        clear P1 hl h1 h2 hS1 HB
        go_enter Tryz.func53, Tryz.ntmps53
        go_wp2_with fail
        refine HB0.out.mono ?_
        rintro e w1 ⟨rfl, q1⟩
        go_wp2_with fail
        refine (HX2.out _ q1).mono ?_
        rintro e w2 ⟨rfl, q2⟩
        go_wp2_with fail
        refine (HP0.out _ q2).mono ?_
        rintro e w3 ⟨rfl, q3⟩
        go_wp2_with fail
        refine (HPb.out _ q3).mono ?_
        rintro e w4 ⟨hn0, u, q, rfl, q4⟩
        go_wp2_with fail
        refine (HD2.out _ _ _ _ hn0 q4).mono ?_
        rintro e w5 ⟨rfl, q5⟩
        go_wp2_with fail
        refine (HBd.out _ _ _ _ hn0 q5).mono ?_
        rintro e w6 ⟨rfl, q6⟩
        go_wp2_with fail
        refine (HND.out _ _ _ _ hn0 q6).mono ?_
        rintro e w7 ⟨rfl, q7⟩
        go_wp2_with fail
        refine (HBd.out _ _ _ _ hn0 q7).mono ?_
        rintro e w8 ⟨rfl, q8⟩
        have HQ8 : Hid (Ps w0 b s v ts q n j w8) := q8
        obtain ⟨p0, p1, p2, p3, pf, pms, ple⟩ := q8.2
        have hnb : (n == 0) = false := by simpa using hn0
        clear q1 q2 q3 q4 q5 q6 q7 q8
        go_wp2_with fail
        refine (HRD.out _ _ _ _ hn0 HQ8.out).mono ?_
        rintro e wz ⟨rfl, qz⟩
        go_wp2_with fail
        go_ret
        exact ⟨_, rfl, hn0, qz.1, qz.2⟩
      | ok t2 j2 =>
        rw [h2] at P1
        have hj2 := (lterm_le h2).2
        obtain ⟨S2, hS2⟩ : ∃ V : ByteArray, V = ⟨t2.toArray⟩ := ⟨_, rfl⟩
        have HP1 : Hid (∀ w, Ps w0 b s v ts j1 0 a w → Calls Tryz.prog 98 #[.pointer (some ⟨b, 0, none⟩), .int .i64 1] w fun e w' => e = .returned (.string S2) ∧ Ps w0 b s v ts j2 0 a w') := fun w h => (P1 w h).mono fun e w' ho => ⟨by rw [hS2]; exact ho.1, h.mv ho.2⟩
        have P2 : ∀ w, Ps w0 b s v ts j2 0 a w → Calls Tryz.prog 98 #[.pointer (some ⟨b, 0, none⟩), .int .i64 2] w (PL b s a w (lterm s (skipB s j2) [1, 2, 3])) := fun w h => place2_live w b j2 s a h.2 hj2
        clear P1
        cases h3 : lterm s (skipB s j2) [1, 2, 3] with
        | bad n j =>
          rw [h3] at P2
          have HR : Hid (lineR s i = .bad n j) := by unfold Hid; rw [hl]; unfold sentence; rw [h1]; simp only; rw [h2]; simp only; rw [h3]
          have HPb : Hid (∀ w, Ps w0 b s v ts j2 0 a w → Calls Tryz.prog 98 #[.pointer (some ⟨b, 0, none⟩), .int .i64 2] w fun e w' => n ≠ 0 ∧ ∃ (u : ByteArray) (q : Nat), e = .returned (.string u) ∧ Ps w0 b s v ts q n j w') := fun w h => (P2 w h).mono fun e w' ⟨hn, u, q, h1, h2⟩ => ⟨hn, u, q, h1, h.mv h2⟩
          rw [HR.out]
          clear P2 hl h1 h2 h3 hS1 hS2 HB
          go_enter Tryz.func53, Tryz.ntmps53
          go_wp2_with fail
          refine HB0.out.mono ?_
          rintro e w1 ⟨rfl, q1⟩
          go_wp2_with fail
          refine (HX2.out _ q1).mono ?_
          rintro e w2 ⟨rfl, q2⟩
          go_wp2_with fail
          refine (HP0.out _ q2).mono ?_
          rintro e w3 ⟨rfl, q3⟩
          go_wp2_with fail
          refine (HP1.out _ q3).mono ?_
          rintro e w4 ⟨rfl, q4⟩
          go_wp2_with fail
          refine (HPb.out _ q4).mono ?_
          rintro e w5 ⟨hn0, u, q, rfl, q5⟩
          go_wp2_with fail
          refine (HBd.out _ _ _ _ hn0 q5).mono ?_
          rintro e w6 ⟨rfl, q6⟩
          go_wp2_with fail
          refine (HND.out _ _ _ _ hn0 q6).mono ?_
          rintro e w7 ⟨rfl, q7⟩
          go_wp2_with fail
          refine (HBd.out _ _ _ _ hn0 q7).mono ?_
          rintro e w8 ⟨rfl, q8⟩
          have HQ8 : Hid (Ps w0 b s v ts q n j w8) := q8
          obtain ⟨p0, p1, p2, p3, pf, pms, ple⟩ := q8.2
          have hnb : (n == 0) = false := by simpa using hn0
          clear q1 q2 q3 q4 q5 q6 q7 q8
          go_wp2_with fail
          refine (HRD.out _ _ _ _ hn0 HQ8.out).mono ?_
          rintro e wz ⟨rfl, qz⟩
          go_wp2_with fail
          go_ret
          exact ⟨_, rfl, hn0, qz.1, qz.2⟩
        | ok t3 j3 =>
          rw [h3] at P2
          have hj3 := (lterm_le h3).2
          obtain ⟨S3, hS3⟩ : ∃ V : ByteArray, V = ⟨t3.toArray⟩ := ⟨_, rfl⟩
          have HP2 : Hid (∀ w, Ps w0 b s v ts j2 0 a w → Calls Tryz.prog 98 #[.pointer (some ⟨b, 0, none⟩), .int .i64 2] w fun e w' => e = .returned (.string S3) ∧ Ps w0 b s v ts j3 0 a w') := fun w h => (P2 w h).mono fun e w' ho => ⟨by rw [hS3]; exact ho.1, h.mv ho.2⟩
          obtain ⟨j4, hj4⟩ : ∃ j4, j4 = skipB s j3 := ⟨_, rfl⟩
          have hj4s : j4 ≤ s.size := by rw [hj4]; exact skipB_sz hj3
          have HB3 : Hid (∀ w, Ps w0 b s v ts j3 0 a w → Calls Tryz.prog 97 #[.pointer (some ⟨b, 0, none⟩)] w fun e w' => e = .returned (.tuple #[]) ∧ Ps w0 b s v ts j4 0 a w') := by unfold Hid; rw [hj4]; exact fun w h => HB.out j3 w hj3 h
          clear P2
          by_cases hd : bt s j4 = 46
          · have hlt := bt_in hd (by omega)
            have HR : Hid (lineR s i = .ok [⟨t1, t2, t3⟩] (cmt s (skipB s (j4 + 1)))) := by unfold Hid; rw [hl]; unfold sentence; rw [h1]; simp only; rw [h2]; simp only; rw [h3]; simp only; rw [← hj4, if_pos hd]
            have HNd : Hid (∀ w, Ps w0 b s v ts j4 0 a w → Calls Tryz.prog 54 #[.pointer (some ⟨b, 0, none⟩), .int .i64 46] w fun e w' => e = .returned (.tuple #[]) ∧ Ps w0 b s v ts (j4 + 1) 0 a w') := fun w h => (need_ok w b j4 s a 46 h.2 (by omega) (by omega) hd).mono fun e w' ho => ⟨ho.1, h.mv ho.2⟩
            obtain ⟨j5, hj5⟩ : ∃ j5, j5 = skipB s (j4 + 1) := ⟨_, rfl⟩
            have hj5s : j5 ≤ s.size := by rw [hj5]; exact skipB_sz (by omega)
            have HB5 : Hid (∀ w, Ps w0 b s v ts (j4 + 1) 0 a w → Calls Tryz.prog 97 #[.pointer (some ⟨b, 0, none⟩)] w fun e w' => e = .returned (.tuple #[]) ∧ Ps w0 b s v ts j5 0 a w') := by unfold Hid; rw [hj5]; exact fun w h => HB.out (j4 + 1) w (by omega) h
            have HRl : Hid (∀ v' us w, Ps w0 b s v' us j5 0 a w → Calls Tryz.prog 99 #[.pointer (some ⟨b, 0, none⟩)] w fun e w' => e = .returned (.tuple #[]) ∧ Ps w0 b s v' us (cmt s j5) 0 a w') := fun v' us w h => (rest_live w b j5 s a h.2 hj5s).mono fun e w' ho => ⟨ho.1, h.mv ho.2⟩
            have HCE : Hid (cellsOf (ts ++ [⟨t1, t2, t3⟩]) = cellsOf ts ++ [.string S1, .string S2, .string S3]) := by unfold Hid; rw [cellsOf_app, hS1, hS2, hS3]; rfl
            have HSE : Hid ((.cells #[str t1, str t2, str t3] 30 : Obj) = .cells #[.string S1, .string S2, .string S3] 30) := by unfold Hid; rw [hS1, hS2, hS3]
            have HNW : Hid (∀ (w7 : World) (j : Nat) (u : Value), [Value.string S1, .string S2, .string S3][j]? = some u → (w7.alloc (.cells #[.string S1, .string S2, .string S3] 30)).cell? ((⟨w7.heap.size, 0, none⟩ : Addr).add j) = some u) := by
              intro w7 j u hj
              have hh : (w7.alloc (.cells #[.string S1, .string S2, .string S3] 30)).heap[w7.heap.size]? = some (.cells #[.string S1, .string S2, .string S3] 30) := heap_new _ _
              rw [show (⟨w7.heap.size, 0, none⟩ : Addr).add j = ⟨w7.heap.size, 0 + j, none⟩ by unfold Addr.add; split <;> simp_all, Lib.cell_of_heap hh, Nat.zero_add]
              simpa using hj
            rw [HR.out, ← hj5]
            clear h1 h2 h3 hd hl HB HBd HD1 HD2 HND HRD hS1 hS2 hS3 hj4 hj5 hid HR
            go_enter Tryz.func53, Tryz.ntmps53
            go_wp2_with fail
            refine HB0.out.mono ?_
            rintro e w1 ⟨rfl, q1⟩
            go_wp2_with fail
            refine (HX2.out _ q1).mono ?_
            rintro e w2 ⟨rfl, q2⟩
            go_wp2_with fail
            refine (HP0.out _ q2).mono ?_
            rintro e w3 ⟨rfl, q3⟩
            go_wp2_with fail
            refine (HP1.out _ q3).mono ?_
            rintro e w4 ⟨rfl, q4⟩
            go_wp2_with fail
            refine (HP2.out _ q4).mono ?_
            rintro e w5 ⟨rfl, q5⟩
            go_wp2_with fail
            refine (HB3.out _ q5).mono ?_
            rintro e w6 ⟨rfl, q6⟩
            go_wp2_with fail
            refine (HNd.out _ q6).mono ?_
            rintro e w7 ⟨rfl, q7⟩
            go_wp2_with fail
            refine (HB5.out _ q7).mono ?_
            rintro e w8 ⟨rfl, q8⟩
            have HQ8 : Hid (Ps w0 b s v ts j5 0 a w8) := q8
            have HO8 : Hid (w8.ownsRow w0.heap.size 30 3 v ts.length (cellsOf ts)) := q8.1.own
            obtain ⟨p0, p1, p2, p3, pf, pms, ple⟩ := q8.2
            clear q1 q2 q3 q4 q5 q6 q7 q8
            have hnews := HNW.out w8
            have hownA : (w8.alloc (.cells #[.string S1, .string S2, .string S3] 30)).ownsRow w0.heap.size 30 3 v ts.length (cellsOf ts) := own_same HO8.out fun g hg hlt => Below.heap_alloc _ _ _ hlt
            have hbs : w0.heap.size ≤ (w8.alloc (.cells #[.string S1, .string S2, .string S3] 30)).heap.size := by have := HQ8.out.1.fb.size; simp; omega
            go_wp2_with (first | (at_builtin; refine wpList_append_lies _ (by rfl) _ _ _ (by rfl) w0.heap.size 30 i0 _ 3 48 Tryz.underlying50 hi0 hz0 hz1 hz2 rfl (by omega) v ts.length (cellsOf ts) (by rfl) hownA ⟨w8.heap.size, 0, none⟩ 1 1 [.string S1, .string S2, .string S3] (by rfl) (by rfl) hnews (by simp [Value.oneCell']) (by omega) (by unfold maxLen; omega) (by omega) hbs _ rfl ?_; intro g cap w9 hown9 hgr9 hat9 hlt9; have HQ9 : Hid (Ps w0 b s (.slice (some ⟨g, 0, none⟩) (ts.length + 1) cap) (ts ++ [⟨t1, t2, t3⟩]) j5 0 a w9) := (HQ8.out.1.more (t := ⟨t1, t2, t3⟩) (T := 30) HQ8.out.2 (by simp) (by rw [HCE.out]; exact hown9) (by rw [HSE.out]; exact hgr9)); clear hown9 hgr9 hat9 hownA hnews p0 p1 p2 p3 pf))
            refine (HRl.out _ _ _ HQ9.out).mono ?_
            rintro e w10 ⟨rfl, q10⟩
            go_wp2_with fail
            go_ret
            exact ⟨_, rfl, q10.1, q10.2⟩
          · have HR : Hid (lineR s i = .bad 2 j4) := by unfold Hid; rw [hl]; unfold sentence; rw [h1]; simp only; rw [h2]; simp only; rw [h3]; simp only; rw [← hj4, if_neg hd]
            have HNd : Hid (∀ w, Ps w0 b s v ts j4 0 a w → Calls Tryz.prog 54 #[.pointer (some ⟨b, 0, none⟩), .int .i64 46] w fun e w' => e = .returned (.tuple #[]) ∧ Ps w0 b s v ts j4 2 j4 w') := fun w h => (need_bad w b j4 s a 46 h.2 (by omega) (by omega) hd).mono fun e w' ho => ⟨ho.1, h.mv ho.2⟩
            rw [HR.out]
            clear h1 h2 h3 hd hl HB HD1 HD2 HND hS1 hS2 hS3 hj4 hid
            go_enter Tryz.func53, Tryz.ntmps53
            go_wp2_with fail
            refine HB0.out.mono ?_
            rintro e w1 ⟨rfl, q1⟩
            go_wp2_with fail
            refine (HX2.out _ q1).mono ?_
            rintro e w2 ⟨rfl, q2⟩
            go_wp2_with fail
            refine (HP0.out _ q2).mono ?_
            rintro e w3 ⟨rfl, q3⟩
            go_wp2_with fail
            refine (HP1.out _ q3).mono ?_
            rintro e w4 ⟨rfl, q4⟩
            go_wp2_with fail
            refine (HP2.out _ q4).mono ?_
            rintro e w5 ⟨rfl, q5⟩
            go_wp2_with fail
            refine (HB3.out _ q5).mono ?_
            rintro e w6 ⟨rfl, q6⟩
            go_wp2_with fail
            refine (HNd.out _ q6).mono ?_
            rintro e w7 ⟨rfl, q7⟩
            go_wp2_with fail
            refine (HBd.out _ _ _ _ (by omega) q7).mono ?_
            rintro e w8 ⟨rfl, q8⟩
            have HQ8 : Hid (Ps w0 b s v ts j4 2 j4 w8) := q8
            obtain ⟨p0, p1, p2, p3, pf, pms, ple⟩ := q8.2
            clear q1 q2 q3 q4 q5 q6 q7 q8
            go_wp2_with fail
            refine (HRD.out _ _ _ _ (by omega) HQ8.out).mono ?_
            rintro e w9 ⟨rfl, q9⟩
            go_wp2_with fail
            go_ret
            exact ⟨_, rfl, by omega, q9.1, q9.2⟩

end Ref
end Go.Proofs.YtnffjoipinhojaaGreatDoor

namespace Go.Proofs.YtnffjoipinhojaaGreatDoor
open Go.RowKit

theorem cells_at {l : List Tri} {k : Nat} {x : Tri} (h : l[k]? = some x) : (cellsOf l)[k * 3]? = some (str x.s) ∧ (cellsOf l)[k * 3 + 1]? = some (str x.p) ∧ (cellsOf l)[k * 3 + 2]? = some (str x.o) := by
  induction l generalizing k with
  | nil => cases h
  | cons y l ih =>
    have e : cellsOf (y :: l) = str y.s :: str y.p :: str y.o :: cellsOf l := rfl
    cases k with
    | zero =>
      simp at h
      subst h
      exact ⟨rfl, rfl, rfl⟩
    | succ k =>
      have := ih (k := k) (by simpa using h)
      rw [e]
      have e0 : (k + 1) * 3 = k * 3 + 1 + 1 + 1 := by omega
      rw [e0]
      exact this

theorem own_lies {w : World} {base g cap : Nat} {T : TypeId} {l : List Tri} (h : w.ownsRow base T 3 (.slice (some ⟨g, 0, none⟩) l.length cap) l.length (cellsOf l)) : Lies w g l := by
  intro k x hk
  have hl := (List.getElem?_eq_some_iff.1 hk).1
  obtain ⟨h1, h2, h3⟩ := cells_at hk
  exact ⟨(h.cellAt _ (by omega)).trans h1, (h.cellAt _ (by omega)).trans h2, (h.cellAt _ (by omega)).trans h3⟩

theorem cells_take (l : List Tri) (k : Nat) : cellsOf (l.take k) = (cellsOf l).take (k * 3) := by
  induction l generalizing k with
  | nil => simp [cellsOf]
  | cons y l ih =>
    have e : cellsOf (y :: l) = str y.s :: str y.p :: str y.o :: cellsOf l := rfl
    cases k with
    | zero => simp [cellsOf]
    | succ k =>
      rw [List.take_succ_cons, e, show (k + 1) * 3 = k * 3 + 1 + 1 + 1 by omega, List.take_succ_cons, List.take_succ_cons, List.take_succ_cons, ← ih k]
      rfl
theorem cells_drop (l : List Tri) (k : Nat) : cellsOf (l.drop k) = (cellsOf l).drop (k * 3) := by
  induction l generalizing k with
  | nil => simp [cellsOf]
  | cons y l ih =>
    have e : cellsOf (y :: l) = str y.s :: str y.p :: str y.o :: cellsOf l := rfl
    cases k with
    | zero => simp
    | succ k =>
      rw [List.drop_succ_cons, e, show (k + 1) * 3 = k * 3 + 1 + 1 + 1 by omega, List.drop_succ_cons, List.drop_succ_cons, List.drop_succ_cons, ← ih k]

theorem cells_one (l : List Tri) : ∀ u ∈ cellsOf l, u.oneCell' = true := by
  intro u hu
  unfold cellsOf at hu
  rw [List.mem_flatMap] at hu
  obtain ⟨t, _, ht⟩ := hu
  simp at ht
  rcases ht with rfl | rfl | rfl <;> rfl

theorem guardR : Tryz.prog.eqGuardType Tryz.prog.depth 30 = false := by kernel_rfl
theorem heldR : Tryz.prog.stoodInHeld 30 = false := by kernel_rfl
theorem fieldsR : (Tryz.prog.fieldsOf 30).toList.map (fun f => (f.name, f.type, f.offset)) = [("S", 9, 0), ("P", 9, 1), ("O", 9, 2)] := by kernel_rfl
theorem structR : Tryz.prog.underlying 30 = some (.struct (Tryz.prog.fieldsOf 30)) := by kernel_rfl
theorem eq_tri (a b c d e f : ByteArray) (w : World) : (binOp .eql 30 (.agg #[.string a, .string b, .string c]) (.agg #[.string d, .string e, .string f])).run Tryz.prog w = .ok (.bool ((a.toList == d.toList) && ((b.toList == e.toList) && (c.toList == f.toList)))) w := by
  rw [run_eql_struct, run_equalIn_agg w 9999 _ _ _ structR heldR]
  have hf := fieldsR
  match hl : (Tryz.prog.fieldsOf 30).toList with
  | [] => rw [hl] at hf; simp at hf
  | [_] => rw [hl] at hf; simp at hf
  | [_, _] => rw [hl] at hf; simp at hf
  | [f0, f1, f2] =>
    rw [hl] at hf
    simp at hf
    obtain ⟨⟨n0, t0, o0⟩, ⟨n1, t1, o1⟩, n2, t2, o2⟩ := hf
    have u9 := Tryz.underlying9
    simp only [Op.eqFields, n0, n1, n2, t0, t1, t2, o0, o1, o2]
    cases h1 : (a.toList == d.toList) <;> cases h2 : (b.toList == e.toList) <;> cases h3 : (c.toList == f.toList) <;> simp [go_sem, part, u9, h1, h2, h3]
  | _ :: _ :: _ :: _ :: _ => rw [hl] at hf; simp at hf

theorem own_mono {w : World} {base base' : Nat} {e : TypeId} {size : Nat} {v : Value} {n : Nat} {xs : List Value} (h : w.ownsRow base e size v n xs) (hb : base' ≤ base) : w.ownsRow base' e size v n xs :=
  ⟨h.1, h.2.elim Or.inl fun ⟨g, cap, cur, hv, hg, r⟩ => Or.inr ⟨g, cap, cur, hv, Nat.le_trans hb hg, r⟩⟩

theorem own_cap {w : World} {base : Nat} {e : TypeId} {size g n cap : Nat} {xs : List Value} (h : w.ownsRow base e size (.slice (some ⟨g, 0, none⟩) n cap) n xs) : n ≤ cap := by
  rcases h.2 with ⟨hv, _⟩ | ⟨g', cap', cur, hv, _, _, hle, _⟩
  · cases hv
  · cases hv
    exact hle

theorem own_nil (w : World) (base : Nat) (e : TypeId) : w.ownsRow base e 3 (.slice none 0 0) 0 [] := ⟨rfl, Or.inl ⟨rfl, rfl⟩⟩

theorem add_addr (g o j : Nat) : (⟨g, o, none⟩ : Addr).add j = ⟨g, o + j, none⟩ := by unfold Addr.add; split <;> simp_all

theorem news_take {w : World} {base g cap a : Nat} {T : TypeId} {l : List Tri} (h : w.ownsRow base T 3 (.slice (some ⟨g, 0, none⟩) l.length cap) l.length (cellsOf l)) (ha : a ≤ l.length) : ∀ j u, (cellsOf (l.take a))[j]? = some u → w.cell? ((⟨g, 0, none⟩ : Addr).add j) = some u := by
  intro j u hj
  have hl := (List.getElem?_eq_some_iff.1 hj).1
  rw [cellsOf_len, List.length_take] at hl
  rw [add_addr, Nat.zero_add, h.cellAt j (by omega)]
  rw [cells_take, List.getElem?_take] at hj
  split at hj
  · exact hj
  · cases hj
theorem news_drop {w : World} {base g cap a : Nat} {T : TypeId} {l : List Tri} (h : w.ownsRow base T 3 (.slice (some ⟨g, 0, none⟩) l.length cap) l.length (cellsOf l)) (ha : a ≤ l.length) : ∀ j u, (cellsOf (l.drop a))[j]? = some u → w.cell? ((⟨g, a * 3, none⟩ : Addr).add j) = some u := by
  intro j u hj
  have hl := (List.getElem?_eq_some_iff.1 hj).1
  rw [cellsOf_len, List.length_drop] at hl
  rw [add_addr, h.cellAt _ (by omega)]
  rw [cells_drop, List.getElem?_drop] at hj
  exact hj
theorem news_new (w : World) (a b c : ByteArray) (T : TypeId) : ∀ (j : Nat) (u : Value), [Value.string a, .string b, .string c][j]? = some u → (w.alloc (.cells #[.string a, .string b, .string c] T)).cell? ((⟨w.heap.size, 0, none⟩ : Addr).add j) = some u := by
  intro j u hj
  have hh : (w.alloc (.cells #[.string a, .string b, .string c] T)).heap[w.heap.size]? = some (.cells #[.string a, .string b, .string c] T) := heap_new _ _
  rw [add_addr, Lib.cell_of_heap hh, Nat.zero_add]
  simpa using hj

/-- a set with a sentence more -/
def addL (l : List Tri) (t : Tri) : List Tri := if thereB l t = true then l else ins l t

set_option maxHeartbeats 4000000 in
set_option maxRecDepth 20000 in
theorem Ref.add_any (w : World) (B g cap : Nat) (l : List Tri) (t : Tri) (hr : Rising l) (ho : w.ownsRow B 30 3 (.slice (some ⟨g, 0, none⟩) l.length cap) l.length (cellsOf l)) (hB : B ≤ w.heap.size) (hg : g < w.heap.size) (hn : l.length ≤ 1000) :
    Calls Tryz.prog 57 #[.slice (some ⟨g, 0, none⟩) l.length cap, triV t] w fun e w' =>
      ∃ v', e = .returned v' ∧ w'.ownsRow B 30 3 v' (addL l t).length (cellsOf (addL l t)) ∧ Below w.heap.size w w' := by
  obtain ⟨i0, hi0, hz0, hz1, hz2⟩ := info_parts Ref.infoTri
  obtain ⟨Y1, k1⟩ : ∃ V : ByteArray, V = ⟨t.s.toArray⟩ := ⟨_, rfl⟩
  obtain ⟨Y2, k2⟩ : ∃ V : ByteArray, V = ⟨t.p.toArray⟩ := ⟨_, rfl⟩
  obtain ⟨Y3, k3⟩ : ∃ V : ByteArray, V = ⟨t.o.toArray⟩ := ⟨_, rfl⟩
  have HVy : (triV t) = .agg #[.string Y1, .string Y2, .string Y3] := by rw [k1, k2, k3]
  have HCy : Hid (cellsOf [t] = [.string Y1, .string Y2, .string Y3]) := by unfold Hid; rw [k1, k2, k3]; rfl
  have HCm : Hid (∀ (x : Tri) (h : Nat) (w1 : World), ES w g h x Y1 Y2 Y3 w1 → Calls Tryz.prog 101 #[.agg #[str x.s, str x.p, str x.o], .agg #[.string Y1, .string Y2, .string Y3]] w1 fun e w' => e = .returned (.bool (decide (triCmp x t < 0))) ∧ ES w g h x Y1 Y2 Y3 w') := by
    intro x h w1 he
    have := Ref.before_any w1 x t
    rw [HVy] at this
    refine this.mono ?_
    rintro e w2 ⟨rfl, hb2⟩
    exact ⟨rfl, he.on hb2⟩
  have HL : Hid (Lies w g l) := own_lies ho
  have hcap := own_cap ho
  have HO : Hid (w.ownsRow B 30 3 (.slice (some ⟨g, 0, none⟩) l.length cap) l.length (cellsOf l)) := ho
  have HP : Hid (∀ q, q ≤ l.length → (∀ k x, l[k]? = some x → k < q → triCmp x t < 0) → (∀ k x, l[k]? = some x → q ≤ k → 0 ≤ triCmp x t) → q = posT l t) := fun q h0 h1 h2 => posT_eq hr h0 h1 fun k x hk hq => Int.not_lt.2 (h2 k x hk hq)
  have HR : Hid (Rising l) := hr
  have HM : Hid (KS w w.heap.size Y1 Y2 Y3 (w.alloc (.cells #[.string Y1, .string Y2, .string Y3] 30))) := KS.mk w Y1 Y2 Y3 _
  rw [HVy]
  clear hr ho k1 k2 k3 HVy
  go_enter Tryz.func57, Tryz.ntmps57
  go_wp2_with fail
  go_loopw [5, 6] (fun t5 t6 wr => ∃ a e : Nat, a ≤ e ∧ e ≤ l.length ∧ t5 = .int .i64 a ∧ t6 = .int .i64 e ∧ KS w w.heap.size Y1 Y2 Y3 wr ∧ (∀ k x, l[k]? = some x → k < a → triCmp x t < 0) ∧ (∀ k x, l[k]? = some x → e ≤ k → 0 ≤ triCmp x t)) (fun t5 t6 wr => (intOf t6).toNat - (intOf t5).toNat)
  case atStart => exact ⟨0, l.length, by omega, by omega, rfl, rfl, HM.out, fun k x _ h => by omega, fun k x h h2 => by have := (List.getElem?_eq_some_iff.1 h).1; omega⟩
  case round =>
    obtain ⟨a, e, hae, hel, rfl, rfl, hK, hlo, hhi⟩ := hrel
    have HK : Hid (KS w w.heap.size Y1 Y2 Y3 wr) := hK
    have HLO : Hid (∀ k x, l[k]? = some x → k < a → triCmp x t < 0) := hlo
    have HHI : Hid (∀ k x, l[k]? = some x → e ≤ k → 0 ≤ triCmp x t) := hhi
    clear hlo hhi
    by_cases hlt : a < e
    · obtain ⟨h, hh⟩ : ∃ h, h = (a + e) / 2 := ⟨_, rfl⟩
      have hha : a ≤ h := by omega
      have hhe : h < e := by omega
      have hhl : h < l.length := by omega
      have hh2 : ((a : Int) + (e : Int)).tdiv 2 = (h : Int) := by rw [Int.tdiv_eq_ediv_of_nonneg (by omega)]; omega
      have hh3 : ((a : Int) + (e : Int)) / 2 = (h : Int) := by omega
      clear hh
      obtain ⟨x, hx⟩ : ∃ x, l[h]? = some x := ⟨_, List.getElem?_eq_getElem hhl⟩
      obtain ⟨q0, q1, q2⟩ := (HL.out.below hg HK.out.low) h x hx
      obtain ⟨m0, m1, m2, m3⟩ := hK
      by_cases hc : triCmp x t < 0
      · have HLO2 : Hid (∀ k y, l[k]? = some y → k < h + 1 → triCmp y t < 0) := fun k y hy hk => rise_lo HR.out hx hc hy (by omega)
        clear hx
        go_wp2_with fail
        go_region_held3 (fun w' => w'.cell? ⟨g, h * 3, none⟩ = some (str x.s) ∧ w'.cell? ⟨g, h * 3 + 1, none⟩ = some (str x.p) ∧ w'.cell? ⟨g, h * 3 + 2, none⟩ = some (str x.o) ∧ w'.cell? ⟨w.heap.size, 0, none⟩ = some (.string Y1) ∧ w'.cell? ⟨w.heap.size, 1, none⟩ = some (.string Y2) ∧ w'.cell? ⟨w.heap.size, 2, none⟩ = some (.string Y3) ∧ Below w.heap.size w w') (first | assumption | exact ⟨q0, q1, q2, m0, m1, m2, m3⟩ | exact ⟨q0, q1, q2, m0, m1, m2, m3.drew⟩) (first | (go_at_call 101; refine (HCm.out x h _ (by first | assumption | exact ⟨by assumption, by assumption, by assumption, by assumption, by assumption, by assumption, by first | assumption | exact m3.drew⟩)).mono ?_; rintro e2 w2 ⟨rfl, hS⟩))
        all_goals go_wp2_with fail
        go_roundw
        case rel => exact ⟨h + 1, e, by omega, by omega, by go_num, rfl, ES.ks (by assumption), HLO2.out, HHI.out⟩
        case measure => simp [intOf]; omega
      · have HHI2 : Hid (∀ k y, l[k]? = some y → h ≤ k → 0 ≤ triCmp y t) := fun k y hy hk => Int.not_lt.1 (rise_hi HR.out hx hc hy hk)
        clear hx
        go_wp2_with fail
        go_region_held3 (fun w' => w'.cell? ⟨g, h * 3, none⟩ = some (str x.s) ∧ w'.cell? ⟨g, h * 3 + 1, none⟩ = some (str x.p) ∧ w'.cell? ⟨g, h * 3 + 2, none⟩ = some (str x.o) ∧ w'.cell? ⟨w.heap.size, 0, none⟩ = some (.string Y1) ∧ w'.cell? ⟨w.heap.size, 1, none⟩ = some (.string Y2) ∧ w'.cell? ⟨w.heap.size, 2, none⟩ = some (.string Y3) ∧ Below w.heap.size w w') (first | assumption | exact ⟨q0, q1, q2, m0, m1, m2, m3⟩ | exact ⟨q0, q1, q2, m0, m1, m2, m3.drew⟩) (first | (go_at_call 101; refine (HCm.out x h _ (by first | assumption | exact ⟨by assumption, by assumption, by assumption, by assumption, by assumption, by assumption, by first | assumption | exact m3.drew⟩)).mono ?_; rintro e2 w2 ⟨rfl, hS⟩))
        all_goals go_wp2_with fail
        go_roundw
        case rel => exact ⟨a, h, by omega, by omega, rfl, rfl, ES.ks (by assumption), HLO.out, HHI2.out⟩
        case measure => simp [intOf]; omega
    · obtain rfl : a = e := by omega
      have HQ : Hid (posT l t = a) := (HP.out a hel HLO.out HHI.out).symm
      by_cases hla : a < l.length
      · obtain ⟨x, hx⟩ : ∃ x, l[a]? = some x := ⟨_, List.getElem?_eq_getElem hla⟩
        have HT : Hid (thereB l t = decide (triCmp x t = 0)) := by unfold Hid thereB; rw [HQ.out, hx]
        obtain ⟨q0, q1, q2⟩ := (HL.out.below hg HK.out.low) a x hx
        obtain ⟨m0, m1, m2, m3⟩ := hK
        obtain ⟨X1, hX1⟩ : ∃ V : ByteArray, V = ⟨x.s.toArray⟩ := ⟨_, rfl⟩
        obtain ⟨X2, hX2⟩ : ∃ V : ByteArray, V = ⟨x.p.toArray⟩ := ⟨_, rfl⟩
        obtain ⟨X3, hX3⟩ : ∃ V : ByteArray, V = ⟨x.o.toArray⟩ := ⟨_, rfl⟩
        have r0 : wr.cell? ⟨g, a * 3, none⟩ = some (.string X1) := by rw [q0, hX1]
        have r1 : wr.cell? ⟨g, a * 3 + 1, none⟩ = some (.string X2) := by rw [q1, hX2]
        have r2 : wr.cell? ⟨g, a * 3 + 2, none⟩ = some (.string X3) := by rw [q2, hX3]
        have hgd := guardR
        have heq : ∀ w, (binOp .eql 30 (.agg #[.string X1, .string X2, .string X3]) (.agg #[.string Y1, .string Y2, .string Y3])).run Tryz.prog w = .ok (.bool (thereB l t)) w := by
          intro w
          rw [eq_tri, HT.out]
          have e1 : X1.toList = x.s := by rw [hX1, ByteArray.toList_mk]
          have e2 : X2.toList = x.p := by rw [hX2, ByteArray.toList_mk]
          have e3 : X3.toList = x.o := by rw [hX3, ByteArray.toList_mk]
          have f1 : Y1.toList = t.s := by have := HCy.out; simp [cellsOf, str] at this; rw [← this.1, ByteArray.toList_mk]
          have f2 : Y2.toList = t.p := by have := HCy.out; simp [cellsOf, str] at this; rw [← this.2.1, ByteArray.toList_mk]
          have f3 : Y3.toList = t.o := by have := HCy.out; simp [cellsOf, str] at this; rw [← this.2.2, ByteArray.toList_mk]
          rw [e1, e2, e3, f1, f2, f3]
          congr 2
          rw [Bool.eq_iff_iff]
          simp only [Bool.and_eq_true, beq_iff_eq, decide_eq_true_eq]
          constructor
          · rintro ⟨a1, a2, a3⟩
            have : x = t := by cases x with | mk _ _ _ => cases t with | mk _ _ _ => simp_all
            rw [this]
            exact triCmp_refl t
          · intro h0
            rw [triCmp_zero h0]
            exact ⟨rfl, rfl, rfl⟩
        clear HP HR HLO HHI q0 q1 q2 hX1 hX2 hX3 HT
        cases hth : thereB l t with
        | true =>
          have HA : Hid (addL l t = l) := by unfold Hid addL; rw [if_pos hth]
          rw [hth] at heq
          have HOw : Hid (∀ n, (wr.drewN n).ownsRow B 30 3 (.slice (some ⟨g, 0, none⟩) l.length cap) l.length (cellsOf l)) := fun n => own_same HO.out fun k hk hlt => HK.out.low.block k hlt
          go_wp2_with fail
          go_quiet (fail)
          go_wp2_with fail
          go_ret
          exact ⟨_, rfl, by rw [HA.out]; exact HOw.out _, below_drewN HK.out.low _⟩
        | false =>
          have HA : Hid (addL l t = ins l t) := by unfold Hid addL; rw [if_neg (by rw [hth]; simp)]
          rw [hth] at heq
          go_wp2_with fail
          go_quiet (fail)
          have HW : Hid (KS w w.heap.size Y1 Y2 Y3 (wr.drewN nq)) := HK.out.on (below_drewN (Below.refl _ _) nq)
          have HOw : Hid ((wr.drewN nq).ownsRow B 30 3 (.slice (some ⟨g, 0, none⟩) l.length cap) l.length (cellsOf l)) := own_same HO.out fun k hk hlt => HK.out.low.block k hlt
          clear heq r0 r1 r2 m0 m1 m2 m3 HK
          generalize wr.drewN nq = W at *
          have hbs : w.heap.size ≤ W.heap.size := HW.out.low.size
          have hn1 := news_take HOw.out (Nat.le_of_lt hla)
          have hlt1 : (cellsOf (l.take a)).length = a * 3 := by rw [cellsOf_len, List.length_take, Nat.min_eq_left (Nat.le_of_lt hla)]
          have hnl := own_nil W W.heap.size 30
          have hgW : g < W.heap.size := by omega
          have hca : a < cap := by omega
          have hcn : ¬ cap = a := by omega
          have HN3 : Hid (∀ w2, Below W.heap.size W w2 → ∀ j u, (cellsOf (l.drop a))[j]? = some u → w2.cell? ((⟨g, a * 3, none⟩ : Addr).add j) = some u) := fun w2 hb => news_drop (own_same HOw.out (fun k hk hlt => hb.block k hlt)) (Nat.le_of_lt hla)
          have hlt3 : (cellsOf (l.drop a)).length = (l.length - a) * 3 := by rw [cellsOf_len, List.length_drop]
          go_wp2_with (first
            | (at_builtin; refine wpList_append_own_at _ (by rfl) _ _ _ (by rfl) W.heap.size 30 i0 _ 3 48 Tryz.underlying50 hi0 hz0 hz1 hz2 rfl (by omega) (.slice none 0 0) 0 [] (by rfl) hnl ⟨g, 0, none⟩ a cap (cellsOf (l.take a)) (by rfl) hlt1 hn1 (cells_one _) (by unfold maxLen; omega) (by omega) (Nat.le_refl _) ?_; intro v1 w1 ho1 hg1 hi1 hb1; have HB1 : Hid (Below W.heap.size W w1) := (Below.grown (Below.refl _ _) hg1 (Nat.le_refl _) (fun k hk => by simp [Value.ownBlock] at hk)); have HO1 : Hid (w1.ownsRow W.heap.size 30 3 v1 (0 + a) ([] ++ cellsOf (l.take a))) := ho1; have hK1 := HW.out.on HB1.out; obtain ⟨z0, z1, z2, z3⟩ := hK1; have hoA := HO1.out.alloc (.cells #[.string Y1, .string Y2, .string Y3] 30); have hn2 := news_new w1 Y1 Y2 Y3 30; have hb2' : W.heap.size ≤ (w1.alloc (.cells #[.string Y1, .string Y2, .string Y3] 30)).heap.size := (by have := HB1.out.size; simp; omega); clear ho1 hg1 hi1 hb1)
            | (at_builtin; refine wpList_append_own_at _ (by rfl) _ _ _ (by rfl) W.heap.size 30 i0 _ 3 48 Tryz.underlying50 hi0 hz0 hz1 hz2 rfl (by omega) v1 (0 + a) ([] ++ cellsOf (l.take a)) (by rfl) hoA ⟨w1.heap.size, 0, none⟩ 1 1 [.string Y1, .string Y2, .string Y3] (by rfl) (by rfl) hn2 (by simp [Value.oneCell']) (by unfold maxLen; omega) (by omega) hb2' ?_; intro v2 w2 ho2 hg2 hi2 hb2; have HB2 : Hid (Below W.heap.size W w2) := (Below.grown (HB1.out.alloc HB1.out.size _) hg2 (by have := HB1.out.size; simp; omega) (fun k hk => own_block HO1.out hk)); have HO2 : Hid (w2.ownsRow W.heap.size 30 3 v2 (0 + a + 1) ([] ++ cellsOf (l.take a) ++ [.string Y1, .string Y2, .string Y3])) := ho2; have ho2' := HO2.out; have hn3 := HN3.out w2 HB2.out; have hb3' : W.heap.size ≤ w2.heap.size := HB2.out.size; clear ho2 hg2 hi2 hb2 hoA hn2 z0 z1 z2 z3)
            | (at_builtin; refine wpList_append_own_at _ (by rfl) _ _ _ (by rfl) W.heap.size 30 i0 _ 3 48 Tryz.underlying50 hi0 hz0 hz1 hz2 rfl (by omega) v2 (0 + a + 1) ([] ++ cellsOf (l.take a) ++ [.string Y1, .string Y2, .string Y3]) (by rfl) ho2' ⟨g, a * 3, none⟩ (l.length - a) (cap - a) (cellsOf (l.drop a)) (by rfl) hlt3 hn3 (cells_one _) (by unfold maxLen; omega) (by omega) hb3' ?_; intro v3 w3 ho3 hg3 hi3 hb3; have HB3 : Hid (Below W.heap.size W w3) := (Below.grown HB2.out hg3 HB2.out.size (fun k hk => own_block HO2.out hk)); have HO3 : Hid (w3.ownsRow W.heap.size 30 3 v3 (0 + a + 1 + (l.length - a)) ([] ++ cellsOf (l.take a) ++ [.string Y1, .string Y2, .string Y3] ++ cellsOf (l.drop a))) := ho3; clear ho3 hg3 hi3 hb3))
          go_ret
          refine ⟨_, rfl, ?_, HW.out.low.trans (HB3.out.mono hbs)⟩
          rw [HA.out, ins_len]
          have ec : cellsOf (ins l t) = [] ++ cellsOf (l.take a) ++ [.string Y1, .string Y2, .string Y3] ++ cellsOf (l.drop a) := by
            unfold ins
            rw [HQ.out, ← HCy.out, List.nil_append, ← cellsOf_app, ← cellsOf_app, List.append_assoc]
            rfl
          rw [ec, show l.length + 1 = 0 + a + 1 + (l.length - a) by omega]
          exact own_mono HO3.out (by omega)
      · obtain rfl : a = l.length := by omega
        have hth : thereB l t = false := by unfold thereB; rw [HQ.out, List.getElem?_eq_none (Nat.le_refl _)]
        have HA : Hid (addL l t = ins l t) := by unfold Hid addL; rw [if_neg (by rw [hth]; simp)]
        obtain ⟨m0, m1, m2, m3⟩ := hK
        clear HP HR HLO HHI hth
        go_wp2_with fail
        go_quiet (fail)
        have HW : Hid (KS w w.heap.size Y1 Y2 Y3 (wr.drewN nq)) := HK.out.on (below_drewN (Below.refl _ _) nq)
        have HOw : Hid ((wr.drewN nq).ownsRow B 30 3 (.slice (some ⟨g, 0, none⟩) l.length cap) l.length (cellsOf l)) := own_same HO.out fun k hk hlt => HK.out.low.block k hlt
        clear m0 m1 m2 m3 HK
        generalize wr.drewN nq = W at *
        have hbs : w.heap.size ≤ W.heap.size := HW.out.low.size
        have hn1 := news_take HOw.out (Nat.le_refl _)
        have hlt1 : (cellsOf (l.take l.length)).length = l.length * 3 := by rw [cellsOf_len, List.length_take, Nat.min_self]
        have hnl := own_nil W W.heap.size 30
        have hgW : g < W.heap.size := by omega
        have HN3 : Hid (∀ (ad : Addr) (w2 : World) (j : Nat) (u : Value), ([] : List Value)[j]? = some u → w2.cell? (ad.add j) = some u) := fun ad w2 j u hj => by simp at hj
        by_cases hcp : cap = l.length
        · subst hcp
          go_wp2_with (first
            | (at_builtin; refine wpList_append_own_at _ (by rfl) _ _ _ (by rfl) W.heap.size 30 i0 _ 3 48 Tryz.underlying50 hi0 hz0 hz1 hz2 rfl (by omega) (.slice none 0 0) 0 [] (by rfl) hnl ⟨g, 0, none⟩ l.length l.length (cellsOf (l.take l.length)) (by rfl) hlt1 hn1 (cells_one _) (by unfold maxLen; omega) (by omega) (Nat.le_refl _) ?_; intro v1 w1 ho1 hg1 hi1 hb1; have HB1 : Hid (Below W.heap.size W w1) := (Below.grown (Below.refl _ _) hg1 (Nat.le_refl _) (fun k hk => by simp [Value.ownBlock] at hk)); have HO1 : Hid (w1.ownsRow W.heap.size 30 3 v1 (0 + l.length) ([] ++ cellsOf (l.take l.length))) := ho1; have hK1 := HW.out.on HB1.out; obtain ⟨z0, z1, z2, z3⟩ := hK1; have hoA := HO1.out.alloc (.cells #[.string Y1, .string Y2, .string Y3] 30); have hn2 := news_new w1 Y1 Y2 Y3 30; have hb2' : W.heap.size ≤ (w1.alloc (.cells #[.string Y1, .string Y2, .string Y3] 30)).heap.size := (by have := HB1.out.size; simp; omega); clear ho1 hg1 hi1 hb1)
            | (at_builtin; refine wpList_append_own_at _ (by rfl) _ _ _ (by rfl) W.heap.size 30 i0 _ 3 48 Tryz.underlying50 hi0 hz0 hz1 hz2 rfl (by omega) v1 (0 + l.length) ([] ++ cellsOf (l.take l.length)) (by rfl) hoA ⟨w1.heap.size, 0, none⟩ 1 1 [.string Y1, .string Y2, .string Y3] (by rfl) (by rfl) hn2 (by simp [Value.oneCell']) (by unfold maxLen; omega) (by omega) hb2' ?_; intro v2 w2 ho2 hg2 hi2 hb2; have HB2 : Hid (Below W.heap.size W w2) := (Below.grown (HB1.out.alloc HB1.out.size _) hg2 (by have := HB1.out.size; simp; omega) (fun k hk => own_block HO1.out hk)); have HO2 : Hid (w2.ownsRow W.heap.size 30 3 v2 (0 + l.length + 1) ([] ++ cellsOf (l.take l.length) ++ [.string Y1, .string Y2, .string Y3])) := ho2; have ho2' := HO2.out;  have hb3' : W.heap.size ≤ w2.heap.size := HB2.out.size; clear ho2 hg2 hi2 hb2 hoA hn2 z0 z1 z2 z3)
            | (at_builtin; refine wpList_append_own_at _ (by rfl) _ _ _ (by rfl) W.heap.size 30 i0 _ 3 48 Tryz.underlying50 hi0 hz0 hz1 hz2 rfl (by omega) v2 (0 + l.length + 1) ([] ++ cellsOf (l.take l.length) ++ [.string Y1, .string Y2, .string Y3]) (by rfl) ho2' ⟨g, 0, none⟩ 0 0 [] (by rfl) (by rfl) (HN3.out _ _) (by simp) (by unfold maxLen; omega) (by omega) hb3' ?_; intro v3 w3 ho3 hg3 hi3 hb3; have HB3 : Hid (Below W.heap.size W w3) := (Below.grown HB2.out hg3 HB2.out.size (fun k hk => own_block HO2.out hk)); have HO3 : Hid (w3.ownsRow W.heap.size 30 3 v3 (0 + l.length + 1 + 0) ([] ++ cellsOf (l.take l.length) ++ [.string Y1, .string Y2, .string Y3] ++ [])) := ho3; clear ho3 hg3 hi3 hb3))
          go_ret
          refine ⟨_, rfl, ?_, HW.out.low.trans (HB3.out.mono hbs)⟩
          rw [HA.out, ins_len]
          have ec : cellsOf (ins l t) = [] ++ cellsOf (l.take l.length) ++ [.string Y1, .string Y2, .string Y3] ++ [] := by
            unfold ins
            rw [HQ.out, ← HCy.out, List.nil_append, List.append_nil, ← cellsOf_app, List.drop_length]
          rw [ec, show l.length + 1 = 0 + l.length + 1 + 0 by omega]
          exact own_mono HO3.out (by omega)

        · have hcq : l.length < cap := by omega
          go_wp2_with (first
            | (at_builtin; refine wpList_append_own_at _ (by rfl) _ _ _ (by rfl) W.heap.size 30 i0 _ 3 48 Tryz.underlying50 hi0 hz0 hz1 hz2 rfl (by omega) (.slice none 0 0) 0 [] (by rfl) hnl ⟨g, 0, none⟩ l.length cap (cellsOf (l.take l.length)) (by rfl) hlt1 hn1 (cells_one _) (by unfold maxLen; omega) (by omega) (Nat.le_refl _) ?_; intro v1 w1 ho1 hg1 hi1 hb1; have HB1 : Hid (Below W.heap.size W w1) := (Below.grown (Below.refl _ _) hg1 (Nat.le_refl _) (fun k hk => by simp [Value.ownBlock] at hk)); have HO1 : Hid (w1.ownsRow W.heap.size 30 3 v1 (0 + l.length) ([] ++ cellsOf (l.take l.length))) := ho1; have hK1 := HW.out.on HB1.out; obtain ⟨z0, z1, z2, z3⟩ := hK1; have hoA := HO1.out.alloc (.cells #[.string Y1, .string Y2, .string Y3] 30); have hn2 := news_new w1 Y1 Y2 Y3 30; have hb2' : W.heap.size ≤ (w1.alloc (.cells #[.string Y1, .string Y2, .string Y3] 30)).heap.size := (by have := HB1.out.size; simp; omega); clear ho1 hg1 hi1 hb1)
            | (at_builtin; refine wpList_append_own_at _ (by rfl) _ _ _ (by rfl) W.heap.size 30 i0 _ 3 48 Tryz.underlying50 hi0 hz0 hz1 hz2 rfl (by omega) v1 (0 + l.length) ([] ++ cellsOf (l.take l.length)) (by rfl) hoA ⟨w1.heap.size, 0, none⟩ 1 1 [.string Y1, .string Y2, .string Y3] (by rfl) (by rfl) hn2 (by simp [Value.oneCell']) (by unfold maxLen; omega) (by omega) hb2' ?_; intro v2 w2 ho2 hg2 hi2 hb2; have HB2 : Hid (Below W.heap.size W w2) := (Below.grown (HB1.out.alloc HB1.out.size _) hg2 (by have := HB1.out.size; simp; omega) (fun k hk => own_block HO1.out hk)); have HO2 : Hid (w2.ownsRow W.heap.size 30 3 v2 (0 + l.length + 1) ([] ++ cellsOf (l.take l.length) ++ [.string Y1, .string Y2, .string Y3])) := ho2; have ho2' := HO2.out;  have hb3' : W.heap.size ≤ w2.heap.size := HB2.out.size; clear ho2 hg2 hi2 hb2 hoA hn2 z0 z1 z2 z3)
            | (at_builtin; refine wpList_append_own_at _ (by rfl) _ _ _ (by rfl) W.heap.size 30 i0 _ 3 48 Tryz.underlying50 hi0 hz0 hz1 hz2 rfl (by omega) v2 (0 + l.length + 1) ([] ++ cellsOf (l.take l.length) ++ [.string Y1, .string Y2, .string Y3]) (by rfl) ho2' ⟨g, l.length * 3, none⟩ 0 (cap - l.length) [] (by rfl) (by rfl) (HN3.out _ _) (by simp) (by unfold maxLen; omega) (by omega) hb3' ?_; intro v3 w3 ho3 hg3 hi3 hb3; have HB3 : Hid (Below W.heap.size W w3) := (Below.grown HB2.out hg3 HB2.out.size (fun k hk => own_block HO2.out hk)); have HO3 : Hid (w3.ownsRow W.heap.size 30 3 v3 (0 + l.length + 1 + 0) ([] ++ cellsOf (l.take l.length) ++ [.string Y1, .string Y2, .string Y3] ++ [])) := ho3; clear ho3 hg3 hi3 hb3))
          go_ret
          refine ⟨_, rfl, ?_, HW.out.low.trans (HB3.out.mono hbs)⟩
          rw [HA.out, ins_len]
          have ec : cellsOf (ins l t) = [] ++ cellsOf (l.take l.length) ++ [.string Y1, .string Y2, .string Y3] ++ [] := by
            unfold ins
            rw [HQ.out, ← HCy.out, List.nil_append, List.append_nil, ← cellsOf_app, List.drop_length]
          rw [ec, show l.length + 1 = 0 + l.length + 1 + 0 by omega]
          exact own_mono HO3.out (by omega)


end Go.Proofs.YtnffjoipinhojaaGreatDoor

namespace Go.Proofs.YtnffjoipinhojaaGreatDoor
open Go.RowKit

set_option maxHeartbeats 2000000 in
set_option maxRecDepth 20000 in
theorem Ref.add_nil (w : World) (B : Nat) (t : Tri) (hB : B ≤ w.heap.size) :
    Calls Tryz.prog 57 #[.slice none 0 0, triV t] w fun e w' =>
      ∃ v', e = .returned v' ∧ w'.ownsRow B 30 3 v' 1 (cellsOf [t]) ∧ Below w.heap.size w w' := by
  obtain ⟨i0, hi0, hz0, hz1, hz2⟩ := info_parts Ref.infoTri
  obtain ⟨Y1, k1⟩ : ∃ V : ByteArray, V = ⟨t.s.toArray⟩ := ⟨_, rfl⟩
  obtain ⟨Y2, k2⟩ : ∃ V : ByteArray, V = ⟨t.p.toArray⟩ := ⟨_, rfl⟩
  obtain ⟨Y3, k3⟩ : ∃ V : ByteArray, V = ⟨t.o.toArray⟩ := ⟨_, rfl⟩
  have HVy : (triV t) = .agg #[.string Y1, .string Y2, .string Y3] := by rw [k1, k2, k3]
  have HCy : Hid (cellsOf [t] = [.string Y1, .string Y2, .string Y3]) := by unfold Hid; rw [k1, k2, k3]; rfl
  have HM : Hid (KS w w.heap.size Y1 Y2 Y3 (w.alloc (.cells #[.string Y1, .string Y2, .string Y3] 30))) := KS.mk w Y1 Y2 Y3 _
  rw [HVy, HCy.out]
  clear k1 k2 k3 HVy HCy
  go_enter Tryz.func57, Tryz.ntmps57
  go_wp2_with fail
  go_loopw [5, 6] (fun t5 t6 wr => t5 = .int .i64 0 ∧ t6 = .int .i64 0 ∧ KS w w.heap.size Y1 Y2 Y3 wr) (fun t5 t6 wr => 0)
  case atStart => exact ⟨rfl, rfl, HM.out⟩
  case round =>
    obtain ⟨rfl, rfl, hrel⟩ := hrel
    have HK : Hid (KS w w.heap.size Y1 Y2 Y3 wr) := hrel
    clear hrel HM
    go_wp2_with fail
    go_quiet (fail)
    have HW : Hid (KS w w.heap.size Y1 Y2 Y3 (wr.drewN nq)) := HK.out.on (below_drewN (Below.refl _ _) nq)
    clear HK
    generalize wr.drewN nq = W at *
    have hbs : w.heap.size ≤ W.heap.size := HW.out.low.size
    have hK1 := HW.out
    obtain ⟨z0, z1, z2, z3⟩ := hK1
    have hnl := own_nil W W.heap.size 30
    have hoA := hnl.alloc (.cells #[.string Y1, .string Y2, .string Y3] 30)
    have hn2 := news_new W Y1 Y2 Y3 30
    have hb2' : W.heap.size ≤ (W.alloc (.cells #[.string Y1, .string Y2, .string Y3] 30)).heap.size := by simp
    go_wp2_with (first
      | (at_builtin; refine wpList_append_own_none (by rfl) _ _ _ (by rfl) W.heap.size 30 i0 3 Tryz.underlying50 hi0 (.slice none 0 0) 0 [] (by rfl) hnl (by rfl) ?_)
      | (at_builtin; refine wpList_append_own_at _ (by rfl) _ _ _ (by rfl) W.heap.size 30 i0 _ 3 48 Tryz.underlying50 hi0 hz0 hz1 hz2 rfl (by omega) (.slice none 0 0) 0 [] (by rfl) hoA ⟨W.heap.size, 0, none⟩ 1 1 [.string Y1, .string Y2, .string Y3] (by rfl) (by rfl) hn2 (by simp [Value.oneCell']) (by unfold maxLen; omega) (by omega) hb2' ?_; intro v2 w2 ho2 hg2 hi2 hb2; have HB2 : Hid (Below W.heap.size W w2) := (Below.grown ((Below.refl _ W).alloc (Nat.le_refl _) _) hg2 (by simp) (fun k hk => by simp [Value.ownBlock] at hk)); have HO2 : Hid (w2.ownsRow W.heap.size 30 3 v2 (0 + 1) ([] ++ [.string Y1, .string Y2, .string Y3])) := ho2; have ho2' := HO2.out; clear ho2 hg2 hi2 hb2 hoA hn2 z0 z1 z2 z3 hnl)
      | (at_builtin; refine wpList_append_own_none (by rfl) _ _ _ (by rfl) W.heap.size 30 i0 3 Tryz.underlying50 hi0 v2 (0 + 1) ([] ++ [.string Y1, .string Y2, .string Y3]) (by rfl) ho2' (by rfl) ?_))
    go_ret
    exact ⟨_, rfl, own_mono HO2.out (by omega), HW.out.low.trans (HB2.out.mono hbs)⟩

theorem Ref.add_all (w : World) (B : Nat) (v : Value) (l : List Tri) (t : Tri) (hr : Rising l) (ho : w.ownsRow B 30 3 v l.length (cellsOf l)) (hB : B ≤ w.heap.size) (hn : l.length ≤ 1000) :
    Calls Tryz.prog 57 #[v, triV t] w fun e w' =>
      ∃ v', e = .returned v' ∧ w'.ownsRow B 30 3 v' (addL l t).length (cellsOf (addL l t)) ∧ Below w.heap.size w w' := by
  rcases ho.2 with ⟨rfl, h0⟩ | ⟨g, cap, cur, rfl, hg, hh, _⟩
  · obtain rfl := List.length_eq_zero_iff.1 h0
    exact Ref.add_nil w B t hB
  · exact Ref.add_any w B g cap l t hr ho hB (Array.getElem?_eq_some_iff.1 hh).1 hn

theorem addL_rising {l : List Tri} {t : Tri} (hr : Rising l) : Rising (addL l t) := by
  unfold addL
  split
  · exact hr
  · rename_i h
    exact ins_rising hr (fun x => h (thereB_iff.2 x))
theorem addL_len (l : List Tri) (t : Tri) : (addL l t).length ≤ l.length + 1 ∧ l.length ≤ (addL l t).length := by
  unfold addL
  split
  · omega
  · rw [ins_len]; omega

/-- a step of the fold -/
theorem rise_step {set : List Tri} {t : Tri} {r : List Tri} (h : set.length ≤ 300) : rise set (t :: r) = if (addL set t).length ≤ 300 then rise (addL set t) r else none := by
  rw [rise]
  unfold addL
  by_cases ht : thereB set t = true
  · rw [if_pos ht, if_pos ht, if_pos h]
  · rw [if_neg ht, if_neg ht, ins_len]
    by_cases h3 : set.length = 300
    · rw [if_pos h3, if_neg (by omega)]
    · rw [if_neg h3, if_pos (by omega)]

theorem own_form {w : World} {base : Nat} {e : TypeId} {v : Value} {n : Nat} {xs : List Value} (h : w.ownsRow base e 3 v n xs) : ∃ o cap, v = .slice o n cap := by
  rcases h.2 with ⟨hv, rfl⟩ | ⟨g, cap, cur, hv, _⟩
  · exact ⟨none, 0, hv⟩
  · exact ⟨_, cap, hv⟩

/-- what the set of what was read ends in -/
def RisV (w : World) (B : Nat) (T : TypeId) (r : Option (List Tri)) (many : Int) (e : Ending) (w' : World) : Prop := match r with
  | some set => ∃ v', e = .returned (.tuple #[v', .int .i64 0, .int .i64 0]) ∧ w'.ownsRow B T 3 v' set.length (cellsOf set) ∧ Below w.heap.size w w'
  | none => e = .returned (.tuple #[.slice none 0 0, .int .i64 many, .int .i64 0]) ∧ Below w.heap.size w w'

set_option maxHeartbeats 2000000 in
set_option maxRecDepth 20000 in
theorem Ref.all_any (w : World) (g cap : Nat) (ts : List Tri) (hg : g < w.heap.size) (hL : Lies w g ts) (hn : ts.length ≤ 1099511627776) :
    Calls Tryz.prog 55 #[.slice (some ⟨g, 0, none⟩) ts.length cap] w (RisV w w.heap.size 30 (rise [] ts) 10) := by
  have HL : Hid (Lies w g ts) := hL
  have HAd : Hid (∀ (w1 : World) (v : Value) (l : List Tri) (t : Tri), Rising l → w1.ownsRow w.heap.size 30 3 v l.length (cellsOf l) → Below w.heap.size w w1 → l.length ≤ 1000 → Calls Tryz.prog 57 #[v, .agg #[str t.s, str t.p, str t.o]] w1 fun e w' => ∃ o c, e = .returned (.slice o (addL l t).length c) ∧ w'.ownsRow w.heap.size 30 3 (.slice o (addL l t).length c) (addL l t).length (cellsOf (addL l t)) ∧ Below w.heap.size w w') := by
    intro w1 v l t hr ho hb hl
    refine (Ref.add_all w1 w.heap.size v l t hr ho hb.size hl).mono ?_
    rintro e w2 ⟨v', rfl, ho2, hb2⟩
    obtain ⟨o, c, rfl⟩ := own_form ho2
    exact ⟨o, c, rfl, ho2, hb.trans (hb2.mono hb.size)⟩
  have HB0 : Hid (Below w.heap.size w w) := Below.refl _ w
  have HN0 : Hid (w.ownsRow w.heap.size 30 3 (.slice none 0 0) 0 []) := own_nil w _ _
  clear hL
  go_enter Tryz.func55, Tryz.ntmps55
  go_wp2_with fail
  go_loopw [5, 6] (fun t5 t6 wr => ∃ (q : Nat) (set : List Tri) (o : Option Addr) (c : Nat), q ≤ ts.length ∧ t6 = .int .i64 q ∧ t5 = .slice o set.length c ∧ Rising set ∧ set.length ≤ 301 ∧ wr.ownsRow w.heap.size 30 3 (.slice o set.length c) set.length (cellsOf set) ∧ Below w.heap.size w wr ∧ rise [] ts = if set.length ≤ 300 then rise set (ts.drop q) else none) (fun t5 t6 wr => ts.length - (intOf t6).toNat)
  case atStart => exact ⟨0, [], none, 0, Nat.zero_le _, rfl, rfl, List.Pairwise.nil, by simp, HN0.out, HB0.out, by simp⟩
  case round =>
    obtain ⟨q, set, o, c, hq, rfl, rfl, hr, h301, ho, hb, hri⟩ := hrel
    have HR : Hid (Rising set) := hr
    have HO : Hid (wr.ownsRow w.heap.size 30 3 (.slice o set.length c) set.length (cellsOf set)) := ho
    have HB : Hid (Below w.heap.size w wr) := hb
    have HI : Hid (rise [] ts = if set.length ≤ 300 then rise set (ts.drop q) else none) := hri
    clear hr ho hb hri
    by_cases hlt : q < ts.length
    · by_cases h300 : set.length ≤ 300
      · obtain ⟨x, hx⟩ : ∃ x, ts[q]? = some x := ⟨_, List.getElem?_eq_getElem hlt⟩
        obtain ⟨q0, q1, q2⟩ := (HL.out.below hg HB.out) q x hx
        have hd : ts.drop q = x :: ts.drop (q + 1) := by
          rw [List.drop_eq_getElem_cons hlt]
          congr 1
          exact (List.getElem?_eq_some_iff.1 hx).2
        have HI2 : Hid (rise [] ts = if (addL set x).length ≤ 300 then rise (addL set x) (ts.drop (q + 1)) else none) := by
          unfold Hid
          rw [HI.out, if_pos h300, hd, rise_step h300]
        have hal := addL_len set x
        have HR2 : Hid (Rising (addL set x)) := addL_rising HR.out
        have HA := HAd.out wr (.slice o set.length c) set x HR.out HO.out HB.out (by omega)
        have HA2 : Hid (Calls Tryz.prog 57 #[.slice o set.length c, .agg #[str x.s, str x.p, str x.o]] wr fun e w' => ∃ o' c', e = .returned (.slice o' (addL set x).length c') ∧ w'.ownsRow w.heap.size 30 3 (.slice o' (addL set x).length c') (addL set x).length (cellsOf (addL set x)) ∧ Below w.heap.size w w') := HA
        clear HA hx hd HI HR HAd
        generalize addL set x = S at *
        go_wp2_with fail
        refine HA2.out.mono ?_
        rintro e w2 ⟨o', c', rfl, ho2, hb2⟩
        have HO2 : Hid (w2.ownsRow w.heap.size 30 3 (.slice o' S.length c') S.length (cellsOf S)) := ho2
        have HB2 : Hid (Below w.heap.size w w2) := hb2
        clear ho2 hb2
        go_wp2_with fail
        go_roundw
        case rel => exact ⟨q + 1, S, o', c', by omega, by go_num, rfl, HR2.out, by omega, HO2.out, HB2.out, HI2.out⟩
        case measure => simp [intOf]; omega
      · have HI2 : Hid (rise [] ts = none) := by unfold Hid; rw [HI.out, if_neg h300]
        go_wp2_with fail
        refine bodyPost_ret (v := .tuple #[.slice none 0 0, .int .i64 10, .int .i64 0]) (by simp [results, Tryz.results55, go_sem]) rfl ?_
        show RisV w w.heap.size _ (rise [] ts) 10 _ _
        rw [HI2.out]
        exact ⟨rfl, HB.out⟩
    · by_cases h300 : set.length ≤ 300
      · have HI2 : Hid (rise [] ts = some set) := by unfold Hid; rw [HI.out, if_pos h300, List.drop_eq_nil_of_le (by omega)]; rfl
        go_wp2_with fail
        refine bodyPost_ret (v := .tuple #[.slice o set.length c, .int .i64 0, .int .i64 0]) (by simp [results, Tryz.results55, go_sem]) rfl ?_
        show RisV w w.heap.size _ (rise [] ts) 10 _ _
        rw [HI2.out]
        exact ⟨_, rfl, HO.out, HB.out⟩
      · have HI2 : Hid (rise [] ts = none) := by unfold Hid; rw [HI.out, if_neg h300]
        go_wp2_with fail
        refine bodyPost_ret (v := .tuple #[.slice none 0 0, .int .i64 10, .int .i64 0]) (by simp [results, Tryz.results55, go_sem]) rfl ?_
        show RisV w w.heap.size _ (rise [] ts) 10 _ _
        rw [HI2.out]
        exact ⟨rfl, HB.out⟩

end Go.Proofs.YtnffjoipinhojaaGreatDoor

namespace Go.Proofs.YtnffjoipinhojaaGreatDoor
open Go.RowKit
namespace Ref

theorem all_nil (w : World) : Calls Tryz.prog 55 #[.slice none 0 0] w fun e w' => e = .returned (.tuple #[.slice none 0 0, .int .i64 0, .int .i64 0]) ∧ w' = w := by
  go_enter Tryz.func55, Tryz.ntmps55
  go_wp2_with fail
  go_loop [5, 6] (fun t5 t6 => t5 = .slice none 0 0 ∧ t6 = .int .i64 0) (fun t5 t6 => 0)
  case atStart => exact ⟨rfl, rfl⟩
  case round =>
    obtain ⟨rfl, rfl⟩ := hrel
    go_wp2_with fail
    exact bodyPost_ret (v := .tuple #[.slice none 0 0, .int .i64 0, .int .i64 0]) (by simp [results, Tryz.results55, go_sem]) rfl ⟨rfl, rfl⟩

theorem line_dead (w0 w : World) (b k : Nat) (s : ByteArray) (n j : Int) (v : Value) (ts : List Tri) (h : Ps w0 b s v ts k n j w) (hn : n ≠ 0) :
    Calls Tryz.prog 53 #[.pointer (some ⟨b, 0, none⟩), v] w fun e w' => e = .returned v ∧ Ps w0 b s v ts k n j w' := by
  have HBd : Hid (∀ w, Ps w0 b s v ts k n j w → Calls Tryz.prog 97 #[.pointer (some ⟨b, 0, none⟩)] w fun e w' => e = .returned (.tuple #[]) ∧ Ps w0 b s v ts k n j w') := fun w h => (blanks_dead w b k s n j h.2 hn).mono fun e w' ho => ⟨ho.1, h.mv ho.2⟩
  have HRD : Hid (∀ w, Ps w0 b s v ts k n j w → Calls Tryz.prog 99 #[.pointer (some ⟨b, 0, none⟩)] w fun e w' => e = .returned (.tuple #[]) ∧ Ps w0 b s v ts k n j w') := fun w h => (rest_dead w b k s n j h.2 hn).mono fun e w' ho => ⟨ho.1, h.mv ho.2⟩
  have HX : Hid (∀ w, Ps w0 b s v ts k n j w → Calls Tryz.prog 71 #[.pointer (some ⟨b, 0, none⟩)] w fun e w' => e = .returned (.int .i64 (-1)) ∧ Ps w0 b s v ts k n j w') := fun w h => by
    have := next_any w b k s n j h.2
    rw [nb_dead s k hn] at this
    exact this.mono fun e w' ⟨h1, m, h2⟩ => ⟨h1, by rw [h2]; exact h.mv (Mv.stayN h.2 m)⟩
  have H : Hid (Ps w0 b s v ts k n j w) := h
  clear h
  go_enter Tryz.func53, Tryz.ntmps53
  go_wp2_with fail
  refine (HBd.out _ H.out).mono ?_
  rintro e w1 ⟨rfl, q1⟩
  go_wp2_with fail
  refine (HX.out _ q1).mono ?_
  rintro e w2 ⟨rfl, q2⟩
  go_wp2_with fail
  refine (HRD.out _ q2).mono ?_
  rintro e w3 ⟨rfl, q3⟩
  go_wp2_with fail
  go_ret
  exact ⟨rfl, q3⟩

/-- what reading lines ends in -/
def RdV (w : World) (T : TypeId) (s : ByteArray) (e : Ending) (w' : World) : Prop :=
  if 20000 < s.size then e = .returned (.tuple #[.slice none 0 0, .int .i64 1, .int .i64 0]) ∧ Below w.heap.size w w'
  else match linesR s 0 with
    | .bad n j => e = .returned (.tuple #[.slice none 0 0, .int .i64 n, .int .i64 j]) ∧ Below w.heap.size w w'
    | .ok ts _ => RisV w w.heap.size T (rise [] ts) 10 e w'

abbrev penL (w : World) (s : ByteArray) : World := w.alloc (.cells #[.string s, .int .i64 0, .int .i64 0, .int .i64 0] 75)

theorem fb_below {w w' : World} {s : ByteArray} (h : Fb (penL w s) w.heap.size w') : Below w.heap.size w w' :=
  ⟨h.os.1, h.os.2.1, h.os.2.2, by have := h.size; simp at this; omega, fun k hk => by rw [h.but k (by simp; omega) (by omega)]; exact Below.heap_alloc _ _ _ hk⟩

theorem risV_mono {w w1 w' : World} {T : TypeId} {r : Option (List Tri)} {m : Int} {e : Ending} (h : RisV w1 w1.heap.size T r m e w') (hb : Below w.heap.size w w1) : RisV w w.heap.size T r m e w' := by
  unfold RisV at h ⊢
  cases r with
  | none => exact ⟨h.1, hb.trans (h.2.mono hb.size)⟩
  | some set =>
    obtain ⟨v', h1, h2, h3⟩ := h
    exact ⟨v', h1, own_mono h2 hb.size, hb.trans (h3.mono hb.size)⟩

set_option maxHeartbeats 4000000 in
set_option maxRecDepth 20000 in
theorem readLines_any (w : World) (s : ByteArray) :
    Calls Tryz.prog 24 #[.string s] w (RdV w 30 s) := by
  by_cases h1 : 20000 < s.size
  · go_enter Tryz.func24, Tryz.ntmps24
    go_wp2
    refine bodyPost_ret (v := .tuple #[.slice none 0 0, .int .i64 1, .int .i64 0]) (by simp [results, Tryz.results24, go_sem]) rfl ?_
    unfold RdV
    rw [if_pos h1]
    exact ⟨rfl, Below.refl _ _⟩
  · have hsz : s.size ≤ 1099511627776 := by omega
    have H0 : Hid (Ps (penL w s) w.heap.size s (.slice none 0 0) [] 0 0 0 (penL w s)) := ⟨⟨own_nil _ _ _, ⟨Nat.le_refl _, ⟨rfl, rfl, rfl⟩, fun k _ _ => rfl⟩, by simp⟩, pen_new w s hsz⟩
    have HLl : Hid (∀ w1 i v ts, Ps (penL w s) w.heap.size s v ts i 0 0 w1 → i ≤ s.size → ts.length ≤ 1099511627776 → Calls Tryz.prog 53 #[.pointer (some ⟨w.heap.size, 0, none⟩), v] w1 (PLn (penL w s) w.heap.size s 0 v ts (lineR s i))) := fun w1 i v ts h hi hc => line_live (penL w s) w1 w.heap.size i s 0 v ts h hi hc
    have HLd : Hid (∀ w1 k n j v ts, Ps (penL w s) w.heap.size s v ts k n j w1 → n ≠ 0 → Calls Tryz.prog 53 #[.pointer (some ⟨w.heap.size, 0, none⟩), v] w1 fun e w' => e = .returned v ∧ Ps (penL w s) w.heap.size s v ts k n j w') := fun w1 k n j v ts h hn => line_dead (penL w s) w1 w.heap.size k s n j v ts h hn
    have ht := linesR_tail (s := s) (i := 0) (Nat.zero_le _)
    -- a line read with a live Pen, as one statement
    have HLine : Hid (∀ w1 i v ts, Ps (penL w s) w.heap.size s v ts i 0 0 w1 → i ≤ s.size → ts.length ≤ 1099511627776 → Calls Tryz.prog 53 #[.pointer (some ⟨w.heap.size, 0, none⟩), v] w1 fun e w' =>
        ∃ v', e = .returned v' ∧ ((∃ m k, lineR s i = .ok m k ∧ Ps (penL w s) w.heap.size s v' (ts ++ m) k 0 0 w') ∨ (∃ n j k, lineR s i = .bad n j ∧ n ≠ 0 ∧ Ps (penL w s) w.heap.size s v' ts k n j w'))) := by
      intro w1 i v ts h hi hc
      refine (HLl.out w1 i v ts h hi hc).mono ?_
      intro e w' ho
      cases hl : lineR s i with
      | ok m k =>
        rw [hl] at ho
        obtain ⟨v', h1, h2, h3⟩ := ho
        exact ⟨v', h1, Or.inl ⟨m, k, rfl, h2, h3⟩⟩
      | bad n j =>
        rw [hl] at ho
        obtain ⟨k, h1, h2, h3, h4⟩ := ho
        exact ⟨v, h1, Or.inr ⟨n, j, k, rfl, h2, h3, h4⟩⟩
    have HT : Hid (linesR s 0 = match lineR s 0 with
      | .bad n j => .bad n j
      | .ok l j => (tailR s j).pre l) := by unfold Hid; rw [ht]; cases lineR s 0 <;> rfl
    clear ht HLl
    go_enter Tryz.func24, Tryz.ntmps24
    go_wp2_with fail
    refine (HLine.out _ 0 _ _ H0.out (Nat.zero_le _) (by simp)).mono ?_
    rintro e w1 ⟨v1, rfl, hv1⟩
    have HV1 : Hid ((∃ q ts, Ps (penL w s) w.heap.size s v1 ts q 0 0 w1 ∧ q ≤ s.size ∧ ts.length ≤ q + 1 ∧ linesR s 0 = (tailR s q).pre ts) ∨ (∃ n j k ts, n ≠ 0 ∧ Ps (penL w s) w.heap.size s v1 ts k n (j : Nat) w1 ∧ linesR s 0 = .bad n j)) := by
      rcases hv1 with ⟨m, k, h2, h3⟩ | ⟨n, j, k, h2, h3, h4⟩
      · refine Or.inl ⟨k, [] ++ m, h3, (lineR_le (Nat.zero_le _) h2).2, ?_, ?_⟩
        · have := lineR_one h2; simp; omega
        · rw [HT.out, h2]; rfl
      · exact Or.inr ⟨n, j, k, [], h3, h4, by rw [HT.out, h2]⟩
    clear hv1 HT H0
    go_wp2_with fail
    go_loopw [6] (fun t6 wr => (∃ q ts, Ps (penL w s) w.heap.size s t6 ts q 0 0 wr ∧ q ≤ s.size ∧ ts.length ≤ q + 1 ∧ linesR s 0 = (tailR s q).pre ts) ∨ (∃ n j k ts, n ≠ 0 ∧ Ps (penL w s) w.heap.size s t6 ts k n (j : Nat) wr ∧ linesR s 0 = .bad n j)) (fun t6 wr => if intOf ((wr.cell? ⟨w.heap.size, 2, none⟩).getD undef) = 0 then s.size + 1 - (intOf ((wr.cell? ⟨w.heap.size, 1, none⟩).getD undef)).toNat else 0)
    case atStart => exact HV1.out
    case round =>
      rcases hrel with ⟨q, ts, hP, hq, hc, hl⟩ | ⟨n, j, k, ts, hn, hP, hl⟩
      · have HP : Hid (Ps (penL w s) w.heap.size s u6 ts q 0 0 wr) := hP
        obtain ⟨p0, p1, p2, p3, pf, pms, ple⟩ := hP.2
        have HM : Hid ((if intOf ((wr.cell? ⟨w.heap.size, 2, none⟩).getD undef) = 0 then s.size + 1 - (intOf ((wr.cell? ⟨w.heap.size, 1, none⟩).getD undef)).toNat else 0) = s.size + 1 - q) := by unfold Hid; rw [p2, p1]; simp [intOf]
        have HL : Hid (linesR s 0 = (tailR s q).pre ts) := hl
        clear hP hl HV1
        by_cases hlt : q < s.size
        · by_cases c : bt s q = 10
          · have hq2 : linesR s 0 = (linesR s (q + 1)).pre ts := by rw [HL.out]; unfold tailR; rw [if_pos c]
            have ht2 := linesR_tail (s := s) (i := q + 1) (by omega)
            have HT2 : Hid (linesR s (q + 1) = match lineR s (q + 1) with
              | .bad n j => .bad n j
              | .ok l j => (tailR s j).pre l) := by unfold Hid; rw [ht2]; cases lineR s (q + 1) <;> rfl
            have HQ2 : Hid (linesR s 0 = (linesR s (q + 1)).pre ts) := hq2
            have HNd : Hid (Calls Tryz.prog 54 #[.pointer (some ⟨w.heap.size, 0, none⟩), .int .i64 10] wr fun e w' => e = .returned (.tuple #[]) ∧ Ps (penL w s) w.heap.size s u6 ts (q + 1) 0 0 w') := (need_ok wr w.heap.size q s 0 10 HP.out.2 (by omega) (by omega) c).mono fun e w' ho => ⟨ho.1, HP.out.mv ho.2⟩
            clear hq2 ht2 c HL
            go_wp2_with fail
            refine HNd.out.mono ?_
            rintro e w2 ⟨rfl, h2⟩
            go_wp2_with fail
            refine (HLine.out _ (q + 1) _ ts h2 (by omega) (by omega)).mono ?_
            rintro e w3 ⟨v3, rfl, h3⟩
            have H3 : Hid (((∃ m k, lineR s (q + 1) = .ok m k ∧ Ps (penL w s) w.heap.size s v3 (ts ++ m) k 0 0 w3) ∨ (∃ n j k, lineR s (q + 1) = .bad n j ∧ n ≠ 0 ∧ Ps (penL w s) w.heap.size s v3 ts k n j w3))) := h3
            clear h3 h2 p0 p1 p2 p3 pf
            go_wp2_with fail
            go_roundw
            case rel =>
              rcases H3.out with ⟨m, k, e1, e2⟩ | ⟨n, j, k, e1, e2, e3⟩
              · have hk := lineR_le (s := s) (i := q + 1) (by omega) e1
                have hm := lineR_one e1
                refine Or.inl ⟨k, ts ++ m, e2, hk.2, by rw [List.length_append]; omega, ?_⟩
                rw [HQ2.out, HT2.out, e1]
                exact rl_pre_pre ts m _
              · exact Or.inr ⟨n, j, k, ts, e2, e3, by rw [HQ2.out, HT2.out, e1]; rfl⟩
            case measure =>
              rw [HM.out]
              rcases H3.out with ⟨m, k, e1, e2⟩ | ⟨n, j, k, e1, e2, e3⟩
              · have hk := lineR_le (s := s) (i := q + 1) (by omega) e1
                rw [e2.2.c2, e2.2.c1]
                simp [intOf]
                omega
              · rw [e3.2.c2]
                simp [intOf, e2]
                omega
          · have HB : Hid (linesR s 0 = .bad 2 q) := by unfold Hid; rw [HL.out]; unfold tailR; rw [if_neg c, if_neg (by omega)]; rfl
            have HNd : Hid (Calls Tryz.prog 54 #[.pointer (some ⟨w.heap.size, 0, none⟩), .int .i64 10] wr fun e w' => e = .returned (.tuple #[]) ∧ Ps (penL w s) w.heap.size s u6 ts q 2 q w') := (need_bad wr w.heap.size q s 0 10 HP.out.2 (by omega) (by omega) c).mono fun e w' ho => ⟨ho.1, HP.out.mv ho.2⟩
            clear c HL
            go_wp2_with fail
            refine HNd.out.mono ?_
            rintro e w2 ⟨rfl, h2⟩
            go_wp2_with fail
            refine (HLd.out _ _ _ _ _ _ h2 (by omega)).mono ?_
            rintro e w3 ⟨rfl, h3⟩
            have H3 : Hid (Ps (penL w s) w.heap.size s u6 ts q 2 q w3) := h3
            clear h3 h2 p0 p1 p2 p3 pf
            go_wp2_with fail
            go_roundw
            case rel => exact Or.inr ⟨2, q, q, ts, by omega, H3.out, HB.out⟩
            case measure =>
              rw [HM.out, H3.out.2.c2]
              simp [intOf]
              omega
        · obtain rfl : q = s.size := by omega
          have HB : Hid (linesR s 0 = .ok ts s.size) := by unfold Hid; rw [HL.out]; unfold tailR; rw [if_neg (by rw [bt_end (Nat.le_refl _)]; decide), if_pos rfl]; simp [RL.pre]
          have HF : Hid (Below w.heap.size w wr) := fb_below HP.out.1.fb
          have HAl : Hid (Calls Tryz.prog 55 #[u6] wr (RisV wr wr.heap.size 30 (rise [] ts) 10)) := by
            have ho := HP.out.1.own
            rcases ho.2 with ⟨hv, h0⟩ | ⟨g, cap, cur, hv, hg, hh, _⟩
            · obtain rfl := List.length_eq_zero_iff.1 h0
              rw [hv]
              refine (all_nil wr).mono ?_
              rintro e w' ⟨rfl, rfl⟩
              exact ⟨_, rfl, own_nil _ _ _, Below.refl _ _⟩
            · rw [hv] at ho ⊢
              exact all_any wr g cap ts (Array.getElem?_eq_some_iff.1 hh).1 (own_lies ho) (by omega)
          clear HL HLine HLd
          cases hr : rise [] ts with
          | none =>
            have HA2 : Hid (Calls Tryz.prog 55 #[u6] wr fun e w' => e = .returned (.tuple #[.slice none 0 0, .int .i64 10, .int .i64 0]) ∧ Below wr.heap.size wr w') := by
              have := HAl.out
              rw [hr] at this
              exact this
            clear HAl
            go_wp2_with fail
            refine HA2.out.mono ?_
            rintro e w2 ⟨rfl, hb2⟩
            go_wp2_with fail
            refine bodyPost_ret (v := .tuple #[.slice none 0 0, .int .i64 10, .int .i64 0]) (by simp [results, Tryz.results24, go_sem]) rfl ?_
            show RdV w 30 s _ _
            unfold RdV
            rw [if_neg h1, HB.out]
            simp only
            rw [hr]
            exact ⟨rfl, HF.out.trans (hb2.mono HF.out.size)⟩
          | some set =>
            have HA2 : Hid (Calls Tryz.prog 55 #[u6] wr fun e w' => ∃ v', e = .returned (.tuple #[v', .int .i64 0, .int .i64 0]) ∧ w'.ownsRow wr.heap.size 30 3 v' set.length (cellsOf set) ∧ Below wr.heap.size wr w') := by
              have := HAl.out
              rw [hr] at this
              exact this
            clear HAl
            go_wp2_with fail
            refine HA2.out.mono ?_
            rintro e w2 ⟨v', rfl, ho2, hb2⟩
            have HO2 : Hid (w2.ownsRow wr.heap.size 30 3 v' set.length (cellsOf set)) := ho2
            have HB2 : Hid (Below wr.heap.size wr w2) := hb2
            clear ho2 hb2
            go_wp2_with fail
            refine bodyPost_ret (v := .tuple #[v', .int .i64 0, .int .i64 0]) (by simp [results, Tryz.results24, go_sem]) rfl ?_
            show RdV w 30 s _ _
            unfold RdV
            rw [if_neg h1, HB.out]
            simp only
            rw [hr]
            exact ⟨v', rfl, own_mono HO2.out HF.out.size, HF.out.trans (HB2.out.mono HF.out.size)⟩
      · have HF : Hid (Below w.heap.size w wr) := fb_below hP.1.fb
        obtain ⟨p0, p1, p2, p3, pf, pms, ple⟩ := hP.2
        have HL : Hid (linesR s 0 = .bad n j) := hl
        have hn1 : (n == 0) = false := by simpa using hn
        have hn2 : (n != 0) = true := by simpa using hn
        clear hP hl HV1 HLine HLd
        go_wp2_with fail
        go_quiet (fail)
        go_wp2_with fail
        refine bodyPost_ret (v := .tuple #[.slice none 0 0, .int .i64 n, .int .i64 j]) (by simp [results, Tryz.results24, go_sem]) rfl ?_
        show RdV w 30 s _ _
        unfold RdV
        rw [if_neg h1, HL.out]
        exact ⟨rfl, below_drewN HF.out _⟩

end Ref
end Go.Proofs.YtnffjoipinhojaaGreatDoor

