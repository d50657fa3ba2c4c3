import Derived.Test.YtnffjoipinhojabGreatDoorK10
import Derived.Deep.AppendLies
import Derived.OwnWalk
import Derived.Lib.ItoaNum
set_option linter.unusedSimpArgs false
set_option linter.unusedVariables false
namespace Go.Proofs.YtnffjoipinhojabGreatDoor
open Go.RowKit

/-! Lines, plainly. -/

/-- behind the blanks -/
def skipB (s : ByteArray) (i : Nat) : Nat := if h : bt s i = 32 ∨ bt s i = 9 then skipB s (i + 1) else i
termination_by s.size - i
decreasing_by
  have : i < s.size := by
    rcases h with h | h <;> exact bt_in h (by omega)
  omega
theorem skipB_on {s : ByteArray} {i : Nat} (h : bt s i = 32 ∨ bt s i = 9) : skipB s i = skipB s (i + 1) := by rw [skipB, dif_pos h]
theorem skipB_end {s : ByteArray} {i : Nat} (h : ¬ (bt s i = 32 ∨ bt s i = 9)) : skipB s i = i := by rw [skipB, dif_neg h]

/-- the line's end -/
def skipL (s : ByteArray) (i : Nat) : Nat := if h : i < s.size then (if bt s i = 10 then i else skipL s (i + 1)) else i
termination_by s.size - i
theorem skipL_on {s : ByteArray} {i : Nat} (h : i < s.size) (h2 : bt s i ≠ 10) : skipL s i = skipL s (i + 1) := by rw [skipL, dif_pos h, if_neg h2]
theorem skipL_end {s : ByteArray} {i : Nat} (h : ¬ i < s.size ∨ bt s i = 10) : skipL s i = i := by
  rw [skipL]
  split
  · rename_i h1
    rw [if_pos (by rcases h with h | h; exact absurd h1 h; exact h)]
  · rfl

def cmt (s : ByteArray) (i : Nat) : Nat := if bt s i = 35 then skipL s i else i

theorem skipB_le (s : ByteArray) : ∀ n i, s.size - i < n → i ≤ skipB s i ∧ (i ≤ s.size → skipB s i ≤ s.size) := by
  intro n
  induction n with
  | zero => intro i h; omega
  | succ n ih =>
    intro i h
    by_cases hb : bt s i = 32 ∨ bt s i = 9
    · have hlt : i < s.size := by rcases hb with h | h <;> exact bt_in h (by omega)
      rw [skipB_on hb]
      have := ih (i + 1) (by omega)
      omega
    · rw [skipB_end hb]
      omega
theorem skipL_le (s : ByteArray) : ∀ n i, s.size - i < n → i ≤ skipL s i ∧ (i ≤ s.size → skipL s i ≤ s.size) := by
  intro n
  induction n with
  | zero => intro i h; omega
  | succ n ih =>
    intro i h
    by_cases hb : i < s.size ∧ bt s i ≠ 10
    · rw [skipL_on hb.1 hb.2]
      have := ih (i + 1) (by omega)
      omega
    · rw [skipL_end (by by_cases h1 : i < s.size; exact Or.inr (by by_cases h2 : bt s i = 10; exact h2; exact absurd ⟨h1, h2⟩ hb); exact Or.inl h1)]
      omega
theorem skipB_ge (s : ByteArray) (i : Nat) : i ≤ skipB s i := (skipB_le s _ i (Nat.lt_succ_self _)).1
theorem skipB_sz {s : ByteArray} {i : Nat} (h : i ≤ s.size) : skipB s i ≤ s.size := (skipB_le s _ i (Nat.lt_succ_self _)).2 h
theorem cmt_ge (s : ByteArray) (i : Nat) : i ≤ cmt s i := by
  unfold cmt
  split
  · exact (skipL_le s _ i (Nat.lt_succ_self _)).1
  · exact Nat.le_refl _
theorem cmt_sz {s : ByteArray} {i : Nat} (h : i ≤ s.size) : cmt s i ≤ s.size := by
  unfold cmt
  split
  · exact (skipL_le s _ i (Nat.lt_succ_self _)).2 h
  · exact h

/-- what was read, and where the reading stands; or an error's number and its place -/
inductive RL (α : Type) where
  | ok (a : α) (j : Nat)
  | bad (n : Int) (j : Nat)

structure Tri where
  s : List UInt8
  p : List UInt8
  o : List UInt8

def lterm (s : ByteArray) (i : Nat) (ks : List Nat) : RL (List UInt8) := match termOf s i ks with
  | .bad j => .bad 2 j
  | .ok x j => if 200 < x.2.length then .bad 4 i else .ok x.2 j

def sentence (s : ByteArray) (i : Nat) : RL Tri := match lterm s i [1, 2] with
  | .bad n j => .bad n j
  | .ok a j => match lterm s (skipB s j) [1] with
    | .bad n j => .bad n j
    | .ok b j => match lterm s (skipB s j) [1, 2, 3] with
      | .bad n j => .bad n j
      | .ok c j => if bt s (skipB s j) = 46 then .ok ⟨a, b, c⟩ (skipB s j + 1) else .bad 2 (skipB s j)

def lineR (s : ByteArray) (i : Nat) : RL (List Tri) :=
  if bt s (skipB s i) = 256 ∨ bt s (skipB s i) = 10 ∨ bt s (skipB s i) = 35 then .ok [] (cmt s (skipB s i))
  else match sentence s (skipB s i) with
    | .bad n j => .bad n j
    | .ok t j => .ok [t] (cmt s (skipB s j))

theorem readK_le {s : ByteArray} {i k : Nat} {l : List UInt8} {j : Nat} (h : readK k s i = .ok l j) : i < j ∧ j ≤ s.size := by
  unfold readK at h
  split at h
  · exact ⟨(iri_len h).2.1, (iri_len h).2.2.1⟩
  · split at h
    · unfold blank at h
      repeat' split at h
      all_goals first | cases h | skip
      have hle := (run_le alnum (fun c hc => by have := alnum_lt hc; omega) s 20 (i + 2)).2
      omega
    · unfold literal at h
      split at h
      · cases h
      · rename_i p m hp
        cases h
        exact ⟨(parts_facts hp).2.2.2.2.2.2, (parts_facts hp).2.2.2.2.2.1⟩

theorem termOf_le {s : ByteArray} {i : Nat} : ∀ {ks : List Nat} {x : Nat × List UInt8} {j : Nat}, termOf s i ks = .ok x j → i < j ∧ j ≤ s.size
  | [], x, j, h => by cases h
  | k :: ks, x, j, h => by
    unfold termOf at h
    split at h
    · split at h
      · cases h
      · rename_i l k' hr
        cases h
        exact readK_le hr
    · exact termOf_le h

theorem lterm_le {s : ByteArray} {i : Nat} {ks : List Nat} {l : List UInt8} {j : Nat} (h : lterm s i ks = .ok l j) : i < j ∧ j ≤ s.size := by
  unfold lterm at h
  split at h
  · cases h
  · rename_i x k ht
    split at h
    · cases h
    · cases h
      exact termOf_le ht

theorem sentence_le {s : ByteArray} {i : Nat} {t : Tri} {j : Nat} (h : sentence s i = .ok t j) : i < j ∧ j ≤ s.size := by
  unfold sentence at h
  split at h
  · cases h
  · rename_i a j1 h1
    split at h
    · cases h
    · rename_i b j2 h2
      split at h
      · cases h
      · rename_i c j3 h3
        split at h
        · rename_i hd
          cases h
          have e1 := lterm_le h1
          have e2 := lterm_le h2
          have e3 := lterm_le h3
          have g1 := skipB_ge s j1
          have g2 := skipB_ge s j2
          have g3 := skipB_ge s j3
          have := bt_in hd (by omega)
          omega
        · cases h

theorem lineR_le {s : ByteArray} {i : Nat} (hi : i ≤ s.size) {l : List Tri} {j : Nat} (h : lineR s i = .ok l j) : i ≤ j ∧ j ≤ s.size := by
  have g1 := skipB_ge s i
  have g2 := skipB_sz hi
  unfold lineR at h
  split at h
  · cases h
    have := cmt_ge s (skipB s i)
    have := cmt_sz g2
    omega
  · split at h
    · cases h
    · rename_i t k hs
      cases h
      have hl := sentence_le hs
      have := skipB_ge s k
      have h2 := skipB_sz hl.2
      have := cmt_ge s (skipB s k)
      have := cmt_sz h2
      omega

def RL.pre {α : Type} (l : List α) : RL (List α) → RL (List α)
  | .ok m j => .ok (l ++ m) j
  | .bad n j => .bad n j

/-- all lines from i on -/
def linesR (s : ByteArray) (i : Nat) : RL (List Tri) := match h : lineR s i with
  | .bad n j => .bad n j
  | .ok l j => if hc : bt s j = 10 ∧ i ≤ s.size then (linesR s (j + 1)).pre l else if j = s.size then .ok l j else .bad 2 j
termination_by s.size - i
decreasing_by
  have h1 := bt_in hc.1 (by omega)
  have h2 := lineR_le hc.2 h
  omega

/-! The program's reader of lines: the scan's reader is its first field. -/

/-- what a reading within lines ends in -/
def LOut {α : Type} (b : Nat) (w : World) (f : α → Value) (r : RL α) (e : Ending) (w' : World) : Prop :=
  match r with
  | .ok a j => e = .returned (f a) ∧ Adv b j w w'
  | .bad n j => e = stopE n j ∧ ∃ k, Adv b k w w'

set_option maxHeartbeats 1000000 in
theorem blanks_any (w : World) (b i : Nat) (s : ByteArray) (h : Rd w b s i) :
    Calls Tryz.prog 105 #[.pointer (some ⟨b, 0, none⟩)] w fun e w' => e = .returned (.tuple #[]) ∧ Adv b (skipB s i) w w' := by
  have H0 : Hid (Rd w b s i) := h
  have HA0 : Hid (Adv b i w w) := h.stayN 0
  clear h
  go_enter Tryz.func105, Tryz.ntmps105
  go_wp2_with fail
  go_loopw [] (fun wr => ∃ q, Rd wr b s q ∧ Adv b q w wr ∧ skipB s q = skipB s i) (fun wr => s.size - posOf wr b)
  case atStart => exact ⟨i, H0.out, HA0.out, rfl⟩
  case round =>
    obtain ⟨q, hR, hA, hq⟩ := hrel
    have HR : Hid (Rd wr b s q) := hR
    have HA : Hid (Adv b q w wr) := hA
    have HP : Hid (posOf wr b = q) := hR.pos
    have T1 := take_any wr b q s 32 hR (by omega) (by omega)
    clear hR hA
    by_cases c1 : bt s q = 32
    · have hlt := bt_in c1 (by omega)
      have HQ : Hid (skipB s (q + 1) = skipB s i) := by unfold Hid; rw [← hq, skipB_on (Or.inl c1)]
      rw [if_pos c1, decide_eq_true c1] at T1
      have HT : Hid (Calls Tryz.prog 64 #[.pointer (some ⟨b, 0, none⟩), .int .u8 32] wr fun e w' => e = .returned (.bool true) ∧ Adv b (q + 1) wr w') := T1
      clear T1 c1 hq
      go_wp2_with fail
      refine HT.out.mono ?_
      rintro e w2 ⟨rfl, hA2⟩
      have HR2 : Hid (Rd w2 b s (q + 1)) := HR.out.adv hA2 (by omega)
      have HA2 : Hid (Adv b (q + 1) w w2) := HA.out.trans hA2
      clear hA2
      go_wp2_with fail
      go_roundw
      case rel => exact ⟨q + 1, HR2.out, HA2.out, HQ.out⟩
      case measure => rw [HR2.out.pos, HP.out]; omega
    · rw [if_neg c1, decide_eq_false c1] at T1
      have HT : Hid (Calls Tryz.prog 64 #[.pointer (some ⟨b, 0, none⟩), .int .u8 32] wr fun e w' => e = .returned (.bool false) ∧ Adv b q wr w') := T1
      by_cases c2 : bt s q = 9
      · have hlt := bt_in c2 (by omega)
        have HQ : Hid (skipB s (q + 1) = skipB s i) := by unfold Hid; rw [← hq, skipB_on (Or.inr c2)]
        have HT2 : Hid (∀ w2, Rd w2 b s q → Calls Tryz.prog 64 #[.pointer (some ⟨b, 0, none⟩), .int .u8 9] w2 fun e w' => e = .returned (.bool true) ∧ Adv b (q + 1) w2 w') := by
          intro w2 h2
          have := take_any w2 b q s 9 h2 (by omega) (by omega)
          rw [if_pos c2, decide_eq_true c2] at this
          exact this
        clear T1 c1 c2 hq
        go_wp2_with fail
        refine HT.out.mono ?_
        rintro e w2 ⟨rfl, hA2⟩
        have hR2 := HR.out.adv hA2 HR.out.le
        have HA2 : Hid (Adv b q w w2) := HA.out.trans hA2
        clear hA2
        go_wp2_with fail
        refine (HT2.out _ hR2).mono ?_
        rintro e w3 ⟨rfl, hA3⟩
        have HR3 : Hid (Rd w3 b s (q + 1)) := hR2.adv hA3 (by omega)
        have HA3 : Hid (Adv b (q + 1) w w3) := HA2.out.trans hA3
        clear hA3 hR2
        go_wp2_with fail
        go_roundw
        case rel => exact ⟨q + 1, HR3.out, HA3.out, HQ.out⟩
        case measure => rw [HR3.out.pos, HP.out]; omega
      · have HQ : Hid (skipB s i = q) := by unfold Hid; rw [← hq, skipB_end (by omega)]
        have HT2 : Hid (∀ w2, Rd w2 b s q → Calls Tryz.prog 64 #[.pointer (some ⟨b, 0, none⟩), .int .u8 9] w2 fun e w' => e = .returned (.bool false) ∧ Adv b q w2 w') := by
          intro w2 h2
          have := take_any w2 b q s 9 h2 (by omega) (by omega)
          rw [if_neg c2, decide_eq_false c2] at this
          exact this
        clear T1 c1 c2 hq
        go_wp2_with fail
        refine HT.out.mono ?_
        rintro e w2 ⟨rfl, hA2⟩
        have hR2 := HR.out.adv hA2 HR.out.le
        have HA2 : Hid (Adv b q w w2) := HA.out.trans hA2
        clear hA2
        go_wp2_with fail
        refine (HT2.out _ hR2).mono ?_
        rintro e w3 ⟨rfl, hA3⟩
        have HA3 : Hid (Adv b q w w3) := HA2.out.trans hA3
        clear hA3 hR2
        go_wp2_with fail
        go_end0
        exact ⟨rfl, by rw [HQ.out]; exact HA3.out⟩

theorem lineEnded_any (w : World) (b i : Nat) (s : ByteArray) (h : Rd w b s i) :
    Calls Tryz.prog 106 #[.pointer (some ⟨b, 0, none⟩)] w fun e w' => e = .returned (.bool (decide (bt s i = 256 ∨ bt s i = 10))) ∧ ∃ n, w' = w.drewN n := by
  have H1 := ended_any w b i s h
  have H2 : Hid (∀ n, Calls Tryz.prog 107 #[.pointer (some ⟨b, 0, none⟩), .int .u8 10] (w.drewN n) fun e w' => e = .returned (.bool (decide (bt s i = 10))) ∧ ∃ m, w' = (w.drewN n).drewN m) := fun n => sees_any _ b i s 10 (h.drewN n) (by omega) (by omega)
  have hle := h.le
  by_cases hi : i = s.size
  · have hb := bt_end (s := s) (i := i) (by omega)
    rw [decide_eq_true hi] at H1
    have H1' : Hid (Calls Tryz.prog 110 #[.pointer (some ⟨b, 0, none⟩)] w fun e w' => e = .returned (.bool true) ∧ ∃ n, w' = w.drewN n) := H1
    clear H1 H2 h
    go_enter Tryz.func106, Tryz.ntmps106
    go_wp2_with fail
    refine H1'.out.mono ?_
    rintro e w2 ⟨rfl, n, rfl⟩
    go_wp2_with fail
    go_ret
    exact ⟨ret_bool (by simp [hb]), n, rfl⟩
  · have hlt := bt_lt (s := s) (i := i) (by omega)
    have h256 : bt s i ≠ 256 := by have := s[i].toNat_lt; omega
    rw [decide_eq_false hi] at H1
    have H1' : Hid (Calls Tryz.prog 110 #[.pointer (some ⟨b, 0, none⟩)] w fun e w' => e = .returned (.bool false) ∧ ∃ n, w' = w.drewN n) := H1
    have HV : Hid (decide (bt s i = 256 ∨ bt s i = 10) = decide (bt s i = 10)) := by unfold Hid; simp [h256]
    rw [HV.out]
    generalize decide (bt s i = 10) = v at *
    clear H1 h HV hlt h256
    go_enter Tryz.func106, Tryz.ntmps106
    go_wp2_with fail
    refine H1'.out.mono ?_
    rintro e w2 ⟨rfl, n, rfl⟩
    go_wp2_with fail
    refine (H2.out n).mono ?_
    rintro e w3 ⟨rfl, m, rfl⟩
    go_wp2_with fail
    go_ret
    exact ⟨rfl, n + m, rfl⟩

end Go.Proofs.YtnffjoipinhojabGreatDoor

namespace Go.Proofs.YtnffjoipinhojabGreatDoor
open Go.RowKit

set_option maxHeartbeats 1000000 in
theorem skipLine_any (w : World) (b i : Nat) (s : ByteArray) (h : Rd w b s i) :
    Calls Tryz.prog 154 #[.pointer (some ⟨b, 0, none⟩)] w fun e w' => e = .returned (.tuple #[]) ∧ Adv b (skipL s i) w w' := by
  have H0 : Hid (Rd w b s i) := h
  have HA0 : Hid (Adv b i w w) := h.stayN 0
  clear h
  go_enter Tryz.func154, Tryz.ntmps154
  go_wp2_with fail
  go_loopw [] (fun wr => ∃ q, Rd wr b s q ∧ Adv b q w wr ∧ skipL s q = skipL s i) (fun wr => s.size - posOf wr b)
  case atStart => exact ⟨i, H0.out, HA0.out, rfl⟩
  case round =>
    obtain ⟨q, hR, hA, hq⟩ := hrel
    have HR : Hid (Rd wr b s q) := hR
    have HA : Hid (Adv b q w wr) := hA
    have HP : Hid (posOf wr b = q) := hR.pos
    have T1 := ended_any wr b q s hR
    have HS : Hid (∀ n, Calls Tryz.prog 107 #[.pointer (some ⟨b, 0, none⟩), .int .u8 10] (wr.drewN n) fun e w' => e = .returned (.bool (decide (bt s q = 10))) ∧ ∃ m, w' = (wr.drewN n).drewN m) := fun n => sees_any _ b q s 10 (HR.out.drewN n) (by omega) (by omega)
    have hle := hR.le
    have hms := hR.ms
    obtain ⟨c0, c1, fz, le, hs⟩ := hR
    clear hA
    by_cases c1 : q = s.size
    · have HQ : Hid (skipL s i = q) := by unfold Hid; rw [← hq, skipL_end (Or.inl (by omega))]
      rw [decide_eq_true c1] at T1
      have HT : Hid (Calls Tryz.prog 110 #[.pointer (some ⟨b, 0, none⟩)] wr fun e w' => e = .returned (.bool true) ∧ ∃ n, w' = wr.drewN n) := T1
      clear T1 hq HS c1
      go_wp2_with fail
      refine HT.out.mono ?_
      rintro e w2 ⟨rfl, n, rfl⟩
      go_wp2_with fail
      go_end0
      exact ⟨rfl, by rw [HQ.out]; exact HA.out.trans (HR.out.stayN n)⟩
    · rw [decide_eq_false c1] at T1
      have HT : Hid (Calls Tryz.prog 110 #[.pointer (some ⟨b, 0, none⟩)] wr fun e w' => e = .returned (.bool false) ∧ ∃ n, w' = wr.drewN n) := T1
      by_cases c2 : bt s q = 10
      · have HQ : Hid (skipL s i = q) := by unfold Hid; rw [← hq, skipL_end (Or.inr c2)]
        rw [decide_eq_true c2] at HS
        clear T1 hq c1 c2
        go_wp2_with fail
        refine HT.out.mono ?_
        rintro e w2 ⟨rfl, n, rfl⟩
        go_wp2_with fail
        refine (HS.out n).mono ?_
        rintro e w3 ⟨rfl, m, rfl⟩
        go_wp2_with fail
        go_end0
        exact ⟨rfl, by rw [HQ.out]; exact HA.out.trans (HR.out.stayN _)⟩
      · have HQ : Hid (skipL s (q + 1) = skipL s i) := by unfold Hid; rw [← hq, skipL_on (by omega) c2]
        rw [decide_eq_false c2] at HS
        have hlt : q < s.size := by omega
        clear T1 hq c2
        go_wp2_with fail
        refine HT.out.mono ?_
        rintro e w2 ⟨rfl, n, rfl⟩
        go_wp2_with fail
        refine (HS.out n).mono ?_
        rintro e w3 ⟨rfl, m, rfl⟩
        go_wp2_with fail
        have hA3 := (HR.out.stayN (n + m)).trans (Adv.set b (q + 1) (wr.drewN (n + m)) 0)
        go_roundw
        case rel => exact ⟨q + 1, HR.out.adv hA3 (by omega), HA.out.trans hA3, HQ.out⟩
        case measure =>
          have hpz : posOf ((wr.drewN (n + m)).setCell ⟨b, 1, none⟩ (.int .i64 ((q : Int) + 1))) b = q + 1 := (HR.out.adv hA3 (by omega)).pos
          rw [hpz, HP.out]
          omega

theorem comment_any (w : World) (b i : Nat) (s : ByteArray) (h : Rd w b s i) :
    Calls Tryz.prog 109 #[.pointer (some ⟨b, 0, none⟩)] w fun e w' => e = .returned (.tuple #[]) ∧ Adv b (cmt s i) w w' := by
  have H1 := sees_any w b i s 35 h (by omega) (by omega)
  have H2 : Hid (∀ n, Calls Tryz.prog 154 #[.pointer (some ⟨b, 0, none⟩)] (w.drewN n) fun e w' => e = .returned (.tuple #[]) ∧ Adv b (skipL s i) (w.drewN n) w') := fun n => skipLine_any _ b i s (h.drewN n)
  have H : Hid (Rd w b s i) := h
  by_cases hc : bt s i = 35
  · have HC : Hid (cmt s i = skipL s i) := by unfold Hid cmt; rw [if_pos hc]
    rw [decide_eq_true hc] at H1
    rw [HC.out]
    clear h hc
    go_enter Tryz.func109, Tryz.ntmps109
    go_wp2_with fail
    refine H1.mono ?_
    rintro e w2 ⟨rfl, n, rfl⟩
    go_wp2_with fail
    refine (H2.out n).mono ?_
    rintro e w3 ⟨rfl, hA⟩
    go_wp2_with fail
    go_end0
    exact ⟨rfl, (H.out.stayN n).trans hA⟩
  · have HC : Hid (cmt s i = i) := by unfold Hid cmt; rw [if_neg hc]
    rw [decide_eq_false hc] at H1
    rw [HC.out]
    clear h hc H2
    go_enter Tryz.func109, Tryz.ntmps109
    go_wp2_with fail
    refine H1.mono ?_
    rintro e w2 ⟨rfl, n, rfl⟩
    go_wp2_with fail
    go_end0
    exact ⟨rfl, H.out.stayN n⟩

theorem field_form (k : Int) (V : ByteArray) (w : World) : (Instr.field 207 (.agg #[.int .i64 k, .string V]) 1).run Tryz.prog w = .ok (.string V) w := by kernel_rfl

set_option maxHeartbeats 1000000 in
set_option maxRecDepth 20000 in
theorem lterm_any (w : World) (b i m n cap : Nat) (s : ByteArray) (h : Rd w b s i) (hT : Tabs w) (hb4 : 8 ≤ b) (hsz : s.size ≤ 1099511627776) (ks : List Nat) (hks : ∀ k ∈ ks, k = 1 ∨ k = 2 ∨ k = 3) (hn : ks.length = n) (hn9 : n ≤ 9)
    (hm : ∀ j k, ks[j]? = some k → w.cell? ⟨m, j, none⟩ = some (.int .i64 (k : Nat))) (hmw : m < w.heap.size) :
    Calls Tryz.prog 170 #[.pointer (some ⟨b, 0, none⟩), .slice (some ⟨m, 0, none⟩) n cap] w (LOut b w str (lterm s i ks)) := by
  have HPl : Hid (Calls Tryz.prog 90 #[.pointer (some ⟨b, 0, none⟩)] w fun e w' => e = .returned (.int .i64 i) ∧ w' = w) := place_any w b i s h
  have hO := termOf_any w b i m n cap s h hT hb4 hsz ks hks hn hn9 hm hmw
  have hff := field_form
  cases ht : termOf s i ks with
  | bad j =>
    rw [ht] at hO
    have HO : Hid (Calls Tryz.prog 185 #[.pointer (some ⟨b, 0, none⟩), .slice (some ⟨m, 0, none⟩) n cap] w fun e w' => e = stopE 2 j ∧ ∃ k, Adv b k w w') := hO
    have HR : Hid (lterm s i ks = .bad 2 j) := by unfold Hid lterm; rw [ht]
    rw [HR.out]
    clear hO ht h hT hks hn hm
    go_enter Tryz.func170, Tryz.ntmps170
    go_wp2_with fail
    refine HPl.out.mono ?_
    rintro e w2 ⟨rfl, rfl⟩
    go_wp2_with fail
    refine HO.out.mono ?_
    rintro e w3 ⟨rfl, k, hA⟩
    exact ⟨rfl, rfl, k, hA⟩
  | ok x j =>
    rw [ht] at hO
    obtain ⟨V, hV⟩ : ∃ V : ByteArray, V = ⟨x.2.toArray⟩ := ⟨_, rfl⟩
    have hVl : V.size = x.2.length := by rw [hV]; show x.2.toArray.size = _; simp
    obtain ⟨k, hk⟩ : ∃ k : Nat, k = x.1 := ⟨_, rfl⟩
    have HO : Hid (Calls Tryz.prog 185 #[.pointer (some ⟨b, 0, none⟩), .slice (some ⟨m, 0, none⟩) n cap] w fun e w' => e = .returned (.agg #[.int .i64 k, .string V]) ∧ Adv b j w w') := by unfold Hid; rw [hV, hk]; exact hO
    by_cases h200 : 200 < x.2.length
    · have HR : Hid (lterm s i ks = .bad 4 i) := by unfold Hid lterm; rw [ht]; simp only; rw [if_pos h200]
      rw [HR.out]
      rw [← hVl] at h200
      clear hO ht h hT hks hn hm hV hVl hk
      go_enter Tryz.func170, Tryz.ntmps170
      go_wp2_with fail
      refine HPl.out.mono ?_
      rintro e w2 ⟨rfl, rfl⟩
      go_wp2_with fail
      refine HO.out.mono ?_
      rintro e w3 ⟨rfl, hA⟩
      go_wp2_with fail
      refine (Refuse_any _ _ _).mono ?_
      rintro e w4 ⟨rfl, rfl⟩
      exact ⟨rfl, rfl, j, hA⟩
    · have HR : Hid (lterm s i ks = .ok x.2 j) := by unfold Hid lterm; rw [ht]; simp only; rw [if_neg h200]
      have HV : Hid (V = ⟨x.2.toArray⟩) := hV
      rw [HR.out]
      rw [← hVl] at h200
      clear hO ht h hT hks hn hm hV hVl hk
      go_enter Tryz.func170, Tryz.ntmps170
      go_wp2_with fail
      refine HPl.out.mono ?_
      rintro e w2 ⟨rfl, rfl⟩
      go_wp2_with fail
      refine HO.out.mono ?_
      rintro e w3 ⟨rfl, hA⟩
      go_wp2_with fail
      go_ret
      exact ⟨by rw [HV.out]; rfl, hA⟩

end Go.Proofs.YtnffjoipinhojabGreatDoor

namespace Go.Proofs.YtnffjoipinhojabGreatDoor
open Go.RowKit

/-- sentences as cells -/
def cellsOf (ts : List Tri) : List Value := ts.flatMap fun t => [str t.s, str t.p, str t.o]
theorem cellsOf_len (ts : List Tri) : (cellsOf ts).length = ts.length * 3 := by
  induction ts with
  | nil => rfl
  | cons t l ih =>
    unfold cellsOf at ih ⊢
    rw [List.flatMap_cons, List.length_append, ih]
    simp
    omega
theorem cellsOf_app (ts us : List Tri) : cellsOf (ts ++ us) = cellsOf ts ++ cellsOf us := by unfold cellsOf; simp

/-- all that lay in w0 lies as it did, but for block b -/
structure Fb (w0 : World) (b : Nat) (w : World) : Prop where
  size : w0.heap.size ≤ w.heap.size
  os : w.os = w0.os ∧ w.tape = w0.tape ∧ w.output = w0.output
  but : ∀ k, k < w0.heap.size → k ≠ b → w.heap[k]? = w0.heap[k]?

theorem Fb.adv {w0 w w' : World} {b j : Nat} (h : Fb w0 b w) (a : Adv b j w w') : Fb w0 b w' :=
  ⟨Nat.le_trans h.size a.size, ⟨a.os.trans h.os.1, a.tape.trans h.os.2.1, a.output.trans h.os.2.2⟩, fun k hk hb => (a.other (Nat.lt_of_lt_of_le hk h.size) hb).trans (h.but k hk hb)⟩
theorem Fb.below {w0 w w' : World} {b : Nat} (h : Fb w0 b w) (a : Below w.heap.size w w') : Fb w0 b w' :=
  ⟨Nat.le_trans h.size a.size, ⟨a.os.trans h.os.1, a.tape.trans h.os.2.1, a.output.trans h.os.2.2⟩, fun k hk hb => (a.block k (Nat.lt_of_lt_of_le hk h.size)).trans (h.but k hk hb)⟩

/-- the reader of lines in block b: it stands at i, and has found ts -/
structure Ld (w0 : World) (b : Nat) (s : ByteArray) (i : Nat) (ts : List Tri) (w : World) : Prop where
  rd : Rd w b s i
  fz : w.frozen? ⟨b, 2, none⟩ = false
  own : ∃ v, w.cell? ⟨b, 2, none⟩ = some v ∧ w.ownsRow w0.heap.size 44 3 v ts.length (cellsOf ts)
  fb : Fb w0 b w
  lt : b < w0.heap.size

theorem own_same {w w' : World} {base : Nat} {e : TypeId} {size : Nat} {v : Value} {n : Nat} {xs : List Value} (h : w.ownsRow base e size v n xs) (hb : ∀ g, base ≤ g → g < w.heap.size → w'.heap[g]? = w.heap[g]?) : w'.ownsRow base e size v n xs := by
  refine ⟨h.1, h.2.elim Or.inl fun ⟨g, cap, cur, hv, hg, hh, r⟩ => Or.inr ⟨g, cap, cur, hv, hg, ?_, r⟩⟩
  rw [hb g hg (Array.getElem?_eq_some_iff.1 hh).1]
  exact hh

theorem Ld.adv {w0 w w' : World} {b i j : Nat} {s : ByteArray} {ts : List Tri} (h : Ld w0 b s i ts w) (a : Adv b j w w') (hj : j ≤ s.size) : Ld w0 b s j ts w' := by
  obtain ⟨v, hc, ho⟩ := h.own
  have hbw := h.rd.lt
  refine ⟨h.rd.adv a hj, ?_, ⟨v, (a.cell hbw (by omega)).trans hc, own_same ho fun g hg hlt => a.other hlt (by have := h.lt; omega)⟩, h.fb.adv a, h.lt⟩
  have := h.fz
  rw [Below.frozen a (p := ⟨b, 2, none⟩) hbw]
  exact (World.frozen?_setCell _ _ _ _).trans this

theorem Ld.below {w0 w w' : World} {b i : Nat} {s : ByteArray} {ts : List Tri} (h : Ld w0 b s i ts w) (a : Below w.heap.size w w') : Ld w0 b s i ts w' := h.adv (Adv.of_below h.rd.c1 a) h.rd.le

theorem Ld.tabs {w0 w : World} {b i : Nat} {s : ByteArray} {ts : List Tri} (h : Ld w0 b s i ts w) (hT : Tabs w0) (hb : 8 ≤ b) : Tabs w := by
  have hB : Below b w0 w := ⟨h.fb.os.1, h.fb.os.2.1, h.fb.os.2.2, h.fb.size, fun k hk => h.fb.but k (by have := h.lt; omega) (by omega)⟩
  exact hT.below hB (by omega) (by omega)

/-- a term of one of the kinds, read by the reader of lines -/
theorem ltermOn (w0 w : World) (b i : Nat) (s : ByteArray) (ts : List Tri) (h : Ld w0 b s i ts w) (hT : Tabs w0) (hb : 8 ≤ b) (hsz : s.size ≤ 1099511627776) (ks : List Nat) (hks : ∀ k ∈ ks, k = 1 ∨ k = 2 ∨ k = 3) (hn9 : ks.length ≤ 9) (n : Nat) (hn : n = ks.length)
    (w1 : World) (hw1 : w1 = w.alloc (.cells (ks.map fun k => Value.int .i64 (k : Nat)).toArray 144)) :
    Calls Tryz.prog 170 #[.pointer (some ⟨b, 0, none⟩), .slice (some ⟨w.heap.size, 0, none⟩) n n] w1 fun e w' =>
      match lterm s i ks with
      | .ok l j => e = .returned (str l) ∧ Ld w0 b s j ts w'
      | .bad m j => e = stopE m j ∧ Fb w0 b w' := by
  have hB : Below w.heap.size w w1 := by rw [hw1]; exact (Below.refl _ w).alloc (Nat.le_refl _) _
  have h1 := h.below hB
  have hh : w1.heap[w.heap.size]? = some (.cells (ks.map fun k => Value.int .i64 (k : Nat)).toArray 144) := by rw [hw1]; exact heap_new _ _
  have hL := lterm_any w1 b i w.heap.size n n s h1.rd (h1.tabs hT hb) hb hsz ks hks hn.symm (by omega) (fun j k hk => by
    rw [Lib.cell_of_heap hh]
    simp [hk]) (Array.getElem?_eq_some_iff.1 hh).1
  refine hL.mono ?_
  intro e w' ho
  cases hl : lterm s i ks with
  | ok l j =>
    rw [hl] at ho
    exact ⟨ho.1, h1.adv ho.2 (lterm_le hl).2⟩
  | bad m j =>
    rw [hl] at ho
    obtain ⟨h2, k, hA⟩ := ho
    exact ⟨h2, h1.fb.adv hA⟩

theorem blanksOn (w0 w : World) (b i : Nat) (s : ByteArray) (ts : List Tri) (h : Ld w0 b s i ts w) :
    Calls Tryz.prog 105 #[.pointer (some ⟨b, 0, none⟩)] w fun e w' => e = .returned (.tuple #[]) ∧ Ld w0 b s (skipB s i) ts w' :=
  (blanks_any w b i s h.rd).mono fun e w' ho => ⟨ho.1, h.adv ho.2 (skipB_sz h.rd.le)⟩

end Go.Proofs.YtnffjoipinhojabGreatDoor

namespace Go.Proofs.YtnffjoipinhojabGreatDoor
open Go.RowKit

theorem infoTri : (Tryz.prog.info? 44).map (fun i => (i.zero, i.size, i.bytes)) = some (some (.agg #[.string ⟨#[]⟩, .string ⟨#[]⟩, .string ⟨#[]⟩]), 3, 48) := by kernel_rfl

theorem own_block {w : World} {base : Nat} {e : TypeId} {size : Nat} {v : Value} {n : Nat} {xs : List Value} (h : w.ownsRow base e size v n xs) {k : Nat} (hk : v.ownBlock = some k) : base ≤ k := by
  rcases h.2 with ⟨rfl, _⟩ | ⟨g, cap, cur, rfl, hg, _⟩
  · cases hk
  · simp [Value.ownBlock] at hk
    omega

/-- what is found is kept -/
theorem Ld.found {w0 w w' : World} {b j g cap n : Nat} {s : ByteArray} {ts : List Tri} {t : Tri} {v : Value} {T : TypeId} (h : Ld w0 b s j ts w) (hv : w.cell? ⟨b, 2, none⟩ = some v) (hn : n = (ts ++ [t]).length)
    (ho : w.ownsRow w0.heap.size 44 3 v ts.length (cellsOf ts))
    (hown : w'.ownsRow w0.heap.size 44 3 (.slice (some ⟨g, 0, none⟩) n cap) n (cellsOf (ts ++ [t])))
    (hgr : (w.alloc (.cells #[str t.s, str t.p, str t.o] T)).grownBy w' v.ownBlock) :
    w'.heap[b]? = w.heap[b]? ∧ Ld w0 b s j (ts ++ [t]) (w'.setCell ⟨b, 2, none⟩ (.slice (some ⟨g, 0, none⟩) n cap)) := by
  have hbw := h.rd.lt
  have hblt := h.lt
  have hsz := h.fb.size
  have hold : ∀ k, k < w0.heap.size → w'.heap[k]? = w.heap[k]? := fun k hk => by
    rw [hgr.block k (by simp; omega) (fun e => by have := own_block ho e.symm; omega), Below.heap_alloc _ _ _ (by omega)]
  have hb := hold b hblt
  have hc2 : w'.cell? ⟨b, 2, none⟩ = some v := (World.cell?_of_block (a := ⟨b, 2, none⟩) hb).trans hv
  refine ⟨hb, ?_⟩
  have hr := h.rd
  refine ⟨⟨?_, ?_, ?_, hr.le, hr.ms⟩, ?_, ⟨_, World.cell?_setCell_same _ _ _ hc2, ?_⟩, ⟨?_, ?_, ?_⟩, hblt⟩
  · rw [World.cell?_setCell_other _ _ _ _ (fun e => by cases e)]
    exact (World.cell?_of_block (a := ⟨b, 0, none⟩) hb).trans hr.c0
  · rw [World.cell?_setCell_other _ _ _ _ (fun e => by cases e)]
    exact (World.cell?_of_block (a := ⟨b, 1, none⟩) hb).trans hr.c1
  · rw [World.frozen?_setCell]
    exact (World.frozen?_of_block (a := ⟨b, 1, none⟩) hb).trans hr.fz
  · rw [World.frozen?_setCell]
    exact (World.frozen?_of_block (a := ⟨b, 2, none⟩) hb).trans h.fz
  · rw [← hn]
    exact own_same hown fun k hk hlt => Below.heap_setCell _ _ _ _ (show k ≠ b by omega)
  · have := hgr.size
    simp at this
    simp
    omega
  · exact ⟨hgr.os.trans h.fb.os.1, hgr.tape.trans h.fb.os.2.1, hgr.output.trans h.fb.os.2.2⟩
  · intro k hk hkb
    rw [Below.heap_setCell _ _ _ _ hkb, hold k hk]
    exact h.fb.but k hk hkb

theorem wantOn (w0 w : World) (b i : Nat) (s : ByteArray) (ts : List Tri) (h : Ld w0 b s i ts w) (c : Int) (h0 : 0 ≤ c) (h1 : c < 256) (hc : bt s i = c) :
    Calls Tryz.prog 126 #[.pointer (some ⟨b, 0, none⟩), .int .u8 c] w fun e w' => e = .returned (.tuple #[]) ∧ Ld w0 b s (i + 1) ts w' :=
  (want_ok w b i s c h.rd h0 h1 hc).mono fun e w' ho => ⟨ho.1, h.adv ho.2 (bt_in hc h1)⟩

set_option maxHeartbeats 4000000 in
set_option maxRecDepth 20000 in
theorem sentence_any (w0 w : World) (b i : Nat) (s : ByteArray) (ts : List Tri) (h : Ld w0 b s i ts w) (hT : Tabs w0) (hb : 8 ≤ b) (hsz : s.size ≤ 1099511627776) (hc : ts.length ≤ 1099511627776) :
    Calls Tryz.prog 108 #[.pointer (some ⟨b, 0, none⟩)] w fun e w' => match sentence s i with
      | .ok t j => e = .returned (.tuple #[]) ∧ Ld w0 b s j (ts ++ [t]) w'
      | .bad n j => e = stopE n j ∧ Fb w0 b w' := by
  obtain ⟨i0, hi, hz0, hz1, hz2⟩ := info_parts infoTri
  have K1 : Hid (∀ i w, Ld w0 b s i ts w → Calls Tryz.prog 170 #[.pointer (some ⟨b, 0, none⟩), .slice (some ⟨w.heap.size, 0, none⟩) 2 2] (w.alloc (.cells #[.int .i64 1, .int .i64 2] 144)) fun e w' => match lterm s i [1, 2] with
      | .ok l j => e = .returned (str l) ∧ Ld w0 b s j ts w'
      | .bad m j => e = stopE m j ∧ Fb w0 b w') := fun i w h => ltermOn w0 w b i s ts h hT hb hsz [1, 2] (by simp) (by decide) 2 rfl _ rfl
  have K2 : Hid (∀ i w, Ld w0 b s i ts w → Calls Tryz.prog 170 #[.pointer (some ⟨b, 0, none⟩), .slice (some ⟨w.heap.size, 0, none⟩) 1 1] (w.alloc (.cells #[.int .i64 1] 144)) fun e w' => match lterm s i [1] with
      | .ok l j => e = .returned (str l) ∧ Ld w0 b s j ts w'
      | .bad m j => e = stopE m j ∧ Fb w0 b w') := fun i w h => ltermOn w0 w b i s ts h hT hb hsz [1] (by simp) (by decide) 1 rfl _ rfl
  have K3 : Hid (∀ i w, Ld w0 b s i ts w → Calls Tryz.prog 170 #[.pointer (some ⟨b, 0, none⟩), .slice (some ⟨w.heap.size, 0, none⟩) 3 3] (w.alloc (.cells #[.int .i64 1, .int .i64 2, .int .i64 3] 144)) fun e w' => match lterm s i [1, 2, 3] with
      | .ok l j => e = .returned (str l) ∧ Ld w0 b s j ts w'
      | .bad m j => e = stopE m j ∧ Fb w0 b w') := fun i w h => ltermOn w0 w b i s ts h hT hb hsz [1, 2, 3] (by simp) (by decide) 3 rfl _ rfl
  have KB : Hid (∀ i w, Ld w0 b s i ts w → Calls Tryz.prog 105 #[.pointer (some ⟨b, 0, none⟩)] w fun e w' => e = .returned (.tuple #[]) ∧ Ld w0 b s (skipB s i) ts w') := fun i w h => blanksOn w0 w b i s ts h
  have H : Hid (Ld w0 b s i ts w) := h
  clear hT h
  cases h1 : lterm s i [1, 2] with
  | bad n j =>
    have HR : Hid (sentence s i = .bad n j) := by unfold Hid sentence; rw [h1]
    have T1 := K1.out i w H.out
    rw [h1] at T1
    have HT1 : Hid (Calls Tryz.prog 170 #[.pointer (some ⟨b, 0, none⟩), .slice (some ⟨w.heap.size, 0, none⟩) 2 2] (w.alloc (.cells #[.int .i64 1, .int .i64 2] 144)) fun e w' => e = stopE n j ∧ Fb w0 b w') := T1
    rw [HR.out]
    clear T1 h1 K1 K2 K3
    go_enter Tryz.func108, Tryz.ntmps108
    go_wp2_with fail
    refine HT1.out.mono ?_
    rintro e w1 ⟨rfl, hf⟩
    exact ⟨rfl, rfl, hf⟩
  | ok a j1 =>
    have T1 := K1.out i w H.out
    rw [h1] at T1
    have HT1 : Hid (Calls Tryz.prog 170 #[.pointer (some ⟨b, 0, none⟩), .slice (some ⟨w.heap.size, 0, none⟩) 2 2] (w.alloc (.cells #[.int .i64 1, .int .i64 2] 144)) fun e w' => e = .returned (str a) ∧ Ld w0 b s j1 ts w') := T1
    clear T1 K1
    cases h2 : lterm s (skipB s j1) [1] with
    | bad n j =>
      have HR : Hid (sentence s i = .bad n j) := by unfold Hid sentence; rw [h1]; simp only; rw [h2]
      have T2 := K2.out (skipB s j1)
      rw [h2] at T2
      have HT2 : Hid (∀ w, Ld w0 b s (skipB s j1) ts w → Calls Tryz.prog 170 #[.pointer (some ⟨b, 0, none⟩), .slice (some ⟨w.heap.size, 0, none⟩) 1 1] (w.alloc (.cells #[.int .i64 1] 144)) fun e w' => e = stopE n j ∧ Fb w0 b w') := T2
      rw [HR.out]
      clear T2 h1 h2 K2 K3
      go_enter Tryz.func108, Tryz.ntmps108
      go_wp2_with fail
      refine HT1.out.mono ?_
      rintro e w1 ⟨rfl, hL1⟩
      go_wp2_with fail
      refine (KB.out _ _ hL1).mono ?_
      rintro e w2 ⟨rfl, hL2⟩
      go_wp2_with fail
      refine (HT2.out _ hL2).mono ?_
      rintro e w3 ⟨rfl, hf⟩
      exact ⟨rfl, rfl, hf⟩
    | ok c j2 =>
      have T2 := K2.out (skipB s j1)
      rw [h2] at T2
      have HT2 : Hid (∀ w, Ld w0 b s (skipB s j1) ts w → Calls Tryz.prog 170 #[.pointer (some ⟨b, 0, none⟩), .slice (some ⟨w.heap.size, 0, none⟩) 1 1] (w.alloc (.cells #[.int .i64 1] 144)) fun e w' => e = .returned (str c) ∧ Ld w0 b s j2 ts w') := T2
      clear T2 K2
      cases h3 : lterm s (skipB s j2) [1, 2, 3] with
      | bad n j =>
        have HR : Hid (sentence s i = .bad n j) := by unfold Hid sentence; rw [h1]; simp only; rw [h2]; simp only; rw [h3]
        have T3 := K3.out (skipB s j2)
        rw [h3] at T3
        have HT3 : Hid (∀ w, Ld w0 b s (skipB s j2) ts w → Calls Tryz.prog 170 #[.pointer (some ⟨b, 0, none⟩), .slice (some ⟨w.heap.size, 0, none⟩) 3 3] (w.alloc (.cells #[.int .i64 1, .int .i64 2, .int .i64 3] 144)) fun e w' => e = stopE n j ∧ Fb w0 b w') := T3
        rw [HR.out]
        clear T3 h1 h2 h3 K3
        go_enter Tryz.func108, Tryz.ntmps108
        go_wp2_with fail
        refine HT1.out.mono ?_
        rintro e w1 ⟨rfl, hL1⟩
        go_wp2_with fail
        refine (KB.out _ _ hL1).mono ?_
        rintro e w2 ⟨rfl, hL2⟩
        go_wp2_with fail
        refine (HT2.out _ hL2).mono ?_
        rintro e w3 ⟨rfl, hL3⟩
        go_wp2_with fail
        refine (KB.out _ _ hL3).mono ?_
        rintro e w4 ⟨rfl, hL4⟩
        go_wp2_with fail
        refine (HT3.out _ hL4).mono ?_
        rintro e w5 ⟨rfl, hf⟩
        exact ⟨rfl, rfl, hf⟩
      | ok o j3 =>
        have T3 := K3.out (skipB s j2)
        rw [h3] at T3
        have HT3 : Hid (∀ w, Ld w0 b s (skipB s j2) ts w → Calls Tryz.prog 170 #[.pointer (some ⟨b, 0, none⟩), .slice (some ⟨w.heap.size, 0, none⟩) 3 3] (w.alloc (.cells #[.int .i64 1, .int .i64 2, .int .i64 3] 144)) fun e w' => e = .returned (str o) ∧ Ld w0 b s j3 ts w') := T3
        clear T3 K3
        by_cases hd : bt s (skipB s j3) = 46
        · have HR : Hid (sentence s i = .ok ⟨a, c, o⟩ (skipB s j3 + 1)) := by unfold Hid sentence; rw [h1]; simp only; rw [h2]; simp only; rw [h3]; simp only; rw [if_pos hd]
          have HNW : Hid (∀ (w7 : World) (j : Nat) (u : Value), [str a, str c, str o][j]? = some u → (w7.alloc (.cells #[str a, str c, str o] 44)).cell? ((⟨w7.heap.size, 0, none⟩ : Addr).add j) = some u) := by
            intro w7 j u hj
            have hh : (w7.alloc (.cells #[str a, str c, str o] 44)).heap[w7.heap.size]? = some (.cells #[str a, str c, str o] 44) := heap_new _ _
            rw [show (⟨w7.heap.size, 0, none⟩ : Addr).add j = ⟨w7.heap.size, 0 + j, none⟩ by unfold Addr.add; split <;> simp_all, Lib.cell_of_heap hh, Nat.zero_add]
            simpa using hj
          have HWt : Hid (∀ w, Ld w0 b s (skipB s j3) ts w → Calls Tryz.prog 126 #[.pointer (some ⟨b, 0, none⟩), .int .u8 46] w fun e w' => e = .returned (.tuple #[]) ∧ Ld w0 b s (skipB s j3 + 1) ts w') := fun w h => wantOn w0 w b _ s ts h 46 (by omega) (by omega) hd
          rw [HR.out]
          clear h1 h2 h3 hd
          go_enter Tryz.func108, Tryz.ntmps108
          go_wp2_with fail
          refine HT1.out.mono ?_
          rintro e w1 ⟨rfl, hL1⟩
          go_wp2_with fail
          refine (KB.out _ _ hL1).mono ?_
          rintro e w2 ⟨rfl, hL2⟩
          go_wp2_with fail
          refine (HT2.out _ hL2).mono ?_
          rintro e w3 ⟨rfl, hL3⟩
          go_wp2_with fail
          refine (KB.out _ _ hL3).mono ?_
          rintro e w4 ⟨rfl, hL4⟩
          go_wp2_with fail
          refine (HT3.out _ hL4).mono ?_
          rintro e w5 ⟨rfl, hL5⟩
          go_wp2_with fail
          refine (KB.out _ _ hL5).mono ?_
          rintro e w6 ⟨rfl, hL6⟩
          go_wp2_with fail
          refine (HWt.out _ hL6).mono ?_
          rintro e w7 ⟨rfl, hL7⟩
          have HL7 : Hid (Ld w0 b s (skipB s j3 + 1) ts w7) := hL7
          obtain ⟨v, hv, ho⟩ := hL7.own
          have HO : Hid (w7.ownsRow w0.heap.size 44 3 v ts.length (cellsOf ts)) := ho
          have hfz := hL7.fz
          clear hL1 hL2 hL3 hL4 hL5 hL6 hL7 ho HT1 HT2 HT3 HWt KB
          have hnews : ∀ (j : Nat) (u : Value), [str a, str c, str o][j]? = some u → (w7.alloc (.cells #[str a, str c, str o] 44)).cell? ((⟨w7.heap.size, 0, none⟩ : Addr).add j) = some u := HNW.out w7
          have hownA : (w7.alloc (.cells #[str a, str c, str o] 44)).ownsRow w0.heap.size 44 3 v ts.length (cellsOf ts) := own_same HO.out fun g hg hlt => Below.heap_alloc _ _ _ hlt
          have hbs : w0.heap.size ≤ (w7.alloc (.cells #[str a, str c, str o] 44)).heap.size := by have := HL7.out.fb.size; simp; omega
          go_wp2_with (first | (at_builtin; refine wpList_append_lies _ (by rfl) _ _ _ (by rfl) w0.heap.size 44 i0 _ 3 48 Tryz.underlying24 hi hz0 hz1 hz2 rfl (by omega) v ts.length (cellsOf ts) (by rfl) hownA ⟨w7.heap.size, 0, none⟩ 1 1 [str a, str c, str o] (by rfl) (by rfl) hnews (by simp [Value.oneCell']) (by omega) (by unfold maxLen; omega) (by omega) hbs _ rfl ?_; intro g cap w8 hown8 hgr8 hat8 hlt8; have HF8 : Hid (w8.heap[b]? = w7.heap[b]? ∧ Ld w0 b s (skipB s j3 + 1) (ts ++ [⟨a, c, o⟩]) (w8.setCell ⟨b, 2, none⟩ (.slice (some ⟨g, 0, none⟩) (ts.length + 1) cap))) := (HL7.out.found (t := ⟨a, c, o⟩) hv (by simp) HO.out (by rw [cellsOf_app]; exact hown8) hgr8); have c28 : w8.cell? ⟨b, 2, none⟩ = some v := ((World.cell?_of_block (a := ⟨b, 2, none⟩) HF8.out.1).trans hv); have f28 : w8.frozen? ⟨b, 2, none⟩ = false := ((World.frozen?_of_block (a := ⟨b, 2, none⟩) HF8.out.1).trans hfz); clear hown8 hgr8 hat8))
          go_end0
          exact ⟨rfl, HF8.out.2⟩
        · have HR : Hid (sentence s i = .bad 2 (skipB s j3)) := by unfold Hid sentence; rw [h1]; simp only; rw [h2]; simp only; rw [h3]; simp only; rw [if_neg hd]
          have HWt : Hid (∀ w, Ld w0 b s (skipB s j3) ts w → Calls Tryz.prog 126 #[.pointer (some ⟨b, 0, none⟩), .int .u8 46] w fun e w' => e = stopE 2 (skipB s j3) ∧ Fb w0 b w') := fun w h => (want_bad w b _ s 46 h.rd (by omega) (by omega) hd).mono fun e w' ho => ⟨ho.1, h.fb.adv ho.2⟩
          rw [HR.out]
          clear h1 h2 h3 hd
          go_enter Tryz.func108, Tryz.ntmps108
          go_wp2_with fail
          refine HT1.out.mono ?_
          rintro e w1 ⟨rfl, hL1⟩
          go_wp2_with fail
          refine (KB.out _ _ hL1).mono ?_
          rintro e w2 ⟨rfl, hL2⟩
          go_wp2_with fail
          refine (HT2.out _ hL2).mono ?_
          rintro e w3 ⟨rfl, hL3⟩
          go_wp2_with fail
          refine (KB.out _ _ hL3).mono ?_
          rintro e w4 ⟨rfl, hL4⟩
          go_wp2_with fail
          refine (HT3.out _ hL4).mono ?_
          rintro e w5 ⟨rfl, hL5⟩
          go_wp2_with fail
          refine (KB.out _ _ hL5).mono ?_
          rintro e w6 ⟨rfl, hL6⟩
          go_wp2_with fail
          refine (HWt.out _ hL6).mono ?_
          rintro e w7 ⟨rfl, hf⟩
          exact ⟨rfl, rfl, hf⟩

end Go.Proofs.YtnffjoipinhojabGreatDoor

namespace Go.Proofs.YtnffjoipinhojabGreatDoor
open Go.RowKit

/-- what a step of the reader of lines ends in -/
def LL (w0 : World) (b : Nat) (s : ByteArray) (ts : List Tri) (r : RL (List Tri)) (e : Ending) (w' : World) : Prop := match r with
  | .ok l j => e = .returned (.tuple #[]) ∧ Ld w0 b s j (ts ++ l) w'
  | .bad n j => e = stopE n j ∧ Fb w0 b w'

theorem Ld.drewN {w0 w : World} {b i : Nat} {s : ByteArray} {ts : List Tri} (h : Ld w0 b s i ts w) (n : Nat) : Ld w0 b s i ts (w.drewN n) := h.below (below_drewN (Below.refl _ _) n)

set_option maxHeartbeats 2000000 in
set_option maxRecDepth 20000 in
theorem line_any (w0 w : World) (b i : Nat) (s : ByteArray) (ts : List Tri) (h : Ld w0 b s i ts w) (hT : Tabs w0) (hb : 8 ≤ b) (hsz : s.size ≤ 1099511627776) (hc : ts.length ≤ 1099511627776) :
    Calls Tryz.prog 63 #[.pointer (some ⟨b, 0, none⟩)] w (LL w0 b s ts (lineR s i)) := by
  have HB : Hid (∀ ts i w, Ld w0 b s i ts w → Calls Tryz.prog 105 #[.pointer (some ⟨b, 0, none⟩)] w fun e w' => e = .returned (.tuple #[]) ∧ Ld w0 b s (skipB s i) ts w') := fun ts i w h => blanksOn w0 w b i s ts h
  have HE : Hid (∀ i w, Ld w0 b s i ts w → Calls Tryz.prog 106 #[.pointer (some ⟨b, 0, none⟩)] w fun e w' => e = .returned (.bool (decide (bt s i = 256 ∨ bt s i = 10))) ∧ Ld w0 b s i ts w') := fun i w h => (lineEnded_any w b i s h.rd).mono fun e w' ⟨h1, n, h2⟩ => ⟨h1, by rw [h2]; exact h.drewN n⟩
  have HS : Hid (∀ i w, Ld w0 b s i ts w → Calls Tryz.prog 107 #[.pointer (some ⟨b, 0, none⟩), .int .u8 35] w fun e w' => e = .returned (.bool (decide (bt s i = 35))) ∧ Ld w0 b s i ts w') := fun i w h => (sees_any w b i s 35 h.rd (by omega) (by omega)).mono fun e w' ⟨h1, n, h2⟩ => ⟨h1, by rw [h2]; exact h.drewN n⟩
  have HC : Hid (∀ ts i w, Ld w0 b s i ts w → Calls Tryz.prog 109 #[.pointer (some ⟨b, 0, none⟩)] w fun e w' => e = .returned (.tuple #[]) ∧ Ld w0 b s (cmt s i) ts w') := fun ts i w h => (comment_any w b i s h.rd).mono fun e w' ho => ⟨ho.1, h.adv ho.2 (cmt_sz h.rd.le)⟩
  have HN : Hid (∀ i w, Ld w0 b s i ts w → Calls Tryz.prog 108 #[.pointer (some ⟨b, 0, none⟩)] w fun e w' => match sentence s i with
      | .ok t j => e = .returned (.tuple #[]) ∧ Ld w0 b s j (ts ++ [t]) w'
      | .bad n j => e = stopE n j ∧ Fb w0 b w') := fun i w h => sentence_any w0 w b i s ts h hT hb hsz hc
  have H : Hid (Ld w0 b s i ts w) := h
  clear h hT hc
  by_cases c1 : bt s (skipB s i) = 256 ∨ bt s (skipB s i) = 10
  · have HR : Hid (lineR s i = .ok [] (cmt s (skipB s i))) := by
      unfold Hid lineR
      rw [if_pos (by omega)]
    have E1 := HE.out (skipB s i)
    rw [decide_eq_true c1] at E1
    have HE1 : Hid (∀ w, Ld w0 b s (skipB s i) ts w → Calls Tryz.prog 106 #[.pointer (some ⟨b, 0, none⟩)] w fun e w' => e = .returned (.bool true) ∧ Ld w0 b s (skipB s i) ts w') := E1
    rw [HR.out]
    clear E1 c1 HN HS HE
    go_enter Tryz.func63, Tryz.ntmps63
    go_wp2_with fail
    refine (HB.out _ _ _ H.out).mono ?_
    rintro e w1 ⟨rfl, h1⟩
    go_wp2_with fail
    refine (HE1.out _ h1).mono ?_
    rintro e w2 ⟨rfl, h2⟩
    go_wp2_with fail
    refine (HC.out _ _ _ h2).mono ?_
    rintro e w3 ⟨rfl, h3⟩
    go_wp2_with fail
    go_end0
    exact ⟨rfl, by rw [List.append_nil]; exact h3⟩
  · have E1 := HE.out (skipB s i)
    rw [decide_eq_false c1] at E1
    have HE1 : Hid (∀ w, Ld w0 b s (skipB s i) ts w → Calls Tryz.prog 106 #[.pointer (some ⟨b, 0, none⟩)] w fun e w' => e = .returned (.bool false) ∧ Ld w0 b s (skipB s i) ts w') := E1
    have S1 := HS.out (skipB s i)
    by_cases c2 : bt s (skipB s i) = 35
    · have HR : Hid (lineR s i = .ok [] (cmt s (skipB s i))) := by
        unfold Hid lineR
        rw [if_pos (by omega)]
      rw [decide_eq_true c2] at S1
      have HS1 : Hid (∀ w, Ld w0 b s (skipB s i) ts w → Calls Tryz.prog 107 #[.pointer (some ⟨b, 0, none⟩), .int .u8 35] w fun e w' => e = .returned (.bool true) ∧ Ld w0 b s (skipB s i) ts w') := S1
      rw [HR.out]
      clear E1 S1 c1 c2 HN HS HE
      go_enter Tryz.func63, Tryz.ntmps63
      go_wp2_with fail
      refine (HB.out _ _ _ H.out).mono ?_
      rintro e w1 ⟨rfl, h1⟩
      go_wp2_with fail
      refine (HE1.out _ h1).mono ?_
      rintro e w2 ⟨rfl, h2⟩
      go_wp2_with fail
      refine (HS1.out _ h2).mono ?_
      rintro e w3 ⟨rfl, h3⟩
      go_wp2_with fail
      refine (HC.out _ _ _ h3).mono ?_
      rintro e w4 ⟨rfl, h4⟩
      go_wp2_with fail
      go_end0
      exact ⟨rfl, by rw [List.append_nil]; exact h4⟩
    · rw [decide_eq_false c2] at S1
      have HS1 : Hid (∀ w, Ld w0 b s (skipB s i) ts w → Calls Tryz.prog 107 #[.pointer (some ⟨b, 0, none⟩), .int .u8 35] w fun e w' => e = .returned (.bool false) ∧ Ld w0 b s (skipB s i) ts w') := S1
      have N1 := HN.out (skipB s i)
      have hl : lineR s i = match sentence s (skipB s i) with
          | .bad n j => .bad n j
          | .ok t j => .ok [t] (cmt s (skipB s j)) := by
        unfold lineR
        rw [if_neg (by omega)] <;> (cases sentence s (skipB s i) <;> rfl)
      cases hs : sentence s (skipB s i) with
      | bad n j =>
        rw [hs] at N1 hl
        have HR : Hid (lineR s i = .bad n j) := hl
        have HN1 : Hid (∀ w, Ld w0 b s (skipB s i) ts w → Calls Tryz.prog 108 #[.pointer (some ⟨b, 0, none⟩)] w fun e w' => e = stopE n j ∧ Fb w0 b w') := N1
        rw [HR.out]
        clear E1 S1 N1 c1 c2 HN HS HE hl hs
        go_enter Tryz.func63, Tryz.ntmps63
        go_wp2_with fail
        refine (HB.out _ _ _ H.out).mono ?_
        rintro e w1 ⟨rfl, h1⟩
        go_wp2_with fail
        refine (HE1.out _ h1).mono ?_
        rintro e w2 ⟨rfl, h2⟩
        go_wp2_with fail
        refine (HS1.out _ h2).mono ?_
        rintro e w3 ⟨rfl, h3⟩
        go_wp2_with fail
        refine (HN1.out _ h3).mono ?_
        rintro e w4 ⟨rfl, hf⟩
        exact ⟨rfl, rfl, hf⟩
      | ok t j =>
        rw [hs] at N1 hl
        have HR : Hid (lineR s i = .ok [t] (cmt s (skipB s j))) := hl
        have HN1 : Hid (∀ w, Ld w0 b s (skipB s i) ts w → Calls Tryz.prog 108 #[.pointer (some ⟨b, 0, none⟩)] w fun e w' => e = .returned (.tuple #[]) ∧ Ld w0 b s j (ts ++ [t]) w') := N1
        rw [HR.out]
        clear E1 S1 N1 c1 c2 HN HS HE hl hs
        go_enter Tryz.func63, Tryz.ntmps63
        go_wp2_with fail
        refine (HB.out _ _ _ H.out).mono ?_
        rintro e w1 ⟨rfl, h1⟩
        go_wp2_with fail
        refine (HE1.out _ h1).mono ?_
        rintro e w2 ⟨rfl, h2⟩
        go_wp2_with fail
        refine (HS1.out _ h2).mono ?_
        rintro e w3 ⟨rfl, h3⟩
        go_wp2_with fail
        refine (HN1.out _ h3).mono ?_
        rintro e w4 ⟨rfl, h4⟩
        go_wp2_with fail
        refine (HB.out _ _ _ h4).mono ?_
        rintro e w5 ⟨rfl, h5⟩
        go_wp2_with fail
        refine (HC.out _ _ _ h5).mono ?_
        rintro e w6 ⟨rfl, h6⟩
        go_wp2_with fail
        go_end0
        exact ⟨rfl, h6⟩

/-- what is left behind a line -/
def tailR (s : ByteArray) (q : Nat) : RL (List Tri) := if bt s q = 10 then linesR s (q + 1) else if q = s.size then .ok [] q else .bad 2 q

theorem rl_pre_pre {α : Type} (l m : List α) (r : RL (List α)) : (r.pre m).pre l = r.pre (l ++ m) := by
  cases r with
  | ok a j => simp [RL.pre]
  | bad n j => rfl

theorem linesR_tail {s : ByteArray} {i : Nat} (hi : i ≤ s.size) : linesR s i = match lineR s i with
    | .bad n j => .bad n j
    | .ok l j => (tailR s j).pre l := by
  rw [linesR]
  split
  · rename_i n j h
    rw [h]
  · rename_i l j h
    rw [h]
    simp only [tailR]
    by_cases c : bt s j = 10
    · rw [dif_pos ⟨c, hi⟩, if_pos c]
    · rw [dif_neg (fun x => c x.1), if_neg c]
      split
      · simp [RL.pre]
      · rfl

theorem lineR_one {s : ByteArray} {i j : Nat} {l : List Tri} (h : lineR s i = .ok l j) : l.length ≤ 1 := by
  unfold lineR at h
  split at h
  · cases h; simp
  · split at h
    · cases h
    · cases h; simp

set_option maxHeartbeats 2000000 in
set_option maxRecDepth 20000 in
theorem lines_any (w0 w : World) (b : Nat) (s : ByteArray) (h : Ld w0 b s 0 [] w) (hT : Tabs w0) (hb : 8 ≤ b) (hsz : s.size ≤ 20000) :
    Calls Tryz.prog 35 #[.pointer (some ⟨b, 0, none⟩)] w (LL w0 b s [] (linesR s 0)) := by
  have HL : Hid (∀ i ts w, Ld w0 b s i ts w → ts.length ≤ 1099511627776 → Calls Tryz.prog 63 #[.pointer (some ⟨b, 0, none⟩)] w (LL w0 b s ts (lineR s i))) := fun i ts w h hc => line_any w0 w b i s ts h hT hb (by omega) hc
  have H : Hid (Ld w0 b s 0 [] w) := h
  have ht := linesR_tail (s := s) (i := 0) (Nat.zero_le _)
  clear hT h
  cases h1 : lineR s 0 with
  | bad n j =>
    rw [h1] at ht
    have HR : Hid (linesR s 0 = .bad n j) := ht
    have L1 := HL.out 0 [] w H.out (by simp)
    rw [h1] at L1
    have HL1 : Hid (Calls Tryz.prog 63 #[.pointer (some ⟨b, 0, none⟩)] w fun e w' => e = stopE n j ∧ Fb w0 b w') := L1
    rw [HR.out]
    clear L1 h1 ht HL
    go_enter Tryz.func35, Tryz.ntmps35
    go_wp2_with fail
    refine HL1.out.mono ?_
    rintro e w1 ⟨rfl, hf⟩
    exact ⟨rfl, rfl, hf⟩
  | ok l j =>
    rw [h1] at ht
    have L1 := HL.out 0 [] w H.out (by simp)
    rw [h1] at L1
    have HL1 : Hid (Calls Tryz.prog 63 #[.pointer (some ⟨b, 0, none⟩)] w fun e w' => e = .returned (.tuple #[]) ∧ Ld w0 b s j ([] ++ l) w') := L1
    have hl1 := lineR_one h1
    have HT : Hid (linesR s 0 = (tailR s j).pre l) := ht
    clear L1 h1 ht
    go_enter Tryz.func35, Tryz.ntmps35
    go_wp2_with fail
    refine HL1.out.mono ?_
    rintro e w1 ⟨rfl, hd1⟩
    have HD1 : Hid (Ld w0 b s j l w1) := hd1
    clear hd1 HL1
    go_wp2_with fail
    go_loopw [] (fun wr => ∃ q us, Ld w0 b s q us wr ∧ linesR s 0 = (tailR s q).pre us ∧ us.length ≤ q + 1) (fun wr => s.size - posOf wr b)
    case atStart => exact ⟨j, l, HD1.out, HT.out, by omega⟩
    case round =>
      obtain ⟨q, us, hd, hq, hu⟩ := hrel
      have HD : Hid (Ld w0 b s q us wr) := hd
      have HP : Hid (posOf wr b = q) := hd.rd.pos
      have hle := hd.rd.le
      clear hd HD1 HT
      by_cases c : bt s q = 10
      · have hlt := bt_in c (by omega)
        have T1 : Hid (Calls Tryz.prog 64 #[.pointer (some ⟨b, 0, none⟩), .int .u8 10] wr fun e w' => e = .returned (.bool true) ∧ Ld w0 b s (q + 1) us w') := by
          have := take_any wr b q s 10 HD.out.rd (by omega) (by omega)
          rw [if_pos c, decide_eq_true c] at this
          exact this.mono fun e w' ho => ⟨ho.1, HD.out.adv ho.2 (by omega)⟩
        have hq2 : linesR s 0 = (linesR s (q + 1)).pre us := by rw [hq]; unfold tailR; rw [if_pos c]
        have ht2 := linesR_tail (s := s) (i := q + 1) (by omega)
        cases h2 : lineR s (q + 1) with
        | bad n j =>
          rw [h2] at ht2
          have HR : Hid (linesR s 0 = .bad n j) := by unfold Hid; rw [hq2, ht2]; rfl
          have L2 := HL.out (q + 1) us
          rw [h2] at L2
          have HL2 : Hid (∀ w, Ld w0 b s (q + 1) us w → us.length ≤ 1099511627776 → Calls Tryz.prog 63 #[.pointer (some ⟨b, 0, none⟩)] w fun e w' => e = stopE n j ∧ Fb w0 b w') := L2
          rw [HR.out]
          clear L2 h2 ht2 hq2 hq c HL
          go_wp2_with fail
          refine T1.out.mono ?_
          rintro e w2 ⟨rfl, hd2⟩
          go_wp2_with fail
          refine (HL2.out _ hd2 (by omega)).mono ?_
          rintro e w3 ⟨rfl, hf⟩
          exact ⟨rfl, rfl, hf⟩
        | ok m k =>
          rw [h2] at ht2
          have hk := lineR_le (s := s) (i := q + 1) (by omega) h2
          have hm1 := lineR_one h2
          have HQ : Hid (linesR s 0 = (tailR s k).pre (us ++ m)) := by unfold Hid; rw [hq2, ht2]; exact rl_pre_pre us m _
          have L2 := HL.out (q + 1) us
          rw [h2] at L2
          have HL2 : Hid (∀ w, Ld w0 b s (q + 1) us w → us.length ≤ 1099511627776 → Calls Tryz.prog 63 #[.pointer (some ⟨b, 0, none⟩)] w fun e w' => e = .returned (.tuple #[]) ∧ Ld w0 b s k (us ++ m) w') := L2
          clear L2 h2 ht2 hq2 hq c HL
          go_wp2_with fail
          refine T1.out.mono ?_
          rintro e w2 ⟨rfl, hd2⟩
          go_wp2_with fail
          refine (HL2.out _ hd2 (by omega)).mono ?_
          rintro e w3 ⟨rfl, hd3⟩
          have HD3 : Hid (Ld w0 b s k (us ++ m) w3) := hd3
          clear hd2 hd3
          go_wp2_with fail
          go_roundw
          case rel => exact ⟨k, us ++ m, HD3.out, HQ.out, by rw [List.length_append]; omega⟩
          case measure => rw [HD3.out.rd.pos, HP.out]; omega
      · have T1 : Hid (Calls Tryz.prog 64 #[.pointer (some ⟨b, 0, none⟩), .int .u8 10] wr fun e w' => e = .returned (.bool false) ∧ Ld w0 b s q us w') := by
          have := take_any wr b q s 10 HD.out.rd (by omega) (by omega)
          rw [if_neg c, decide_eq_false c] at this
          exact this.mono fun e w' ho => ⟨ho.1, HD.out.adv ho.2 hle⟩
        by_cases c2 : q = s.size
        · have HR : Hid (linesR s 0 = .ok us q) := by unfold Hid; rw [hq]; unfold tailR; rw [if_neg c, if_pos c2]; simp [RL.pre]
          have HW : Hid (∀ w, Ld w0 b s q us w → Calls Tryz.prog 65 #[.pointer (some ⟨b, 0, none⟩)] w fun e w' => e = .returned (.tuple #[]) ∧ Ld w0 b s q us w') := fun w h => (wantEnd_ok w b q s h.rd c2).mono fun e w' ho => ⟨ho.1, h.adv ho.2 hle⟩
          clear hq c c2 HL
          go_wp2_with fail
          refine T1.out.mono ?_
          rintro e w2 ⟨rfl, hd2⟩
          go_wp2_with fail
          refine (HW.out _ hd2).mono ?_
          rintro e w3 ⟨rfl, hd3⟩
          go_wp2_with fail
          go_end0
          show LL w0 b s [] (linesR s 0) _ _
          rw [HR.out]
          exact ⟨rfl, hd3⟩
        · have HR : Hid (linesR s 0 = .bad 2 q) := by unfold Hid; rw [hq]; unfold tailR; rw [if_neg c, if_neg c2]; rfl
          have HW : Hid (∀ w, Ld w0 b s q us w → Calls Tryz.prog 65 #[.pointer (some ⟨b, 0, none⟩)] w fun e w' => e = stopE 2 q ∧ Fb w0 b w') := fun w h => (wantEnd_bad w b q s h.rd c2).mono fun e w' ho => ⟨ho.1, h.fb.adv ho.2⟩
          clear hq c c2 HL
          go_wp2_with fail
          refine T1.out.mono ?_
          rintro e w2 ⟨rfl, hd2⟩
          go_wp2_with fail
          refine (HW.out _ hd2).mono ?_
          rintro e w3 ⟨rfl, hf⟩
          refine ⟨rfl, ?_⟩
          show LL w0 b s [] (linesR s 0) _ _
          rw [HR.out]
          exact ⟨rfl, hf⟩

end Go.Proofs.YtnffjoipinhojabGreatDoor

set_option linter.unusedSimpArgs false
set_option linter.unusedVariables false
namespace Go.Proofs.YtnffjoipinhojabGreatDoor
namespace Tu

/-! A text for people, plainly: its signs. -/

/-- where the bytes of the set end that stand from i on -/
def runU (p : Int → Bool) (s : ByteArray) (i : Nat) : Nat := if h : i < s.size ∧ p (bt s i) = true then runU p s (i + 1) else i
termination_by s.size - i
theorem runU_on {p : Int → Bool} {s : ByteArray} {i : Nat} (h : i < s.size ∧ p (bt s i) = true) : runU p s i = runU p s (i + 1) := by rw [runU, dif_pos h]
theorem runU_end {p : Int → Bool} {s : ByteArray} {i : Nat} (h : ¬ (i < s.size ∧ p (bt s i) = true)) : runU p s i = i := by rw [runU, dif_neg h]
theorem runU_le (p : Int → Bool) (s : ByteArray) : ∀ n i, s.size - i < n → i ≤ runU p s i ∧ (i ≤ s.size → runU p s i ≤ s.size) := by
  intro n
  induction n with
  | zero => intro i h; omega
  | succ n ih =>
    intro i h
    by_cases hb : i < s.size ∧ p (bt s i) = true
    · rw [runU_on hb]
      have := ih (i + 1) (by omega)
      omega
    · rw [runU_end hb]
      omega
theorem runU_ge (p : Int → Bool) (s : ByteArray) (i : Nat) : i ≤ runU p s i := (runU_le p s _ i (Nat.lt_succ_self _)).1
theorem runU_sz (p : Int → Bool) {s : ByteArray} {i : Nat} (h : i ≤ s.size) : runU p s i ≤ s.size := (runU_le p s _ i (Nat.lt_succ_self _)).2 h
theorem runU_gt {p : Int → Bool} {s : ByteArray} {i : Nat} (h : i < s.size ∧ p (bt s i) = true) : i < runU p s i := by
  rw [runU_on h]
  have := runU_ge p s (i + 1)
  omega

def isW (c : Int) : Bool := decide (c = 32 ∨ c = 9 ∨ c = 10 ∨ c = 13)
def inRest (c : Int) : Bool := alnum c || decide (c = 95 ∨ c = 45)
def inLang (c : Int) : Bool := alnum c || decide (c = 45)

theorem skipL_gt {s : ByteArray} {j : Nat} (h : bt s j = 35) : j < skipL s j ∧ skipL s j ≤ s.size := by
  have hlt := bt_in h (by omega)
  rw [skipL_on hlt (by omega)]
  have := skipL_le s _ (j + 1) (Nat.lt_succ_self _)
  have := this.2 (by omega)
  omega

/-- behind blanks and comments -/
def gap (s : ByteArray) (i : Nat) : Nat := if h : bt s (runU isW s i) = 35 then gap s (skipL s (runU isW s i)) else runU isW s i
termination_by s.size - i
decreasing_by
  have := runU_ge isW s i
  have := skipL_gt h
  have := bt_in h (by omega)
  omega
theorem gap_on {s : ByteArray} {i : Nat} (h : bt s (runU isW s i) = 35) : gap s i = gap s (skipL s (runU isW s i)) := by rw [gap, dif_pos h]
theorem gap_end {s : ByteArray} {i : Nat} (h : ¬ bt s (runU isW s i) = 35) : gap s i = runU isW s i := by rw [gap, dif_neg h]
theorem gap_le (s : ByteArray) : ∀ n i, s.size - i < n → i ≤ gap s i ∧ (i ≤ s.size → gap s i ≤ s.size) := by
  intro n
  induction n with
  | zero => intro i h; omega
  | succ n ih =>
    intro i h
    have hg := runU_ge isW s i
    by_cases hb : bt s (runU isW s i) = 35
    · have h1 := skipL_gt hb
      have h2 := bt_in hb (by omega)
      rw [gap_on hb]
      have := ih (skipL s (runU isW s i)) (by omega)
      exact ⟨by omega, fun _ => this.2 h1.2⟩
    · rw [gap_end hb]
      exact ⟨hg, fun h => runU_sz isW h⟩
theorem gap_ge (s : ByteArray) (i : Nat) : i ≤ gap s i := (gap_le s _ i (Nat.lt_succ_self _)).1
theorem gap_sz {s : ByteArray} {i : Nat} (h : i ≤ s.size) : gap s i ≤ s.size := (gap_le s _ i (Nat.lt_succ_self _)).2 h

/-- A sign. -/
inductive Sg where
  | none
  | fin
  | pre
  | knd
  | one (c : Nat)
  | iri (l : List UInt8)
  | blk (l : List UInt8)
  | str (l : List UInt8)
  | lan (l : List UInt8)
  | num (l : List UInt8)
  | row (l : List UInt8)
  | nam (r l : List UInt8)
  | brk (n : Int) (j : Nat)

def Sg.isStr : Sg → Bool
  | .str _ => true
  | _ => false
/-- a sign that may be gone on from -/
def Sg.real : Sg → Bool
  | .none => false
  | .fin => false
  | .brk _ _ => false
  | _ => true
def Sg.isNone : Sg → Bool
  | .none => true
  | _ => false
def Sg.isBrk : Sg → Bool
  | .brk _ _ => true
  | _ => false

def ofR (f : List UInt8 → Sg) (i : Nat) : R (List UInt8) → Sg × Nat
  | .ok l k => (f l, k)
  | .bad j => (.brk 2 j, i)

def prefixB : List UInt8 := [112, 114, 101, 102, 105, 120]

/-- from an @ at i on -/
def behAt (s : ByteArray) (i : Nat) (beh : Bool) : Sg × Nat :=
  if beh = false ∧ sub s (i + 1) (runU inLang s (i + 1)) = prefixB then (.pre, runU inLang s (i + 1))
  else if letter (bt s (i + 1)) = false then (.brk 2 i, i)
  else match language s (i + 1) with
    | .ok _ k => (.lan (sub s (i + 1) k), k)
    | .bad j => (.brk 2 j, i)

def numAt (s : ByteArray) (i : Nat) : Nat := if bt s i = 45 then i + 1 else i
def number (s : ByteArray) (i : Nat) : Sg × Nat :=
  if runU digit s (numAt s i) = numAt s i then (.brk 2 (numAt s i), i) else (.num (sub s i (runU digit s (numAt s i))), runU digit s (numAt s i))

def word (s : ByteArray) (i : Nat) : Sg × Nat :=
  if bt s (runU alnum s i) = 58 then
    (if 20 < runU alnum s i - i ∨ 20 < runU inRest s (runU alnum s i + 1) - (runU alnum s i + 1) then (.brk 2 i, i)
     else (.nam (sub s i (runU alnum s i)) (sub s (runU alnum s i + 1) (runU inRest s (runU alnum s i + 1))), runU inRest s (runU alnum s i + 1)))
  else if 20 < runU alnum s i - i then (.brk 2 i, i) else (.row (sub s i (runU alnum s i)), runU alnum s i)

def isOne (c : Int) : Bool := decide (c = 46 ∨ c = 59 ∨ c = 44 ∨ c = 91 ∨ c = 93 ∨ c = 40 ∨ c = 41)
def single (s : ByteArray) (i : Nat) : Sg × Nat := if isOne (bt s i) = true then (.one (bt s i).toNat, i + 1) else (.brk 2 i, i)

/-- the sign that begins at i; beh: a string stands right ahead of it -/
def sign (s : ByteArray) (i : Nat) (beh : Bool) : Sg × Nat :=
  if bt s i = 256 then (.fin, i)
  else if bt s i = 60 then ofR .iri i (iri s i)
  else if bt s i = 95 then ofR .blk i (blank s i)
  else if bt s i = 34 then ofR .str i (quoted s i)
  else if bt s i = 94 then (if bt s (i + 1) = 94 then (.knd, i + 2) else (.brk 2 (i + 1), i))
  else if bt s i = 64 then behAt s i beh
  else if bt s i = 45 ∨ digit (bt s i) = true then number s i
  else if bt s i = 58 ∨ letter (bt s i) = true then word s i
  else single s i

/-! The grammar. -/

structure St where
  now : Sg
  p : Nat
  i : Nat
  names : List (List UInt8 × List UInt8)
  depth : Nat
  made : Nat
  said : List Tri

inductive PR (α : Type) where
  | ok (a : α) (st : St)
  | bad (n : Int) (j : Nat)

def step (s : ByteArray) (st : St) : St :=
  { st with now := (sign s (gap s st.i) (st.now.isStr && decide (gap s st.i = st.i))).1, p := gap s st.i, i := (sign s (gap s st.i) (st.now.isStr && decide (gap s st.i = st.i))).2 }

def refErr (st : St) : Int × Nat := match st.now with
  | .brk n j => (n, j)
  | _ => (2, st.p)
def refused {α : Type} (st : St) : PR α := .bad (refErr st).1 (refErr st).2

def look (l : List (List UInt8 × List UInt8)) (r : List UInt8) : Option (List UInt8) := match l with
  | [] => none
  | x :: l => if x.1 = r then some x.2 else look l r

def typeI : List UInt8 := [60, 104, 116, 116, 112, 58, 47, 47, 119, 119, 119, 46, 119, 51, 46, 111, 114, 103, 47, 49, 57, 57, 57, 47, 48, 50, 47, 50, 50, 45, 114, 100, 102, 45, 115, 121, 110, 116, 97, 120, 45, 110, 115, 35, 116, 121, 112, 101, 62]
def firstI : List UInt8 := [60, 104, 116, 116, 112, 58, 47, 47, 119, 119, 119, 46, 119, 51, 46, 111, 114, 103, 47, 49, 57, 57, 57, 47, 48, 50, 47, 50, 50, 45, 114, 100, 102, 45, 115, 121, 110, 116, 97, 120, 45, 110, 115, 35, 102, 105, 114, 115, 116, 62]
def restI : List UInt8 := [60, 104, 116, 116, 112, 58, 47, 47, 119, 119, 119, 46, 119, 51, 46, 111, 114, 103, 47, 49, 57, 57, 57, 47, 48, 50, 47, 50, 50, 45, 114, 100, 102, 45, 115, 121, 110, 116, 97, 120, 45, 110, 115, 35, 114, 101, 115, 116, 62]
def nilI : List UInt8 := [60, 104, 116, 116, 112, 58, 47, 47, 119, 119, 119, 46, 119, 51, 46, 111, 114, 103, 47, 49, 57, 57, 57, 47, 48, 50, 47, 50, 50, 45, 114, 100, 102, 45, 115, 121, 110, 116, 97, 120, 45, 110, 115, 35, 110, 105, 108, 62]
def wholeK : List UInt8 := [60, 104, 116, 116, 112, 58, 47, 47, 119, 119, 119, 46, 119, 51, 46, 111, 114, 103, 47, 50, 48, 48, 49, 47, 88, 77, 76, 83, 99, 104, 101, 109, 97, 35, 105, 110, 116, 101, 103, 101, 114, 62]
def truthK : List UInt8 := [60, 104, 116, 116, 112, 58, 47, 47, 119, 119, 119, 46, 119, 51, 46, 111, 114, 103, 47, 50, 48, 48, 49, 47, 88, 77, 76, 83, 99, 104, 101, 109, 97, 35, 98, 111, 111, 108, 101, 97, 110, 62]
def trueB : List UInt8 := [116, 114, 117, 101]
def falseB : List UInt8 := [102, 97, 108, 115, 101]

/-- a text without its last >, if there is one -/
def trimG (l : List UInt8) : List UInt8 := if l.getLast? = some 62 then l.dropLast else l

def bnd (p : Nat) (l : List UInt8) (st : St) : PR (List UInt8) := if 200 < l.length then .bad 4 p else .ok l st

def iriP (s : ByteArray) (st : St) : PR (List UInt8) := match st.now with
  | .iri l => .ok l (step s st)
  | .nam r l => (match look st.names r with
    | .none => .bad 5 st.p
    | .some g => .ok (trimG g ++ l ++ [62]) (step s st))
  | _ => refused st

def res (s : ByteArray) (st : St) : PR (List UInt8) := match iriP s st with
  | .bad n j => .bad n j
  | .ok l st' => bnd st.p l st'

def verb (s : ByteArray) (st : St) : PR (List UInt8) := match st.now with
  | .row l => if l = [97] then .ok typeI (step s st) else res s st
  | _ => res s st

/-- from a string on, that is at hand -/
def lit (s : ByteArray) (t : List UInt8) (st : St) : PR (List UInt8) := match (step s st).now with
  | .lan l => bnd st.p (form t l []) (step s (step s st))
  | .knd => (match iriP s (step s (step s st)) with
    | .bad n j => .bad n j
    | .ok k st' => bnd st.p (form t [] k) st')
  | _ => bnd st.p (form t [] []) (step s st)

def say (st : St) (a b c : List UInt8) : St := { st with said := st.said ++ [⟨a, b, c⟩] }

def want (s : ByteArray) (c : Nat) (st : St) : PR Unit := match st.now with
  | .one d => if d = c then .ok () (step s st) else refused st
  | _ => refused st
def takes (c : Nat) (st : St) : Bool := match st.now with
  | .one d => decide (d = c)
  | _ => false
def seesOf (l : List Nat) (st : St) : Bool := match st.now with
  | .one d => l.any fun x => decide (x = d)
  | _ => false

def objsL (ob : St → PR (List UInt8)) (s : ByteArray) (su ve : List UInt8) : Nat → St → PR Unit
  | 0, _ => .bad 0 0
  | n + 1, st => if takes 44 st = true then (match ob (step s st) with
      | .bad n j => .bad n j
      | .ok o st' => objsL ob s su ve n (say st' su ve o))
    else .ok () st
def objs (ob : St → PR (List UInt8)) (s : ByteArray) (N : Nat) (su ve : List UInt8) (st : St) : PR Unit := match ob st with
  | .bad n j => .bad n j
  | .ok o st' => objsL ob s su ve N (say st' su ve o)

def listL (ob : St → PR (List UInt8)) (s : ByteArray) (N : Nat) (su : List UInt8) : Nat → St → PR Unit
  | 0, _ => .bad 0 0
  | n + 1, st => if takes 59 st = true then
      (if seesOf [59, 46, 93] (step s st) = true then listL ob s N su n (step s st)
       else match verb s (step s st) with
        | .bad n j => .bad n j
        | .ok v st1 => match objs ob s N su v st1 with
          | .bad n j => .bad n j
          | .ok _ st2 => listL ob s N su n st2)
    else .ok () st
def list (ob : St → PR (List UInt8)) (s : ByteArray) (N : Nat) (su : List UInt8) (st : St) : PR Unit := match verb s st with
  | .bad n j => .bad n j
  | .ok v st1 => match objs ob s N su v st1 with
    | .bad n j => .bad n j
    | .ok _ st2 => listL ob s N su N st2

def isMade (l : List UInt8) : Bool := l.take 3 == [95, 58, 110] && l.drop 3 != [] && (l.drop 3).all fun c => digit (c.toNat : Int)

/-- the number of a blank of its own, in digits -/
def dec (n : Nat) : List UInt8 := Lib.decDigits n
def freshL (st : St) : List UInt8 := [95, 58, 110] ++ dec (st.made + 1)
def fresh (st : St) : St := { st with made := st.made + 1 }

def brack (ob : St → PR (List UInt8)) (s : ByteArray) (N : Nat) (st : St) : PR (List UInt8) :=
  if seesOf [93] st = true then (match want s 93 (fresh st) with
    | .bad n j => .bad n j
    | .ok _ st' => .ok (freshL st) st')
  else match list ob s N (freshL st) (fresh st) with
    | .bad n j => .bad n j
    | .ok _ st1 => match want s 93 st1 with
      | .bad n j => .bad n j
      | .ok _ st' => .ok (freshL st) st'

def roundL (ob : St → PR (List UInt8)) (s : ByteArray) : Nat → List (List UInt8) → St → PR (List (List UInt8))
  | 0, _, _ => .bad 0 0
  | n + 1, ns, st => if takes 41 st = true then .ok ns (step s st)
    else match ob (fresh st) with
      | .bad n j => .bad n j
      | .ok o st' => roundL ob s n (ns ++ [freshL st]) (say st' (freshL st) firstI o)
/-- each of the nodes and the next one -/
def chain : List (List UInt8) → List Tri
  | a :: b :: l => ⟨a, restI, b⟩ :: chain (b :: l)
  | _ => []
def round (ob : St → PR (List UInt8)) (s : ByteArray) (N : Nat) (st : St) : PR (List UInt8) := match roundL ob s N [] st with
  | .bad n j => .bad n j
  | .ok ns st' => .ok (ns.headD nilI) { st' with said := st'.said ++ chain (ns ++ [nilI]) }

def nest (inner : St → PR (List UInt8)) (s : ByteArray) (st : St) : PR (List UInt8) :=
  if st.depth = 8 then .bad 11 st.p else match inner (step s { st with depth := st.depth + 1 }) with
    | .bad n j => .bad n j
    | .ok l st' => .ok l { st' with depth := st'.depth - 1 }

def subj (ob : St → PR (List UInt8)) (s : ByteArray) (N : Nat) (st : St) : PR (List UInt8) := match st.now with
  | .blk l => if isMade l = true then .bad 6 st.p else .ok l (step s st)
  | .one c => if c = 91 then nest (brack ob s N) s st else if c = 40 then nest (round ob s N) s st else res s st
  | _ => res s st

def isTruth (l : List UInt8) : Bool := l == trueB || l == falseB
def objG (ob : St → PR (List UInt8)) (s : ByteArray) (N : Nat) (st : St) : PR (List UInt8) := match st.now with
  | .str t => lit s t st
  | .num l => bnd st.p (form l [] wholeK) (step s st)
  | .row l => if isTruth l = true then .ok (form l [] truthK) (step s st) else subj ob s N st
  | _ => subj ob s N st

def obj (s : ByteArray) (N : Nat) : Nat → St → PR (List UInt8)
  | 0 => objG (fun _ => .bad 0 0) s N
  | d + 1 => objG (obj s N d) s N
def inn (s : ByteArray) (N : Nat) : Nat → St → PR (List UInt8)
  | 0 => fun _ => .bad 0 0
  | d + 1 => obj s N d
theorem obj_inn (s : ByteArray) (N d : Nat) : obj s N d = objG (inn s N d) s N := by cases d <;> rfl

def prefixP (s : ByteArray) (st : St) : PR Unit := match st.now with
  | .nam r l => if l = [] then (match (step s st).now with
      | .iri g => if 200 < g.length then .bad 4 (step s st).p else .ok () { (step s (step s st)) with names := (r, g) :: st.names }
      | _ => refused (step s st))
    else refused st
  | _ => refused st

def sentL (s : ByteArray) (N : Nat) (st : St) : PR Unit := match st.now with
  | .pre => prefixP s (step s st)
  | _ => match subj (inn s N 8) s N st with
    | .bad n j => .bad n j
    | .ok su st1 => list (obj s N 8) s N su st1

def textL (s : ByteArray) (N : Nat) : Nat → St → PR Unit
  | 0, _ => .bad 0 0
  | n + 1, st => match st.now with
    | .fin => .ok () st
    | _ => match sentL s N st with
      | .bad n j => .bad n j
      | .ok _ st1 => match want s 46 st1 with
        | .bad n j => .bad n j
        | .ok _ st2 => textL s N n st2

def start (s : ByteArray) : St := step s ⟨.none, 0, 0, [], 0, 0, []⟩
/-- all of a text -/
def textP (s : ByteArray) : PR Unit := textL s (2 * s.size + 2) (2 * s.size + 2) (start s)

end Tu
end Go.Proofs.YtnffjoipinhojabGreatDoor

