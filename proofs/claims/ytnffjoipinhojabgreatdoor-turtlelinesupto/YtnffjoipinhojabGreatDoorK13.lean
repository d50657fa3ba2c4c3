import Derived.Test.YtnffjoipinhojabGreatDoorK12
import Derived.Lib.SlBytesConst
set_option linter.unusedSimpArgs false
set_option linter.unusedVariables false
namespace Go.Proofs.YtnffjoipinhojabGreatDoor
open Go.RowKit
namespace Tu

theorem cellW (w : World) : (w.alloc (.cells #[.string ⟨#[32, 9, 10, 13]⟩] 9)).cell? ⟨w.heap.size, 0, none⟩ = some (.string ⟨#[32, 9, 10, 13]⟩) := by
  rw [World.cell?_alloc_at _ _ _ _ (by simp)]
  rfl

set_option maxHeartbeats 1000000 in
theorem gap_any (w : World) (b i : Nat) (s : ByteArray) (h : Rd w b s i) (hT : Tabs w) (hb4 : 8 ≤ b) :
    Calls Tryz.prog 89 #[.pointer (some ⟨b, 0, none⟩)] w fun e w' => e = .returned (.bool (decide (i < gap s i))) ∧ Adv b (gap s i) w w' := by
  have hbw := h.lt
  have hle := h.le
  obtain ⟨w1, hw1⟩ : ∃ w1, w1 = w.alloc (.cells #[.string ⟨#[32, 9, 10, 13]⟩] 9) := ⟨_, rfl⟩
  have hB1 : Below w.heap.size w w1 := by rw [hw1]; exact (Below.refl _ w).alloc (Nat.le_refl _) _
  have hs1 : w.heap.size < w1.heap.size := by rw [hw1]; simp
  have hO : Calls Tryz.prog 122 #[.string ⟨#[32, 9, 10, 13]⟩] w fun e w' => e = .returned (fnV 175 #[.pointer (some ⟨w.heap.size, 0, none⟩)]) ∧ w' = w1 := by rw [hw1]; exact oneOf_any w _
  have HO : Hid (Calls Tryz.prog 122 #[.string ⟨#[32, 9, 10, 13]⟩] w fun e w' => e = .returned (fnV 175 #[.pointer (some ⟨w.heap.size, 0, none⟩)]) ∧ w' = w1) := hO
  have hR1 : Rd w1 b s i := h.below hB1
  have hS1 : IsSet 175 #[.pointer (some ⟨w.heap.size, 0, none⟩)] isW w.heap.size (w.heap.size + 1) w1 := setW w1 _ (by rw [hw1]; exact cellW w)
  have hT1 : Tabs w1 := hT.below hB1 (by omega) (by omega)
  have HRun : Hid (∀ q w2, q ≤ s.size → Adv b q w1 w2 → Calls Tryz.prog 153 #[.pointer (some ⟨b, 0, none⟩), fnV 175 #[.pointer (some ⟨w.heap.size, 0, none⟩)]] w2 fun e w' => e = .returned (str (sub s q (runU isW s q))) ∧ Adv b (runU isW s q) w1 w') := fun q w2 hq a =>
    (run_any w2 b q s (hR1.adv a hq) (hT1.adv a hb4 hR1.lt) _ _ isW _ _ (hS1.adv a (Or.inl hbw)) (fun c => isW_lt) hb4 (Or.inl hbw)).mono fun e w' k => ⟨k.1, a.trans k.2⟩
  have HPl : Hid (∀ q w2, q ≤ s.size → Adv b q w1 w2 → Calls Tryz.prog 90 #[.pointer (some ⟨b, 0, none⟩)] w2 fun e w' => e = .returned (.int .i64 q) ∧ w' = w2) := fun q w2 hq a => place_any w2 b q s (hR1.adv a hq)
  have HSe : Hid (∀ q w2, q ≤ s.size → Adv b q w1 w2 → Calls Tryz.prog 107 #[.pointer (some ⟨b, 0, none⟩), .int .u8 35] w2 fun e w' => e = .returned (.bool (decide (bt s q = 35))) ∧ Adv b q w1 w') := fun q w2 hq a =>
    (sees_any w2 b q s 35 (hR1.adv a hq) (by omega) (by omega)).mono fun e w' k => ⟨k.1, by obtain ⟨n, rfl⟩ := k.2; exact a.trans ((hR1.adv a hq).stayN n)⟩
  have HSk : Hid (∀ q w2, q ≤ s.size → Adv b q w1 w2 → Calls Tryz.prog 154 #[.pointer (some ⟨b, 0, none⟩)] w2 fun e w' => e = .returned (.tuple #[]) ∧ Adv b (skipL s q) w1 w') := fun q w2 hq a =>
    (skipLine_any w2 b q s (hR1.adv a hq)).mono fun e w' k => ⟨k.1, a.trans k.2⟩
  have HA0 : Hid (Adv b i w1 w1) := hR1.stayN 0
  have HAw : Hid (Adv b i w w1) := h.stay hB1
  have HPos : Hid (∀ q w2, q ≤ s.size → Adv b q w1 w2 → posOf w2 b = q) := fun q w2 hq a => (hR1.adv a hq).pos
  have hg := runU_sz isW hle
  have HG : Hid (gap s i = if bt s (runU isW s i) = 35 then gap s (skipL s (runU isW s i)) else runU isW s i) := by
    unfold Hid
    split
    · rename_i h; exact gap_on h
    · rename_i h; exact gap_end h
  have hge := gap_ge s i
  clear hO hw1 hB1 hS1 hT1 hT h hR1
  go_enter Tryz.func89, Tryz.ntmps89
  go_wp2_with fail
  refine HO.out.mono ?_
  rintro e w' ⟨rfl, rfl⟩
  go_wp2_with fail
  refine (HPl.out i _ hle HA0.out).mono ?_
  rintro e w2 ⟨rfl, rfl⟩
  go_wp2_with fail
  refine (HRun.out i _ hle HA0.out).mono ?_
  rintro e w3 ⟨rfl, hA3⟩
  go_wp2_with fail
  go_loopw [] (fun wr => ∃ q : Nat, q ≤ s.size ∧ Adv b q w2 wr ∧ gap s i = if bt s q = 35 then gap s (skipL s q) else q) (fun wr => s.size - posOf wr b)
  case atStart => exact ⟨runU isW s i, hg, hA3, HG.out⟩
  case round =>
    obtain ⟨q, hq, hA, hgq⟩ := hrel
    have HA : Hid (Adv b q w2 wr) := hA
    have HPq : Hid (posOf wr b = q) := HPos.out q wr hq hA
    have hSees := HSe.out q wr hq hA
    by_cases h35 : bt s q = 35
    · rw [decide_eq_true h35] at hSees
      have HSees : Hid (Calls Tryz.prog 107 #[.pointer (some ⟨b, 0, none⟩), .int .u8 35] wr fun e w' => e = .returned (.bool true) ∧ Adv b q w2 w') := hSees
      have hk := skipL_gt h35
      have hu := runU_sz isW hk.2
      have hug := runU_ge isW s (skipL s q)
      have HN : Hid (gap s i = if bt s (runU isW s (skipL s q)) = 35 then gap s (skipL s (runU isW s (skipL s q))) else runU isW s (skipL s q)) := by
        unfold Hid
        rw [hgq, if_pos h35]
        split
        · rename_i h; exact gap_on h
        · rename_i h; exact gap_end h
      clear hSees hgq h35 hA
      go_wp2_with fail
      refine HSees.out.mono ?_
      rintro e w4 ⟨rfl, hA4⟩
      go_wp2_with fail
      refine (HSk.out q _ hq hA4).mono ?_
      rintro e w5 ⟨rfl, hA5⟩
      go_wp2_with fail
      refine (HRun.out _ _ hk.2 hA5).mono ?_
      rintro e w6 ⟨rfl, hA6⟩
      go_wp2_with fail
      go_roundw
      case rel => exact ⟨_, hu, hA6, HN.out⟩
      case measure => rw [HPos.out _ _ hu hA6, HPq.out]; omega
    · rw [decide_eq_false h35] at hSees
      have HSees : Hid (Calls Tryz.prog 107 #[.pointer (some ⟨b, 0, none⟩), .int .u8 35] wr fun e w' => e = .returned (.bool false) ∧ Adv b q w2 w') := hSees
      have HN : Hid (gap s i = q) := by unfold Hid; rw [hgq, if_neg h35]
      clear hSees hgq h35 hA
      go_wp2_with fail
      refine HSees.out.mono ?_
      rintro e w4 ⟨rfl, hA4⟩
      go_wp2_with fail
      refine (HPl.out q _ hq hA4).mono ?_
      rintro e w5 ⟨rfl, rfl⟩
      go_wp2
      go_ret
      rw [HN.out]
      exact ⟨rfl, HAw.out.trans hA4⟩

/-! Signs as values. -/
def tokV (sg : Sg) (p : Nat) : Value := match sg with
  | .none => .nilIface
  | .fin => .iface 114 (.agg #[.int .i64 p])
  | .pre => .iface 115 (.agg #[.int .i64 p])
  | .knd => .iface 221 (.agg #[.int .i64 p])
  | .one c => .iface 170 (.agg #[.int .i64 p, .int .u8 c])
  | .iri l => .iface 163 (.agg #[.int .i64 p, Go.Proofs.YtnffjoipinhojabGreatDoor.str l])
  | .blk l => .iface 167 (.agg #[.int .i64 p, Go.Proofs.YtnffjoipinhojabGreatDoor.str l])
  | .str l => .iface 152 (.agg #[.int .i64 p, Go.Proofs.YtnffjoipinhojabGreatDoor.str l])
  | .lan l => .iface 253 (.agg #[.int .i64 p, Go.Proofs.YtnffjoipinhojabGreatDoor.str l])
  | .num l => .iface 256 (.agg #[.int .i64 p, Go.Proofs.YtnffjoipinhojabGreatDoor.str l])
  | .row l => .iface 228 (.agg #[.int .i64 p, Go.Proofs.YtnffjoipinhojabGreatDoor.str l])
  | .nam r l => .iface 159 (.agg #[.int .i64 p, Go.Proofs.YtnffjoipinhojabGreatDoor.str r, Go.Proofs.YtnffjoipinhojabGreatDoor.str l])
  | .brk n j => .iface 157 (.agg #[.int .i64 p, placedV n j])

/-- what the reading of a sign ends in -/
def SOut (b : Nat) (w : World) (p : Nat) (r : Sg × Nat) (e : Ending) (w' : World) : Prop :=
  match r.1 with
  | .brk n j => e = stopE n j ∧ ∃ k, k ≤ k ∧ Adv b k w w'
  | sg => e = .returned (tokV sg p) ∧ Adv b r.2 w w'

theorem start_any (w : World) (p : Int) : Calls Tryz.prog 167 #[.int .i64 p] w fun e w' => e = .returned (.int .i64 p) ∧ w' = w := by
  go_enter Tryz.func167, Tryz.ntmps167
  go_wp2
  go_ret
  exact ⟨rfl, rfl⟩

theorem sub_empty {s : ByteArray} {i j : Nat} (hij : i ≤ j) (hj : j ≤ s.size) : sub s i j = [] ↔ j = i := by
  rw [← List.length_eq_zero_iff, sub_len s i j hij hj]
  omega

theorem sub_cons {s : ByteArray} {i j : Nat} (hi : i < j) (hj : j ≤ s.size) : sub s i j = (bt s i).toNat.toUInt8 :: sub s (i + 1) j := by
  unfold sub
  have hl : i < s.size := by omega
  have hd : List.drop i s.data.toList = s[i] :: List.drop (i + 1) s.data.toList := by
    rw [List.drop_eq_getElem_cons (by simpa using hl)]
    rfl
  rw [hd, show j - i = (j - (i + 1)) + 1 by omega, List.take_succ_cons, bt_lt hl]
  simp

theorem str_toList (l : List UInt8) : (⟨l.toArray⟩ : ByteArray).toList = l := by
  rw [ByteArray.toList_eq]

theorem number_any (w : World) (b i p : Nat) (s : ByteArray) (h : Rd w b s i) (hT : Tabs w) (hb4 : 8 ≤ b) (hlt : i < s.size) (hsz : s.size ≤ 1099511627776) :
    Calls Tryz.prog 159 #[.pointer (some ⟨b, 0, none⟩), .int .i64 p] w (SOut b w p (number s i)) := by
  have hTk := take_any w b i s 45 h (by omega) (by omega)
  obtain ⟨h1, h2, h3⟩ := numAt_le hlt
  have hge := runU_ge digit s (numAt s i)
  have hrs := runU_sz digit h2
  have hbw := h.lt
  have HTk : Hid (Calls Tryz.prog 64 #[.pointer (some ⟨b, 0, none⟩), .int .u8 45] w fun e w' => e = .returned (.bool (decide (bt s i = 45))) ∧ Adv b (numAt s i) w w') := hTk
  have HRun : Hid (∀ w2, Adv b (numAt s i) w w2 → Calls Tryz.prog 153 #[.pointer (some ⟨b, 0, none⟩), fnV 121 #[]] w2 fun e w' => e = .returned (str (sub s (numAt s i) (runU digit s (numAt s i)))) ∧ Adv b (runU digit s (numAt s i)) w w') := fun w2 a =>
    (run_any w2 b _ s (h.adv a h2) (hT.adv a hb4 hbw) _ _ digit 0 0 (set_digit w2) (fun c => digit_lt) hb4 (Or.inr (Nat.zero_le _))).mono fun e w' k => ⟨k.1, a.trans k.2⟩
  have HPl : Hid (∀ q w2, q ≤ s.size → Adv b q w w2 → Calls Tryz.prog 90 #[.pointer (some ⟨b, 0, none⟩)] w2 fun e w' => e = .returned (.int .i64 q) ∧ w' = w2) := fun q w2 hq a => place_any w2 b q s (h.adv a hq)
  obtain ⟨q, hq⟩ : ∃ q, q = numAt s i := ⟨_, rfl⟩
  obtain ⟨r, hr⟩ : ∃ r, r = runU digit s q := ⟨_, rfl⟩
  obtain ⟨V, hV⟩ : ∃ V : ByteArray, V = ⟨(sub s q r).toArray⟩ := ⟨_, rfl⟩
  have hVl : V.toList = sub s q r := by rw [hV]; exact str_toList _
  have HE : Hid (number s i = if r = q then (.brk 2 q, i) else (.num (sub s i r), r)) := by unfold Hid number; rw [← hq, ← hr]
  have HR2 : Hid (∀ w2, Adv b q w w2 → Calls Tryz.prog 153 #[.pointer (some ⟨b, 0, none⟩), fnV 121 #[]] w2 fun e w' => e = .returned (.string V) ∧ Adv b r w w') := by rw [hV]; rw [← hq, ← hr] at HRun; exact HRun
  rw [← hq] at HTk h1 h2 hge hrs
  rw [← hr] at hge hrs
  have hVz : V.size = r - q := by rw [hV, arr_size, sub_len s q r (by omega) (by omega)]
  rw [HE.out]
  by_cases he : r = q
  · have hVe : V = ⟨#[]⟩ := by rw [hV, (sub_empty (by omega) (by omega)).2 he]
    rw [if_pos he]
    subst hVe
    cases hd : decide (bt s i = 45) <;> rw [hd] at HTk
    all_goals
      clear hTk HRun hV hr hq HE h hT
      go_enter Tryz.func159, Tryz.ntmps159
      go_wp2_with fail
      refine HTk.out.mono ?_
      rintro e w1 ⟨rfl, hA1⟩
      go_wp2_with fail
      refine (HR2.out _ hA1).mono ?_
      rintro e w2 ⟨rfl, hA2⟩
      go_wp2_with fail
      refine (HPl.out _ _ hrs hA2).mono ?_
      rintro e w3 ⟨rfl, rfl⟩
      go_wp2_with fail
      refine (Refuse_any _ _ _).mono ?_
      rintro e w4 ⟨rfl, rfl⟩
      exact ⟨rfl, rfl, _, Nat.le_refl _, hA2⟩
  · have hne : (V.toList == (⟨#[]⟩ : ByteArray).toList) = false := by
      rw [beq_eq_false_iff_ne, hVl, str_toList []]
      exact fun e => he ((sub_empty (by omega) (by omega)).1 e)
    have hne2 : V.toList.isEmpty = false := by
      rw [hVl]
      cases hx : sub s q r with
      | nil => exact absurd ((sub_empty (by omega) (by omega)).1 hx) he
      | cons a l => rfl
    rw [if_neg he]
    by_cases hd : bt s i = 45
    · have hqi : q = i + 1 := by rw [hq]; unfold numAt; rw [if_pos hd]
      have HC : Hid ((⟨#[45]⟩ : ByteArray) ++ V = ⟨(sub s i r).toArray⟩) := by
        unfold Hid
        rw [hV, sub_cons (s := s) (i := i) (j := r) (by omega) hrs, hd, hqi]
        exact cat_str [45] _
      rw [decide_eq_true hd] at HTk
      clear hTk HRun hV hr hq HE h hT hd hVl
      go_enter Tryz.func159, Tryz.ntmps159
      go_wp2_with fail
      refine HTk.out.mono ?_
      rintro e w1 ⟨rfl, hA1⟩
      go_wp2_with fail
      refine (HR2.out _ hA1).mono ?_
      rintro e w2 ⟨rfl, hA2⟩
      go_wp2
      go_ret
      rw [HC.out]
      exact ⟨rfl, hA2⟩
    · have hqi : q = i := by rw [hq]; unfold numAt; rw [if_neg hd]
      have HC : Hid ((⟨#[]⟩ : ByteArray) ++ V = ⟨(sub s i r).toArray⟩) := by
        unfold Hid
        rw [hV, hqi]
        exact cat_str [] _
      rw [decide_eq_false hd] at HTk
      clear hTk HRun hV hr hq HE h hT hd hVl
      go_enter Tryz.func159, Tryz.ntmps159
      go_wp2_with fail
      refine HTk.out.mono ?_
      rintro e w1 ⟨rfl, hA1⟩
      go_wp2_with fail
      refine (HR2.out _ hA1).mono ?_
      rintro e w2 ⟨rfl, hA2⟩
      go_wp2
      go_ret
      rw [HC.out]
      exact ⟨rfl, hA2⟩

end Tu
end Go.Proofs.YtnffjoipinhojabGreatDoor

set_option linter.unusedSimpArgs false
set_option linter.unusedVariables false
namespace Go.Proofs.YtnffjoipinhojabGreatDoor
open Go.RowKit
namespace Tu

set_option maxHeartbeats 1000000 in
theorem word_any (w : World) (b i p : Nat) (s : ByteArray) (h : Rd w b s i) (hT : Tabs w) (hb4 : 8 ≤ b) (hlt : i < s.size) (hsz : s.size ≤ 1099511627776) :
    Calls Tryz.prog 160 #[.pointer (some ⟨b, 0, none⟩), .int .i64 i] w (SOut b w i (word s i)) := by
  have hbw := h.lt
  have hge := runU_ge alnum s i
  have hrs := runU_sz alnum (s := s) (i := i) (by omega)
  obtain ⟨q, hq⟩ : ∃ q, q = runU alnum s i := ⟨_, rfl⟩
  rw [← hq] at hge hrs
  have HRun : Hid (Calls Tryz.prog 153 #[.pointer (some ⟨b, 0, none⟩), fnV 118 #[]] w fun e w' => e = .returned (str (sub s i q)) ∧ Adv b q w w') := by
    rw [hq]
    exact run_any w b i s h hT _ _ alnum 0 0 (setInRow w) (fun c => alnum_lt) hb4 (Or.inr (Nat.zero_le _))
  have HTk : Hid (∀ w2, Adv b q w w2 → Calls Tryz.prog 64 #[.pointer (some ⟨b, 0, none⟩), .int .u8 58] w2 fun e w' => e = .returned (.bool (decide (bt s q = 58))) ∧ Adv b (if bt s q = 58 then q + 1 else q) w w') := fun w2 a =>
    (take_any w2 b q s 58 (h.adv a hrs) (by omega) (by omega)).mono fun e w' k => ⟨k.1, a.trans k.2⟩
  obtain ⟨V, hV⟩ : ∃ V : ByteArray, V = ⟨(sub s i q).toArray⟩ := ⟨_, rfl⟩
  have hVz : V.size = q - i := by rw [hV, arr_size, sub_len s i q (by omega) (by omega)]
  have HR1 : Hid (Calls Tryz.prog 153 #[.pointer (some ⟨b, 0, none⟩), fnV 118 #[]] w fun e w' => e = .returned (.string V) ∧ Adv b q w w') := by rw [hV]; exact HRun
  have HV : Hid (V = ⟨(sub s i q).toArray⟩) := hV
  have HE : Hid (word s i = if bt s q = 58 then (if 20 < q - i ∨ 20 < runU inRest s (q + 1) - (q + 1) then (.brk 2 i, i) else (.nam (sub s i q) (sub s (q + 1) (runU inRest s (q + 1))), runU inRest s (q + 1))) else if 20 < q - i then (.brk 2 i, i) else (.row (sub s i q), q)) := by
    unfold Hid word
    rw [← hq]
  rw [HE.out]
  clear HRun hV hq
  by_cases h58 : bt s q = 58
  · have hq1 := bt_in h58 (by omega)
    have hge2 := runU_ge inRest s (q + 1)
    have hrs2 := runU_sz inRest (s := s) (i := q + 1) (by omega)
    obtain ⟨r, hr⟩ : ∃ r, r = runU inRest s (q + 1) := ⟨_, rfl⟩
    obtain ⟨U, hU⟩ : ∃ U : ByteArray, U = ⟨(sub s (q + 1) r).toArray⟩ := ⟨_, rfl⟩
    rw [← hr] at hge2 hrs2
    have hUz : U.size = r - (q + 1) := by rw [hU, arr_size, sub_len s _ _ (by omega) (by omega)]
    have HR2 : Hid (∀ w2, Adv b (q + 1) w w2 → Calls Tryz.prog 153 #[.pointer (some ⟨b, 0, none⟩), fnV 201 #[]] w2 fun e w' => e = .returned (.string U) ∧ Adv b r w w') := fun w2 a => by
      rw [hU, hr]
      exact (run_any w2 b (q + 1) s (h.adv a (by omega)) (hT.adv a hb4 hbw) _ _ inRest 0 0 (setInRest w2) (fun c => inRest_lt) hb4 (Or.inr (Nat.zero_le _))).mono fun e w' k => ⟨k.1, a.trans k.2⟩
    have HU : Hid (U = ⟨(sub s (q + 1) r).toArray⟩) := hU
    rw [if_pos h58] at HTk
    rw [if_pos h58, ← hr]
    rw [decide_eq_true h58] at HTk
    clear hU hr h hT HE h58
    by_cases hc : 20 < q - i ∨ 20 < r - (q + 1)
    · rw [if_pos hc]
      by_cases hc1 : 20 < V.size
      · go_enter Tryz.func160, Tryz.ntmps160
        go_wp2_with fail
        refine HR1.out.mono ?_
        rintro e w1 ⟨rfl, hA1⟩
        go_wp2_with fail
        refine (HTk.out _ hA1).mono ?_
        rintro e w2 ⟨rfl, hA2⟩
        go_wp2_with fail
        refine (HR2.out _ hA2).mono ?_
        rintro e w3 ⟨rfl, hA3⟩
        go_wp2_with fail
        refine (start_any _ _).mono ?_
        rintro e w4 ⟨rfl, rfl⟩
        go_wp2_with fail
        refine (Refuse_any _ _ _).mono ?_
        rintro e w5 ⟨rfl, rfl⟩
        exact ⟨rfl, rfl, _, Nat.le_refl _, hA3⟩
      · have hc2 : 20 < U.size := by omega
        go_enter Tryz.func160, Tryz.ntmps160
        go_wp2_with fail
        refine HR1.out.mono ?_
        rintro e w1 ⟨rfl, hA1⟩
        go_wp2_with fail
        refine (HTk.out _ hA1).mono ?_
        rintro e w2 ⟨rfl, hA2⟩
        go_wp2_with fail
        refine (HR2.out _ hA2).mono ?_
        rintro e w3 ⟨rfl, hA3⟩
        go_wp2_with fail
        refine (start_any _ _).mono ?_
        rintro e w4 ⟨rfl, rfl⟩
        go_wp2_with fail
        refine (Refuse_any _ _ _).mono ?_
        rintro e w5 ⟨rfl, rfl⟩
        exact ⟨rfl, rfl, _, Nat.le_refl _, hA3⟩
    · rw [if_neg hc]
      have hc1 : V.size ≤ 20 := by omega
      have hc2 : U.size ≤ 20 := by omega
      go_enter Tryz.func160, Tryz.ntmps160
      go_wp2_with fail
      refine HR1.out.mono ?_
      rintro e w1 ⟨rfl, hA1⟩
      go_wp2_with fail
      refine (HTk.out _ hA1).mono ?_
      rintro e w2 ⟨rfl, hA2⟩
      go_wp2_with fail
      refine (HR2.out _ hA2).mono ?_
      rintro e w3 ⟨rfl, hA3⟩
      go_wp2
      go_ret
      rw [HV.out, HU.out]
      exact ⟨rfl, hA3⟩
  · rw [if_neg h58] at HTk
    rw [if_neg h58]
    rw [decide_eq_false h58] at HTk
    clear h hT HE h58
    by_cases hc : 20 < q - i
    · rw [if_pos hc]
      have hc1 : 20 < V.size := by omega
      go_enter Tryz.func160, Tryz.ntmps160
      go_wp2_with fail
      refine HR1.out.mono ?_
      rintro e w1 ⟨rfl, hA1⟩
      go_wp2_with fail
      refine (HTk.out _ hA1).mono ?_
      rintro e w2 ⟨rfl, hA2⟩
      go_wp2_with fail
      refine (start_any _ _).mono ?_
      rintro e w4 ⟨rfl, rfl⟩
      go_wp2_with fail
      refine (Refuse_any _ _ _).mono ?_
      rintro e w5 ⟨rfl, rfl⟩
      exact ⟨rfl, rfl, _, Nat.le_refl _, hA2⟩
    · rw [if_neg hc]
      have hc1 : V.size ≤ 20 := by omega
      go_enter Tryz.func160, Tryz.ntmps160
      go_wp2_with fail
      refine HR1.out.mono ?_
      rintro e w1 ⟨rfl, hA1⟩
      go_wp2_with fail
      refine (HTk.out _ hA1).mono ?_
      rintro e w2 ⟨rfl, hA2⟩
      go_wp2
      go_ret
      rw [HV.out]
      exact ⟨rfl, hA2⟩

def onesL : List UInt8 := [46, 59, 44, 91, 93, 40, 41]
def onesV : Array Value := #[.int .u8 46, .int .u8 59, .int .u8 44, .int .u8 91, .int .u8 93, .int .u8 40, .int .u8 41]

theorem ones_at {q : Nat} (h : q < 7) : ∃ c : Nat, onesV[q]? = some (.int .u8 c) ∧ isOne c = true ∧ c < 256 := by
  have : q = 0 ∨ q = 1 ∨ q = 2 ∨ q = 3 ∨ q = 4 ∨ q = 5 ∨ q = 6 := by omega
  rcases this with rfl | rfl | rfl | rfl | rfl | rfl | rfl
  · exact ⟨46, rfl, rfl, by omega⟩
  · exact ⟨59, rfl, rfl, by omega⟩
  · exact ⟨44, rfl, rfl, by omega⟩
  · exact ⟨91, rfl, rfl, by omega⟩
  · exact ⟨93, rfl, rfl, by omega⟩
  · exact ⟨40, rfl, rfl, by omega⟩
  · exact ⟨41, rfl, rfl, by omega⟩
theorem ones_no {x : Int} (h : ∀ (j c : Nat), j < 7 → onesV[j]? = some (.int .u8 c) → x ≠ c) : isOne x = false := by
  have h0 := h 0 46 (by omega) rfl
  have h1 := h 1 59 (by omega) rfl
  have h2 := h 2 44 (by omega) rfl
  have h3 := h 3 91 (by omega) rfl
  have h4 := h 4 93 (by omega) rfl
  have h5 := h 5 40 (by omega) rfl
  have h6 := h 6 41 (by omega) rfl
  unfold isOne
  simp
  omega

set_option maxRecDepth 20000 in
set_option maxHeartbeats 1000000 in
theorem single_any (w : World) (b i : Nat) (s : ByteArray) (h : Rd w b s i) :
    Calls Tryz.prog 161 #[.pointer (some ⟨b, 0, none⟩), .int .i64 i] w (SOut b w i (single s i)) := by
  have hle := h.le
  have hbw := h.lt
  have hcv := fun (w : World) (C : Array Value) (n c : Nat) => Lib.run_convert_bytes_const (P := Tryz.prog) w 57 5 C n c Tryz.underlying57 Tryz.underlying5
  obtain ⟨w1, hw1⟩ : ∃ w1, w1 = w.alloc (.cells onesV 5 (7, 8)) := ⟨_, rfl⟩
  have HW : Hid (w.alloc (.cells #[.int .u8 46, .int .u8 59, .int .u8 44, .int .u8 91, .int .u8 93, .int .u8 40, .int .u8 41] 5 (7, 8)) = w1) := hw1.symm
  have hB1 : Below w.heap.size w w1 := by rw [hw1]; exact (Below.refl _ w).alloc (Nat.le_refl _) _
  have hh : w1.heap[w.heap.size]? = some (.cells onesV 5 (7, 8)) := by rw [hw1]; exact heap_new _ _
  have HR1 : Hid (Rd w1 b s i) := h.below hB1
  have HAw : Hid (Adv b i w w1) := h.stay hB1
  have HA0 : Hid (Adv b i w1 w1) := (h.below hB1).stayN 0
  have HCel : Hid (∀ w2 q (c : Nat), Adv b i w1 w2 → onesV[q]? = some (.int .u8 c) → w2.cell? ⟨w.heap.size, q, none⟩ = some (.int .u8 c)) := fun w2 q c a hc => by
    rw [a.cell (by have := (Array.getElem?_eq_some_iff.1 hh).1; exact this) (by omega), Lib.cell_of_heap hh]
    exact hc
  have HTk : Hid (∀ w2 (c : Int), Adv b i w1 w2 → 0 ≤ c → c < 256 → Calls Tryz.prog 64 #[.pointer (some ⟨b, 0, none⟩), .int .u8 c] w2 fun e w' => e = .returned (.bool (decide (bt s i = c))) ∧ Adv b (if bt s i = c then i + 1 else i) w1 w') := fun w2 c a h0 h1 =>
    (take_any w2 b i s c (HR1.out.adv a hle) h0 h1).mono fun e w' k => ⟨k.1, a.trans k.2⟩
  have hsw : w.heap.size < w1.heap.size := (Array.getElem?_eq_some_iff.1 hh).1
  clear h hw1 hB1 hh
  go_enter Tryz.func161, Tryz.ntmps161
  go_wp2
  rw [HW.out]
  go_loopw [10] (fun t wr => ∃ q : Nat, q ≤ 7 ∧ t = .int .i64 q ∧ Adv b i w1 wr ∧ ∀ (j c : Nat), j < q → onesV[j]? = some (.int .u8 c) → bt s i ≠ c) (fun t _ => 7 - (intOf t).toNat)
  case atStart => exact ⟨0, by omega, rfl, HA0.out, fun j c hj => by omega⟩
  case round =>
    obtain ⟨q, hq, rfl, hA, hno⟩ := hrel
    have HA : Hid (Adv b i w1 wr) := hA
    have HN : Hid (∀ (j c : Nat), j < q → onesV[j]? = some (.int .u8 c) → bt s i ≠ c) := hno
    clear hno
    by_cases h7 : q < 7
    · obtain ⟨c, hc, h1, h256⟩ := ones_at h7
      have hcel := HCel.out wr q c hA hc
      have hT := HTk.out wr c hA (by omega) (by omega)
      have HC : Hid (onesV[q]? = some (.int .u8 c)) := hc
      by_cases hbc : bt s i = c
      · rw [if_pos hbc, decide_eq_true hbc] at hT
        have HT : Hid (Calls Tryz.prog 64 #[.pointer (some ⟨b, 0, none⟩), .int .u8 c] wr fun e w' => e = .returned (.bool true) ∧ Adv b (i + 1) w1 w') := hT
        have HS : Hid (single s i = (.one c, i + 1)) := by
          unfold Hid single
          rw [hbc, if_pos h1]
          rfl
        rw [HS.out]
        clear hT hbc hc h1 hA
        go_wp2_with fail
        refine HT.out.mono ?_
        rintro e w2 ⟨rfl, hA2⟩
        go_wp2
        go_ret
        exact ⟨rfl, HAw.out.trans hA2⟩
      · rw [if_neg hbc, decide_eq_false hbc] at hT
        have HT : Hid (Calls Tryz.prog 64 #[.pointer (some ⟨b, 0, none⟩), .int .u8 c] wr fun e w' => e = .returned (.bool false) ∧ Adv b i w1 w') := hT
        have HB : Hid (bt s i ≠ c) := hbc
        clear hT hbc hc h1 hA
        go_wp2_with fail
        refine HT.out.mono ?_
        rintro e w2 ⟨rfl, hA2⟩
        go_wp2_with fail
        go_roundw
        case rel =>
          refine ⟨q + 1, by omega, by go_num, hA2, fun j d hj hd => ?_⟩
          rcases Nat.lt_or_ge j q with h | h
          · exact HN.out j d h hd
          · have e : j = q := by omega
            subst e
            rw [HC.out] at hd
            cases hd
            exact HB.out
        case measure => simp [intOf]; omega
    · have e7 : q = 7 := by omega
      subst e7
      have HS : Hid (single s i = (.brk 2 i, i)) := by
        unfold Hid single
        rw [ones_no HN.out]
        rfl
      rw [HS.out]
      clear hA
      go_wp2_with fail
      refine (start_any _ _).mono ?_
      rintro e w2 ⟨rfl, rfl⟩
      go_wp2_with fail
      refine (Refuse_any _ _ _).mono ?_
      rintro e w5 ⟨rfl, rfl⟩
      rw [HS.out]
      exact ⟨rfl, rfl, _, Nat.le_refl _, HAw.out.trans HA.out⟩

end Tu
end Go.Proofs.YtnffjoipinhojabGreatDoor

