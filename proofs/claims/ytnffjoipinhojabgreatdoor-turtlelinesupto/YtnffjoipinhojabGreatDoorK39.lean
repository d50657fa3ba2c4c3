import Derived.Test.YtnffjoipinhojabGreatDoorK38
set_option linter.unusedSimpArgs false
set_option linter.unusedVariables false
namespace Go.Proofs.YtnffjoipinhojabGreatDoor
open Go.RowKit
namespace Tu

/-! put. -/

/-- texts in a block -/
def Txs (w : World) (g : Nat) (xs : List (List UInt8)) : Prop := ∃ cs, w.heap[g]? = some (.cells cs 9 (0, 0)) ∧ ∀ (k : Nat) (x : List UInt8), xs[k]? = some x → cs[k]? = some (str x)

theorem Txs.cell {w : World} {g : Nat} {xs : List (List UInt8)} (h : Txs w g xs) {k : Nat} {x : List UInt8} (hk : xs[k]? = some x) : w.cell? ⟨g, k, none⟩ = some (str x) := by
  obtain ⟨cs, h1, h2⟩ := h
  rw [Lib.cell_of_heap h1]
  exact h2 k x hk
theorem Txs.others {w w' : World} {g b : Nat} {xs : List (List UInt8)} (h : Txs w g xs) (hg : g ≠ b) (ho : Lib.OthersKept 5 (some b) w w') : Txs w' g xs := by
  obtain ⟨cs, h1, h2⟩ := h
  exact ⟨cs, ho g _ h1 (by simpa using hg) (fun c fz e => by cases e), h2⟩

theorem take_flat {xs : List (List UInt8)} {q : Nat} {x : List UInt8} (h : xs[q]? = some x) : (xs.take (q + 1)).flatten = (xs.take q).flatten ++ x := by
  rw [List.take_add_one, h]
  simp

theorem flat_le {xs : List (List UInt8)} (q : Nat) : (xs.take q).flatten.length ≤ xs.flatten.length := by
  have : xs.flatten = (xs.take q).flatten ++ (xs.drop q).flatten := by rw [← List.flatten_append, List.take_append_drop]
  rw [this, List.length_append]
  omega

set_option maxHeartbeats 4000000 in
set_option maxRecDepth 20000 in
theorem put_any (w : World) (B b g cap : Nat) (nv : Value) (l : List UInt8) (xs : List (List UInt8)) (h : Pb B b nv l w) (hx : Txs w g xs) (hg : g ≠ b) (hn : xs.length ≤ 1000) (hl : l.length + xs.flatten.length ≤ 140737488355328) (hBw : B ≤ w.heap.size) :
    Calls Tryz.prog 43 #[.pointer (some ⟨b, 0, none⟩), .slice (some ⟨g, 0, none⟩) xs.length cap] w fun e w' => e = .returned (.tuple #[]) ∧ Pb B b nv (l ++ xs.flatten) w' ∧ Below B w w' ∧ Lib.OthersKept 5 (some b) w w' := by
  have H0 : Hid (Pb B b nv l w) := h
  have HX : Hid (Txs w g xs) := hx
  clear h hx
  go_enter Tryz.func43, Tryz.ntmps43
  go_wp2_with fail
  go_loopw [8] (fun i wr => ∃ q : Nat, i = .int .i64 q ∧ q ≤ xs.length ∧ Pb B b nv (l ++ (xs.take q).flatten) wr ∧ Below B w wr ∧ Lib.OthersKept 5 (some b) w wr) (fun i wr => xs.length - (intOf i).toNat)
  case atStart => exact ⟨0, rfl, Nat.zero_le _, by simpa using H0.out, Below.refl _ _, Lib.OthersKept.refl _ _ _⟩
  case round =>
    obtain ⟨q, rfl, hq, hp, hb, ho⟩ := hrel
    have HP : Hid (Pb B b nv (l ++ (xs.take q).flatten) wr) := hp
    have HB : Hid (Below B w wr) := hb
    have HO : Hid (Lib.OthersKept 5 (some b) w wr) := ho
    clear hp hb ho
    by_cases hlt : q < xs.length
    · obtain ⟨x, hx⟩ : ∃ x, xs[q]? = some x := ⟨_, List.getElem?_eq_getElem hlt⟩
      have hc : wr.cell? ⟨g, q, none⟩ = some (str x) := (HX.out.others hg HO.out).cell hx
      have hfl := flat_le (xs := xs) (q + 1)
      rw [take_flat hx, List.length_append] at hfl
      have HW : Hid (Calls Tryz.prog 33 #[.pointer (some ⟨b, 0, none⟩), str x] wr fun e w' => (∃ n, e = .returned (.tuple #[.int .i64 n, .nilIface])) ∧ Pb B b nv (l ++ (xs.take (q + 1)).flatten) w' ∧ Below B wr w' ∧ Lib.OthersKept 5 (some b) wr w') := by
        have := wstring_k wr B b nv _ ⟨x.toArray⟩ HP.out (by rw [arr_size, List.length_append]; omega) (Nat.le_trans hBw HB.out.size)
        rw [take_flat hx, ← List.append_assoc]
        exact this
      clear hx hfl
      go_wp2_with fail
      refine HW.out.mono ?_
      rintro e w2 ⟨⟨n, rfl⟩, hp2, hb2, ho2⟩
      have H2 : Hid (Pb B b nv (l ++ (xs.take (q + 1)).flatten) w2 ∧ Below B w w2 ∧ Lib.OthersKept 5 (some b) w w2) := ⟨hp2, HB.out.trans hb2, HO.out.trans ho2⟩
      clear hp2 hb2 ho2
      go_wp2_with fail
      go_roundw
      case rel => exact ⟨q + 1, by go_num, by omega, H2.out⟩
      case measure => simp [intOf]; omega
    · have hqe : q = xs.length := by omega
      subst hqe
      have HP2 : Hid (Pb B b nv (l ++ xs.flatten) wr) := by have := HP.out; rw [List.take_length] at this; exact this
      go_wp2
      go_end0
      exact ⟨rfl, HP2.out, HB.out, HO.out⟩

end Tu
end Go.Proofs.YtnffjoipinhojabGreatDoor

set_option linter.unusedSimpArgs false
set_option linter.unusedVariables false
namespace Go.Proofs.YtnffjoipinhojabGreatDoor
open Go.RowKit
namespace Tu

def isRestL (l : List UInt8) : Bool := decide (l.length ≤ 20) && l.all fun c => inRest (c.toNat : Int)

theorem isRest_any (w : World) (l : List UInt8) (hl : l.length ≤ 1099511627776) (hT : Tabs w) (hG : 8 ≤ w.heap.size) :
    Calls Tryz.prog 186 #[str l] w fun e w' => e = .returned (.bool (isRestL l)) ∧ Below w.heap.size w w' := by
  have HA : Hid (Calls Tryz.prog 117 #[str l, fnV 201 #[]] w fun e w' => e = .returned (.bool (l.all fun c => inRest (c.toNat : Int))) ∧ Below w.heap.size w w') := allOf_any w l hl hT hG _ inRest (fun w2 => setInRest w2) (fun c => inRest_lt)
  obtain ⟨V, hV⟩ : ∃ V : ByteArray, V = ⟨l.toArray⟩ := ⟨_, rfl⟩
  have hz : V.size = l.length := by rw [hV]; exact arr_size l
  have e2 : str l = .string V := by rw [hV]
  rw [e2] at HA ⊢
  unfold isRestL
  by_cases h20 : l.length ≤ 20
  · rw [decide_eq_true h20, Bool.true_and]
    generalize (l.all fun c => inRest (c.toNat : Int)) = r at *
    clear hT hV e2
    go_enter Tryz.func186, Tryz.ntmps186
    go_wp2_with fail
    refine HA.out.mono ?_
    rintro e w1 ⟨rfl, hB⟩
    go_wp2
    go_ret
    exact ⟨rfl, hB⟩
  · rw [decide_eq_false h20, Bool.false_and]
    clear hT hV e2 HA
    go_enter Tryz.func186, Tryz.ntmps186
    go_wp2_with fail
    go_ret
    exact ⟨rfl, Below.refl _ _⟩

def restL (long t : List UInt8) : List UInt8 := Lib.trimPrefix (trimG t) (trimG long)
def restOk (long t : List UInt8) : Bool := Lib.hasPrefix (trimG t) (trimG long) && isRestL (restL long t)

theorem trimG_le (l : List UInt8) : (trimG l).length ≤ l.length := by
  unfold trimG
  split
  · simp
  · exact Nat.le_refl _
theorem trimPrefix_le (l p : List UInt8) : (Lib.trimPrefix l p).length ≤ l.length := by
  unfold Lib.trimPrefix
  split <;> simp

theorem restBehind_any (w : World) (long t : List UInt8) (hl : long.length ≤ 1099511627776) (ht : t.length ≤ 1099511627776) (hT : Tabs w) (hG : 8 ≤ w.heap.size) :
    Calls Tryz.prog 138 #[str long, str t] w fun e w' => e = .returned (.tuple #[str (restL long t), .bool (restOk long t)]) ∧ Below w.heap.size w w' := by
  have HT1 : Hid (Calls Tryz.prog 143 #[str t, .string ⟨#[62]⟩] w fun e w' => e = .returned (str (trimG t)) ∧ w' = w) := trim_any w t (by omega)
  have HT2 : Hid (Calls Tryz.prog 143 #[str long, .string ⟨#[62]⟩] w fun e w' => e = .returned (str (trimG long)) ∧ w' = w) := trim_any w long (by omega)
  have HC : Hid (Calls Tryz.prog 74 #[str (trimG t), str (trimG long)] w fun e w' => e = .returned (.tuple #[str (restL long t), .bool (Lib.hasPrefix (trimG t) (trimG long))]) ∧ w' = w) := cut_any w ⟨(trimG t).toArray⟩ ⟨(trimG long).toArray⟩
  have hr : (restL long t).length ≤ 1099511627776 := by
    have h1 := trimPrefix_le (trimG t) (trimG long)
    have h2 := trimG_le t
    unfold restL
    omega
  have HR : Hid (Calls Tryz.prog 186 #[str (restL long t)] w fun e w' => e = .returned (.bool (isRestL (restL long t))) ∧ Below w.heap.size w w') := isRest_any w _ hr hT hG
  unfold restOk
  generalize trimG t = a at *
  generalize trimG long = c at *
  generalize restL long t = d at *
  generalize isRestL d = e0 at *
  cases hq : Lib.hasPrefix a c with
  | false =>
    rw [hq] at HC
    rw [Bool.false_and]
    clear hT hr HR hq
    go_enter Tryz.func138, Tryz.ntmps138
    go_wp2_with fail
    refine HT1.out.mono ?_
    rintro e w1 ⟨rfl, rfl⟩
    go_wp2_with fail
    refine HT2.out.mono ?_
    rintro e w1 ⟨rfl, rfl⟩
    go_wp2_with fail
    refine HC.out.mono ?_
    rintro e w1 ⟨rfl, rfl⟩
    go_wp2_with fail
    refine bodyPost_ret (v := .tuple #[str d, .bool false]) (by simp [results, Tryz.results138, go_sem]) rfl ?_
    exact ⟨rfl, Below.refl _ _⟩
  | true =>
    rw [hq] at HC
    rw [Bool.true_and]
    clear hT hr hq
    go_enter Tryz.func138, Tryz.ntmps138
    go_wp2_with fail
    refine HT1.out.mono ?_
    rintro e w1 ⟨rfl, rfl⟩
    go_wp2_with fail
    refine HT2.out.mono ?_
    rintro e w1 ⟨rfl, rfl⟩
    go_wp2_with fail
    refine HC.out.mono ?_
    rintro e w1 ⟨rfl, rfl⟩
    go_wp2_with fail
    refine HR.out.mono ?_
    rintro e w2 ⟨rfl, hB⟩
    go_wp2_with fail
    refine bodyPost_ret (v := .tuple #[str d, .bool e0]) (by simp [results, Tryz.results138, go_sem]) rfl ?_
    exact ⟨rfl, hB⟩

end Tu
end Go.Proofs.YtnffjoipinhojabGreatDoor

