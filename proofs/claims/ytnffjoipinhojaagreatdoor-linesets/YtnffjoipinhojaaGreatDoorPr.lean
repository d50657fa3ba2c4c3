import Derived.Test.YtnffjoipinhojaaGreatDoorPq
import Derived.Test.YtnffjoipinhojaaGreatDoorSg
set_option linter.unusedSimpArgs false
set_option linter.unusedVariables false
namespace Go.Proofs.YtnffjoipinhojaaGreatDoor
open Go.RowKit
namespace Ref

def lessK : R (Nat × List UInt8) → R (List UInt8)
  | .ok p j => .ok p.2 j
  | .bad j => .bad j

set_option maxHeartbeats 2000000 in
theorem term_any (w : World) (b i : Nat) (s : ByteArray) (a : Int) (h : Pn w b s i 0 a) :
    Calls Tryz.prog 38 #[.pointer (some ⟨b, 0, none⟩)] w (Pout3 b s a w (lessK (term s i))) := by
  have H : Hid (Pn w b s i 0 a) := h
  obtain ⟨y, hy⟩ : ∃ y, y = nb s i 0 := ⟨_, rfl⟩
  have HX0 : Hid (Calls Tryz.prog 71 #[.pointer (some ⟨b, 0, none⟩)] w fun e w' => e = .returned (.int .i64 y) ∧ ∃ n', w' = w.drewN n') := by
    have := next_any w b i s 0 a h
    rw [← hy] at this
    exact this
  have hnl := fun c h0 h1 => nb_live s i c h0 h1
  rw [← hy] at hnl
  have HP : Hid (∀ (n : Nat) r e w', Pout3 b s a (w.drewN n) r e w' → Pout3 b s a w r e w') := fun n r e w' k => by
    unfold Pout3 at k ⊢
    split at k
    · exact ⟨k.1, (Mv.stayN H.out n).trans k.2⟩
    · obtain ⟨v, q, h1, h2⟩ := k
      exact ⟨v, q, h1, (Mv.stayN H.out n).trans h2⟩
  obtain ⟨p0, p1, p2, p3, pf, pms, ple⟩ := h
  by_cases y60 : y = 60
  · have hb : bt s i = 60 := (hnl 60 (by omega) (by omega)).1 y60
    have HR : Hid (lessK (term s i) = iri s i) := by unfold Hid term; rw [if_pos hb]; cases iri s i <;> rfl
    have HC : Hid (∀ n, Calls Tryz.prog 44 #[.pointer (some ⟨b, 0, none⟩)] (w.drewN n) fun e w' => ∃ v : ByteArray, e = .returned (.string v) ∧ Pout3 b s a w (iri s i) (.returned (.string v)) w') := fun n =>
      (iri_any (w.drewN n) b i s a (H.out.drewN n)).mono fun e w' k => by
        have k3 := HP.out n _ _ _ k.to3
        revert k3
        cases hr : iri s i with
        | ok l q => exact fun k3 => ⟨_, k3.1, rfl, k3.2⟩
        | bad q => rintro ⟨v, z, h1, h2⟩; exact ⟨v, h1, v, z, rfl, h2⟩
    clear hb hnl hy
    subst y60
    go_enter Tryz.func38, Tryz.ntmps38
    go_wp2_with fail
    refine HX0.out.mono ?_
    rintro e w2 ⟨rfl, n, rfl⟩
    go_wp2_with fail
    refine (HC.out _).mono ?_
    rintro e w3 ⟨v, rfl, k3⟩
    have HK : Hid (Pout3 b s a w (iri s i) (.returned (.string v)) w3) := k3
    clear k3
    go_wp2_with fail
    go_ret
    rw [HR.out]
    exact HK.out
  by_cases y95 : y = 95
  · have hb : bt s i = 95 := (hnl 95 (by omega) (by omega)).1 y95
    have HR : Hid (lessK (term s i) = blank s i) := by unfold Hid term; rw [if_neg (by omega), if_pos hb]; cases blank s i <;> rfl
    have HC : Hid (∀ n, Calls Tryz.prog 72 #[.pointer (some ⟨b, 0, none⟩)] (w.drewN n) fun e w' => ∃ v : ByteArray, e = .returned (.string v) ∧ Pout3 b s a w (blank s i) (.returned (.string v)) w') := fun n =>
      (label_any (w.drewN n) b i s a (H.out.drewN n)).mono fun e w' k => by
        have k3 := HP.out n _ _ _ k.to3
        revert k3
        cases hr : blank s i with
        | ok l q => exact fun k3 => ⟨_, k3.1, rfl, k3.2⟩
        | bad q => rintro ⟨v, z, h1, h2⟩; exact ⟨v, h1, v, z, rfl, h2⟩
    clear hb hnl hy
    subst y95
    go_enter Tryz.func38, Tryz.ntmps38
    go_wp2_with fail
    refine HX0.out.mono ?_
    rintro e w2 ⟨rfl, n, rfl⟩
    go_wp2_with fail
    refine (HC.out _).mono ?_
    rintro e w3 ⟨v, rfl, k3⟩
    have HK : Hid (Pout3 b s a w (blank s i) (.returned (.string v)) w3) := k3
    clear k3
    go_wp2_with fail
    go_ret
    rw [HR.out]
    exact HK.out
  by_cases y34 : y = 34
  · have hb : bt s i = 34 := (hnl 34 (by omega) (by omega)).1 y34
    have HR : Hid (lessK (term s i) = literal s i) := by unfold Hid term; rw [if_neg (by omega), if_neg (by omega), if_pos hb]; cases literal s i <;> rfl
    have HC : Hid (∀ n, Calls Tryz.prog 73 #[.pointer (some ⟨b, 0, none⟩)] (w.drewN n) fun e w' => ∃ v : ByteArray, e = .returned (.string v) ∧ Pout3 b s a w (literal s i) (.returned (.string v)) w') := fun n =>
      (literal_any (w.drewN n) b i s a (H.out.drewN n)).mono fun e w' k => by
        have k3 := HP.out n _ _ _ k
        revert k3
        cases hr : literal s i with
        | ok l q => exact fun k3 => ⟨_, k3.1, rfl, k3.2⟩
        | bad q => rintro ⟨v, z, h1, h2⟩; exact ⟨v, h1, v, z, rfl, h2⟩
    clear hb hnl hy
    subst y34
    go_enter Tryz.func38, Tryz.ntmps38
    go_wp2_with fail
    refine HX0.out.mono ?_
    rintro e w2 ⟨rfl, n, rfl⟩
    go_wp2_with fail
    refine (HC.out _).mono ?_
    rintro e w3 ⟨v, rfl, k3⟩
    have HK : Hid (Pout3 b s a w (literal s i) (.returned (.string v)) w3) := k3
    clear k3
    go_wp2_with fail
    go_ret
    rw [HR.out]
    exact HK.out
  have h60 : bt s i ≠ 60 := fun k => y60 ((hnl 60 (by omega) (by omega)).2 k)
  have h95 : bt s i ≠ 95 := fun k => y95 ((hnl 95 (by omega) (by omega)).2 k)
  have h34 : bt s i ≠ 34 := fun k => y34 ((hnl 34 (by omega) (by omega)).2 k)
  have HR : Hid (lessK (term s i) = .bad i) := by unfold Hid term; rw [if_neg h60, if_neg h95, if_neg h34]; rfl
  have d60 : (y == 60) = false := by simp [y60]
  have d95 : (y == 95) = false := by simp [y95]
  have d34 : (y == 34) = false := by simp [y34]
  clear h60 h95 h34 hnl hy
  go_enter Tryz.func38, Tryz.ntmps38
  go_wp2_with fail
  refine HX0.out.mono ?_
  rintro e w2 ⟨rfl, n, rfl⟩
  go_wp2_with fail
  refine (fail_live _ _ _ _ _ _ _ (H.out.drewN _)).mono ?_
  rintro e w3 ⟨rfl, m3⟩
  have HM : Hid (Mv b s i 2 i w w3) := (Mv.stayN H.out _).trans m3
  clear m3
  go_wp2_with fail
  go_ret
  rw [HR.out]
  exact ⟨_, _, rfl, HM.out⟩

/-- What the document's own Read answers. -/
def readT (s : ByteArray) : List UInt8 × Int × Int :=
  if 20000 < s.size then ([], 1, 0)
  else match whole s (lessK (term s 0)) with
    | .bad j => ([], 2, j)
    | .ok l j => if 200 < l.length then ([], 4, 0) else (l, 0, 0)

theorem pen_new (w : World) (s : ByteArray) (hs : s.size ≤ 1099511627776) : Pn (w.alloc (.cells #[.string s, .int .i64 0, .int .i64 0, .int .i64 0] 75)) w.heap.size s 0 0 0 := by
  have b5 : (w.alloc (.cells #[.string s, .int .i64 0, .int .i64 0, .int .i64 0] 75)).heap[w.heap.size]? = some (.cells #[.string s, .int .i64 0, .int .i64 0, .int .i64 0] 75 (0, 0)) := heap_new _ _
  exact ⟨by rw [Lib.cell_of_heap b5]; rfl, by rw [Lib.cell_of_heap b5]; rfl, by rw [Lib.cell_of_heap b5]; rfl, by rw [Lib.cell_of_heap b5]; rfl, fun o => Lib.frozen_of_heap b5 o, hs, Nat.zero_le _⟩

set_option maxHeartbeats 2000000 in
theorem read_any (w : World) (s : ByteArray) :
    Calls Tryz.prog 11 #[.string s] w fun e w' => e = .returned (.tuple #[str (readT s).1, .int .i64 (readT s).2.1, .int .i64 (readT s).2.2]) ∧ Below w.heap.size w w' := by
  by_cases h1 : 20000 < s.size
  · have HR : Hid (readT s = ([], 1, 0)) := by unfold Hid readT; rw [if_pos h1]
    rw [HR.out]
    go_enter Tryz.func11, Tryz.ntmps11
    go_wp2
    exact bodyPost_ret (v := .tuple #[str [], .int .i64 1, .int .i64 0]) (by simp [results, Tryz.results11, go_sem]) rfl ⟨rfl, Below.refl _ _⟩
  · have hs : s.size ≤ 1099511627776 := by omega
    have HR0 : Hid (readT s = match whole s (lessK (term s 0)) with
      | .bad j => ([], 2, (j : Int))
      | .ok l j => if 200 < l.length then ([], 4, 0) else (l, 0, 0)) := by unfold Hid readT; rw [if_neg h1]
    have HPn : Hid (Pn (w.alloc (.cells #[.string s, .int .i64 0, .int .i64 0, .int .i64 0] 75)) w.heap.size s 0 0 0) := pen_new w s hs
    have hT := term_any _ _ 0 s 0 HPn.out
    have HB : Hid (∀ k (e a : Int) w', Mv w.heap.size s k e a (w.alloc (.cells #[.string s, .int .i64 0, .int .i64 0, .int .i64 0] 75)) w' → Below w.heap.size w w') := by
      unfold Hid
      intro k e a w' m
      have hb : Below w.heap.size w (w.alloc (.cells #[.string s, .int .i64 0, .int .i64 0, .int .i64 0] 75)) := (Below.refl _ w).alloc (Nat.le_refl _) _
      exact { os := m.os.1.trans hb.os, tape := m.os.2.1.trans hb.tape, output := m.os.2.2.trans hb.output, size := by have h1 := m.size; simp at h1; omega, block := fun x hx => (m.but x (by simp; omega) (by omega)).trans (hb.block x hx) }
    cases ht : term s 0 with
    | bad m =>
      rw [ht] at hT HR0
      have HT : Hid (Calls Tryz.prog 38 #[.pointer (some ⟨w.heap.size, 0, none⟩)] (w.alloc (.cells #[.string s, .int .i64 0, .int .i64 0, .int .i64 0] 75)) fun e w' => ∃ (v : ByteArray) (k : Nat), e = .returned (.string v) ∧ Mv w.heap.size s k 2 m (w.alloc (.cells #[.string s, .int .i64 0, .int .i64 0, .int .i64 0] 75)) w') := hT
      have HR : Hid (readT s = ([], 2, (m : Int))) := HR0.out
      clear hT ht HR0
      rw [HR.out]
      go_enter Tryz.func11, Tryz.ntmps11
      go_wp2_with fail
      refine HT.out.mono ?_
      rintro e w2 ⟨v, k, rfl, m2⟩
      have HBw : Hid (Below w.heap.size w w2) := HB.out _ _ _ _ m2
      obtain ⟨p0, p1, p2, p3, pf, pms, ple⟩ := m2.pn
      clear m2
      go_wp2_with fail
      go_quiet (fail)
      go_wp2_with fail
      exact bodyPost_ret (v := .tuple #[str [], .int .i64 2, .int .i64 m]) (by simp [results, Tryz.results11, go_sem]) rfl ⟨rfl, below_drewN HBw.out _⟩
    | ok p j =>
      rw [ht] at hT HR0
      have hj := term_le ht
      obtain ⟨V, hV⟩ : ∃ V : ByteArray, V = ⟨p.2.toArray⟩ := ⟨_, rfl⟩
      have hVl : V.size = p.2.length := by rw [hV, arr_size]
      have HT : Hid (Calls Tryz.prog 38 #[.pointer (some ⟨w.heap.size, 0, none⟩)] (w.alloc (.cells #[.string s, .int .i64 0, .int .i64 0, .int .i64 0] 75)) fun e w' => e = .returned (.string V) ∧ Mv w.heap.size s j 0 0 (w.alloc (.cells #[.string s, .int .i64 0, .int .i64 0, .int .i64 0] 75)) w') := by unfold Hid; rw [hV]; exact hT
      have HVs : Hid (V = ⟨p.2.toArray⟩) := hV
      clear hT ht hV
      by_cases hjs : j = s.size
      · have HR1 : Hid (readT s = if 200 < p.2.length then ([], 4, 0) else (p.2, 0, 0)) := by
          unfold Hid
          rw [HR0.out]
          rw [show whole s (lessK (R.ok p j)) = R.ok p.2 j from if_pos hjs]
        by_cases h200 : 200 < p.2.length
        · have HR : Hid (readT s = ([], 4, 0)) := by unfold Hid; rw [HR1.out, if_pos h200]
          rw [← hVl] at h200
          clear HR0 HR1
          subst hjs
          rw [HR.out]
          go_enter Tryz.func11, Tryz.ntmps11
          go_wp2_with fail
          refine HT.out.mono ?_
          rintro e w2 ⟨rfl, m2⟩
          have HBw : Hid (Below w.heap.size w w2) := HB.out _ _ _ _ m2
          obtain ⟨p0, p1, p2, p3, pf, pms, ple⟩ := m2.pn
          clear m2
          go_wp2_with fail
          exact bodyPost_ret (v := .tuple #[str [], .int .i64 4, .int .i64 0]) (by simp [results, Tryz.results11, go_sem]) rfl ⟨rfl, HBw.out⟩
        · have HR : Hid (readT s = (p.2, 0, 0)) := by unfold Hid; rw [HR1.out, if_neg h200]
          rw [← hVl] at h200
          clear HR0 HR1
          subst hjs
          rw [HR.out]
          go_enter Tryz.func11, Tryz.ntmps11
          go_wp2_with fail
          refine HT.out.mono ?_
          rintro e w2 ⟨rfl, m2⟩
          have HBw : Hid (Below w.heap.size w w2) := HB.out _ _ _ _ m2
          obtain ⟨p0, p1, p2, p3, pf, pms, ple⟩ := m2.pn
          clear m2
          go_wp2_with fail
          exact bodyPost_ret (v := .tuple #[.string V, .int .i64 0, .int .i64 0]) (by simp [results, Tryz.results11, go_sem]) rfl ⟨by rw [HVs.out], HBw.out⟩
      · have HR : Hid (readT s = ([], 2, (j : Int))) := by
          unfold Hid
          rw [HR0.out]
          rw [show whole s (lessK (R.ok p j)) = R.bad j from if_neg hjs]
        have hlt : j < s.size := by omega
        clear HR0
        rw [HR.out]
        go_enter Tryz.func11, Tryz.ntmps11
        go_wp2_with fail
        refine HT.out.mono ?_
        rintro e w2 ⟨rfl, m2⟩
        have HM : Hid (Mv w.heap.size s j 0 0 (w.alloc (.cells #[.string s, .int .i64 0, .int .i64 0, .int .i64 0] 75)) w2) := m2
        obtain ⟨p0, p1, p2, p3, pf, pms, ple⟩ := m2.pn
        clear m2
        go_wp2_with fail
        refine (fail_live _ _ _ _ _ _ _ HM.out.pn).mono ?_
        rintro e w3 ⟨rfl, m3⟩
        have HBw : Hid (Below w.heap.size w w3) := HB.out _ _ _ _ (HM.out.trans m3)
        obtain ⟨v0, v1, v2, v3, vf, vms, vle⟩ := m3.pn
        clear m3 p0 p1 p2 p3 pf
        go_wp2_with fail
        go_quiet (fail)
        go_wp2_with fail
        exact bodyPost_ret (v := .tuple #[str [], .int .i64 2, .int .i64 j]) (by simp [results, Tryz.results11, go_sem]) rfl ⟨rfl, below_drewN HBw.out _⟩

end Ref
end Go.Proofs.YtnffjoipinhojaaGreatDoor
