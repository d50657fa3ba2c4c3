import Derived.Test.YtnffjoipinhojaaGreatDoorSd
set_option linter.unusedSimpArgs false
set_option linter.unusedVariables false
namespace Go.Proofs.YtnffjoipinhojaaGreatDoor
open Go.RowKit

def firstB (k : Nat) : Int := if k = 1 then 60 else if k = 2 then 95 else 34
def readK (k : Nat) (s : ByteArray) (i : Nat) : R (List UInt8) := if k = 1 then iri s i else if k = 2 then blank s i else literal s i
def termOf (s : ByteArray) (i : Nat) : List Nat → R (Nat × List UInt8)
  | [] => .bad i
  | k :: ks => if bt s i = firstB k then (match readK k s i with | .bad j => .bad j | .ok l j => .ok (k, l) j) else termOf s i ks

theorem termOf_all (s : ByteArray) (i : Nat) : termOf s i [1, 2, 3] = term s i := by
  simp only [termOf, firstB, readK, term]
  rfl

theorem begun1 (w : World) : Calls Tryz.prog 122 #[.int .i64 1] w fun e w' => e = .returned (.tuple #[.int .u8 60, fnV 76 #[]]) ∧ w' = w := by
  go_enter Tryz.func122, Tryz.ntmps122
  go_wp2
  go_ret2
  exact ⟨rfl, rfl⟩
theorem begun2 (w : World) : Calls Tryz.prog 122 #[.int .i64 2] w fun e w' => e = .returned (.tuple #[.int .u8 95, fnV 181 #[]]) ∧ w' = w := by
  go_enter Tryz.func122, Tryz.ntmps122
  go_wp2
  go_ret2
  exact ⟨rfl, rfl⟩
theorem begun3 (w : World) : Calls Tryz.prog 122 #[.int .i64 3] w fun e w' => e = .returned (.tuple #[.int .u8 34, fnV 182 #[]]) ∧ w' = w := by
  go_enter Tryz.func122, Tryz.ntmps122
  go_wp2
  go_ret2
  exact ⟨rfl, rfl⟩

abbrev termV (x : Nat × List UInt8) : Value := .agg #[.int .i64 x.1, str x.2]

set_option maxHeartbeats 4000000 in
theorem termOf_any (w : World) (b i m n cap : Nat) (s : ByteArray) (h : Rd w b s i) (hT : Tabs w) (hb4 : 8 ≤ b) (hsz : s.size ≤ 1099511627776) (ks : List Nat) (hks : ∀ k ∈ ks, k = 1 ∨ k = 2 ∨ k = 3) (hn : ks.length = n) (hn9 : n ≤ 9)
    (hm : ∀ j k, ks[j]? = some k → w.cell? ⟨m, j, none⟩ = some (.int .i64 (k : Nat))) (hmw : m < w.heap.size) :
    Calls Tryz.prog 69 #[.pointer (some ⟨b, 0, none⟩), .slice (some ⟨m, 0, none⟩) n cap] w (Out b w termV (termOf s i ks)) := by
  have hbw := h.lt
  obtain ⟨w1, hw1⟩ : ∃ w1, w1 = w.alloc (.cells #[.int .i64 0, str []] 62) := ⟨_, rfl⟩
  have B1 : Below w.heap.size w w1 := by rw [hw1]; exact (Below.refl _ w).alloc (Nat.le_refl _) _
  have hz1 : w1.heap.size = w.heap.size + 1 := by rw [hw1]; simp
  have hrb : w1.heap[w.heap.size]? = some (.cells #[.int .i64 0, str []] 62 (0, 0)) := by rw [hw1]; exact heap_new _ _
  have R1 := h.below B1
  have T1 : Tabs w1 := hT.below B1 (by omega) (by omega)
  have A1 := h.stay B1
  have HM : Hid (∀ j k wr, Below w1.heap.size w1 wr → ks[j]? = some k → wr.cell? ⟨m, j, none⟩ = some (.int .i64 (k : Nat))) := fun j k wr hb hj =>
    (hb.cell (p := ⟨m, j, none⟩) (by show m < _; omega)).trans ((B1.cell (p := ⟨m, j, none⟩) hmw).trans (hm j k hj))
  have HX : Hid (Rd w1 b s i ∧ Tabs w1 ∧ Adv b i w w1) := ⟨R1, T1, A1⟩
  have HKS : Hid (∀ k ∈ ks, k = 1 ∨ k = 2 ∨ k = 3) := hks
  have HRB : Hid (∀ wr, Below w1.heap.size w1 wr → ∀ w2, (w2 = wr ∨ ∃ (bb jj : Nat), bb = b ∧ Adv bb jj wr w2) → w2.cell? ⟨w.heap.size, 0, none⟩ = some (.int .i64 0) ∧ w2.cell? ⟨w.heap.size, 1, none⟩ = some (str []) ∧ ∀ o, w2.frozen? ⟨w.heap.size, o, none⟩ = false) := by
    intro wr hb w2 hw2
    have e1 : wr.heap[w.heap.size]? = some (.cells #[.int .i64 0, str []] 62 (0, 0)) := by rw [hb.block _ (by omega)]; exact hrb
    have e2 : w2.heap[w.heap.size]? = some (.cells #[.int .i64 0, str []] 62 (0, 0)) := by
      rcases hw2 with rfl | ⟨bb, jj, rfl, a⟩
      · exact e1
      · rw [a.other (Array.getElem?_eq_some_iff.1 e1).1 (by omega)]; exact e1
    exact ⟨by rw [Lib.cell_of_heap e2]; rfl, by rw [Lib.cell_of_heap e2]; rfl, fun o => Lib.frozen_of_heap e2 o⟩
  have HW1 : Hid (w1 = w.alloc (.cells #[.int .i64 0, str []] 62)) := hw1
  clear hw1 B1 hrb R1 T1 A1 hm h hT hks
  go_enter Tryz.func69, Tryz.ntmps69
  go_wp2_with fail
  go_loopw [11] (fun t wr => ∃ q : Nat, q ≤ n ∧ t = .int .i64 q ∧ Below w1.heap.size w1 wr ∧ termOf s i ks = termOf s i (ks.drop q)) (fun t _ => n - (intOf t).toNat)
  case atStart => exact ⟨0, Nat.zero_le _, rfl, by rw [← HW1.out]; exact Below.refl _ _, by simp⟩
  case round =>
    obtain ⟨q, hq, rfl, hb, hno⟩ := hrel
    have HB : Hid (Below w1.heap.size w1 wr) := hb
    have HNo : Hid (termOf s i ks = termOf s i (ks.drop q)) := hno
    have Q1 : Hid (Rd wr b s i ∧ Tabs wr) := ⟨HX.out.1.below hb, HX.out.2.1.below hb (by omega) (by omega)⟩
    have HA1 : Hid (Adv b i w wr) := HX.out.2.2.then_below hb
    have RES : Hid (∀ w2, (w2 = wr ∨ ∃ (jj : Nat), Adv b jj wr w2) → w2.cell? ⟨w.heap.size, 0, none⟩ = some (.int .i64 0) ∧ w2.cell? ⟨w.heap.size, 1, none⟩ = some (str []) ∧ ∀ o, w2.frozen? ⟨w.heap.size, o, none⟩ = false) := fun w2 hw2 =>
      HRB.out wr hb w2 (hw2.elim .inl fun ⟨jj, a⟩ => .inr ⟨b, jj, rfl, a⟩)
    clear hno
    by_cases hlt : q < n
    · obtain ⟨k, hk⟩ : ∃ k, ks[q]? = some k := ⟨ks[q]'(by omega), List.getElem?_eq_getElem (by omega)⟩
      have hcell := HM.out q k wr hb hk
      have hkk := HKS.out k (List.mem_of_getElem? hk)
      have hdr : ks.drop q = k :: ks.drop (q + 1) := by
        obtain ⟨h1, h2⟩ := List.getElem?_eq_some_iff.1 hk
        rw [List.drop_eq_getElem_cons h1, h2]
      clear hk hb
      rcases hkk with rfl | rfl | rfl
      · have hcell1 : wr.cell? ⟨m, q, none⟩ = some (.int .i64 1) := hcell
        clear hcell
        have HBg : Hid (∀ w2, Calls Tryz.prog 122 #[.int .i64 1] w2 fun e w' => e = .returned (.tuple #[.int .u8 60, fnV 76 #[]]) ∧ w' = w2) := fun w2 => begun1 w2
        have HRd : Hid (∀ w2, Rd w2 b s i → Tabs w2 → Calls Tryz.prog 76 #[.pointer (some ⟨b, 0, none⟩)] w2 (Out b w2 str (readK 1 s i))) := fun w2 a1 a2 => iri_any w2 b i s a1 a2 hb4 hsz
        have eR := enters_of Tryz.func76 (by kernel_rfl) rfl
        have HSe : Hid (∀ w2, Rd w2 b s i → Calls Tryz.prog 123 #[.pointer (some ⟨b, 0, none⟩), .int .u8 60] w2 fun e w' => e = .returned (.bool (decide (bt s i = 60))) ∧ ∃ n, w' = w2.drewN n) := fun w2 a => sees_any w2 b i s 60 a (by omega) (by omega)
        by_cases c1 : bt s i = 60
        · simp only [c1, decide_true] at HSe
          have hst : termOf s i ks = match readK 1 s i with | .bad j => .bad j | .ok l j => .ok (1, l) j := by
            rw [HNo.out, hdr]
            exact if_pos c1
          cases hr : readK 1 s i with
          | bad j =>
            rw [hr] at HRd hst
            simp only at hst
            have HR : Hid (termOf s i ks = .bad j) := hst
            clear hst hr c1 hdr
            go_wp2_with fail
            refine (HBg.out _).mono ?_
            rintro e w2 ⟨rfl, rfl⟩
            go_wp2_with fail
            refine (HSe.out _ Q1.out.1).mono ?_
            rintro e w3 ⟨rfl, n3, rfl⟩
            go_wp2_with fail
            refine (HRd.out _ (Q1.out.1.drewN n3) Q1.out.2).mono ?_
            rintro e w4 ⟨rfl, m, hA4⟩
            go_wp2_with fail
            refine ⟨rfl, ?_⟩
            rw [HR.out]
            exact ⟨rfl, m, HA1.out.trans ((Q1.out.1.stayN n3).trans hA4)⟩
          | ok l j =>
            rw [hr] at HRd hst
            simp only at hst
            have HR : Hid (termOf s i ks = .ok (1, l) j) := hst
            clear hst hr c1 hdr
            go_wp2_with fail
            refine (HBg.out _).mono ?_
            rintro e w2 ⟨rfl, rfl⟩
            go_wp2_with fail
            refine (HSe.out _ Q1.out.1).mono ?_
            rintro e w3 ⟨rfl, n3, rfl⟩
            go_wp2_with fail
            refine (HRd.out _ (Q1.out.1.drewN n3) Q1.out.2).mono ?_
            rintro e w4 ⟨rfl, hA4⟩
            obtain ⟨r0, r1, rf⟩ := RES.out w4 (.inr ⟨_, (Q1.out.1.stayN n3).trans hA4⟩)
            have hAA := HA1.out.trans ((Q1.out.1.stayN n3).trans hA4)
            go_wp2_with fail
            refine bodyPost_ret (v := .agg #[.int .i64 1, str l]) (by simp [results, Tryz.results69, go_sem, r0, r1]) rfl ?_
            rw [HR.out]
            refine ⟨rfl, ?_⟩
            refine Below.trans hAA ?_
            repeat (first | exact Below.refl _ _ | refine Below.setCell ?_ (by simp; try omega) _)
        · have hd : decide (bt s i = 60) = false := by simpa using c1
          rw [hd] at HSe
          have HN2 : Hid (termOf s i ks = termOf s i (ks.drop (q + 1))) := by
            unfold Hid
            rw [HNo.out, hdr]
            exact if_neg c1
          clear hdr c1 hd
          go_wp2_with fail
          refine (HBg.out _).mono ?_
          rintro e w2 ⟨rfl, rfl⟩
          go_wp2_with fail
          refine (HSe.out _ Q1.out.1).mono ?_
          rintro e w3 ⟨rfl, n3, rfl⟩
          go_wp2_with fail
          go_roundw
          case rel => exact ⟨q + 1, by omega, by go_num, below_drewN HB.out n3, HN2.out⟩
          case measure => simp [intOf]; omega
      · have hcell1 : wr.cell? ⟨m, q, none⟩ = some (.int .i64 2) := hcell
        clear hcell
        have HBg : Hid (∀ w2, Calls Tryz.prog 122 #[.int .i64 2] w2 fun e w' => e = .returned (.tuple #[.int .u8 95, fnV 181 #[]]) ∧ w' = w2) := fun w2 => begun2 w2
        have HRd : Hid (∀ w2, Rd w2 b s i → Tabs w2 → Calls Tryz.prog 181 #[.pointer (some ⟨b, 0, none⟩)] w2 (Out b w2 str (readK 2 s i))) := fun w2 a1 a2 => blank_any w2 b i s a1 a2 hb4
        have eR := enters_of Tryz.func181 (by kernel_rfl) rfl
        have HSe : Hid (∀ w2, Rd w2 b s i → Calls Tryz.prog 123 #[.pointer (some ⟨b, 0, none⟩), .int .u8 95] w2 fun e w' => e = .returned (.bool (decide (bt s i = 95))) ∧ ∃ n, w' = w2.drewN n) := fun w2 a => sees_any w2 b i s 95 a (by omega) (by omega)
        by_cases c1 : bt s i = 95
        · simp only [c1, decide_true] at HSe
          have hst : termOf s i ks = match readK 2 s i with | .bad j => .bad j | .ok l j => .ok (2, l) j := by
            rw [HNo.out, hdr]
            exact if_pos c1
          cases hr : readK 2 s i with
          | bad j =>
            rw [hr] at HRd hst
            simp only at hst
            have HR : Hid (termOf s i ks = .bad j) := hst
            clear hst hr c1 hdr
            go_wp2_with fail
            refine (HBg.out _).mono ?_
            rintro e w2 ⟨rfl, rfl⟩
            go_wp2_with fail
            refine (HSe.out _ Q1.out.1).mono ?_
            rintro e w3 ⟨rfl, n3, rfl⟩
            go_wp2_with fail
            refine (HRd.out _ (Q1.out.1.drewN n3) Q1.out.2).mono ?_
            rintro e w4 ⟨rfl, m, hA4⟩
            go_wp2_with fail
            refine ⟨rfl, ?_⟩
            rw [HR.out]
            exact ⟨rfl, m, HA1.out.trans ((Q1.out.1.stayN n3).trans hA4)⟩
          | ok l j =>
            rw [hr] at HRd hst
            simp only at hst
            have HR : Hid (termOf s i ks = .ok (2, l) j) := hst
            clear hst hr c1 hdr
            go_wp2_with fail
            refine (HBg.out _).mono ?_
            rintro e w2 ⟨rfl, rfl⟩
            go_wp2_with fail
            refine (HSe.out _ Q1.out.1).mono ?_
            rintro e w3 ⟨rfl, n3, rfl⟩
            go_wp2_with fail
            refine (HRd.out _ (Q1.out.1.drewN n3) Q1.out.2).mono ?_
            rintro e w4 ⟨rfl, hA4⟩
            obtain ⟨r0, r1, rf⟩ := RES.out w4 (.inr ⟨_, (Q1.out.1.stayN n3).trans hA4⟩)
            have hAA := HA1.out.trans ((Q1.out.1.stayN n3).trans hA4)
            go_wp2_with fail
            refine bodyPost_ret (v := .agg #[.int .i64 2, str l]) (by simp [results, Tryz.results69, go_sem, r0, r1]) rfl ?_
            rw [HR.out]
            refine ⟨rfl, ?_⟩
            refine Below.trans hAA ?_
            repeat (first | exact Below.refl _ _ | refine Below.setCell ?_ (by simp; try omega) _)
        · have hd : decide (bt s i = 95) = false := by simpa using c1
          rw [hd] at HSe
          have HN2 : Hid (termOf s i ks = termOf s i (ks.drop (q + 1))) := by
            unfold Hid
            rw [HNo.out, hdr]
            exact if_neg c1
          clear hdr c1 hd
          go_wp2_with fail
          refine (HBg.out _).mono ?_
          rintro e w2 ⟨rfl, rfl⟩
          go_wp2_with fail
          refine (HSe.out _ Q1.out.1).mono ?_
          rintro e w3 ⟨rfl, n3, rfl⟩
          go_wp2_with fail
          go_roundw
          case rel => exact ⟨q + 1, by omega, by go_num, below_drewN HB.out n3, HN2.out⟩
          case measure => simp [intOf]; omega
      · have hcell1 : wr.cell? ⟨m, q, none⟩ = some (.int .i64 3) := hcell
        clear hcell
        have HBg : Hid (∀ w2, Calls Tryz.prog 122 #[.int .i64 3] w2 fun e w' => e = .returned (.tuple #[.int .u8 34, fnV 182 #[]]) ∧ w' = w2) := fun w2 => begun3 w2
        have HRd : Hid (∀ w2, Rd w2 b s i → Tabs w2 → Calls Tryz.prog 182 #[.pointer (some ⟨b, 0, none⟩)] w2 (Out b w2 str (readK 3 s i))) := fun w2 a1 a2 => literal_any w2 b i s a1 a2 hb4 hsz
        have eR := enters_of Tryz.func182 (by kernel_rfl) rfl
        have HSe : Hid (∀ w2, Rd w2 b s i → Calls Tryz.prog 123 #[.pointer (some ⟨b, 0, none⟩), .int .u8 34] w2 fun e w' => e = .returned (.bool (decide (bt s i = 34))) ∧ ∃ n, w' = w2.drewN n) := fun w2 a => sees_any w2 b i s 34 a (by omega) (by omega)
        by_cases c1 : bt s i = 34
        · simp only [c1, decide_true] at HSe
          have hst : termOf s i ks = match readK 3 s i with | .bad j => .bad j | .ok l j => .ok (3, l) j := by
            rw [HNo.out, hdr]
            exact if_pos c1
          cases hr : readK 3 s i with
          | bad j =>
            rw [hr] at HRd hst
            simp only at hst
            have HR : Hid (termOf s i ks = .bad j) := hst
            clear hst hr c1 hdr
            go_wp2_with fail
            refine (HBg.out _).mono ?_
            rintro e w2 ⟨rfl, rfl⟩
            go_wp2_with fail
            refine (HSe.out _ Q1.out.1).mono ?_
            rintro e w3 ⟨rfl, n3, rfl⟩
            go_wp2_with fail
            refine (HRd.out _ (Q1.out.1.drewN n3) Q1.out.2).mono ?_
            rintro e w4 ⟨rfl, m, hA4⟩
            go_wp2_with fail
            refine ⟨rfl, ?_⟩
            rw [HR.out]
            exact ⟨rfl, m, HA1.out.trans ((Q1.out.1.stayN n3).trans hA4)⟩
          | ok l j =>
            rw [hr] at HRd hst
            simp only at hst
            have HR : Hid (termOf s i ks = .ok (3, l) j) := hst
            clear hst hr c1 hdr
            go_wp2_with fail
            refine (HBg.out _).mono ?_
            rintro e w2 ⟨rfl, rfl⟩
            go_wp2_with fail
            refine (HSe.out _ Q1.out.1).mono ?_
            rintro e w3 ⟨rfl, n3, rfl⟩
            go_wp2_with fail
            refine (HRd.out _ (Q1.out.1.drewN n3) Q1.out.2).mono ?_
            rintro e w4 ⟨rfl, hA4⟩
            obtain ⟨r0, r1, rf⟩ := RES.out w4 (.inr ⟨_, (Q1.out.1.stayN n3).trans hA4⟩)
            have hAA := HA1.out.trans ((Q1.out.1.stayN n3).trans hA4)
            go_wp2_with fail
            refine bodyPost_ret (v := .agg #[.int .i64 3, str l]) (by simp [results, Tryz.results69, go_sem, r0, r1]) rfl ?_
            rw [HR.out]
            refine ⟨rfl, ?_⟩
            refine Below.trans hAA ?_
            repeat (first | exact Below.refl _ _ | refine Below.setCell ?_ (by simp; try omega) _)
        · have hd : decide (bt s i = 34) = false := by simpa using c1
          rw [hd] at HSe
          have HN2 : Hid (termOf s i ks = termOf s i (ks.drop (q + 1))) := by
            unfold Hid
            rw [HNo.out, hdr]
            exact if_neg c1
          clear hdr c1 hd
          go_wp2_with fail
          refine (HBg.out _).mono ?_
          rintro e w2 ⟨rfl, rfl⟩
          go_wp2_with fail
          refine (HSe.out _ Q1.out.1).mono ?_
          rintro e w3 ⟨rfl, n3, rfl⟩
          go_wp2_with fail
          go_roundw
          case rel => exact ⟨q + 1, by omega, by go_num, below_drewN HB.out n3, HN2.out⟩
          case measure => simp [intOf]; omega
    · have HE : Hid (termOf s i ks = .bad i) := by
        unfold Hid
        rw [HNo.out, List.drop_of_length_le (by omega)]
        rfl
      clear hb
      go_wp2_with fail
      refine (refuse_any _ _ _ _ Q1.out.1).mono ?_
      rintro e w2 ⟨rfl, rfl⟩
      go_wp2_with fail
      refine ⟨rfl, ?_⟩
      rw [HE.out]
      exact ⟨rfl, i, HA1.out⟩

theorem anyTerm_any (w : World) (b i : Nat) (s : ByteArray) (h : Rd w b s i) (hT : Tabs w) (hb4 : 8 ≤ b) (hsz : s.size ≤ 1099511627776) :
    Calls Tryz.prog 34 #[.pointer (some ⟨b, 0, none⟩)] w (Out b w termV (term s i)) := by
  have hbw := h.lt
  obtain ⟨w1, hw1⟩ : ∃ w1, w1 = (w.alloc (.cells #[.int .i64 0, str []] 62)).alloc (.cells #[.int .i64 1, .int .i64 2, .int .i64 3] 60) := ⟨_, rfl⟩
  have B1 : Below w.heap.size w w1 := by rw [hw1]; exact ((Below.refl _ w).alloc (Nat.le_refl _) _).alloc (by simp) _
  have hz1 : w1.heap.size = w.heap.size + 2 := by rw [hw1]; simp
  have hrb : w1.heap[w.heap.size]? = some (.cells #[.int .i64 0, str []] 62 (0, 0)) := by
    rw [hw1, Below.heap_alloc _ _ _ (by simp)]; exact heap_new _ _
  have hTO := termOf_any w1 b i (w.heap.size + 1) 3 3 s (h.below B1) (hT.below B1 (by omega) (by omega)) hb4 hsz [1, 2, 3] (by simp) rfl (by omega)
    (fun j k hj => by
      rw [hw1, World.cell?_alloc_at _ _ _ _ (by simp)]
      match j, hj with
      | 0, hj => simp at hj; subst hj; rfl
      | 1, hj => simp at hj; subst hj; rfl
      | 2, hj => simp at hj; subst hj; rfl
      | (n + 3), hj => simp at hj) (by omega)
  rw [termOf_all] at hTO
  have HA : Hid (Adv b i w w1) := h.stay B1
  have HRS : Hid (∀ jj w2, Adv b jj w1 w2 → w2.cell? ⟨w.heap.size, 0, none⟩ = some (.int .i64 0) ∧ w2.cell? ⟨w.heap.size, 1, none⟩ = some (str []) ∧ ∀ o, w2.frozen? ⟨w.heap.size, o, none⟩ = false) := by
    intro jj w2 a
    have e2 : w2.heap[w.heap.size]? = some (.cells #[.int .i64 0, str []] 62 (0, 0)) := by
      rw [a.other (by omega) (by omega)]; exact hrb
    exact ⟨by rw [Lib.cell_of_heap e2]; rfl, by rw [Lib.cell_of_heap e2]; rfl, fun o => Lib.frozen_of_heap e2 o⟩
  have HTO : Hid (Calls Tryz.prog 69 #[.pointer (some ⟨b, 0, none⟩), .slice (some ⟨w.heap.size + 1, 0, none⟩) 3 3] ((w.alloc (.cells #[.int .i64 0, str []] 62)).alloc (.cells #[.int .i64 1, .int .i64 2, .int .i64 3] 60)) (Out b w1 termV (term s i))) := by
    rw [← hw1]; exact hTO
  clear hw1 B1 hrb hTO h hT hz1
  cases ht : term s i with
  | bad j =>
    rw [ht] at HTO
    clear ht
    go_enter Tryz.func34, Tryz.ntmps34
    go_wp2_with fail
    refine HTO.out.mono ?_
    rintro e w2 ⟨rfl, k, hA2⟩
    go_wp2_with fail
    exact ⟨rfl, rfl, k, HA.out.trans hA2⟩
  | ok x j =>
    rw [ht] at HTO
    obtain ⟨k, l⟩ := x
    clear ht
    go_enter Tryz.func34, Tryz.ntmps34
    go_wp2_with fail
    refine HTO.out.mono ?_
    rintro e w2 ⟨rfl, hA2⟩
    obtain ⟨r0, r1, rf⟩ := HRS.out _ w2 hA2
    have hAA := HA.out.trans hA2
    go_wp2_with fail
    refine bodyPost_ret (v := .agg #[.int .i64 k, str l]) (by simp [results, Tryz.results34, go_sem, r0, r1]) rfl ?_
    refine ⟨rfl, ?_⟩
    refine Below.trans hAA ?_
    repeat (first | exact Below.refl _ _ | refine Below.setCell ?_ (by simp; try omega) _)
end Go.Proofs.YtnffjoipinhojaaGreatDoor
