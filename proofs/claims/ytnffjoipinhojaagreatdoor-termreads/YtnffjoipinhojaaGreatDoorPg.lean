import Derived.Test.YtnffjoipinhojaaGreatDoorPf
set_option linter.unusedSimpArgs false
set_option linter.unusedVariables false
namespace Go.Proofs.YtnffjoipinhojaaGreatDoor
open Go.RowKit
namespace Ref

theorem Pout.pre {b : Nat} {s : ByteArray} {a : Int} {w w1 : World} {r : R (List UInt8)} {e : Ending} {w' : World} {i : Nat} (m : Mv b s i 0 a w w1) (h : Pout b s a w1 r e w') : Pout b s a w r e w' := by
  unfold Pout at *
  split at h
  · exact ⟨h.1, m.trans h.2⟩
  · obtain ⟨l, k, h1, h2, h3⟩ := h
    exact ⟨l, k, h1, h2, m.trans h3⟩

set_option maxRecDepth 20000 in
set_option maxHeartbeats 4000000 in
theorem escape_any (w : World) (b i : Nat) (s : ByteArray) (a : Int) (h : Pn w b s (i + 1) 0 a) :
    Calls Tryz.prog 90 #[.pointer (some ⟨b, 0, none⟩), .int .i64 i] w (Pout b s a w (encR (esc s i allc true))) := by
  have hN := next_any w b (i + 1) s 0 a h
  have H : Hid (Pn w b s (i + 1) 0 a) := h
  have HN : Hid (Calls Tryz.prog 71 #[.pointer (some ⟨b, 0, none⟩)] w fun e w' => e = .returned (.int .i64 (nb s (i + 1) 0)) ∧ ∃ n, w' = w.drewN n) := hN
  have hcell := h
  obtain ⟨p0, p1, p2, p3, pf, pms, ple⟩ := hcell
  clear hN
  by_cases u117 : bt s (i + 1) = 117
  · have HS : Hid (esc s i allc true = num s i (i + 1 + 1) 4 allc) := by unfold Hid esc; rw [if_pos u117]
    have hn : nb s (i + 1) 0 = 117 := (nb_live s (i + 1) 117 (by omega) (by omega)).2 u117
    rw [hn] at HN
    have HU : Hid (∀ n, Calls Tryz.prog 83 #[.pointer (some ⟨b, 0, none⟩), .int .i64 i, .bool false] (w.drewN n) (Pout b s a (w.drewN n) (encR (num s i (i + 1 + 1) 4 allc)))) := fun n => number_any (w.drewN n) b i (i + 1) 4 s a false allc rfl (h.drewN n) (.inl ⟨u117, rfl⟩)
    obtain ⟨r, hr⟩ : ∃ r, r = num s i (i + 1 + 1) 4 allc := ⟨_, rfl⟩
    have HS2 : Hid (encR (esc s i allc true) = encR r) := by unfold Hid; rw [HS.out, hr]
    rw [← hr] at HU
    clear hn HS hr h u117
    go_enter Tryz.func90, Tryz.ntmps90
    go_wp2_with fail
    refine HN.out.mono ?_
    rintro e w2 ⟨rfl, n, rfl⟩
    go_wp2_with fail
    refine (HU.out n).mono ?_
    intro e w3 ho
    cases r with
    | ok c k =>
      obtain ⟨rfl, hM⟩ := ho
      go_wp2_with fail
      go_ret
      rw [HS2.out]
      exact ⟨rfl, (Mv.stayN H.out n).trans hM⟩
    | bad k =>
      obtain ⟨l, k', rfl, hl, hM⟩ := ho
      go_wp2_with fail
      go_ret
      rw [HS2.out]
      exact ⟨l, k', rfl, hl, (Mv.stayN H.out n).trans hM⟩
  by_cases u85 : bt s (i + 1) = 85
  · have HS : Hid (esc s i allc true = num s i (i + 1 + 1) 8 allc) := by unfold Hid esc; rw [if_neg u117, if_pos u85]
    have hn : nb s (i + 1) 0 = 85 := (nb_live s (i + 1) 85 (by omega) (by omega)).2 u85
    rw [hn] at HN
    have HU : Hid (∀ n, Calls Tryz.prog 83 #[.pointer (some ⟨b, 0, none⟩), .int .i64 i, .bool false] (w.drewN n) (Pout b s a (w.drewN n) (encR (num s i (i + 1 + 1) 8 allc)))) := fun n => number_any (w.drewN n) b i (i + 1) 8 s a false allc rfl (h.drewN n) (.inr ⟨u85, rfl⟩)
    obtain ⟨r, hr⟩ : ∃ r, r = num s i (i + 1 + 1) 8 allc := ⟨_, rfl⟩
    have HS2 : Hid (encR (esc s i allc true) = encR r) := by unfold Hid; rw [HS.out, hr]
    rw [← hr] at HU
    clear hn HS hr h u117 u85
    go_enter Tryz.func90, Tryz.ntmps90
    go_wp2_with fail
    refine HN.out.mono ?_
    rintro e w2 ⟨rfl, n, rfl⟩
    go_wp2_with fail
    refine (HU.out n).mono ?_
    intro e w3 ho
    cases r with
    | ok c k =>
      obtain ⟨rfl, hM⟩ := ho
      go_wp2_with fail
      go_ret
      rw [HS2.out]
      exact ⟨rfl, (Mv.stayN H.out n).trans hM⟩
    | bad k =>
      obtain ⟨l, k', rfl, hl, hM⟩ := ho
      go_wp2_with fail
      go_ret
      rw [HS2.out]
      exact ⟨l, k', rfl, hl, (Mv.stayN H.out n).trans hM⟩
  have HS : Hid (esc s i allc true = match shortOf (bt s (i + 1)) with | some c => .ok c (i + 2) | none => .bad (i + 1)) := by unfold Hid esc; rw [if_neg u117, if_neg u85, if_pos rfl]; rfl
  have x0 : wrap64 ((((⟨#[116, 98, 110, 114, 102, 34, 39, 92]⟩ : ByteArray)[0]'(by show _ < _; simp [ByteArray.size])).toNat : Nat) : Int) = 116 := by kernel_rfl
  have x1 : wrap64 ((((⟨#[116, 98, 110, 114, 102, 34, 39, 92]⟩ : ByteArray)[1]'(by show _ < _; simp [ByteArray.size])).toNat : Nat) : Int) = 98 := by kernel_rfl
  have x2 : wrap64 ((((⟨#[116, 98, 110, 114, 102, 34, 39, 92]⟩ : ByteArray)[2]'(by show _ < _; simp [ByteArray.size])).toNat : Nat) : Int) = 110 := by kernel_rfl
  have x3 : wrap64 ((((⟨#[116, 98, 110, 114, 102, 34, 39, 92]⟩ : ByteArray)[3]'(by show _ < _; simp [ByteArray.size])).toNat : Nat) : Int) = 114 := by kernel_rfl
  have x4 : wrap64 ((((⟨#[116, 98, 110, 114, 102, 34, 39, 92]⟩ : ByteArray)[4]'(by show _ < _; simp [ByteArray.size])).toNat : Nat) : Int) = 102 := by kernel_rfl
  have x5 : wrap64 ((((⟨#[116, 98, 110, 114, 102, 34, 39, 92]⟩ : ByteArray)[5]'(by show _ < _; simp [ByteArray.size])).toNat : Nat) : Int) = 34 := by kernel_rfl
  have x6 : wrap64 ((((⟨#[116, 98, 110, 114, 102, 34, 39, 92]⟩ : ByteArray)[6]'(by show _ < _; simp [ByteArray.size])).toNat : Nat) : Int) = 39 := by kernel_rfl
  have x7 : wrap64 ((((⟨#[116, 98, 110, 114, 102, 34, 39, 92]⟩ : ByteArray)[7]'(by show _ < _; simp [ByteArray.size])).toNat : Nat) : Int) = 92 := by kernel_rfl
  by_cases k0 : bt s (i + 1) = 116
  · have hn : nb s (i + 1) 0 = 116 := (nb_live s (i + 1) 116 (by omega) (by omega)).2 k0
    rw [hn] at HN
    have hlt : i + 1 < s.size := bt_lt_size (by omega)
    have HR : Hid (encR (esc s i allc true) = .ok [9] (i + 2)) := by
      unfold Hid
      rw [HS.out, k0]
      show encR (.ok 9 (i + 2)) = _
      simp only [encR]
      rw [show Lib.encodeRune ((9 : Nat) : Int) = [9] from enc_low (by omega)]
    have hsl : (⟨#[9, 8, 10, 13, 12, 34, 39, 92]⟩ : ByteArray).extract 0 1 = ⟨#[9]⟩ := by rfl
    clear hn HS h u117 u85 k0
    go_enter Tryz.func90, Tryz.ntmps90
    go_wp2_with fail
    refine HN.out.mono ?_
    rintro e w2 ⟨rfl, n, rfl⟩
    go_wp2_with fail
    refine wp_loop_rounds 1 ?_
    rw [rounds_succ]
    go_wp2_with fail
    go_ret
    rw [HR.out]
    exact ⟨rfl, (Mv.stayN H.out n).trans (Mv.at' (H.out.drewN n) (i + 2) (by omega))⟩
  by_cases k1 : bt s (i + 1) = 98
  · have hn : nb s (i + 1) 0 = 98 := (nb_live s (i + 1) 98 (by omega) (by omega)).2 k1
    rw [hn] at HN
    have hlt : i + 1 < s.size := bt_lt_size (by omega)
    have HR : Hid (encR (esc s i allc true) = .ok [8] (i + 2)) := by
      unfold Hid
      rw [HS.out, k1]
      show encR (.ok 8 (i + 2)) = _
      simp only [encR]
      rw [show Lib.encodeRune ((8 : Nat) : Int) = [8] from enc_low (by omega)]
    have hsl : (⟨#[9, 8, 10, 13, 12, 34, 39, 92]⟩ : ByteArray).extract 1 2 = ⟨#[8]⟩ := by rfl
    clear hn HS h u117 u85 k0 k1
    go_enter Tryz.func90, Tryz.ntmps90
    go_wp2_with fail
    refine HN.out.mono ?_
    rintro e w2 ⟨rfl, n, rfl⟩
    go_wp2_with fail
    refine wp_loop_rounds 2 ?_
    rw [rounds_succ]
    go_wp2_with fail
    rw [rounds_succ]
    go_wp2_with fail
    go_ret
    rw [HR.out]
    exact ⟨rfl, (Mv.stayN H.out n).trans (Mv.at' (H.out.drewN n) (i + 2) (by omega))⟩
  by_cases k2 : bt s (i + 1) = 110
  · have hn : nb s (i + 1) 0 = 110 := (nb_live s (i + 1) 110 (by omega) (by omega)).2 k2
    rw [hn] at HN
    have hlt : i + 1 < s.size := bt_lt_size (by omega)
    have HR : Hid (encR (esc s i allc true) = .ok [10] (i + 2)) := by
      unfold Hid
      rw [HS.out, k2]
      show encR (.ok 10 (i + 2)) = _
      simp only [encR]
      rw [show Lib.encodeRune ((10 : Nat) : Int) = [10] from enc_low (by omega)]
    have hsl : (⟨#[9, 8, 10, 13, 12, 34, 39, 92]⟩ : ByteArray).extract 2 3 = ⟨#[10]⟩ := by rfl
    clear hn HS h u117 u85 k0 k1 k2
    go_enter Tryz.func90, Tryz.ntmps90
    go_wp2_with fail
    refine HN.out.mono ?_
    rintro e w2 ⟨rfl, n, rfl⟩
    go_wp2_with fail
    refine wp_loop_rounds 3 ?_
    rw [rounds_succ]
    go_wp2_with fail
    rw [rounds_succ]
    go_wp2_with fail
    rw [rounds_succ]
    go_wp2_with fail
    go_ret
    rw [HR.out]
    exact ⟨rfl, (Mv.stayN H.out n).trans (Mv.at' (H.out.drewN n) (i + 2) (by omega))⟩
  by_cases k3 : bt s (i + 1) = 114
  · have hn : nb s (i + 1) 0 = 114 := (nb_live s (i + 1) 114 (by omega) (by omega)).2 k3
    rw [hn] at HN
    have hlt : i + 1 < s.size := bt_lt_size (by omega)
    have HR : Hid (encR (esc s i allc true) = .ok [13] (i + 2)) := by
      unfold Hid
      rw [HS.out, k3]
      show encR (.ok 13 (i + 2)) = _
      simp only [encR]
      rw [show Lib.encodeRune ((13 : Nat) : Int) = [13] from enc_low (by omega)]
    have hsl : (⟨#[9, 8, 10, 13, 12, 34, 39, 92]⟩ : ByteArray).extract 3 4 = ⟨#[13]⟩ := by rfl
    clear hn HS h u117 u85 k0 k1 k2 k3
    go_enter Tryz.func90, Tryz.ntmps90
    go_wp2_with fail
    refine HN.out.mono ?_
    rintro e w2 ⟨rfl, n, rfl⟩
    go_wp2_with fail
    refine wp_loop_rounds 4 ?_
    rw [rounds_succ]
    go_wp2_with fail
    rw [rounds_succ]
    go_wp2_with fail
    rw [rounds_succ]
    go_wp2_with fail
    rw [rounds_succ]
    go_wp2_with fail
    go_ret
    rw [HR.out]
    exact ⟨rfl, (Mv.stayN H.out n).trans (Mv.at' (H.out.drewN n) (i + 2) (by omega))⟩
  by_cases k4 : bt s (i + 1) = 102
  · have hn : nb s (i + 1) 0 = 102 := (nb_live s (i + 1) 102 (by omega) (by omega)).2 k4
    rw [hn] at HN
    have hlt : i + 1 < s.size := bt_lt_size (by omega)
    have HR : Hid (encR (esc s i allc true) = .ok [12] (i + 2)) := by
      unfold Hid
      rw [HS.out, k4]
      show encR (.ok 12 (i + 2)) = _
      simp only [encR]
      rw [show Lib.encodeRune ((12 : Nat) : Int) = [12] from enc_low (by omega)]
    have hsl : (⟨#[9, 8, 10, 13, 12, 34, 39, 92]⟩ : ByteArray).extract 4 5 = ⟨#[12]⟩ := by rfl
    clear hn HS h u117 u85 k0 k1 k2 k3 k4
    go_enter Tryz.func90, Tryz.ntmps90
    go_wp2_with fail
    refine HN.out.mono ?_
    rintro e w2 ⟨rfl, n, rfl⟩
    go_wp2_with fail
    refine wp_loop_rounds 5 ?_
    rw [rounds_succ]
    go_wp2_with fail
    rw [rounds_succ]
    go_wp2_with fail
    rw [rounds_succ]
    go_wp2_with fail
    rw [rounds_succ]
    go_wp2_with fail
    rw [rounds_succ]
    go_wp2_with fail
    go_ret
    rw [HR.out]
    exact ⟨rfl, (Mv.stayN H.out n).trans (Mv.at' (H.out.drewN n) (i + 2) (by omega))⟩
  by_cases k5 : bt s (i + 1) = 34
  · have hn : nb s (i + 1) 0 = 34 := (nb_live s (i + 1) 34 (by omega) (by omega)).2 k5
    rw [hn] at HN
    have hlt : i + 1 < s.size := bt_lt_size (by omega)
    have HR : Hid (encR (esc s i allc true) = .ok [34] (i + 2)) := by
      unfold Hid
      rw [HS.out, k5]
      show encR (.ok 34 (i + 2)) = _
      simp only [encR]
      rw [show Lib.encodeRune ((34 : Nat) : Int) = [34] from enc_low (by omega)]
    have hsl : (⟨#[9, 8, 10, 13, 12, 34, 39, 92]⟩ : ByteArray).extract 5 6 = ⟨#[34]⟩ := by rfl
    clear hn HS h u117 u85 k0 k1 k2 k3 k4 k5
    go_enter Tryz.func90, Tryz.ntmps90
    go_wp2_with fail
    refine HN.out.mono ?_
    rintro e w2 ⟨rfl, n, rfl⟩
    go_wp2_with fail
    refine wp_loop_rounds 6 ?_
    rw [rounds_succ]
    go_wp2_with fail
    rw [rounds_succ]
    go_wp2_with fail
    rw [rounds_succ]
    go_wp2_with fail
    rw [rounds_succ]
    go_wp2_with fail
    rw [rounds_succ]
    go_wp2_with fail
    rw [rounds_succ]
    go_wp2_with fail
    go_ret
    rw [HR.out]
    exact ⟨rfl, (Mv.stayN H.out n).trans (Mv.at' (H.out.drewN n) (i + 2) (by omega))⟩
  by_cases k6 : bt s (i + 1) = 39
  · have hn : nb s (i + 1) 0 = 39 := (nb_live s (i + 1) 39 (by omega) (by omega)).2 k6
    rw [hn] at HN
    have hlt : i + 1 < s.size := bt_lt_size (by omega)
    have HR : Hid (encR (esc s i allc true) = .ok [39] (i + 2)) := by
      unfold Hid
      rw [HS.out, k6]
      show encR (.ok 39 (i + 2)) = _
      simp only [encR]
      rw [show Lib.encodeRune ((39 : Nat) : Int) = [39] from enc_low (by omega)]
    have hsl : (⟨#[9, 8, 10, 13, 12, 34, 39, 92]⟩ : ByteArray).extract 6 7 = ⟨#[39]⟩ := by rfl
    clear hn HS h u117 u85 k0 k1 k2 k3 k4 k5 k6
    go_enter Tryz.func90, Tryz.ntmps90
    go_wp2_with fail
    refine HN.out.mono ?_
    rintro e w2 ⟨rfl, n, rfl⟩
    go_wp2_with fail
    refine wp_loop_rounds 7 ?_
    rw [rounds_succ]
    go_wp2_with fail
    rw [rounds_succ]
    go_wp2_with fail
    rw [rounds_succ]
    go_wp2_with fail
    rw [rounds_succ]
    go_wp2_with fail
    rw [rounds_succ]
    go_wp2_with fail
    rw [rounds_succ]
    go_wp2_with fail
    rw [rounds_succ]
    go_wp2_with fail
    go_ret
    rw [HR.out]
    exact ⟨rfl, (Mv.stayN H.out n).trans (Mv.at' (H.out.drewN n) (i + 2) (by omega))⟩
  by_cases k7 : bt s (i + 1) = 92
  · have hn : nb s (i + 1) 0 = 92 := (nb_live s (i + 1) 92 (by omega) (by omega)).2 k7
    rw [hn] at HN
    have hlt : i + 1 < s.size := bt_lt_size (by omega)
    have HR : Hid (encR (esc s i allc true) = .ok [92] (i + 2)) := by
      unfold Hid
      rw [HS.out, k7]
      show encR (.ok 92 (i + 2)) = _
      simp only [encR]
      rw [show Lib.encodeRune ((92 : Nat) : Int) = [92] from enc_low (by omega)]
    have hsl : (⟨#[9, 8, 10, 13, 12, 34, 39, 92]⟩ : ByteArray).extract 7 8 = ⟨#[92]⟩ := by rfl
    clear hn HS h u117 u85 k0 k1 k2 k3 k4 k5 k6 k7
    go_enter Tryz.func90, Tryz.ntmps90
    go_wp2_with fail
    refine HN.out.mono ?_
    rintro e w2 ⟨rfl, n, rfl⟩
    go_wp2_with fail
    refine wp_loop_rounds 8 ?_
    rw [rounds_succ]
    go_wp2_with fail
    rw [rounds_succ]
    go_wp2_with fail
    rw [rounds_succ]
    go_wp2_with fail
    rw [rounds_succ]
    go_wp2_with fail
    rw [rounds_succ]
    go_wp2_with fail
    rw [rounds_succ]
    go_wp2_with fail
    rw [rounds_succ]
    go_wp2_with fail
    rw [rounds_succ]
    go_wp2_with fail
    go_ret
    rw [HR.out]
    exact ⟨rfl, (Mv.stayN H.out n).trans (Mv.at' (H.out.drewN n) (i + 2) (by omega))⟩
  have HR : Hid (encR (esc s i allc true) = .bad (i + 1)) := by
    unfold Hid
    rw [HS.out, show shortOf (bt s (i + 1)) = none by simp [shortOf, k0, k1, k2, k3, k4, k5, k6, k7]]
    rfl
  obtain ⟨y, hy⟩ : ∃ y, y = nb s (i + 1) 0 := ⟨_, rfl⟩
  have y117 : ¬ (y = 117) := fun e => u117 ((nb_live s (i + 1) 117 (by omega) (by omega)).1 (hy.symm.trans e))
  have y85 : ¬ (y = 85) := fun e => u85 ((nb_live s (i + 1) 85 (by omega) (by omega)).1 (hy.symm.trans e))
  have y116 : ¬ (y = 116) := fun e => k0 ((nb_live s (i + 1) 116 (by omega) (by omega)).1 (hy.symm.trans e))
  have y98 : ¬ (y = 98) := fun e => k1 ((nb_live s (i + 1) 98 (by omega) (by omega)).1 (hy.symm.trans e))
  have y110 : ¬ (y = 110) := fun e => k2 ((nb_live s (i + 1) 110 (by omega) (by omega)).1 (hy.symm.trans e))
  have y114 : ¬ (y = 114) := fun e => k3 ((nb_live s (i + 1) 114 (by omega) (by omega)).1 (hy.symm.trans e))
  have y102 : ¬ (y = 102) := fun e => k4 ((nb_live s (i + 1) 102 (by omega) (by omega)).1 (hy.symm.trans e))
  have y34 : ¬ (y = 34) := fun e => k5 ((nb_live s (i + 1) 34 (by omega) (by omega)).1 (hy.symm.trans e))
  have y39 : ¬ (y = 39) := fun e => k6 ((nb_live s (i + 1) 39 (by omega) (by omega)).1 (hy.symm.trans e))
  have y92 : ¬ (y = 92) := fun e => k7 ((nb_live s (i + 1) 92 (by omega) (by omega)).1 (hy.symm.trans e))
  have z117 : (y == 117) = false := by simpa using y117
  have z85 : (y == 85) = false := by simpa using y85
  have z116 : (y == 116) = false := by simpa using y116
  have z98 : (y == 98) = false := by simpa using y98
  have z110 : (y == 110) = false := by simpa using y110
  have z114 : (y == 114) = false := by simpa using y114
  have z102 : (y == 102) = false := by simpa using y102
  have z34 : (y == 34) = false := by simpa using y34
  have z39 : (y == 39) = false := by simpa using y39
  have z92 : (y == 92) = false := by simpa using y92
  rw [← hy] at HN
  clear HS h u117 u85 k0 k1 k2 k3 k4 k5 k6 k7 hy
  go_enter Tryz.func90, Tryz.ntmps90
  go_wp2_with fail
  refine HN.out.mono ?_
  rintro e w2 ⟨rfl, n, rfl⟩
  go_wp2_with fail
  refine wp_loop_rounds 9 ?_
  rw [rounds_succ]
  go_wp2_with fail
  rw [rounds_succ]
  go_wp2_with fail
  rw [rounds_succ]
  go_wp2_with fail
  rw [rounds_succ]
  go_wp2_with fail
  rw [rounds_succ]
  go_wp2_with fail
  rw [rounds_succ]
  go_wp2_with fail
  rw [rounds_succ]
  go_wp2_with fail
  rw [rounds_succ]
  go_wp2_with fail
  rw [rounds_succ]
  go_wp2_with fail
  refine (fail_live _ _ _ _ _ _ _ (H.out.drewN n)).mono ?_
  rintro e w3 ⟨rfl, hM⟩
  go_wp2_with fail
  go_ret
  rw [HR.out]
  exact ⟨[], _, rfl, by simp, (Mv.stayN H.out n).trans hM⟩
end Ref
end Go.Proofs.YtnffjoipinhojaaGreatDoor
