import Derived.Test.YtnffjoipinhojaaGreatDoorPp
set_option linter.unusedSimpArgs false
set_option linter.unusedVariables false
namespace Go.Proofs.YtnffjoipinhojaaGreatDoor
open Go.RowKit
namespace Ref

/-- What a whole term's reading comes to. -/
def Pout3 (b : Nat) (s : ByteArray) (a : Int) (w : World) (r : R (List UInt8)) (e : Ending) (w' : World) : Prop :=
  match r with
  | .ok l j => e = .returned (str l) ∧ Mv b s j 0 a w w'
  | .bad j => ∃ (v : ByteArray) (k : Nat), e = .returned (.string v) ∧ Mv b s k 2 j w w'

theorem Pout2.to3 {b : Nat} {s : ByteArray} {a : Int} {w : World} {r : R (List UInt8)} {e : Ending} {w' : World} (h : Pout2 b s a w r e w') : Pout3 b s a w r e w' := by
  unfold Pout2 at h
  unfold Pout3
  split at h
  · exact h
  · obtain ⟨l, k, h1, _, h2⟩ := h
    exact ⟨_, k, h1, h2⟩

theorem Pout.to3 {b : Nat} {s : ByteArray} {a : Int} {w : World} {r : R (List UInt8)} {e : Ending} {w' : World} (h : Pout b s a w r e w') : Pout3 b s a w r e w' := by
  unfold Pout at h
  unfold Pout3
  split at h
  · exact h
  · obtain ⟨l, k, h1, _, h2⟩ := h
    exact ⟨_, k, h1, h2⟩

theorem written_arr (w : World) (x y z : ByteArray) (hx : x.size ≤ 43980465111040) (hy : y.size ≤ 43980465111040) (hz : z.size ≤ 43980465111040) :
    Calls Tryz.prog 45 #[.string x, .string y, .string z] w fun e w' => e = .returned (.string ⟨(writ x.data.toList y.data.toList z.data.toList).toArray⟩) ∧ w' = w := by
  have := written_any w x y.data.toList z.data.toList hx (by simpa using hy) (by simpa using hz)
  simpa using this

theorem writ_low (t l : List UInt8) : writ t (Lib.toLowerA l) [] = form t l [] := by
  unfold writ form
  cases l with
  | nil => rfl
  | cons c l => simp [Lib.toLowerA]
theorem writ_kind (t k : List UInt8) : writ t [] k = form t [] k := by
  unfold writ form
  simp

theorem iri_dead (w : World) (b i : Nat) (s : ByteArray) (m : Int) (h : Pn w b s i 2 m) :
    Calls Tryz.prog 44 #[.pointer (some ⟨b, 0, none⟩)] w fun e w' => e = .returned (.string ⟨#[]⟩) ∧ ∃ n, w' = w.drewN n := by
  have H : Hid (Pn w b s i 2 m) := h
  have HN1 : Hid (Calls Tryz.prog 54 #[.pointer (some ⟨b, 0, none⟩), .int .i64 60] w fun e w' => e = .returned (.tuple #[]) ∧ ∃ n, w' = w.drewN n) := need_dead w b i s 2 m 60 h (by omega) (by omega)
  have HLt : Hid (∀ w2, Calls Tryz.prog 81 #[.int .i64 (-1)] w2 fun e w' => e = .returned (.bool false) ∧ w' = w2) := fun w2 => letter_any w2 (-1)
  have HX : Hid (∀ n, Calls Tryz.prog 71 #[.pointer (some ⟨b, 0, none⟩)] (w.drewN n) fun e w' => e = .returned (.int .i64 (-1)) ∧ ∃ n', w' = (w.drewN n).drewN n') := fun n => by
    have := next_any (w.drewN n) b i s 2 m (h.drewN n)
    rw [nb_dead s i (by omega)] at this
    exact this
  obtain ⟨p0, p1, p2, p3, pf, pms, ple⟩ := h
  go_enter Tryz.func44, Tryz.ntmps44
  go_wp2_with fail
  refine HN1.out.mono ?_
  rintro e w2 ⟨rfl, n1, rfl⟩
  go_wp2_with fail
  refine (HX.out _).mono ?_
  rintro e w3 ⟨rfl, n3, rfl⟩
  go_wp2_with fail
  refine (HLt.out _).mono ?_
  rintro e w4 ⟨rfl, rfl⟩
  go_wp2_with fail
  refine (fail_dead _ _ _ _ _ _ _ _ (H.out.drewN _) (by omega)).mono ?_
  rintro e w5 ⟨rfl, rfl⟩
  go_wp2_with fail
  go_ret
  exact ⟨rfl, _, rfl⟩

set_option maxHeartbeats 2000000 in
theorem literal_any (w : World) (b i : Nat) (s : ByteArray) (a : Int) (h : Pn w b s i 0 a) :
    Calls Tryz.prog 73 #[.pointer (some ⟨b, 0, none⟩)] w (Pout3 b s a w (literal s i)) := by
  have hms := h.ms
  have HW : Hid (∀ (w2 : World) (x y z : ByteArray), x.size ≤ 43980465111040 → y.size ≤ 43980465111040 → z.size ≤ 43980465111040 → Calls Tryz.prog 45 #[.string x, .string y, .string z] w2 fun e w' => e = .returned (.string ⟨(writ x.data.toList y.data.toList z.data.toList).toArray⟩) ∧ w' = w2) := fun w2 x y z => written_arr w2 x y z
  have hQ := quoted_any w b i s a h
  cases hq : quoted s i with
  | bad m =>
    rw [hq] at hQ
    have HQ : Hid (Calls Tryz.prog 48 #[.pointer (some ⟨b, 0, none⟩)] w fun e w' => ∃ (T : ByteArray) (k : Nat), e = .returned (.string T) ∧ T.size ≤ 16 * s.size + 16 ∧ Mv b s k 2 m w w') :=
      hQ.mono fun e w' ⟨l, k, h1, h2, h3⟩ => ⟨⟨l.toArray⟩, k, h1, by rw [arr_size]; exact h2, h3⟩
    have HR : Hid (literal s i = .bad m) := by unfold Hid literal parts; rw [hq]
    clear hQ hq h
    go_enter Tryz.func73, Tryz.ntmps73
    go_wp2_with fail
    refine HQ.out.mono ?_
    rintro e w2 ⟨T, k, rfl, hTs, m2⟩
    have HM : Hid (Mv b s k 2 m w w2) := m2
    have HX0 : Hid (Calls Tryz.prog 71 #[.pointer (some ⟨b, 0, none⟩)] w2 fun e w' => e = .returned (.int .i64 (-1)) ∧ ∃ n', w' = w2.drewN n') := by
      have := next_any w2 b k s 2 m m2.pn
      rw [nb_dead s k (by omega)] at this
      exact this
    have HX : Hid (∀ n, Calls Tryz.prog 71 #[.pointer (some ⟨b, 0, none⟩)] (w2.drewN n) fun e w' => e = .returned (.int .i64 (-1)) ∧ ∃ n', w' = (w2.drewN n).drewN n') := fun n => by
      have := next_any (w2.drewN n) b k s 2 m (m2.pn.drewN n)
      rw [nb_dead s k (by omega)] at this
      exact this
    clear m2 HQ
    go_wp2_with fail
    refine HX0.out.mono ?_
    rintro e w3 ⟨rfl, n3, rfl⟩
    go_wp2_with fail
    refine (HX.out _).mono ?_
    rintro e w4 ⟨rfl, n4, rfl⟩
    go_wp2_with fail
    refine (HW.out _ T ⟨#[]⟩ ⟨#[]⟩ (by omega) (Nat.zero_le _) (Nat.zero_le _)).mono ?_
    rintro e w5 ⟨rfl, rfl⟩
    go_wp2_with fail
    go_ret
    rw [HR.out]
    exact ⟨_, k, rfl, HM.out.trans (Mv.stayN HM.out.pn _)⟩
  | ok t j =>
    rw [hq] at hQ
    have hval := quoted_valid hq
    have hjs : j ≤ s.size := hval.2.2.2
    obtain ⟨T, hT⟩ : ∃ T : ByteArray, T = ⟨t.toArray⟩ := ⟨_, rfl⟩
    have hTs : T.size ≤ 4 * s.size := by rw [hT, arr_size]; exact hval.2.1
    have HTl : Hid (T.data.toList = t) := by unfold Hid; rw [hT]
    have HQ : Hid (Calls Tryz.prog 48 #[.pointer (some ⟨b, 0, none⟩)] w fun e w' => e = .returned (.string T) ∧ Mv b s j 0 a w w') := by unfold Hid; rw [hT]; exact hQ
    have HL : Hid (literal s i = if bt s j = 64 then (match language s (j + 1) with
        | .bad k => .bad k
        | .ok _ k => .ok (form t (sub s (j + 1) k) []) k)
      else if bt s j = 94 then (if bt s (j + 1) ≠ 94 then .bad (j + 1) else match iri s (j + 2) with
        | .bad k => .bad k
        | .ok m k => .ok (form t [] m) k)
      else .ok (form t [] []) j) := by
      unfold Hid literal parts
      rw [hq]
      simp only
      by_cases h1 : bt s j = 64
      · rw [if_pos h1, if_pos h1]; cases language s (j + 1) <;> rfl
      · rw [if_neg h1, if_neg h1]
        by_cases h2 : bt s j = 94
        · rw [if_pos h2, if_pos h2]
          by_cases h3 : bt s (j + 1) ≠ 94
          · rw [if_pos h3, if_pos h3]
          · rw [if_neg h3, if_neg h3]; cases iri s (j + 2) <;> rfl
        · rw [if_neg h2, if_neg h2]
    obtain ⟨y, hy⟩ : ∃ y, y = nb s j 0 := ⟨_, rfl⟩
    have HX : Hid (∀ w2, Mv b s j 0 a w w2 → ∀ n, Calls Tryz.prog 71 #[.pointer (some ⟨b, 0, none⟩)] (w2.drewN n) fun e w' => e = .returned (.int .i64 y) ∧ ∃ n', w' = (w2.drewN n).drewN n') := fun w2 m n => by
      have := next_any (w2.drewN n) b j s 0 a (m.pn.drewN n)
      rw [← hy] at this
      exact this
    have HX0 : Hid (∀ w2, Mv b s j 0 a w w2 → Calls Tryz.prog 71 #[.pointer (some ⟨b, 0, none⟩)] w2 fun e w' => e = .returned (.int .i64 y) ∧ ∃ n', w' = w2.drewN n') := fun w2 m => by
      have := next_any w2 b j s 0 a m.pn
      rw [← hy] at this
      exact this
    have hnl := fun c h0 h1 => nb_live s j c h0 h1
    rw [← hy] at hnl
    clear hQ hq hval h hT hy
    go_enter Tryz.func73, Tryz.ntmps73
    go_wp2_with fail
    refine HQ.out.mono ?_
    rintro e w2 ⟨rfl, m2⟩
    have HM : Hid (Mv b s j 0 a w w2) := m2
    obtain ⟨p0, p1, p2, p3, pf, pms, ple⟩ := m2.pn
    clear m2 HQ
    go_wp2_with fail
    refine (HX0.out _ HM.out).mono ?_
    rintro e w3 ⟨rfl, n3, rfl⟩
    by_cases y64 : y = 64
    · have hb : bt s j = 64 := (hnl 64 (by omega) (by omega)).1 y64
      have hj : j < s.size := bt_in hb (by omega)
      have HLang : Hid (∀ w4, Pn w4 b s (j + 1) 0 a → Calls Tryz.prog 43 #[.pointer (some ⟨b, 0, none⟩)] w4 (Pout b s a w4 (lowR s (j + 1) (language s (j + 1))))) := fun w4 k => language_any w4 b (j + 1) s a k (by omega)
      have HL2 : Hid (literal s i = match language s (j + 1) with
        | .bad k => .bad k
        | .ok _ k => .ok (form t (sub s (j + 1) k) []) k) := by unfold Hid; rw [HL.out, if_pos hb]
      clear hb hnl HL
      subst y64
      go_wp2_with fail
      have M4 := HM.out.trans ((Mv.stayN HM.out.pn n3).trans (Mv.atI (HM.out.pn.drewN n3) ((j : Int) + 1) (j + 1) (by omega) (by omega)))
      refine (HLang.out _ M4.pn).mono ?_
      intro e w5 ho
      cases hl : language s (j + 1) with
      | bad k =>
        rw [hl] at ho
        obtain ⟨l', k', he, hl', m5⟩ := ho
        have HM5 : Hid (Mv b s k' 2 k w w5) := M4.trans m5
        have HR : Hid (literal s i = .bad k) := by unfold Hid; rw [HL2.out, hl]
        obtain ⟨V, hV⟩ : ∃ V : ByteArray, V = ⟨l'.toArray⟩ := ⟨_, rfl⟩
        have hVs : V.size ≤ 8 * s.size + 8 := by rw [hV, arr_size]; exact hl'
        have he' : e = .returned (.string V) := by rw [hV]; exact he
        clear he
        subst he'
        clear hV hl' m5 M4 hl p0 p1 p2 p3 pf
        go_wp2_with fail
        refine (HW.out _ T V ⟨#[]⟩ (by omega) (by omega) (Nat.zero_le _)).mono ?_
        rintro e w6 ⟨rfl, rfl⟩
        go_wp2_with fail
        go_ret
        rw [HR.out]
        exact ⟨_, k', rfl, HM5.out⟩
      | ok u k =>
        rw [hl] at ho
        obtain ⟨he, m5⟩ := ho
        have HM5 : Hid (Mv b s k 0 a w w5) := M4.trans m5
        have HR : Hid (literal s i = .ok (form t (sub s (j + 1) k) []) k) := by unfold Hid; rw [HL2.out, hl]
        obtain ⟨V, hV⟩ : ∃ V : ByteArray, V = ⟨(Lib.toLowerA (sub s (j + 1) k)).toArray⟩ := ⟨_, rfl⟩
        have hVs : V.size ≤ s.size := by
          rw [hV, arr_size]
          unfold Lib.toLowerA sub
          rw [List.length_map, List.length_take, List.length_drop]
          have : s.data.toList.length = s.size := by simp
          omega
        have HVl : Hid (V.data.toList = Lib.toLowerA (sub s (j + 1) k)) := by unfold Hid; rw [hV]
        have he' : e = .returned (.string V) := by rw [hV]; exact he
        clear he
        subst he'
        clear hV m5 M4 hl p0 p1 p2 p3 pf
        go_wp2_with fail
        refine (HW.out _ T V ⟨#[]⟩ (by omega) (by omega) (Nat.zero_le _)).mono ?_
        rintro e w6 ⟨rfl, rfl⟩
        go_wp2_with fail
        go_ret
        rw [HR.out]
        refine ⟨ret_str ?_, HM5.out⟩
        rw [HTl.out, HVl.out]
        exact congrArg (fun l : List UInt8 => (⟨l.toArray⟩ : ByteArray)) (writ_low t _)
    · by_cases y94 : y = 94
      · have hb : bt s j = 94 := (hnl 94 (by omega) (by omega)).1 y94
        have hj : j < s.size := bt_in hb (by omega)
        have HL2 : Hid (literal s i = if bt s (j + 1) ≠ 94 then .bad (j + 1) else match iri s (j + 2) with
          | .bad k => .bad k
          | .ok m k => .ok (form t [] m) k) := by unfold Hid; rw [HL.out, if_neg (by omega), if_pos hb]
        clear hb hnl HL
        subst y94
        go_wp2_with fail
        refine (HX.out _ HM.out _).mono ?_
        rintro e w4 ⟨rfl, n4, rfl⟩
        go_wp2_with fail
        have M4 := HM.out.trans ((Mv.stayN HM.out.pn (n3 + n4)).trans (Mv.atI (HM.out.pn.drewN (n3 + n4)) ((j : Int) + 1) (j + 1) (by omega) (by omega)))
        by_cases c94 : bt s (j + 1) = 94
        · refine (need_ok _ b (j + 1) s a 94 M4.pn (by omega) (by omega) c94).mono ?_
          rintro e w5 ⟨rfl, m5⟩
          have HM5 : Hid (Mv b s (j + 2) 0 a w w5) := M4.trans m5
          have HL3 : Hid (literal s i = match iri s (j + 2) with
            | .bad k => .bad k
            | .ok m k => .ok (form t [] m) k) := by unfold Hid; rw [HL2.out, if_neg (by simp [c94])]
          clear m5 M4 c94 HL2 p0 p1 p2 p3 pf
          go_wp2_with fail
          refine (iri_any _ b (j + 2) s a HM5.out.pn).mono ?_
          intro e w6 ho
          cases hl : iri s (j + 2) with
          | bad k =>
            rw [hl] at ho
            obtain ⟨l', k', he, hl', m6⟩ := ho
            have HM6 : Hid (Mv b s k' 2 k w w6) := HM5.out.trans m6
            have HR : Hid (literal s i = .bad k) := by unfold Hid; rw [HL3.out, hl]
            obtain ⟨V, hV⟩ : ∃ V : ByteArray, V = ⟨l'.toArray⟩ := ⟨_, rfl⟩
            have hVs : V.size ≤ 16 * s.size + 16 := by rw [hV, arr_size]; exact hl'
            have he' : e = .returned (.string V) := by rw [hV]; exact he
            clear he
            subst he'
            clear hV hl' m6 hl
            go_wp2_with fail
            refine (HW.out _ T ⟨#[]⟩ V (by omega) (Nat.zero_le _) (by omega)).mono ?_
            rintro e w7 ⟨rfl, rfl⟩
            go_wp2_with fail
            go_ret
            rw [HR.out]
            exact ⟨_, k', rfl, HM6.out⟩
          | ok u k =>
            rw [hl] at ho
            obtain ⟨he, m6⟩ := ho
            have HM6 : Hid (Mv b s k 0 a w w6) := HM5.out.trans m6
            have HR : Hid (literal s i = .ok (form t [] u) k) := by unfold Hid; rw [HL3.out, hl]
            obtain ⟨V, hV⟩ : ∃ V : ByteArray, V = ⟨u.toArray⟩ := ⟨_, rfl⟩
            have hVs : V.size ≤ 5 * s.size + 1 := by rw [hV, arr_size]; exact (iri_len hl).1
            have HVl : Hid (V.data.toList = u) := by unfold Hid; rw [hV]
            have he' : e = .returned (.string V) := by rw [hV]; exact he
            clear he
            subst he'
            clear hV m6 hl
            go_wp2_with fail
            refine (HW.out _ T ⟨#[]⟩ V (by omega) (Nat.zero_le _) (by omega)).mono ?_
            rintro e w7 ⟨rfl, rfl⟩
            go_wp2_with fail
            go_ret
            rw [HR.out]
            refine ⟨ret_str ?_, HM6.out⟩
            rw [HTl.out, HVl.out]
            exact congrArg (fun l : List UInt8 => (⟨l.toArray⟩ : ByteArray)) (writ_kind t _)
        · have HR : Hid (literal s i = .bad (j + 1)) := by unfold Hid; rw [HL2.out, if_pos c94]
          refine (need_bad _ b (j + 1) s a 94 M4.pn (by omega) (by omega) c94).mono ?_
          rintro e w5 ⟨rfl, m5⟩
          have HM5 : Hid (Mv b s (j + 1) 2 ((j + 1 : Nat) : Int) w w5) := M4.trans m5
          clear m5 M4 c94 HL2 p0 p1 p2 p3 pf
          go_wp2_with fail
          refine (iri_dead _ b (j + 1) s _ HM5.out.pn).mono ?_
          rintro e w6 ⟨rfl, n6, rfl⟩
          go_wp2_with fail
          refine (HW.out _ T ⟨#[]⟩ ⟨#[]⟩ (by omega) (Nat.zero_le _) (Nat.zero_le _)).mono ?_
          rintro e w7 ⟨rfl, rfl⟩
          go_wp2_with fail
          go_ret
          rw [HR.out]
          exact ⟨_, _, rfl, HM5.out.trans (Mv.stayN HM5.out.pn _)⟩
      · have h64 : bt s j ≠ 64 := fun k => y64 ((hnl 64 (by omega) (by omega)).2 k)
        have h94 : bt s j ≠ 94 := fun k => y94 ((hnl 94 (by omega) (by omega)).2 k)
        have HR : Hid (literal s i = .ok (form t [] []) j) := by unfold Hid; rw [HL.out, if_neg h64, if_neg h94]
        clear h64 h94 hnl HL
        go_wp2_with fail
        refine (HX.out _ HM.out _).mono ?_
        rintro e w4 ⟨rfl, n4, rfl⟩
        go_wp2_with fail
        refine (HW.out _ T ⟨#[]⟩ ⟨#[]⟩ (by omega) (Nat.zero_le _) (Nat.zero_le _)).mono ?_
        rintro e w7 ⟨rfl, rfl⟩
        go_wp2_with fail
        go_ret
        rw [HR.out]
        refine ⟨ret_str ?_, HM.out.trans (Mv.stayN HM.out.pn _)⟩
        rw [HTl.out]
        exact congrArg (fun l : List UInt8 => (⟨l.toArray⟩ : ByteArray)) (writ_kind t [])
end Ref
end Go.Proofs.YtnffjoipinhojaaGreatDoor
