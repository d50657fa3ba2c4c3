import Derived.Test.YtnffjoipinhojaaGreatDoorPr
import Derived.Test.YtnffjoipinhojaaGreatDoorFa
set_option linter.unusedSimpArgs false
set_option linter.unusedVariables false
namespace Go.Proofs.YtnffjoipinhojaaGreatDoor
open Go.RowKit

theorem bounded_any (w : World) (v : ByteArray) :
    Calls Tryz.prog 37 #[.string v] w fun e w' => e = .returned (if 200 < v.size then .tuple #[.string ⟨#[]⟩, .int .i64 4] else .tuple #[.string v, .int .i64 0]) ∧ w' = w := by
  by_cases h : 200 < v.size
  · rw [if_pos h]
    go_enter Tryz.func37, Tryz.ntmps37
    go_wp2
    exact bodyPost_ret (v := .tuple #[.string ⟨#[]⟩, .int .i64 4]) (by simp [results, Tryz.results37, go_sem]) rfl ⟨rfl, rfl⟩
  · rw [if_neg h]
    go_enter Tryz.func37, Tryz.ntmps37
    go_wp2
    exact bodyPost_ret (v := .tuple #[.string v, .int .i64 0]) (by simp [results, Tryz.results37, go_sem]) rfl ⟨rfl, rfl⟩

set_option maxHeartbeats 2000000 in
theorem termRead_any (w : World) (s : ByteArray) (hT : Tabs w) (hG : 8 ≤ w.heap.size) (hH : Handle w) :
    Calls Tryz.prog 10 #[.string s] w fun e w' => e = .returned (.tuple #[.string ⟨(Ref.readT s).1.toArray⟩, .int .i64 (Ref.readT s).2.1, .int .i64 (Ref.readT s).2.2]) ∧ Below w.heap.size w w' := by
  by_cases h1 : 20000 < s.size
  · have HR : Hid (Ref.readT s = ([], 1, 0)) := by unfold Hid Ref.readT; rw [if_pos h1]
    rw [HR.out]
    clear hT hH
    go_enter Tryz.func10, Tryz.ntmps10
    go_wp2
    exact bodyPost_ret (v := .tuple #[.string ⟨#[]⟩, .int .i64 1, .int .i64 0]) (by simp [results, Tryz.results10, go_sem]) rfl ⟨rfl, Below.refl _ _⟩
  · have hs : s.size ≤ 1099511627776 := by omega
    have HR0 : Hid (Ref.readT s = match whole s (Ref.lessK (term s 0)) with
      | .bad j => ([], 2, (j : Int))
      | .ok l j => if 200 < l.length then ([], 4, 0) else (l, 0, 0)) := by unfold Hid Ref.readT; rw [if_neg h1]; cases whole s (Ref.lessK (term s 0)) <;> rfl
    have HH : Hid (Handle w) := hH
    have hW := wholeTerm w s hT hG hs
    have ew : whole s (Ref.lessK (term s 0)) = Ref.lessK (whole s (term s 0)) := by
      cases term s 0 with
      | bad j => rfl
      | ok p j => unfold whole Ref.lessK; simp only; split <;> rfl
    rw [ew] at HR0
    clear ew hT hH
    cases hw : whole s (term s 0) with
    | bad j =>
      rw [hw] at hW HR0
      have HR : Hid (Ref.readT s = ([], 2, (j : Int))) := HR0.out
      have HW : Hid (Calls Tryz.prog 33 #[.string s, fnV 34 #[]] w fun e w' => e = .returned (.tuple #[.agg termZ, placedV 2 j]) ∧ Below w.heap.size w w') := hW
      clear hW hw HR0
      rw [HR.out]
      go_enter Tryz.func10, Tryz.ntmps10
      go_wp2_with fail
      refine HW.out.mono ?_
      rintro e w2 ⟨rfl, hb2⟩
      have HB2 : Hid (Below w.heap.size w w2) := hb2
      have H2 : Hid (Handle w2) := HH.out.below hb2
      clear hb2
      go_wp2_with fail
      have hb3 : Below w2.heap.size w2 (w2.alloc (.cells #[.int .i64 0, .string ⟨#[]⟩] 62)) := (Below.refl _ w2).alloc (Nat.le_refl _) _
      generalize w2.alloc (.cells #[.int .i64 0, .string ⟨#[]⟩] 62) = w3 at hb3 ⊢
      have H3 : Handle w3 := H2.out.below hb3
      have HB3 : Hid (Below w.heap.size w w3) := Below.trans HB2.out (hb3.mono HB2.out.size)
      clear hb3
      refine (number_placed _ _ _ H3).mono ?_
      rintro e w4 ⟨rfl, hb4⟩
      have H4 : Hid (Handle w4) := H3.below hb4
      have HB4 : Hid (Below w.heap.size w w4) := Below.trans HB3.out (hb4.mono HB3.out.size)
      clear hb4 H3
      go_wp2_with fail
      refine (place_placed _ _ _ H4.out).mono ?_
      rintro e w5 ⟨rfl, hb5⟩
      have HB5 : Hid (Below w.heap.size w w5) := Below.trans HB4.out (hb5.mono HB4.out.size)
      clear hb5
      go_wp2_with fail
      exact bodyPost_ret (v := .tuple #[.string ⟨#[]⟩, .int .i64 2, .int .i64 j]) (by simp [results, Tryz.results10, go_sem]) rfl ⟨rfl, HB5.out⟩
    | ok p j =>
      rw [hw] at hW HR0
      obtain ⟨V, hV⟩ : ∃ V : ByteArray, V = ⟨p.2.toArray⟩ := ⟨_, rfl⟩
      have hVl : V.size = p.2.length := by rw [hV, arr_size]
      obtain ⟨k, hk⟩ : ∃ k : Nat, k = p.1 := ⟨_, rfl⟩
      have HR : Hid (Ref.readT s = if 200 < V.size then ([], 4, 0) else (p.2, 0, 0)) := by unfold Hid; rw [hVl]; exact HR0.out
      have HW : Hid (Calls Tryz.prog 33 #[.string s, fnV 34 #[]] w fun e w' => e = .returned (.tuple #[.agg #[.int .i64 k, .string V], .nilIface]) ∧ Below w.heap.size w w') := by unfold Hid; rw [hV, hk]; exact hW
      have HVs : Hid (V = ⟨p.2.toArray⟩) := hV
      have HBo : Hid (∀ w2, Calls Tryz.prog 37 #[.string V] w2 fun e w' => e = .returned (if 200 < V.size then .tuple #[.string ⟨#[]⟩, .int .i64 4] else .tuple #[.string V, .int .i64 0]) ∧ w' = w2) := fun w2 => bounded_any w2 V
      clear hW hw HR0 hV hVl hk
      by_cases h200 : 200 < V.size
      · rw [if_pos h200] at HR HBo
        rw [HR.out]
        go_enter Tryz.func10, Tryz.ntmps10
        go_wp2_with fail
        refine HW.out.mono ?_
        rintro e w2 ⟨rfl, hb2⟩
        have HB2 : Hid (Below w.heap.size w w2) := hb2
        clear hb2
        go_wp2_with fail
        refine (HBo.out _).mono ?_
        rintro e w3 ⟨rfl, rfl⟩
        go_wp2_with fail
        refine bodyPost_ret (v := .tuple #[.string ⟨#[]⟩, .int .i64 4, .int .i64 0]) (by simp [results, Tryz.results10, go_sem]) rfl ⟨rfl, ?_⟩
        exact HB2.out.alloc HB2.out.size _
      · rw [if_neg h200] at HR HBo
        rw [HR.out]
        go_enter Tryz.func10, Tryz.ntmps10
        go_wp2_with fail
        refine HW.out.mono ?_
        rintro e w2 ⟨rfl, hb2⟩
        have HB2 : Hid (Below w.heap.size w w2) := hb2
        clear hb2
        go_wp2_with fail
        refine (HBo.out _).mono ?_
        rintro e w3 ⟨rfl, rfl⟩
        go_wp2_with fail
        refine bodyPost_ret (v := .tuple #[.string V, .int .i64 0, .int .i64 0]) (by simp [results, Tryz.results10, go_sem]) rfl ⟨by rw [HVs.out], ?_⟩
        exact HB2.out.alloc HB2.out.size _

end Go.Proofs.YtnffjoipinhojaaGreatDoor
