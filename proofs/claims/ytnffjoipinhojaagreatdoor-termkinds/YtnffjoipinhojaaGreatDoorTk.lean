import Derived.Test.YtnffjoipinhojaaGreatDoorTb
set_option linter.unusedSimpArgs false
set_option linter.unusedVariables false
namespace Go.Proofs.YtnffjoipinhojaaGreatDoor
open Go.RowKit

/-- the kind of a term in its one form; 0: none -/
def kindOf (s : ByteArray) : Nat :=
  if 200 < s.size then 0 else match whole s (term s 0) with
    | .bad _ => 0
    | .ok p _ => if p.2 = s.data.toList then p.1 else 0

theorem eq_data {V s : ByteArray} {l : List UInt8} (h : V = ⟨l.toArray⟩) : V = s ↔ l = s.data.toList := by
  subst h
  constructor
  · rintro rfl; rfl
  · rintro rfl
    cases s with | mk d => rfl

theorem ne_toList {V s : ByteArray} (h : V ≠ s) : (V.toList == s.toList) = false := by
  rw [beq_eq_false_iff_ne, ByteArray.toList_eq, ByteArray.toList_eq]
  intro e
  apply h
  cases V with | mk d => cases s with | mk d' => exact congrArg ByteArray.mk (Array.toList_inj.1 e)

theorem term_kind {s : ByteArray} {i : Nat} {p : Nat × List UInt8} {j : Nat} (h : term s i = .ok p j) :
    (bt s i = 60 ∧ p.1 = 1) ∨ (bt s i = 95 ∧ p.1 = 2) ∨ (bt s i = 34 ∧ p.1 = 3) := by
  unfold term at h
  split at h
  · rename_i h0
    split at h
    · cases h
    · cases h; exact Or.inl ⟨h0, rfl⟩
  · split at h
    · rename_i h0
      split at h
      · cases h
      · cases h; exact Or.inr (Or.inl ⟨h0, rfl⟩)
    · split at h
      · rename_i h0
        split at h
        · cases h
        · cases h; exact Or.inr (Or.inr ⟨h0, rfl⟩)
      · cases h

theorem kindOf_read (s : ByteArray) : kindOf s = if (Ref.readT s).2.1 = 0 ∧ (Ref.readT s).1 = s.data.toList then (if bt s 0 = 60 then 1 else if bt s 0 = 95 then 2 else 3) else 0 := by
  have hl : s.data.toList.length = s.size := Array.length_toList
  have ew : whole s (Ref.lessK (term s 0)) = Ref.lessK (whole s (term s 0)) := by
    cases term s 0 with
    | bad j => rfl
    | ok p j => unfold whole Ref.lessK; simp only; split <;> rfl
  have hr0 : ¬ 20000 < s.size → Ref.readT s = match whole s (term s 0) with
      | .bad j => ([], 2, (j : Int))
      | .ok p j => if 200 < p.2.length then ([], 4, 0) else (p.2, 0, 0) := by
    intro h1
    unfold Ref.readT
    rw [if_neg h1, ew]
    cases whole s (term s 0) <;> rfl
  by_cases h1 : 20000 < s.size
  · have hr : Ref.readT s = ([], 1, 0) := by unfold Ref.readT; rw [if_pos h1]
    rw [hr]
    unfold kindOf
    rw [if_pos (by omega)]
    simp
  · have hr := hr0 h1
    clear hr0 ew
    cases hw : whole s (term s 0) with
    | bad j =>
      rw [hw] at hr
      simp only at hr
      rw [hr]
      unfold kindOf
      rw [hw]
      simp
    | ok p j =>
      rw [hw] at hr
      simp only at hr
      have ht : term s 0 = .ok p j := by
        unfold whole at hw
        split at hw
        · cases hw
        · split at hw
          · cases hw; assumption
          · cases hw
      have hk := term_kind ht
      by_cases h2 : 200 < p.2.length
      · rw [if_pos h2] at hr
        rw [hr]
        unfold kindOf
        rw [hw]
        simp only
        rw [if_neg (show ¬ ((4 : Int) = 0 ∧ ([] : List UInt8) = s.data.toList) by omega)]
        split
        · rfl
        · rw [if_neg (by intro e; rw [e, hl] at h2; omega)]
      · rw [if_neg h2] at hr
        rw [hr]
        unfold kindOf
        rw [hw]
        simp only [true_and]
        by_cases he : p.2 = s.data.toList
        · rw [if_pos he, if_neg (by rw [he, hl] at h2; omega), if_pos he]
          rcases hk with ⟨a, b⟩ | ⟨a, b⟩ | ⟨a, b⟩ <;> rw [a, b] <;> rfl
        · rw [if_neg he, if_neg he]
          split <;> rfl

theorem readT_first {s : ByteArray} (h0 : (Ref.readT s).2.1 = 0) : bt s 0 = 60 ∨ bt s 0 = 95 ∨ bt s 0 = 34 := by
  have ew : whole s (Ref.lessK (term s 0)) = Ref.lessK (whole s (term s 0)) := by
    cases term s 0 with
    | bad j => rfl
    | ok p j => unfold whole Ref.lessK; simp only; split <;> rfl
  unfold Ref.readT at h0
  split at h0
  · simp at h0
  · rw [ew] at h0
    cases hw : whole s (term s 0) with
    | bad j => rw [hw] at h0; simp [Ref.lessK] at h0
    | ok p j =>
      unfold whole at hw
      split at hw
      · cases hw
      · split at hw
        · have ht : term s 0 = .ok p j := by cases hw; assumption
          have := term_kind ht
          omega
        · cases hw

set_option maxHeartbeats 2000000 in
theorem kind_any (w : World) (s : ByteArray) (hT : Tabs w) (hG : 8 ≤ w.heap.size) :
    Calls Tryz.prog 13 #[.string s] w fun e w' => e = .returned (.int .i64 (kindOf s)) ∧ Below w.heap.size w w' := by
  by_cases h1 : 200 < s.size
  · have HR : Hid (kindOf s = 0) := by unfold Hid kindOf; rw [if_pos h1]
    rw [HR.out]
    clear hT
    go_enter Tryz.func13, Tryz.ntmps13
    go_wp2
    go_ret
    exact ⟨rfl, Below.refl _ _⟩
  · have HR0 : Hid (kindOf s = match whole s (term s 0) with
      | .bad _ => 0
      | .ok p _ => if p.2 = s.data.toList then p.1 else 0) := by unfold Hid kindOf; rw [if_neg h1]
    have hW := wholeTerm w s hT hG (by omega)
    clear hT
    cases hw : whole s (term s 0) with
    | bad j =>
      rw [hw] at hW HR0
      have HR : Hid (kindOf s = 0) := HR0.out
      have HW : Hid (Calls Tryz.prog 33 #[.string s, fnV 34 #[]] w fun e w' => e = .returned (.tuple #[.agg termZ, placedV 2 j]) ∧ Below w.heap.size w w') := hW
      clear hW hw HR0
      rw [HR.out]
      go_enter Tryz.func13, Tryz.ntmps13
      go_wp2_with fail
      refine HW.out.mono ?_
      rintro e w2 ⟨rfl, hb2⟩
      have HB2 : Hid (Below w.heap.size w w2) := hb2
      clear hb2
      go_wp2_with fail
      go_ret
      exact ⟨rfl, HB2.out.alloc HB2.out.size _⟩
    | ok p j =>
      rw [hw] at hW HR0
      have hR0 : kindOf s = if p.2 = s.data.toList then p.1 else 0 := HR0.out
      obtain ⟨V, hV⟩ : ∃ V : ByteArray, V = ⟨p.2.toArray⟩ := ⟨_, rfl⟩
      obtain ⟨k, hk⟩ : ∃ k : Nat, k = p.1 := ⟨_, rfl⟩
      have he := eq_data (s := s) hV
      have HW : Hid (Calls Tryz.prog 33 #[.string s, fnV 34 #[]] w fun e w' => e = .returned (.tuple #[.agg #[.int .i64 k, .string V], .nilIface]) ∧ Below w.heap.size w w') := by unfold Hid; rw [hV, hk]; exact hW
      by_cases hq : V = s
      · have HR : Hid (kindOf s = k) := by unfold Hid; rw [hR0, if_pos (he.1 hq), hk]
        rw [HR.out]
        clear hW hw HR0 hV he hR0 hk
        subst hq
        go_enter Tryz.func13, Tryz.ntmps13
        go_wp2_with fail
        refine HW.out.mono ?_
        rintro e w2 ⟨rfl, hb2⟩
        have HB2 : Hid (Below w.heap.size w w2) := hb2
        clear hb2
        go_wp2_with fail
        go_ret
        exact ⟨rfl, HB2.out.alloc HB2.out.size _⟩
      · have HR : Hid (kindOf s = 0) := by unfold Hid; rw [hR0, if_neg (fun x => hq (he.2 x))]
        rw [HR.out]
        have hqb := ne_toList hq
        clear hW hw HR0 hV he hR0 hk
        go_enter Tryz.func13, Tryz.ntmps13
        go_wp2_with fail
        refine HW.out.mono ?_
        rintro e w2 ⟨rfl, hb2⟩
        have HB2 : Hid (Below w.heap.size w w2) := hb2
        clear hb2
        go_wp2_with fail
        go_ret
        exact ⟨rfl, HB2.out.alloc HB2.out.size _⟩

set_option maxHeartbeats 2000000 in
theorem Ref.kind_any (w : World) (s : ByteArray) :
    Calls Tryz.prog 16 #[.string s] w fun e w' => e = .returned (.int .i64 (kindOf s)) ∧ Below w.heap.size w w' := by
  have HR0 : Hid (kindOf s = if (Ref.readT s).2.1 = 0 ∧ (Ref.readT s).1 = s.data.toList then (if bt s 0 = 60 then 1 else if bt s 0 = 95 then 2 else 3) else 0) := kindOf_read s
  have hf := readT_first (s := s)
  have HB := Ref.read_any w s
  have hn := readT_num s
  generalize (Ref.readT s) = r at HB HR0 hf hn
  obtain ⟨l, n, a⟩ := r
  simp only at HR0 hf hn HB
  obtain ⟨V, hV⟩ : ∃ V : ByteArray, V = ⟨l.toArray⟩ := ⟨_, rfl⟩
  have he := eq_data (s := s) hV
  have H1 : Hid (Calls Tryz.prog 11 #[.string s] w fun e w' => e = .returned (.tuple #[.string V, .int .i64 n, .int .i64 a]) ∧ Below w.heap.size w w') := by unfold Hid; rw [hV]; exact HB
  clear HB
  by_cases h0 : n = 0
  · by_cases hq : V = s
    · have hb := hf h0
      have hlt : 0 < s.size := by
        rcases hb with x | x | x <;> exact bt_in x (by omega)
      have hbt := bt_lt hlt
      have HR : Hid (kindOf s = if bt s 0 = 60 then 1 else if bt s 0 = 95 then 2 else 3) := by unfold Hid; rw [HR0.out, if_pos ⟨h0, he.1 hq⟩]
      clear HR0 hf hn hV he
      subst hq
      subst h0
      rw [HR.out]
      rcases hb with x | x | x
      · rw [x, if_pos rfl]
        have hx : (V[0].toNat : Int) = 60 := by rw [← hbt]; exact x
        clear hbt x HR
        go_enter Tryz.func16, Tryz.ntmps16
        go_wp2_with fail
        refine H1.out.mono ?_
        rintro e w2 ⟨rfl, hb2⟩
        go_wp2_with fail
        go_ret
        exact ⟨rfl, hb2⟩
      · rw [x, if_neg (by omega), if_pos rfl]
        have hx : (V[0].toNat : Int) = 95 := by rw [← hbt]; exact x
        clear hbt x HR
        go_enter Tryz.func16, Tryz.ntmps16
        go_wp2_with fail
        refine H1.out.mono ?_
        rintro e w2 ⟨rfl, hb2⟩
        go_wp2_with fail
        go_ret
        exact ⟨rfl, hb2⟩
      · rw [x, if_neg (by omega), if_neg (by omega)]
        have hx : (V[0].toNat : Int) = 34 := by rw [← hbt]; exact x
        clear hbt x HR
        go_enter Tryz.func16, Tryz.ntmps16
        go_wp2_with fail
        refine H1.out.mono ?_
        rintro e w2 ⟨rfl, hb2⟩
        go_wp2_with fail
        go_ret
        exact ⟨rfl, hb2⟩
    · have HR : Hid (kindOf s = 0) := by unfold Hid; rw [HR0.out, if_neg (fun x => hq (he.2 x.2))]
      have hqb := ne_toList hq
      rw [HR.out]
      clear HR0 hf hn hV he
      subst h0
      go_enter Tryz.func16, Tryz.ntmps16
      go_wp2_with fail
      refine H1.out.mono ?_
      rintro e w2 ⟨rfl, hb2⟩
      go_wp2_with fail
      go_ret
      exact ⟨rfl, hb2⟩
  · have HR : Hid (kindOf s = 0) := by unfold Hid; rw [HR0.out, if_neg (fun x => h0 x.1)]
    rw [HR.out]
    clear HR0 hf hn hV he
    go_enter Tryz.func16, Tryz.ntmps16
    go_wp2_with fail
    refine H1.out.mono ?_
    rintro e w2 ⟨rfl, hb2⟩
    go_wp2_with fail
    go_ret
    exact ⟨rfl, hb2⟩

end Go.Proofs.YtnffjoipinhojaaGreatDoor
