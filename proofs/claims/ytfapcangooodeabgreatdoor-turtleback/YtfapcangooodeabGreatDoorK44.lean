import Derived.Test.YtfapcangooodeabGreatDoorK43
set_option linter.unusedSimpArgs false
set_option linter.unusedVariables false
namespace Go.Proofs.YtfapcangooodeabGreatDoor
open Go.RowKit
namespace Tu

/-! turtle.Print of one sentence, without names. -/
end Tu
end Go.Proofs.YtfapcangooodeabGreatDoor

set_option linter.unusedSimpArgs false
set_option linter.unusedVariables false
namespace Go.Proofs.YtfapcangooodeabGreatDoor
open Go.RowKit
namespace Tu

/-! Names. -/
def isRowL (l : List UInt8) : Bool := match l with
  | [] => false
  | c :: r => decide ((c :: r).length ≤ 20) && (letter (c.toNat : Int) && (c :: r).all fun c => alnum (c.toNat : Int))

theorem letter_any (w : World) (c : Int) (h0 : 0 ≤ c) (h1 : c ≤ 255) : Calls Tryz.prog 114 #[.int .i32 c] w fun e w' => e = .returned (.bool (letter c)) ∧ Below w.heap.size w w' :=
  (set_letter w).at' w (fun _ _ _ => rfl) (Nat.zero_le _) c h0 (by omega)

set_option maxHeartbeats 1000000 in
set_option maxRecDepth 20000 in
theorem isRow_any (w : World) (l : List UInt8) (hT : Tabs w) (hG : 8 ≤ w.heap.size) :
    Calls Tryz.prog 69 #[str l] w fun e w' => e = .returned (.bool (isRowL l)) ∧ Below w.heap.size w w' := by
  cases l with
  | nil =>
    clear hT
    go_enter Tryz.func69, Tryz.ntmps69
    go_wp2
    go_ret
    exact ⟨rfl, Below.refl _ _⟩
  | cons c r =>
    obtain ⟨V, hV⟩ : ∃ V : ByteArray, V = ⟨(c :: r).toArray⟩ := ⟨_, rfl⟩
    have hz : V.size = (c :: r).length := by rw [hV]; exact arr_size _
    have e2 : str (c :: r) = .string V := by rw [hV]
    have hne : V.toList.isEmpty = false := by rw [hV, str_toList]; rfl
    have hlt : 0 < V.size := by rw [hz]; simp
    have hc : V[0] = c := by subst hV; rfl
    unfold isRowL
    simp only
    by_cases h20 : (c :: r).length ≤ 20
    · have hs20 : V.size ≤ 20 := by omega
      rw [decide_eq_true h20, Bool.true_and]
      have HLt : Hid (∀ w1 : World, Calls Tryz.prog 114 #[.int .i32 (V[0].toNat : Int)] w1 fun e w' => e = .returned (.bool (letter (c.toNat : Int))) ∧ Below w1.heap.size w1 w') := fun w1 => by rw [hc]; exact letter_any w1 _ (by omega) (by have := c.toNat_lt; omega)
      have HAl : Hid (∀ w1, Below w.heap.size w w1 → Calls Tryz.prog 115 #[.string V, fnV 116 #[]] w1 fun e w' => e = .returned (.bool ((c :: r).all fun c => alnum (c.toNat : Int))) ∧ Below w1.heap.size w1 w') := fun w1 hb => by rw [← e2]; exact allOf_any w1 (c :: r) (by omega) (hT.below hb (by omega) (by omega)) (Nat.le_trans hG hb.size) _ alnum (fun w2 => setInRow w2) (fun c => alnum_lt)
      generalize ((c :: r).all fun c => alnum (c.toNat : Int)) = ra at *
      have hb255 : (V[0].toNat : Int) < 256 := by have := (V[0]).toNat_lt; omega
      have hw32 : IntKind.i32.wrap (V[0].toNat : Int) = (V[0].toNat : Int) := by rw [IntKind.wrap_i32] <;> omega
      cases hle : letter (c.toNat : Int) with
      | false =>
        rw [hle] at HLt
        rw [e2, Bool.false_and]
        clear hT hV e2 hc HAl hle hz h20
        go_enter Tryz.func69, Tryz.ntmps69
        go_wp2_with fail
        refine (HLt.out _).mono ?_
        rintro e w1 ⟨rfl, hB⟩
        go_wp2
        go_ret
        exact ⟨rfl, hB⟩
      | true =>
        rw [hle] at HLt
        rw [e2, Bool.true_and]
        clear hT hV e2 hc hle hz h20
        go_enter Tryz.func69, Tryz.ntmps69
        go_wp2_with fail
        refine (HLt.out _).mono ?_
        rintro e w1 ⟨rfl, hB⟩
        have HB : Hid (Below w.heap.size w w1) := hB
        clear hB
        go_wp2_with fail
        refine (HAl.out _ HB.out).mono ?_
        rintro e w2 ⟨rfl, hB2⟩
        go_wp2
        go_ret
        exact ⟨rfl, HB.out.trans (hB2.mono HB.out.size)⟩
    · have hs20 : ¬ V.size ≤ 20 := by omega
      rw [decide_eq_false h20, Bool.false_and, e2]
      clear hT hV e2 hc hz h20
      go_enter Tryz.func69, Tryz.ntmps69
      go_wp2_with fail
      go_ret
      exact ⟨rfl, Below.refl _ _⟩

end Tu
end Go.Proofs.YtfapcangooodeabGreatDoor

