import Derived.Test.YtnffjoipinhojabDoorIa
set_option linter.unusedSimpArgs false
set_option linter.unusedVariables false
namespace Go.Proofs.YtnffjoipinhojabDoor
open Go.RowKit

/-- what Unvarint answers -/
def UnAns (l : List UInt8) (i : Nat) (e : Ending) : Prop :=
  (∃ k, Plain.Good l k ∧ e = .returned (.tuple #[.int .i64 (Plain.grp (k + 1) l : Nat), .int .i64 ((i + k + 1 : Nat) : Int), .int .i64 0])) ∨
  ((∀ k, ¬ Plain.Good l k) ∧ e = .returned (.tuple #[.int .i64 0, .int .i64 0, .int .i64 8]))

def HandR (r : Nat) (w : World) : Prop := Handle w ∧ 0 ≠ r
theorem HandR.fm {r : Nat} {w w' : World} (h : HandR r w) (hF : Fm r w w') : HandR r w' := by
  obtain ⟨h1, h2⟩ := h
  have hp := h1.pos
  refine ⟨?_, h2⟩
  unfold Handle at h1 ⊢
  rw [← h1]
  exact World.cell?_of_block (a := ⟨0, 0, none⟩) (hF.block _ hp (fun e => h2 (by cases e; rfl)))

set_option maxHeartbeats 1000000 in
theorem unv_any (w : World) (D : ByteArray) (i : Nat) (hi : i ≤ D.size) (hD : D.size ≤ 140737488355328) (hH : Handle w) :
    Calls Tryd.prog 63 #[.string D, .int .i64 i] w fun e w' => UnAns (D.data.toList.drop i) i e ∧ Below w.heap.size w w' := by
  go_enter Tryd.func63, Tryd.ntmps63
  go_wp2_with fail
  refine (read_any _ _ (by simp; omega)).mono ?_
  rintro e w' ⟨ha, rfl⟩
  rw [Lib.extract_to_end] at ha
  rcases ha with ⟨k, hk, rfl⟩ | ⟨hne, rfl⟩
  · have h9 := hk.k9
    have hg := Plain.grp9 (k + 1) (by omega) (D.data.toList.drop i)
    have HK : Hid (Plain.Good (D.data.toList.drop i) k) := hk
    obtain ⟨n, hn⟩ : ∃ n, Plain.grp (k + 1) (D.data.toList.drop i) = n := ⟨_, rfl⟩
    rw [hn] at hg ⊢
    have HN : Hid (Plain.grp (k + 1) (D.data.toList.drop i) = n) := hn
    clear hk hn
    go_wp2_with fail
    go_ret3
    refine ⟨.inl ⟨k, HK.out, ?_⟩, Below.refl _ _⟩
    rw [HN.out, show ((i + k + 1 : Nat) : Int) = (i : Int) + (k + 1) by omega]
    rfl
  · have HK : Hid (∀ k, ¬ Plain.Good (D.data.toList.drop i) k) := hne
    have HNu := number_any 8 w hH
    clear hne
    go_wp2_with fail
    refine HNu.mono ?_
    rintro e w2 ⟨rfl, hb⟩
    have HB : Hid (Below w.heap.size w w2) := hb
    clear hb HNu
    go_wp2_with fail
    go_ret3
    exact ⟨.inr ⟨HK.out, rfl⟩, HB.out⟩

/-- what the Reader's Number ends in -/
def NgP (r : Nat) (D : ByteArray) (i : Nat) (bad : Bool) (w : World) (e : Ending) (w' : World) : Prop :=
  ∃ (n j : Nat) (bad' : Bool), e = .returned (.int .i64 n) ∧ Rg r D j bad' w' ∧ Fm r w w' ∧ i ≤ j ∧ j ≤ D.size ∧ n ≤ 9223372036854775807 ∧ (bad' = false → bad = false ∧ D.data.toList.drop i = Lib.uvarint n ++ D.data.toList.drop j)

set_option maxHeartbeats 4000000 in
set_option maxRecDepth 20000 in
theorem number_g (w : World) (r i : Nat) (D : ByteArray) (bad : Bool) (h : Rg r D i bad w) (hi : i ≤ D.size) (hD : D.size ≤ 140737488355328) (hH : HandR r w) :
    Calls Tryd.prog 45 #[.pointer (some ⟨r, 0, none⟩)] w (NgP r D i bad w) := by
  have mixed : Tryd.prog.follows Departure.mixedOrders = true := by kernel_rfl
  have c0 := h.c0
  have c1 := h.c1
  have HR : Hid (Rg r D i bad w) := h
  have HU0 : Hid (∀ w1, Rg r D i bad w1 ∧ Fm r w w1 → Calls Tryd.prog 63 #[.string D, .int .i64 i] w1 fun e w' => UnAns (D.data.toList.drop i) i e ∧ (Rg r D i bad w' ∧ Fm r w w')) := fun w1 h1 => by
    refine (unv_any w1 D i hi hD (hH.fm h1.2).1).mono ?_
    rintro e w2 ⟨ha, hb⟩
    exact ⟨ha, h1.1.below hb, h1.2.trans (Fm.of_below hb)⟩
  have hlenD : D.data.toList.length = D.size := Array.length_toList
  have HRf : Hid (∀ w1, Rg r D i bad w1 → Calls Tryd.prog 50 #[.pointer (some ⟨r, 0, none⟩)] w1 fun e w' => e = .returned (.tuple #[]) ∧ Rg r D i true w' ∧ Fm r w1 w') := fun w1 h1 => refuse_g w1 r i D bad h1
  clear h
  by_cases hg : ∃ k, Plain.Good (D.data.toList.drop i) k
  · obtain ⟨k, hk⟩ := hg
    have hk9 := hk.k9
    have hkl := hk.kl
    simp only [List.length_drop, hlenD] at hkl
    obtain ⟨n, hnn⟩ : ∃ n, n = Plain.grp (k + 1) (D.data.toList.drop i) := ⟨_, rfl⟩
    obtain ⟨j, hj⟩ : ∃ j, j = i + k + 1 := ⟨_, rfl⟩
    have hb : n ≤ 9223372036854775807 := by have := Plain.grp9 (k + 1) (by omega) (D.data.toList.drop i); omega
    have HU : Hid (∀ w1, Rg r D i bad w1 ∧ Fm r w w1 → Calls Tryd.prog 63 #[.string D, .int .i64 i] w1 fun e w' => e = .returned (.tuple #[.int .i64 n, .int .i64 j, .int .i64 0]) ∧ (Rg r D i bad w' ∧ Fm r w w')) := fun w1 h1 => by
      refine (HU0.out w1 h1).mono ?_
      rintro e w2 ⟨ha, hS⟩
      rcases ha with ⟨k', hk', rfl⟩ | ⟨hno, _⟩
      · have := hk'.one hk
        subst this
        exact ⟨by rw [hnn, hj], hS⟩
      · exact absurd hk (hno k)
    have HO : Hid (D.data.toList.drop i = Lib.uvarint n ++ D.data.toList.drop j) := by
      unfold Hid
      rw [hnn, hj, Nat.add_assoc, ← List.drop_drop]
      exact hk.own
    have hij : i ≤ j ∧ j ≤ D.size := by omega
    clear hk hnn HU0 hj
    cases bad with
    | true =>
      go_enter Tryd.func45, Tryd.ntmps45
      go_wp2_with fail
      go_region_held3 (fun w' => w'.cell? ⟨r, 0, none⟩ = some (.string D) ∧ w'.cell? ⟨r, 1, none⟩ = some (.int .i64 i) ∧ (Rg r D i true w' ∧ Fm r w w')) (first | assumption | exact ⟨c0, c1, HR.out, Fm.refl r w⟩ | exact ⟨c0, c1, HR.out, (Fm.refl r w).drew⟩ | exact ⟨Rg.c0 hS.1, Rg.c1 hS.1, hS⟩) (first | (go_at_call 63; refine (HU.out _ (by first | assumption | exact ⟨HR.out, (Fm.refl r w).drew⟩)).mono ?_; rintro e2 w2 ⟨rfl, hS⟩))
      obtain ⟨hR2, hF2⟩ := hS
      have d2 : w2.cell? ⟨r, 2, none⟩ = some (.iface 84 (.agg #[.int .i64 i, .iface 80 (.agg #[.int .i64 8])])) := hR2.c2
      have HS : Hid (Rg r D i true w2 ∧ Fm r w w2) := ⟨hR2, hF2⟩
      clear hR2 hF2 HU HR c0 c1
      go_wp2_with fail
      go_ret
      exact ⟨0, i, true, rfl, HS.out.1, HS.out.2, Nat.le_refl _, hi, by omega, fun e => by cases e⟩
    | false =>
      go_enter Tryd.func45, Tryd.ntmps45
      go_wp2_with fail
      go_region_held3 (fun w' => w'.cell? ⟨r, 0, none⟩ = some (.string D) ∧ w'.cell? ⟨r, 1, none⟩ = some (.int .i64 i) ∧ (Rg r D i false w' ∧ Fm r w w')) (first | assumption | exact ⟨c0, c1, HR.out, Fm.refl r w⟩ | exact ⟨c0, c1, HR.out, (Fm.refl r w).drew⟩ | exact ⟨Rg.c0 hS.1, Rg.c1 hS.1, hS⟩) (first | (go_at_call 63; refine (HU.out _ (by first | assumption | exact ⟨HR.out, (Fm.refl r w).drew⟩)).mono ?_; rintro e2 w2 ⟨rfl, hS⟩))
      obtain ⟨hR2, hF2⟩ := hS
      have d2 : w2.cell? ⟨r, 2, none⟩ = some .nilIface := hR2.c2
      have d1 := hR2.c1
      have f1 := hR2.f 1
      have HS : Hid (Rg r D j false (w2.setCell ⟨r, 1, none⟩ (.int .i64 j)) ∧ Fm r w (w2.setCell ⟨r, 1, none⟩ (.int .i64 j))) := ⟨hR2.set1 j, hF2.trans (fm_set _ _ _ _)⟩
      clear hR2 hF2 HU HR c0 c1
      go_wp2_with fail
      go_ret
      exact ⟨n, j, false, rfl, HS.out.1, HS.out.2, hij.1, hij.2, hb, fun _ => ⟨rfl, HO.out⟩⟩
  · have HU : Hid (∀ w1, Rg r D i bad w1 ∧ Fm r w w1 → Calls Tryd.prog 63 #[.string D, .int .i64 i] w1 fun e w' => e = .returned (.tuple #[.int .i64 0, .int .i64 0, .int .i64 8]) ∧ (Rg r D i bad w' ∧ Fm r w w')) := fun w1 h1 => by
      refine (HU0.out w1 h1).mono ?_
      rintro e w2 ⟨ha, hS⟩
      rcases ha with ⟨k', hk', rfl⟩ | ⟨hno, rfl⟩
      · exact absurd ⟨k', hk'⟩ hg
      · exact ⟨rfl, hS⟩
    clear hg HU0
    go_enter Tryd.func45, Tryd.ntmps45
    go_wp2_with fail
    go_region_held3 (fun w' => w'.cell? ⟨r, 0, none⟩ = some (.string D) ∧ w'.cell? ⟨r, 1, none⟩ = some (.int .i64 i) ∧ (Rg r D i bad w' ∧ Fm r w w')) (first | assumption | exact ⟨c0, c1, HR.out, Fm.refl r w⟩ | exact ⟨c0, c1, HR.out, (Fm.refl r w).drew⟩ | exact ⟨Rg.c0 hS.1, Rg.c1 hS.1, hS⟩) (first | (go_at_call 63; refine (HU.out _ (by first | assumption | exact ⟨HR.out, (Fm.refl r w).drew⟩)).mono ?_; rintro e2 w2 ⟨rfl, hS⟩))
    obtain ⟨hR2, hF2⟩ := hS
    have HF2 : Hid (Fm r w w2) := hF2
    have HC := HRf.out w2 hR2
    clear hR2 hF2 HU HR c0 c1
    go_wp2_with fail
    refine HC.mono ?_
    rintro e w3 ⟨rfl, hR3, hF3⟩
    have d2 : w3.cell? ⟨r, 2, none⟩ = some (.iface 84 (.agg #[.int .i64 i, .iface 80 (.agg #[.int .i64 8])])) := hR3.c2
    have HS : Hid (Rg r D i true w3 ∧ Fm r w w3) := ⟨hR3, HF2.out.trans hF3⟩
    clear hR3 hF3 HC
    go_wp2_with fail
    go_ret
    exact ⟨0, i, true, rfl, HS.out.1, HS.out.2, Nat.le_refl _, hi, by omega, fun e => by cases e⟩

end Go.Proofs.YtnffjoipinhojabDoor
