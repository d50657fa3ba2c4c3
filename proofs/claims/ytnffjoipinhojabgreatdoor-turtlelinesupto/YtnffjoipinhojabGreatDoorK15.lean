import Derived.Test.YtnffjoipinhojabGreatDoorK14
import Derived.Deep.RegionHeld3
import Derived.Maps.OwnSet
set_option linter.unusedSimpArgs false
set_option linter.unusedVariables false
namespace Go.Proofs.YtnffjoipinhojabGreatDoor
open Go.RowKit
namespace Tu

/-- what step's closure has captured -/
structure Cp (w : World) (b i k0 k1 k2 k3 : Nat) (x y : Bool) : Prop where
  c0 : w.cell? ⟨k0, 0, none⟩ = some (.pointer (some ⟨b, 0, none⟩))
  c1 : w.cell? ⟨k1, 0, none⟩ = some (.int .i64 i)
  c2 : w.cell? ⟨k2, 0, none⟩ = some (.bool x)
  c3 : w.cell? ⟨k3, 0, none⟩ = some (.bool y)
theorem Cp.drewN {w : World} {b i k0 k1 k2 k3 : Nat} {x y : Bool} (h : Cp w b i k0 k1 k2 k3 x y) (n : Nat) : Cp (w.drewN n) b i k0 k1 k2 k3 x y := ⟨h.c0, h.c1, h.c2, h.c3⟩
theorem Cp.adv {w w' : World} {b i j k0 k1 k2 k3 : Nat} {x y : Bool} (h : Cp w b i k0 k1 k2 k3 x y) (a : Adv b j w w') (h0 : k0 ≠ b) (h1 : k1 ≠ b) (h2 : k2 ≠ b) (h3 : k3 ≠ b) : Cp w' b i k0 k1 k2 k3 x y :=
  ⟨(a.cell (World.block_lt_of_cell? w ⟨k0, 0, none⟩ h.c0) (by omega)).trans h.c0, (a.cell (World.block_lt_of_cell? w ⟨k1, 0, none⟩ h.c1) (by omega)).trans h.c1,
   (a.cell (World.block_lt_of_cell? w ⟨k2, 0, none⟩ h.c2) (by omega)).trans h.c2, (a.cell (World.block_lt_of_cell? w ⟨k3, 0, none⟩ h.c3) (by omega)).trans h.c3⟩

theorem tok_iface {sg : Sg} (h : Sg.isNone sg = false) (p : Nat) : ∃ T v, tokV sg p = .iface T v := by
  cases sg
  case none => cases h
  all_goals exact ⟨_, _, rfl⟩

set_option maxHeartbeats 1000000 in
theorem step1_ok (w : World) (b i k0 k1 k2 k3 : Nat) (s : ByteArray) (h : Rd w b s i) (hfz : ∀ o, w.frozen? ⟨b, o, none⟩ = false) (hT : Tabs w) (hb4 : 8 ≤ b) (hsz : s.size ≤ 1099511627776) (old : Value) (hold : w.cell? ⟨b, 2, none⟩ = some old)
    (x y : Bool) (hC : Cp w b i k0 k1 k2 k3 x y) (h0 : k0 ≠ b) (h1 : k1 ≠ b) (h2 : k2 ≠ b) (h3 : k3 ≠ b) (sg : Sg) (k : Nat) (hr : sign s i (x && !y) = (sg, k)) (hb : sg.isBrk = false) :
    Calls Tryz.prog 91 #[.pointer (some ⟨k0, 0, none⟩), .pointer (some ⟨k1, 0, none⟩), .pointer (some ⟨k2, 0, none⟩), .pointer (some ⟨k3, 0, none⟩)] w fun e w' => e = .returned (.tuple #[]) ∧ ∃ w2, Adv b k w w2 ∧ w' = w2.setCell ⟨b, 2, none⟩ (tokV sg i) := by
  have hbw := h.lt
  have HS : Hid (∀ n, Calls Tryz.prog 92 #[.pointer (some ⟨b, 0, none⟩), .int .i64 i, .bool (x && !y)] (w.drewN n) fun e w' => e = .returned (tokV sg i) ∧ Adv b k w w') := fun n => by
    have := sign_any (w.drewN n) b i s (h.drewN n) (hfz 0) hT hb4 hsz (x && !y)
    rw [hr] at this
    refine this.mono fun e w' z => ?_
    cases sg <;> first | (cases hb; done) | exact ⟨z.1, (h.stayN n).trans z.2⟩
  have HA : Hid (∀ w2, Adv b k w w2 → Cp w2 b i k0 k1 k2 k3 x y ∧ w2.cell? ⟨b, 2, none⟩ = some old ∧ w2.frozen? ⟨b, 2, none⟩ = false) := fun w2 a => ⟨hC.adv a h0 h1 h2 h3, (a.cell hbw (by omega)).trans hold, (a.frozen hbw).trans (hfz 2)⟩
  obtain ⟨T, v, htv⟩ := tok_iface (sg := sg) (by have := sign_some s i (x && !y); rw [hr] at this; exact this) i
  rw [htv] at HS ⊢
  have HK : Hid (∀ w2, Adv b k w w2 → (w2.setCell ⟨b, 2, none⟩ (.iface T v)).cell? ⟨k0, 0, none⟩ = some (.pointer (some ⟨b, 0, none⟩)) ∧ (w2.setCell ⟨b, 2, none⟩ (.iface T v)).cell? ⟨k1, 0, none⟩ = some (.int .i64 i) ∧ (w2.setCell ⟨b, 2, none⟩ (.iface T v)).cell? ⟨k2, 0, none⟩ = some (.bool x) ∧ (w2.setCell ⟨b, 2, none⟩ (.iface T v)).cell? ⟨k3, 0, none⟩ = some (.bool y)) := fun w2 a => by
    have c := hC.adv a h0 h1 h2 h3
    refine ⟨?_, ?_, ?_, ?_⟩
    · rw [World.cell?_setCell_other _ _ _ _ (fun e => h0 (by have := congrArg Addr.block e; simpa using this.symm))]; exact c.c0
    · rw [World.cell?_setCell_other _ _ _ _ (fun e => h1 (by have := congrArg Addr.block e; simpa using this.symm))]; exact c.c1
    · rw [World.cell?_setCell_other _ _ _ _ (fun e => h2 (by have := congrArg Addr.block e; simpa using this.symm))]; exact c.c2
    · rw [World.cell?_setCell_other _ _ _ _ (fun e => h3 (by have := congrArg Addr.block e; simpa using this.symm))]; exact c.c3
  obtain ⟨c0, c1, c2, c3⟩ := hC
  have f2 := hfz 2
  clear h hT hr hb hfz htv
  cases x with
  | true =>
    simp only [Bool.true_and] at HS
    go_enter Tryz.func91, Tryz.ntmps91
    go_wp2_with fail
    go_region_held3 (fun w' => w'.cell? ⟨k0, 0, none⟩ = some (.pointer (some ⟨b, 0, none⟩)) ∧ w'.cell? ⟨k1, 0, none⟩ = some (.int .i64 i) ∧ w'.cell? ⟨k2, 0, none⟩ = some (.bool true) ∧ w'.cell? ⟨k3, 0, none⟩ = some (.bool y)) (first | assumption | exact ⟨c0, c1, c2, c3⟩ | exact ⟨d0, d1, d2, d3⟩ | exact HK.out _ hA2) (first | (go_at_call 92; refine (HS.out 1).mono ?_; rintro e w2 ⟨rfl, hA2⟩; obtain ⟨⟨d0, d1, d2, d3⟩, d4, d5⟩ := HA.out w2 hA2))
    all_goals
      go_wp2
      go_end0
      exact ⟨rfl, w2, hA2, rfl⟩
  | false =>
    simp only [Bool.false_and] at HS
    go_enter Tryz.func91, Tryz.ntmps91
    go_wp2_with fail
    refine wp_region_held_drew (S := (fun w' => w'.cell? ⟨k0, 0, none⟩ = some (.pointer (some ⟨b, 0, none⟩)) ∧ w'.cell? ⟨k1, 0, none⟩ = some (.int .i64 i) ∧ w'.cell? ⟨k2, 0, none⟩ = some (.bool false) ∧ w'.cell? ⟨k3, 0, none⟩ = some (.bool y))) (by kernel_rfl) ⟨c0, c1, c2, c3⟩ (fun hHeld => ?_)
    refine wpAnyH_take (i := 0) (v := .pointer (some ⟨b, 0, none⟩)) rfl (by kernel_rfl) (by kernel_rfl) (by kernel_rfl) (fun _ _ _ h => h) (Or.inl ⟨by rfl, fun w' hSw => ?_⟩) (by assumption) ?_
    · obtain ⟨g0, g1, g2, g3⟩ := hSw
      go_simp
    refine wpAnyH_take (i := 1) (v := .pointer (some ⟨b, 0, none⟩)) rfl (by kernel_rfl) (by kernel_rfl) (by kernel_rfl) (fun _ _ _ h => h) (Or.inl ⟨by rfl, fun w' hSw => ?_⟩) (by assumption) ?_
    · obtain ⟨g0, g1, g2, g3⟩ := hSw
      go_simp
    refine wpAnyH_take (i := 2) (v := .int .i64 i) rfl (by kernel_rfl) (by kernel_rfl) (by kernel_rfl) (fun _ _ _ h => h) (Or.inl ⟨by rfl, fun w' hSw => ?_⟩) (by assumption) ?_
    · obtain ⟨g0, g1, g2, g3⟩ := hSw
      go_simp
    refine wpAnyH_take (i := 3) (v := .bool false) rfl (by kernel_rfl) (by kernel_rfl) (by kernel_rfl) (fun _ _ _ h => h) (Or.inl ⟨by rfl, fun w' hSw => ?_⟩) (by assumption) ?_
    · obtain ⟨g0, g1, g2, g3⟩ := hSw
      go_simp
    refine wpAnyH_take (i := 4) (v := .bool false) rfl (by kernel_rfl) (by kernel_rfl) (by kernel_rfl) (fun _ _ _ h => h) (Or.inl ⟨by rfl, fun w' hSw => ?_⟩) (by assumption) ?_
    · obtain ⟨g0, g1, g2, g3⟩ := hSw
      go_simp
    refine wpAnyH_take (i := 5) (v := undef) rfl (by kernel_rfl) (by kernel_rfl) (by kernel_rfl) (fun _ _ _ h => h) (Or.inr ⟨by rfl, rfl⟩) (by assumption) ?_
    refine wpAnyH_take (i := 6) (v := undef) rfl (by kernel_rfl) (by kernel_rfl) (by kernel_rfl) (fun _ _ _ h => h) (Or.inr ⟨by rfl, rfl⟩) (by assumption) ?_
    refine wpAnyH_take (i := 7) (v := .bool false) rfl (by kernel_rfl) (by kernel_rfl) (by kernel_rfl) (fun _ _ _ h => h) (Or.inl ⟨by rfl, fun w' hSw => ?_⟩) (by assumption) ?_
    · obtain ⟨g0, g1, g2, g3⟩ := hSw
      go_simp
    refine wpAnyH_ready (rs := [8]) (by kernel_rfl) (by simp) (AllReadyH.cons rfl (fun K hK => ?_) AllReadyH.nil)
    go_simp
    go_at_call 92
    refine (HS.out 1).mono ?_
    rintro e w2 ⟨rfl, hA2⟩
    obtain ⟨⟨d0, d1, d2, d3⟩, d4, d5⟩ := HA.out w2 hA2
    refine hK.out _ _ ⟨d0, d1, d2, d3⟩ (fun hHeld => ?_)
    refine wpAnyH_take (i := 9) (v := .pointer (some ⟨b, 0, none⟩)) rfl (by kernel_rfl) (by kernel_rfl) (by kernel_rfl) (fun _ _ _ h => h) (Or.inl ⟨by rfl, fun w' hSw => ?_⟩) (by assumption) ?_
    · obtain ⟨g0, g1, g2, g3⟩ := hSw
      go_simp
    refine wpAnyH_take (i := 10) (v := .pointer (some ⟨b, 2, none⟩)) rfl (by kernel_rfl) (by kernel_rfl) (by kernel_rfl) (fun _ _ _ h => h) (Or.inl ⟨by rfl, fun w' hSw => ?_⟩) (by assumption) ?_
    · obtain ⟨g0, g1, g2, g3⟩ := hSw
      go_simp
    refine wpAnyH_ready (rs := [11]) (by kernel_rfl) (by simp) (AllReadyH.cons rfl (fun K hK => ?_) AllReadyH.nil)
    go_simp
    refine hK.out _ _ (HK.out _ hA2) (fun hHeld => ?_)
    refine wpAnyH_done (by kernel_rfl) ?_ _
    go_wp2
    go_end0
    exact ⟨rfl, w2, hA2, rfl⟩

set_option maxHeartbeats 1000000 in
theorem step1_bad (w : World) (b i k0 k1 k2 k3 : Nat) (s : ByteArray) (h : Rd w b s i) (hfz : ∀ o, w.frozen? ⟨b, o, none⟩ = false) (hT : Tabs w) (hb4 : 8 ≤ b) (hsz : s.size ≤ 1099511627776)
    (x y : Bool) (hC : Cp w b i k0 k1 k2 k3 x y) (n : Int) (j k : Nat) (hr : sign s i (x && !y) = (.brk n j, k)) :
    Calls Tryz.prog 91 #[.pointer (some ⟨k0, 0, none⟩), .pointer (some ⟨k1, 0, none⟩), .pointer (some ⟨k2, 0, none⟩), .pointer (some ⟨k3, 0, none⟩)] w fun e w' => e = stopE n j ∧ ∃ m, Adv b m w w' := by
  have HS : Hid (∀ q, Calls Tryz.prog 92 #[.pointer (some ⟨b, 0, none⟩), .int .i64 i, .bool (x && !y)] (w.drewN q) fun e w' => e = stopE n j ∧ ∃ m, Adv b m w w') := fun q => by
    have := sign_any (w.drewN q) b i s (h.drewN q) (hfz 0) hT hb4 hsz (x && !y)
    rw [hr] at this
    exact this.mono fun e w' z => ⟨z.1, z.2.imp fun m y => (h.stayN q).trans y.2⟩
  obtain ⟨c0, c1, c2, c3⟩ := hC
  clear h hT hr hfz
  cases x with
  | true =>
    simp only [Bool.true_and] at HS
    go_enter Tryz.func91, Tryz.ntmps91
    go_wp2_with fail
    refine wp_region_held_drew (S := (fun w' => w'.cell? ⟨k0, 0, none⟩ = some (.pointer (some ⟨b, 0, none⟩)) ∧ w'.cell? ⟨k1, 0, none⟩ = some (.int .i64 i) ∧ w'.cell? ⟨k2, 0, none⟩ = some (.bool true) ∧ w'.cell? ⟨k3, 0, none⟩ = some (.bool y))) (by kernel_rfl) ⟨c0, c1, c2, c3⟩ (fun hHeld => ?_)
    refine wpAnyH_take (i := 0) (v := .pointer (some ⟨b, 0, none⟩)) rfl (by kernel_rfl) (by kernel_rfl) (by kernel_rfl) (fun _ _ _ h => h) (Or.inl ⟨by rfl, fun w' hSw => ?_⟩) (by assumption) ?_
    · obtain ⟨g0, g1, g2, g3⟩ := hSw
      go_simp
    refine wpAnyH_take (i := 1) (v := .pointer (some ⟨b, 0, none⟩)) rfl (by kernel_rfl) (by kernel_rfl) (by kernel_rfl) (fun _ _ _ h => h) (Or.inl ⟨by rfl, fun w' hSw => ?_⟩) (by assumption) ?_
    · obtain ⟨g0, g1, g2, g3⟩ := hSw
      go_simp
    refine wpAnyH_take (i := 2) (v := .int .i64 i) rfl (by kernel_rfl) (by kernel_rfl) (by kernel_rfl) (fun _ _ _ h => h) (Or.inl ⟨by rfl, fun w' hSw => ?_⟩) (by assumption) ?_
    · obtain ⟨g0, g1, g2, g3⟩ := hSw
      go_simp
    refine wpAnyH_take (i := 3) (v := .bool true) rfl (by kernel_rfl) (by kernel_rfl) (by kernel_rfl) (fun _ _ _ h => h) (Or.inl ⟨by rfl, fun w' hSw => ?_⟩) (by assumption) ?_
    · obtain ⟨g0, g1, g2, g3⟩ := hSw
      go_simp
    refine wpAnyH_take (i := 4) (v := .bool true) rfl (by kernel_rfl) (by kernel_rfl) (by kernel_rfl) (fun _ _ _ h => h) (Or.inl ⟨by rfl, fun w' hSw => ?_⟩) (by assumption) ?_
    · obtain ⟨g0, g1, g2, g3⟩ := hSw
      go_simp
    refine wpAnyH_take (i := 5) (v := .bool y) rfl (by kernel_rfl) (by kernel_rfl) (by kernel_rfl) (fun _ _ _ h => h) (Or.inl ⟨by rfl, fun w' hSw => ?_⟩) (by assumption) ?_
    · obtain ⟨g0, g1, g2, g3⟩ := hSw
      go_simp
    refine wpAnyH_take (i := 6) (v := .bool !y) rfl (by kernel_rfl) (by kernel_rfl) (by kernel_rfl) (fun _ _ _ h => h) (Or.inl ⟨by rfl, fun w' hSw => ?_⟩) (by assumption) ?_
    · obtain ⟨g0, g1, g2, g3⟩ := hSw
      go_simp
    refine wpAnyH_take (i := 7) (v := .bool !y) rfl (by kernel_rfl) (by kernel_rfl) (by kernel_rfl) (fun _ _ _ h => h) (Or.inl ⟨by rfl, fun w' hSw => ?_⟩) (by assumption) ?_
    · obtain ⟨g0, g1, g2, g3⟩ := hSw
      go_simp
    refine wpAnyH_ready (rs := [8]) (by kernel_rfl) (by simp) (AllReadyH.cons rfl (fun K hK => ?_) AllReadyH.nil)
    go_simp
    go_at_call 92
    refine (HS.out 1).mono ?_
    rintro e w2 ⟨rfl, hA2⟩
    exact ⟨rfl, rfl, hA2⟩
  | false =>
    simp only [Bool.false_and] at HS
    go_enter Tryz.func91, Tryz.ntmps91
    go_wp2_with fail
    refine wp_region_held_drew (S := (fun w' => w'.cell? ⟨k0, 0, none⟩ = some (.pointer (some ⟨b, 0, none⟩)) ∧ w'.cell? ⟨k1, 0, none⟩ = some (.int .i64 i) ∧ w'.cell? ⟨k2, 0, none⟩ = some (.bool false) ∧ w'.cell? ⟨k3, 0, none⟩ = some (.bool y))) (by kernel_rfl) ⟨c0, c1, c2, c3⟩ (fun hHeld => ?_)
    refine wpAnyH_take (i := 0) (v := .pointer (some ⟨b, 0, none⟩)) rfl (by kernel_rfl) (by kernel_rfl) (by kernel_rfl) (fun _ _ _ h => h) (Or.inl ⟨by rfl, fun w' hSw => ?_⟩) (by assumption) ?_
    · obtain ⟨g0, g1, g2, g3⟩ := hSw
      go_simp
    refine wpAnyH_take (i := 1) (v := .pointer (some ⟨b, 0, none⟩)) rfl (by kernel_rfl) (by kernel_rfl) (by kernel_rfl) (fun _ _ _ h => h) (Or.inl ⟨by rfl, fun w' hSw => ?_⟩) (by assumption) ?_
    · obtain ⟨g0, g1, g2, g3⟩ := hSw
      go_simp
    refine wpAnyH_take (i := 2) (v := .int .i64 i) rfl (by kernel_rfl) (by kernel_rfl) (by kernel_rfl) (fun _ _ _ h => h) (Or.inl ⟨by rfl, fun w' hSw => ?_⟩) (by assumption) ?_
    · obtain ⟨g0, g1, g2, g3⟩ := hSw
      go_simp
    refine wpAnyH_take (i := 3) (v := .bool false) rfl (by kernel_rfl) (by kernel_rfl) (by kernel_rfl) (fun _ _ _ h => h) (Or.inl ⟨by rfl, fun w' hSw => ?_⟩) (by assumption) ?_
    · obtain ⟨g0, g1, g2, g3⟩ := hSw
      go_simp
    refine wpAnyH_take (i := 4) (v := .bool false) rfl (by kernel_rfl) (by kernel_rfl) (by kernel_rfl) (fun _ _ _ h => h) (Or.inl ⟨by rfl, fun w' hSw => ?_⟩) (by assumption) ?_
    · obtain ⟨g0, g1, g2, g3⟩ := hSw
      go_simp
    refine wpAnyH_take (i := 5) (v := undef) rfl (by kernel_rfl) (by kernel_rfl) (by kernel_rfl) (fun _ _ _ h => h) (Or.inr ⟨by rfl, rfl⟩) (by assumption) ?_
    refine wpAnyH_take (i := 6) (v := undef) rfl (by kernel_rfl) (by kernel_rfl) (by kernel_rfl) (fun _ _ _ h => h) (Or.inr ⟨by rfl, rfl⟩) (by assumption) ?_
    refine wpAnyH_take (i := 7) (v := .bool false) rfl (by kernel_rfl) (by kernel_rfl) (by kernel_rfl) (fun _ _ _ h => h) (Or.inl ⟨by rfl, fun w' hSw => ?_⟩) (by assumption) ?_
    · obtain ⟨g0, g1, g2, g3⟩ := hSw
      go_simp
    refine wpAnyH_ready (rs := [8]) (by kernel_rfl) (by simp) (AllReadyH.cons rfl (fun K hK => ?_) AllReadyH.nil)
    go_simp
    go_at_call 92
    refine (HS.out 1).mono ?_
    rintro e w2 ⟨rfl, hA2⟩
    exact ⟨rfl, rfl, hA2⟩

end Tu
end Go.Proofs.YtnffjoipinhojabGreatDoor

set_option linter.unusedSimpArgs false
set_option linter.unusedVariables false
namespace Go.Proofs.YtnffjoipinhojabGreatDoor
open Go.RowKit
namespace Tu

/-! The parser in the world. -/

/-- how a name in the map reads -/
def nameElem : Value → Option (DataW Nat × List MemPlace)
  | .agg cs => match cs.toList with
    | [.string a, .string g] => some (.agg [.lit (.string a.data.toList), .lit (.string g.data.toList)], [])
    | _ => none
  | _ => none
theorem nameElem_mk (a g : List UInt8) : nameElem (.agg #[str a, str g]) = some (.agg [.lit (.string a), .lit (.string g)], []) := rfl

abbrev keyL (r : List UInt8) : Go.Lit := .string r
def datL (x : List UInt8 × List UInt8) : DataW Nat := .agg [.lit (.string x.1), .lit (.string x.2)]
def zeroD : DataW Nat := .agg [.lit (.string []), .lit (.string [])]

/-- block m is a map that reads as these names -/
def Nm (w : World) (m : Nat) (l : List (List UInt8 × List UInt8)) : Prop :=
  ∃ D, w.ownsMap Tryz.prog 9 nameElem m l.length D ∧ ∀ r, Maps.has D (keyL r) = (look l r).isSome ∧ ∀ g, look l r = some g → D.atKey (keyL r) zeroD = datL (r, g)

theorem Nm.same {w w' : World} {m : Nat} {l : List (List UInt8 × List UInt8)} (h : Nm w m l) (hb : w'.heap[m]? = w.heap[m]?) : Nm w' m l := by
  obtain ⟨D, ⟨es, clock, hm, r⟩, h2⟩ := h
  exact ⟨D, ⟨es, clock, hb.trans hm, r⟩, h2⟩
theorem Nm.lt {w : World} {m : Nat} {l : List (List UInt8 × List UInt8)} (h : Nm w m l) : m < w.heap.size := by
  obtain ⟨D, h1, _⟩ := h
  exact h1.lt

/-- all that lay in w0 lies as it did, but for the blocks b and m -/
structure Fq (w0 : World) (b m : Nat) (w : World) : Prop where
  size : w0.heap.size ≤ w.heap.size
  os : w.os = w0.os ∧ w.tape = w0.tape ∧ w.output = w0.output
  but : ∀ k, k < w0.heap.size → k ≠ b → k ≠ m → w.heap[k]? = w0.heap[k]?

theorem Fq.adv {w0 w w' : World} {b m j : Nat} (h : Fq w0 b m w) (a : Adv b j w w') : Fq w0 b m w' :=
  ⟨Nat.le_trans h.size a.size, ⟨a.os.trans h.os.1, a.tape.trans h.os.2.1, a.output.trans h.os.2.2⟩, fun k hk hb hm => (a.other (Nat.lt_of_lt_of_le hk h.size) hb).trans (h.but k hk hb hm)⟩
theorem Fq.below {w0 w w' : World} {b m : Nat} (h : Fq w0 b m w) (a : Below w.heap.size w w') : Fq w0 b m w' :=
  ⟨Nat.le_trans h.size a.size, ⟨a.os.trans h.os.1, a.tape.trans h.os.2.1, a.output.trans h.os.2.2⟩, fun k hk hb hm => (a.block k (Nat.lt_of_lt_of_le hk h.size)).trans (h.but k hk hb hm)⟩

/-- the cells of the parser -/
def pcells (s : ByteArray) (k m : Nat) (st : St) (v : Value) : Array Value := #[.string s, .int .i64 k, tokV st.now st.p, .map (some m), .int .i64 st.depth, .int .i64 st.made, v]

/-- the parser in block b, its names in block m: it stands as st says -/
structure Pz (w0 : World) (b m : Nat) (s : ByteArray) (st : St) (w : World) : Prop where
  blk : ∃ k v, w.heap[b]? = some (.cells (pcells s k m st v) 81 (0, 0)) ∧ (st.now.isBrk = false → k = st.i) ∧ w.ownsRow w0.heap.size 44 3 v st.said.length (cellsOf st.said)
  nm : Nm w m st.names
  fq : Fq w0 b m w
  bl : b < w0.heap.size
  ml : m < w0.heap.size
  ne : b ≠ m
  gb : 8 ≤ b
  gm : 8 ≤ m
  sz : s.size ≤ 20000
  wf : Wf0 s st

theorem Pz.lt {w0 w : World} {b m : Nat} {s : ByteArray} {st : St} (h : Pz w0 b m s st w) : b < w.heap.size := Nat.lt_of_lt_of_le h.bl h.fq.size

theorem Pz.rd {w0 w : World} {b m : Nat} {s : ByteArray} {st : St} (h : Pz w0 b m s st w) (hb : st.now.isBrk = false) : Rd w b s st.i := by
  obtain ⟨k, v, hh, hi, ho⟩ := h.blk
  have := hi hb
  subst this
  exact ⟨by rw [Lib.cell_of_heap hh]; rfl, by rw [Lib.cell_of_heap hh]; rfl, Lib.frozen_of_heap hh 1, h.wf.le, by have := h.sz; omega⟩

theorem Pz.tabs {w0 w : World} {b m : Nat} {s : ByteArray} {st : St} (h : Pz w0 b m s st w) (hT : Tabs w0) : Tabs w := by
  have hg := h.gb
  have hgm := h.gm
  have hB : Below 8 w0 w := ⟨h.fq.os.1, h.fq.os.2.1, h.fq.os.2.2, h.fq.size, fun k hk => h.fq.but k (by have := h.bl; omega) (by omega) (by omega)⟩
  exact hT.below hB (by omega) (by omega)

/-- what stays in b when a cell is set -/
theorem setCell_blk {w : World} {b o : Nat} {cs : Array Value} {T : TypeId} (h : w.heap[b]? = some (.cells cs T (0, 0))) (v : Value) : (w.setCell ⟨b, o, none⟩ v).heap[b]? = some (.cells (cs.setIfInBounds o v) T (0, 0)) := by
  rw [setCell_heap, if_pos rfl, h]
  rfl

theorem Pz.same {w0 w w' : World} {b m : Nat} {s : ByteArray} {st : St} (h : Pz w0 b m s st w) (a : Below w.heap.size w w') : Pz w0 b m s st w' := by
  obtain ⟨k, v, hh, hi, ho⟩ := h.blk
  refine ⟨⟨k, v, (a.block b h.lt).trans hh, hi, own_same ho fun g hg hlt => a.block g hlt⟩, h.nm.same (a.block m h.nm.lt), h.fq.below a, h.bl, h.ml, h.ne, h.gb, h.gm, h.sz, h.wf⟩

/-- in which block lies what is said -/
def saidB (w : World) (b : Nat) : Option Nat := match w.cell? ⟨b, 6, none⟩ with
  | some v => v.ownBlock
  | none => none
theorem saidB_blk {w : World} {b k m : Nat} {s : ByteArray} {st : St} {v : Value} (h : w.heap[b]? = some (.cells (pcells s k m st v) 81 (0, 0))) : saidB w b = v.ownBlock := by
  unfold saidB
  rw [Lib.cell_of_heap h]
  rfl

/-- what was laid behind w0 lies as it did in w, but for what is said -/
structure Kp (w0 : World) (b : Nat) (w w' : World) : Prop where
  kp : ∀ k, w0.heap.size ≤ k → k < w.heap.size → some k ≠ saidB w b → w'.heap[k]? = w.heap[k]?
  sb : saidB w' b = saidB w b ∨ ∀ g, saidB w' b = some g → w.heap.size ≤ g
  sz : w.heap.size ≤ w'.heap.size
theorem Kp.refl (w0 : World) (b : Nat) (w : World) : Kp w0 b w w := ⟨fun _ _ _ _ => rfl, Or.inl rfl, Nat.le_refl _⟩
theorem Kp.trans {w0 a c d : World} {b : Nat} (h : Kp w0 b a c) (k : Kp w0 b c d) : Kp w0 b a d := by
  refine ⟨fun x h0 hx hn => ?_, ?_, Nat.le_trans h.sz k.sz⟩
  · rw [k.kp x h0 (Nat.lt_of_lt_of_le hx h.sz) ?_, h.kp x h0 hx hn]
    rcases h.sb with e | e
    · rw [e]; exact hn
    · intro e2
      have := e x e2.symm
      omega
  · rcases k.sb with e | e
    · rw [e]; exact h.sb
    · exact Or.inr fun g hg => Nat.le_trans h.sz (e g hg)
theorem Kp.of_blk {w0 w w' : World} {b k k' m m' : Nat} {s s' : ByteArray} {st st' : St} {v : Value} (hbl : b < w0.heap.size) (h : w.heap[b]? = some (.cells (pcells s k m st v) 81 (0, 0))) (h' : w'.heap[b]? = some (.cells (pcells s' k' m' st' v) 81 (0, 0)))
    (hoth : ∀ g, g < w.heap.size → g ≠ b → w'.heap[g]? = w.heap[g]?) (hsz : w.heap.size ≤ w'.heap.size) : Kp w0 b w w' :=
  ⟨fun x h0 hx _ => hoth x hx (by omega), Or.inl (by rw [saidB_blk h, saidB_blk h']), hsz⟩

/-- the parser stands so, and the rest is as it was in w -/
abbrev PK (w0 : World) (b m : Nat) (s : ByteArray) (st : St) (w w' : World) : Prop := Pz w0 b m s st w' ∧ Kp w0 b w w'
theorem PK.refl {w0 w : World} {b m : Nat} {s : ByteArray} {st : St} (h : Pz w0 b m s st w) : PK w0 b m s st w w := ⟨h, Kp.refl _ _ _⟩
theorem PK.on {w0 a c d : World} {b m : Nat} {s : ByteArray} {st st' : St} (h : PK w0 b m s st a c) (k : PK w0 b m s st' c d) : PK w0 b m s st' a d := ⟨k.1, h.2.trans k.2⟩
theorem Pz.keep {w0 w w' : World} {b m : Nat} {s : ByteArray} {st : St} (h : Pz w0 b m s st w) (a : Below w.heap.size w w') : PK w0 b m s st w w' := by
  have h' := h.same a
  obtain ⟨k, v, hh, hi, ho⟩ := h.blk
  exact ⟨h', Kp.of_blk h.bl hh ((a.block b h.lt).trans hh) (fun g hg _ => a.block g hg) a.size⟩
theorem PK.same {w0 w w1 w' : World} {b m : Nat} {s : ByteArray} {st : St} (h : PK w0 b m s st w w1) (a : Below w1.heap.size w1 w') : PK w0 b m s st w w' := h.on (h.1.keep a)
theorem PK.alloc {w0 w w1 : World} {b m : Nat} {s : ByteArray} {st : St} (h : PK w0 b m s st w w1) (o : Obj) : PK w0 b m s st w (w1.alloc o) := h.same ((Below.refl _ w1).alloc (Nat.le_refl _) _)

/-- a cell of the parser is set -/
theorem Pz.turn {w0 w w' : World} {b m : Nat} {s : ByteArray} {st st' : St} {k k' : Nat} {v : Value} (h : Pz w0 b m s st w) (hh : w.heap[b]? = some (.cells (pcells s k m st v) 81 (0, 0))) (hi' : st'.now.isBrk = false → k' = st'.i) (hsaid : st'.said = st.said) (hnames : st'.names = st.names) (wf : Wf0 s st')
    (ho : w.ownsRow w0.heap.size 44 3 v st.said.length (cellsOf st.said))
    (hb : w'.heap[b]? = some (.cells (pcells s k' m st' v) 81 (0, 0))) (hoth : ∀ g, g < w.heap.size → g ≠ b → w'.heap[g]? = w.heap[g]?) (hos : w'.os = w.os ∧ w'.tape = w.tape ∧ w'.output = w.output) (hsz : w.heap.size ≤ w'.heap.size) :
    PK w0 b m s st' w w' := by
  have hbl := h.bl
  refine ⟨⟨⟨k', v, hb, hi', ?_⟩, ?_, ⟨Nat.le_trans h.fq.size hsz, ⟨hos.1.trans h.fq.os.1, hos.2.1.trans h.fq.os.2.1, hos.2.2.trans h.fq.os.2.2⟩, fun g hg hgb hgm => (hoth g (Nat.lt_of_lt_of_le hg h.fq.size) hgb).trans (h.fq.but g hg hgb hgm)⟩, h.bl, h.ml, h.ne, h.gb, h.gm, h.sz, wf⟩, Kp.of_blk hbl hh hb hoth hsz⟩
  · rw [hsaid]
    exact own_same ho fun g hg hlt => hoth g hlt (by omega)
  · rw [hnames]
    exact h.nm.same (hoth m h.nm.lt (Ne.symm h.ne))

/-! Type tests. -/
theorem as_str_yes (l : List UInt8) (p : Nat) (w : World) : (Instr.typeAssert (tokV (.str l) p) 76 152 true).run Tryz.prog w = .ok (.tuple #[.agg #[.int .i64 p, str l], .bool true]) w := by kernel_rfl
theorem as_str_no {sg : Sg} (h : sg.isStr = false) (p : Nat) (w : World) : (Instr.typeAssert (tokV sg p) 76 152 true).run Tryz.prog w = .ok (.tuple #[.agg #[.int .i64 0, .string ⟨#[]⟩], .bool false]) w := by
  cases sg
  case str l => cases h
  all_goals kernel_rfl

end Tu
end Go.Proofs.YtnffjoipinhojabGreatDoor

