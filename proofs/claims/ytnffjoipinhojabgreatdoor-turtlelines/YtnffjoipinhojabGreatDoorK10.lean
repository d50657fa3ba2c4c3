import Derived.Test.YtnffjoipinhojabGreatDoorK09
import Derived.Recover
import Derived.Laws.Pointers
set_option linter.unusedSimpArgs false
set_option linter.unusedVariables false
namespace Go.Proofs.YtnffjoipinhojabGreatDoor
open Go.RowKit

abbrev placedV (n i : Int) : Value := .iface 98 (.agg #[.int .i64 i, .iface 94 (.agg #[.int .i64 n])])

theorem assert_stop (v : Value) (w : World) : (Instr.typeAssert (.iface 111 v) 20 111 true).run Tryz.prog w = .ok (.tuple #[v, .bool true]) w := by kernel_rfl

set_option maxRecDepth 20000 in
set_option maxHeartbeats 1000000 in
theorem catch1_stop (p : Addr) (old : Value) (n i : Int) (w : World) (hc : w.cell? p = some old) (hz : w.frozen? p = false) :
    CallsD Tryz.prog 56 #[.pointer (some p)] (.panicking [{ v := stopV n i, recovered := false }]) w fun e u' w' =>
      e = .returned (.tuple #[]) ∧ u' = .panicking [{ v := stopV n i, recovered := true }] ∧ w' = (w.alloc (.cells #[placedV n i] 111)).setCell p (placedV n i) := by
  unfold stopV
  refine callsD_of_wpS Tryz.func56 rfl fun c₀ cs hu => ?_
  apply wpS_seq
  apply wpS_region
  simp [wpOpsS, go_sem, recoverD, hu, Tryz.ntmps56, Exit.thenS]
  refine wpS_of_wp ?_
  have ht : (#[Value.pointer (some p)] ++ (Array.replicate 11 undef).setIfInBounds 3 (Value.iface 111 (Value.agg #[placedV n i]))) = #[Value.pointer (some p), undef, undef, undef, Value.iface 111 (Value.agg #[placedV n i]), undef, undef, undef, undef, undef, undef, undef] := rfl
  rw [ht]
  have hpl : p.block < w.heap.size := World.block_lt_of_cell? w p hc
  have HU : Hid (c₀.mode = FrameMode.panicking [{ v := Value.iface 111 (Value.agg #[placedV n i]), recovered := false }]) := hu
  clear hu ht
  have hta := assert_stop
  have hc' : ∀ o, (w.alloc o).cell? p = some old := fun o => (World.cell?_alloc_lt _ _ p hpl).trans hc
  have hz' : ∀ o, (w.alloc o).frozen? p = false := fun o => (World.frozen?_alloc_old _ _ p (Nat.ne_of_lt hpl)).trans hz
  go_wp2
  simp [bodyPostS, results, Tryz.results56, go_sem]

set_option maxRecDepth 20000 in
set_option maxHeartbeats 1000000 in
theorem catch1_idle (p : Addr) (w : World) :
    CallsD Tryz.prog 56 #[.pointer (some p)] .returning w fun e u' w' => e = .returned (.tuple #[]) ∧ u' = .returning ∧ w' = w := by
  refine callsD_of_wpS Tryz.func56 rfl fun c₀ cs hu => ?_
  apply wpS_seq
  apply wpS_region
  simp [wpOpsS, go_sem, recoverD, hu, Tryz.ntmps56, Exit.thenS]
  refine wpS_of_wp ?_
  have ht : (#[Value.pointer (some p)] ++ (Array.replicate 11 undef).setIfInBounds 3 Value.nilIface) = #[Value.pointer (some p), undef, undef, undef, Value.nilIface, undef, undef, undef, undef, undef, undef, undef] := rfl
  rw [ht]
  have HU : Hid (c₀.mode = FrameMode.returning) := hu
  clear hu ht
  go_wp2
  have := HU.out
  cases c₀
  simp_all [bodyPostS, results, Tryz.results56, go_sem]

/-- scan.Catch, where what it runs comes back. -/
theorem catch_ok (w : World) (g : Nat) (lb : Array Value) (Q : World → Prop) (eg : ∀ args w, (callFunc g args).run Tryz.prog w = .ok (.enter g args) w)
    (h : Calls Tryz.prog g lb (w.alloc (.cells #[.nilIface] 52)) fun e w' => e = .returned (.tuple #[]) ∧ Q w') (hQ : ∀ w', Q w' → w'.heap[w.heap.size]? = some (.cells #[.nilIface] 52 (0, 0))) :
    Calls Tryz.prog 30 #[fnV g lb] w fun e w' => e = .returned .nilIface ∧ ∃ w2, Q w2 ∧ w' = w2.setCell ⟨w.heap.size, 0, none⟩ .nilIface := by
  have hmf := mkFunc
  go_enter_defers Tryz.func30, Tryz.ntmps30
  go_wp2_with (go_at_fn g; refine h.mono ?_; rintro e w2 ⟨rfl, hq⟩; have hb := hQ w2 hq; have hc : w2.cell? ⟨w.heap.size, 0, none⟩ = some .nilIface := (by rw [Lib.cell_of_heap hb]; rfl); have hf : w2.frozen? ⟨w.heap.size, 0, none⟩ = false := Lib.frozen_of_heap hb 0; clear hb)
  refine leaves_cons (f := 56) (args := #[.pointer (some ⟨w.heap.size, 0, none⟩)]) (by simp) (by simp [go_sem]) ?_
  refine (catch1_idle ⟨w.heap.size, 0, none⟩ _).mono ?_
  rintro e u' w'' ⟨rfl, rfl, rfl⟩
  simp [Leaves, settle, results, Tryz.results30, go_sem, hc]
  exact ⟨w2, hq, rfl⟩

/-- scan.Catch, where what it runs gives up. -/
theorem catch_stop (w : World) (g : Nat) (lb : Array Value) (Q : World → Prop) (n i : Int) (eg : ∀ args w, (callFunc g args).run Tryz.prog w = .ok (.enter g args) w)
    (h : Calls Tryz.prog g lb (w.alloc (.cells #[.nilIface] 52)) fun e w' => e = stopE n i ∧ Q w') (hQ : ∀ w', Q w' → w'.heap[w.heap.size]? = some (.cells #[.nilIface] 52 (0, 0))) :
    Calls Tryz.prog 30 #[fnV g lb] w fun e w' => e = .returned (placedV n i) ∧ ∃ w2, Q w2 ∧ w' = (w2.alloc (.cells #[placedV n i] 111)).setCell ⟨w.heap.size, 0, none⟩ (placedV n i) := by
  have hmf := mkFunc
  go_enter_defers Tryz.func30, Tryz.ntmps30
  go_wp2_with (go_at_fn g; refine h.mono ?_; rintro e w2 ⟨rfl, hq⟩)
  have hb := hQ w2 hq
  have hc : w2.cell? ⟨w.heap.size, 0, none⟩ = some .nilIface := by rw [Lib.cell_of_heap hb]; rfl
  have hf : w2.frozen? ⟨w.heap.size, 0, none⟩ = false := Lib.frozen_of_heap hb 0
  have hl : w.heap.size < w2.heap.size := (Array.getElem?_eq_some_iff.1 hb).1
  refine leaves_cons (f := 56) (args := #[.pointer (some ⟨w.heap.size, 0, none⟩)]) (by simp) (by simp [go_sem]) ?_
  refine (catch1_stop ⟨w.heap.size, 0, none⟩ .nilIface n i _ hc hf).mono ?_
  rintro e u' w'' ⟨rfl, rfl, rfl⟩
  have hc2 : ((w2.alloc (.cells #[placedV n i] 111)).setCell ⟨w.heap.size, 0, none⟩ (placedV n i)).cell? ⟨w.heap.size, 0, none⟩ = some (placedV n i) :=
    World.cell?_setCell_same _ _ _ ((World.cell?_alloc_lt _ _ ⟨w.heap.size, 0, none⟩ hl).trans hc)
  simp [Leaves, settle, results, Tryz.results30, go_sem, hc2]
  exact ⟨w2, hq, rfl⟩
end Go.Proofs.YtnffjoipinhojabGreatDoor

set_option linter.unusedSimpArgs false
set_option linter.unusedVariables false
namespace Go.Proofs.YtnffjoipinhojabGreatDoor
open Go.RowKit

/-- all that lay, but the reader in block b and block f, lies as it did -/
def But (b f : Nat) (w w' : World) : Prop := w.heap.size ≤ w'.heap.size ∧ (w'.os = w.os ∧ w'.tape = w.tape ∧ w'.output = w.output) ∧ ∀ k, k < w.heap.size → k ≠ b → k ≠ f → w'.heap[k]? = w.heap[k]?

theorem But.of_adv {b f j : Nat} {w w' : World} (a : Adv b j w w') : But b f w w' := ⟨a.size, ⟨a.os, a.tape, a.output⟩, fun k hk hb _ => a.other hk hb⟩

theorem But.trans {b f : Nat} {w w' w'' : World} (h : But b f w w') (k : But b f w' w'') : But b f w w'' :=
  ⟨Nat.le_trans h.1 k.1, ⟨k.2.1.1.trans h.2.1.1, k.2.1.2.1.trans h.2.1.2.1, k.2.1.2.2.trans h.2.1.2.2⟩, fun x hx hb hf => (k.2.2 x (Nat.lt_of_lt_of_le hx h.1) hb hf).trans (h.2.2 x hx hb hf)⟩

theorem But.set {b f o : Nat} {w w' : World} (h : But b f w w') (v : Value) : But b f w (w'.setCell ⟨f, o, none⟩ v) :=
  h.trans ⟨by simp, ⟨rfl, rfl, rfl⟩, fun k _ _ hf => Below.heap_setCell _ _ _ _ hf⟩

theorem But.refl (b f : Nat) (w : World) : But b f w w := ⟨Nat.le_refl _, ⟨rfl, rfl, rfl⟩, fun _ _ _ _ => rfl⟩

theorem set2_heap {w : World} {f : Nat} {T : TypeId} {a c v0 v1 : Value} (h : w.heap[f]? = some (.cells #[a, c] T (0, 0))) : ((w.setCell ⟨f, 0, none⟩ v0).setCell ⟨f, 1, none⟩ v1).heap[f]? = some (.cells #[v0, v1] T (0, 0)) := by
  rw [setCell_heap, setCell_heap]
  simp [h]

abbrev termZ : Array Value := #[.int .i64 0, str []]

set_option maxHeartbeats 1000000 in
/-- what Whole[Term] runs -/
theorem whole1T (w : World) (b f k : Nat) (s : ByteArray) (r : R (Nat × List UInt8)) (g : Nat) (eg : ∀ args w, (callFunc g args).run Tryz.prog w = .ok (.enter g args) w)
    (h : Rd w b s 0) (hk : w.cell? ⟨k, 0, none⟩ = some (fnV g #[])) (hf : w.heap[f]? = some (.cells termZ 207 (0, 0))) (hbf : b ≠ f)
    (hr : Calls Tryz.prog g #[.pointer (some ⟨b, 0, none⟩)] w (Out b w termV r)) (hj : ∀ x j, r = .ok x j → j ≤ s.size) :
    Calls Tryz.prog 184 #[.pointer (some ⟨k, 0, none⟩), .pointer (some ⟨b, 0, none⟩), .pointer (some ⟨f, 0, none⟩)] w fun e w' =>
      match whole s r with
      | .ok x j => e = .returned (.tuple #[]) ∧ But b f w w' ∧ w'.heap[f]? = some (.cells #[.int .i64 x.1, str x.2] 207 (0, 0))
      | .bad j => e = stopE 2 j ∧ But b f w w' := by
  have hfl : f < w.heap.size := (Array.getElem?_eq_some_iff.1 hf).1
  cases r with
  | bad j =>
    simp only [whole]
    go_enter Tryz.func184, Tryz.ntmps184
    go_wp2_with (go_at_fn g; refine hr.mono ?_; rintro e w2 ⟨rfl, m, hA2⟩)
    exact ⟨rfl, rfl, But.of_adv hA2⟩
  | ok x j =>
    obtain ⟨xk, xl⟩ := x
    have hjs := hj _ _ rfl
    have FB : Hid (∀ w2, Adv b j w w2 → w2.heap[f]? = some (.cells termZ 207 (0, 0))) := fun w2 a => by
      rw [a.other hfl (Ne.symm hbf)]; exact hf
    have HRD : Hid (Rd w b s 0) := h
    clear hj hf h
    by_cases he : j = s.size
    · simp only [whole, if_pos he]
      have HWE : Hid (∀ w2, Adv b j w w2 → ∀ w3, But b f w2 w3 → w3.heap[b]? = w2.heap[b]? → Calls Tryz.prog 65 #[.pointer (some ⟨b, 0, none⟩)] w3 fun e w' => e = .returned (.tuple #[]) ∧ Adv b j w3 w') := fun w2 a w3 bt hb3 => by
        have r2 := HRD.out.adv a hjs
        have r3 : Rd w3 b s j := ⟨(World.cell?_of_block (w := w2) (a := ⟨b, 0, none⟩) hb3).trans r2.c0, (World.cell?_of_block (w := w2) (a := ⟨b, 1, none⟩) hb3).trans r2.c1, (World.frozen?_of_block (w := w2) (a := ⟨b, 1, none⟩) hb3).trans r2.fz, r2.le, r2.ms⟩
        exact wantEnd_ok w3 b j s r3 he
      clear he
      go_enter Tryz.func184, Tryz.ntmps184
      go_wp2_with (go_at_fn g; refine hr.mono ?_; rintro e w2 ⟨rfl, hA2⟩; have hb2 := FB.out w2 hA2; have q0 : w2.cell? ⟨f, 0, none⟩ = some (.int .i64 0) := (by rw [Lib.cell_of_heap hb2]; rfl); have q1 : w2.cell? ⟨f, 1, none⟩ = some (str []) := (by rw [Lib.cell_of_heap hb2]; rfl); have qf : ∀ o, w2.frozen? ⟨f, o, none⟩ = false := (fun o => Lib.frozen_of_heap hb2 o); have HB2 : Hid (w2.heap[f]? = some (.cells termZ 207 (0, 0))) := hb2; clear hb2)
      have hbt : But b f w2 ((w2.setCell ⟨f, 0, none⟩ (.int .i64 xk)).setCell ⟨f, 1, none⟩ (str xl)) := ((But.refl b f w2).set _).set _
      have hfb := set2_heap (v0 := .int .i64 xk) (v1 := str xl) HB2.out
      refine (HWE.out w2 hA2 _ hbt (by rw [Below.heap_setCell _ _ _ _ hbf, Below.heap_setCell _ _ _ _ hbf])).mono ?_
      rintro e w4 ⟨rfl, hA4⟩
      go_wp2_with fail
      go_end0
      refine ⟨rfl, (But.of_adv hA2).trans (hbt.trans (But.of_adv hA4)), ?_⟩
      rw [hA4.other (Array.getElem?_eq_some_iff.1 hfb).1 (Ne.symm hbf)]
      exact hfb
    · simp only [whole, if_neg he]
      have HWE : Hid (∀ w2, Adv b j w w2 → ∀ w3, But b f w2 w3 → w3.heap[b]? = w2.heap[b]? → Calls Tryz.prog 65 #[.pointer (some ⟨b, 0, none⟩)] w3 fun e w' => e = stopE 2 j ∧ Adv b j w3 w') := fun w2 a w3 bt hb3 => by
        have r2 := HRD.out.adv a hjs
        have r3 : Rd w3 b s j := ⟨(World.cell?_of_block (w := w2) (a := ⟨b, 0, none⟩) hb3).trans r2.c0, (World.cell?_of_block (w := w2) (a := ⟨b, 1, none⟩) hb3).trans r2.c1, (World.frozen?_of_block (w := w2) (a := ⟨b, 1, none⟩) hb3).trans r2.fz, r2.le, r2.ms⟩
        exact wantEnd_bad w3 b j s r3 he
      clear he
      go_enter Tryz.func184, Tryz.ntmps184
      go_wp2_with (go_at_fn g; refine hr.mono ?_; rintro e w2 ⟨rfl, hA2⟩; have hb2 := FB.out w2 hA2; have q0 : w2.cell? ⟨f, 0, none⟩ = some (.int .i64 0) := (by rw [Lib.cell_of_heap hb2]; rfl); have q1 : w2.cell? ⟨f, 1, none⟩ = some (str []) := (by rw [Lib.cell_of_heap hb2]; rfl); have qf : ∀ o, w2.frozen? ⟨f, o, none⟩ = false := (fun o => Lib.frozen_of_heap hb2 o); have HB2 : Hid (w2.heap[f]? = some (.cells termZ 207 (0, 0))) := hb2; clear hb2)
      have hbt : But b f w2 ((w2.setCell ⟨f, 0, none⟩ (.int .i64 xk)).setCell ⟨f, 1, none⟩ (str xl)) := ((But.refl b f w2).set _).set _
      refine (HWE.out w2 hA2 _ hbt (by rw [Below.heap_setCell _ _ _ _ hbf, Below.heap_setCell _ _ _ _ hbf])).mono ?_
      rintro e w4 ⟨rfl, hA4⟩
      go_wp2_with fail
      exact ⟨rfl, rfl, (But.of_adv hA2).trans (hbt.trans (But.of_adv hA4))⟩

theorem over_any (w : World) (s : ByteArray) : Calls Tryz.prog 34 #[.string s] w fun e w' => e = .returned (.agg #[.string s, .int .i64 0]) ∧ w' = w.alloc (.cells #[.string s, .int .i64 0] 74) := by
  go_enter Tryz.func34, Tryz.ntmps34
  go_wp2
  exact bodyPost_ret (v := .agg #[.string s, .int .i64 0]) (by simp [results, Tryz.results34, go_sem]) rfl ⟨rfl, rfl⟩

/-- the world that Whole[Term] hands to Catch -/
def whW (w : World) (s : ByteArray) (g : Nat) : World := (((((w.alloc (.cells #[fnV g #[]] 210)).alloc (.cells termZ 207)).alloc (.cells termZ 207)).alloc (.cells termZ 207)).alloc (.cells #[.string s, .int .i64 0] 74)).alloc (.cells #[.string s, .int .i64 0] 74)

theorem whW_size (w : World) (s : ByteArray) (g : Nat) : (whW w s g).heap.size = w.heap.size + 6 := by simp [whW]
theorem whW_below (w : World) (s : ByteArray) (g : Nat) : Below w.heap.size w (whW w s g) := ((((((Below.refl _ w).alloc (Nat.le_refl _) _).alloc (by simp) _).alloc (by simp; omega) _).alloc (by simp; omega) _).alloc (by simp; omega) _).alloc (by simp; omega) _

set_option maxHeartbeats 1000000 in
theorem wholeT (w : World) (s : ByteArray) (g : Nat) (r : R (Nat × List UInt8)) (eg : ∀ args w, (callFunc g args).run Tryz.prog w = .ok (.enter g args) w) (hT : Tabs w) (hG : 8 ≤ w.heap.size) (hsz : s.size ≤ 1099511627776)
    (hr : ∀ w2 b, Rd w2 b s 0 → Tabs w2 → 8 ≤ b → Calls Tryz.prog g #[.pointer (some ⟨b, 0, none⟩)] w2 (Out b w2 termV r)) (hj : ∀ x j, r = .ok x j → j ≤ s.size) :
    Calls Tryz.prog 136 #[.string s, fnV g #[]] w fun e w' =>
      (match whole s r with
      | .ok x j => e = .returned (.tuple #[termV x, .nilIface])
      | .bad j => e = .returned (.tuple #[.agg termZ, placedV 2 j])) ∧ Below w.heap.size w w' := by
  have e1 := enters_of Tryz.func184 (by kernel_rfl) rfl
  obtain ⟨u, hu⟩ : ∃ u, u = (whW w s g).alloc (.cells #[.nilIface] 52) := ⟨_, rfl⟩
  have hsu : u.heap.size = w.heap.size + 7 := by rw [hu]; simp [whW]
  have hlow : ∀ k, k < w.heap.size + 6 → u.heap[k]? = (whW w s g).heap[k]? := fun k hk => by rw [hu]; exact Below.heap_alloc _ _ _ (by rw [whW_size]; exact hk)
  have hB : Below w.heap.size w u := by rw [hu]; exact (whW_below w s g).alloc (by rw [whW_size]; omega) _
  have b5 : u.heap[w.heap.size + 5]? = some (.cells #[.string s, .int .i64 0] 74 (0, 0)) := by
    rw [hlow _ (by omega)]
    have := heap_new (((((w.alloc (.cells #[fnV g #[]] 210)).alloc (.cells termZ 207)).alloc (.cells termZ 207)).alloc (.cells termZ 207)).alloc (.cells #[.string s, .int .i64 0] 74)) (.cells #[.string s, .int .i64 0] 74)
    simpa [whW] using this
  have b2 : u.heap[w.heap.size + 2]? = some (.cells termZ 207 (0, 0)) := by
    rw [hlow _ (by omega), whW, Below.heap_alloc _ _ _ (by simp), Below.heap_alloc _ _ _ (by simp), Below.heap_alloc _ _ _ (by simp)]
    have := heap_new ((w.alloc (.cells #[fnV g #[]] 210)).alloc (.cells termZ 207)) (.cells termZ 207)
    simpa using this
  have b1 : u.heap[w.heap.size + 1]? = some (.cells termZ 207 (0, 0)) := by
    rw [hlow _ (by omega), whW, Below.heap_alloc _ _ _ (by simp), Below.heap_alloc _ _ _ (by simp), Below.heap_alloc _ _ _ (by simp), Below.heap_alloc _ _ _ (by simp)]
    have := heap_new (w.alloc (.cells #[fnV g #[]] 210)) (.cells termZ 207)
    simpa using this
  have b3 : u.heap[w.heap.size + 3]? = some (.cells termZ 207 (0, 0)) := by
    rw [hlow _ (by omega), whW, Below.heap_alloc _ _ _ (by simp), Below.heap_alloc _ _ _ (by simp)]
    have := heap_new (((w.alloc (.cells #[fnV g #[]] 210)).alloc (.cells termZ 207)).alloc (.cells termZ 207)) (.cells termZ 207)
    simpa using this
  have b0 : u.heap[w.heap.size]? = some (.cells #[fnV g #[]] 210 (0, 0)) := by
    rw [hlow _ (by omega), whW, Below.heap_alloc _ _ _ (by simp; omega), Below.heap_alloc _ _ _ (by simp; omega), Below.heap_alloc _ _ _ (by simp; omega), Below.heap_alloc _ _ _ (by simp; omega), Below.heap_alloc _ _ _ (by simp)]
    exact heap_new _ _
  have b6 : u.heap[w.heap.size + 6]? = some (.cells #[.nilIface] 52 (0, 0)) := by
    rw [hu]
    have := heap_new (whW w s g) (.cells #[.nilIface] 52)
    rw [whW_size] at this
    exact this
  have hRd : Rd u (w.heap.size + 5) s 0 := ⟨by rw [Lib.cell_of_heap b5]; rfl, by rw [Lib.cell_of_heap b5]; rfl, Lib.frozen_of_heap b5 1, Nat.zero_le _, by omega⟩
  have hTu : Tabs u := hT.below hB (by omega) (by omega)
  have hW1 := whole1T u (w.heap.size + 5) (w.heap.size + 2) w.heap.size s r g eg hRd (by rw [Lib.cell_of_heap b0]; rfl) b2 (by omega) (hr u _ hRd hTu (by omega)) hj
  have CEL : Hid (∀ (w2 : World) (x : Nat) (c : Array Value) (T : TypeId), w2.heap[x]? = some (.cells c T (0, 0)) → (∀ o, w2.cell? ⟨x, o, none⟩ = c[o]?) ∧ ∀ o, w2.frozen? ⟨x, o, none⟩ = false) := fun w2 x c T hx => ⟨fun o => Lib.cell_of_heap hx o, fun o => Lib.frozen_of_heap hx o⟩
  have hmf := mkFunc
  cases hw : whole s r with
  | ok x j =>
    rw [hw] at hW1
    obtain ⟨xk, xl⟩ := x
    have hC := catch_ok (whW w s g) 184 #[.pointer (some ⟨w.heap.size, 0, none⟩), .pointer (some ⟨w.heap.size + 5, 0, none⟩), .pointer (some ⟨w.heap.size + 2, 0, none⟩)]
      (fun w' => But (w.heap.size + 5) (w.heap.size + 2) u w' ∧ w'.heap[w.heap.size + 2]? = some (.cells #[.int .i64 xk, str xl] 207 (0, 0))) e1 (by rw [← hu]; exact hW1)
      (fun w' hq => by rw [whW_size, hq.1.2.2 _ (by omega) (by omega) (by omega)]; exact b6)
    rw [whW_size] at hC
    have HC : Hid (Calls Tryz.prog 30 #[fnV 184 #[.pointer (some ⟨w.heap.size, 0, none⟩), .pointer (some ⟨w.heap.size + 5, 0, none⟩), .pointer (some ⟨w.heap.size + 2, 0, none⟩)]] (whW w s g) fun e w' => e = .returned .nilIface ∧ (w'.heap[w.heap.size + 2]? = some (.cells #[.int .i64 xk, str xl] 207 (0, 0)) ∧ w'.heap[w.heap.size + 1]? = some (.cells termZ 207 (0, 0))) ∧ Below w.heap.size w w' ∧ w.heap.size + 7 ≤ w'.heap.size) := hC.mono (by
        rintro e w' ⟨rfl, w2, ⟨q1, q2⟩, rfl⟩
        refine ⟨rfl, ⟨?_, ?_⟩, ?_, by have := q1.1; simp; omega⟩
        · rw [Below.heap_setCell _ _ _ _ (by simp)]; exact q2
        · rw [Below.heap_setCell _ _ _ _ (by simp), q1.2.2 _ (by omega) (by omega) (by omega)]; exact b1
        · refine Below.setCell (hB.trans ⟨q1.2.1.1, q1.2.1.2.1, q1.2.1.2.2, q1.1, fun k hk => q1.2.2 k (by omega) (by omega) (by omega)⟩) (by simp) _)
    clear hC hW1 hr hj hu hlow hB b0 b1 b2 b3 b5 b6 hRd hTu hT hw
    go_enter Tryz.func136, Tryz.ntmps136
    go_wp2_with fail
    refine (over_any _ _).mono ?_
    rintro e w3 ⟨rfl, rfl⟩
    go_wp2_with fail
    refine HC.out.mono ?_
    rintro e w4 ⟨rfl, ⟨c2, c1⟩, hB4, hz4⟩
    have k2 := (CEL.out _ _ _ _ c2).1
    have k20 := k2 0
    have k21 := k2 1
    have k1 := (CEL.out _ _ _ _ c1).1
    have k10 := k1 0
    have k11 := k1 1
    have kf := (CEL.out _ _ _ _ c1).2
    simp at k20 k21 k10 k11
    clear k2 k1 c1 c2
    go_wp2_with fail
    refine bodyPost_ret (v := .tuple #[.agg #[.int .i64 xk, str xl], .nilIface]) (by simp [results, Tryz.results136, go_sem, k10, k11]) rfl ⟨rfl, ?_⟩
    exact (hB4.setCell (p := ⟨w.heap.size + 1, 0, none⟩) (by simp) _).setCell (p := ⟨w.heap.size + 1, 1, none⟩) (by simp) _
  | bad j =>
    rw [hw] at hW1
    have hC := catch_stop (whW w s g) 184 #[.pointer (some ⟨w.heap.size, 0, none⟩), .pointer (some ⟨w.heap.size + 5, 0, none⟩), .pointer (some ⟨w.heap.size + 2, 0, none⟩)]
      (fun w' => But (w.heap.size + 5) (w.heap.size + 2) u w') 2 j e1 (by rw [← hu]; exact hW1)
      (fun w' hq => by rw [whW_size, hq.2.2 _ (by omega) (by omega) (by omega)]; exact b6)
    rw [whW_size] at hC
    have HC : Hid (Calls Tryz.prog 30 #[fnV 184 #[.pointer (some ⟨w.heap.size, 0, none⟩), .pointer (some ⟨w.heap.size + 5, 0, none⟩), .pointer (some ⟨w.heap.size + 2, 0, none⟩)]] (whW w s g) fun e w' => e = .returned (placedV 2 j) ∧ (w'.heap[w.heap.size + 3]? = some (.cells termZ 207 (0, 0)) ∧ w'.heap[w.heap.size + 1]? = some (.cells termZ 207 (0, 0))) ∧ Below w.heap.size w w' ∧ w.heap.size + 7 ≤ w'.heap.size) := hC.mono (by
        rintro e w' ⟨rfl, w2, q1, rfl⟩
        have hz2 : w.heap.size + 7 ≤ w2.heap.size := by have := q1.1; omega
        refine ⟨rfl, ⟨?_, ?_⟩, ?_, by simp; omega⟩
        · rw [Below.heap_setCell _ _ _ _ (by simp), Below.heap_alloc _ _ _ (by omega), q1.2.2 _ (by omega) (by omega) (by omega)]; exact b3
        · rw [Below.heap_setCell _ _ _ _ (by simp), Below.heap_alloc _ _ _ (by omega), q1.2.2 _ (by omega) (by omega) (by omega)]; exact b1
        · refine Below.setCell (Below.alloc (hB.trans ⟨q1.2.1.1, q1.2.1.2.1, q1.2.1.2.2, q1.1, fun k hk => q1.2.2 k (by omega) (by omega) (by omega)⟩) (by omega) _) (by simp) _)
    clear hC hW1 hr hj hu hlow hB b0 b1 b2 b3 b5 b6 hRd hTu hT hw
    go_enter Tryz.func136, Tryz.ntmps136
    go_wp2_with fail
    refine (over_any _ _).mono ?_
    rintro e w3 ⟨rfl, rfl⟩
    go_wp2_with fail
    refine HC.out.mono ?_
    rintro e w4 ⟨rfl, ⟨c2, c1⟩, hB4, hz4⟩
    have k2 := (CEL.out _ _ _ _ c2).1
    have k20 := k2 0
    have k21 := k2 1
    have k1 := (CEL.out _ _ _ _ c1).1
    have k10 := k1 0
    have k11 := k1 1
    have kf := (CEL.out _ _ _ _ c1).2
    simp at k20 k21 k10 k11
    clear k2 k1 c1 c2
    go_wp2_with fail
    refine bodyPost_ret (v := .tuple #[.agg termZ, placedV 2 j]) (by simp [results, Tryz.results136, go_sem, k10, k11]) rfl ⟨rfl, ?_⟩
    exact (hB4.setCell (p := ⟨w.heap.size + 1, 0, none⟩) (by simp) _).setCell (p := ⟨w.heap.size + 1, 1, none⟩) (by simp) _

theorem term_le {s : ByteArray} {i : Nat} {x : Nat × List UInt8} {j : Nat} (h : term s i = .ok x j) : j ≤ s.size := by
  unfold term at h
  split at h
  · split at h
    · cases h
    · rename_i l k hi
      cases h
      exact (iri_len hi).2.2.1
  · split at h
    · split at h
      · cases h
      · rename_i l k hi
        cases h
        unfold blank at hi
        repeat' split at hi
        all_goals first | cases hi | skip
        have hle := (run_le alnum (fun c hc => by have := alnum_lt hc; omega) s 20 (i + 2)).2
        omega
    · split at h
      · split at h
        · cases h
        · rename_i l k hi
          cases h
          unfold literal at hi
          split at hi
          · cases hi
          · rename_i p m hp
            cases hi
            exact (parts_facts hp).2.2.2.2.2.1
      · cases h

/-- scan.Whole of a term. -/
theorem wholeTerm (w : World) (s : ByteArray) (hT : Tabs w) (hG : 8 ≤ w.heap.size) (hsz : s.size ≤ 1099511627776) :
    Calls Tryz.prog 136 #[.string s, fnV 137 #[]] w fun e w' =>
      (match whole s (term s 0) with
      | .ok x j => e = .returned (.tuple #[termV x, .nilIface])
      | .bad j => e = .returned (.tuple #[.agg termZ, placedV 2 j])) ∧ Below w.heap.size w w' :=
  wholeT w s 137 (term s 0) (enters_of Tryz.func137 (by kernel_rfl) rfl) hT hG hsz (fun w2 b h1 h2 h3 => anyTerm_any w2 b 0 s h1 h2 h3 hsz) (fun x j h => term_le h)
end Go.Proofs.YtnffjoipinhojabGreatDoor

