import Derived.Test.YtnffjoipinhojabDoorDl
import Derived.Test.YtnffjoipinhojabDoorBr
import Derived.Lib.IndexBytes
set_option linter.unusedSimpArgs false
set_option linter.unusedVariables false
namespace Go.Proofs.YtnffjoipinhojabDoor
open Go.RowKit

/-! A parcel.Reader that has refused nothing. -/

/-- nothing but block r has turned -/
abbrev Fm (r : Nat) (w w' : World) : Prop := w.grownBy w' (some r)
theorem Fm.refl (r : Nat) (w : World) : Fm r w w := ⟨rfl, rfl, rfl, Nat.le_refl _, fun _ _ _ => rfl⟩
theorem Fm.trans {r : Nat} {w w1 w2 : World} (h : Fm r w w1) (k : Fm r w1 w2) : Fm r w w2 :=
  ⟨k.os.trans h.os, k.tape.trans h.tape, k.output.trans h.output, Nat.le_trans h.size k.size, fun i hi hr => (k.block i (Nat.lt_of_lt_of_le hi h.size) hr).trans (h.block i hi hr)⟩
theorem Fm.of_below {r : Nat} {w w1 : World} (h : Below w.heap.size w w1) : Fm r w w1 := ⟨h.os, h.tape, h.output, h.size, fun i hi _ => h.block i hi⟩
theorem Fm.below {r B : Nat} {w w1 : World} (h : Fm r w w1) (hB : B ≤ r) (hs : B ≤ w.heap.size) : Below B w w1 :=
  ⟨h.os, h.tape, h.output, h.size, fun i hi => h.block i (by omega) (fun e => by cases e; omega)⟩
theorem Fm.drew {r : Nat} {w w1 : World} (h : Fm r w w1) : Fm r w w1.drew := h.trans (Fm.of_below (Below.refl _ _).drew)
theorem Fm.drewN {r : Nat} {w w1 : World} (h : Fm r w w1) (n : Nat) : Fm r w (w1.drewN n) := h.trans (Fm.of_below (below_drewN (Below.refl _ _) n))

/-- the reader in block r stands at the place i of D -/
abbrev Rs (r : Nat) (D : ByteArray) (i : Nat) (w : World) : Prop := w.heap[r]? = some (.cells #[.string D, .int .i64 i, .nilIface] 61 (0, 0))

theorem Rs.lt {r : Nat} {D : ByteArray} {i : Nat} {w : World} (h : Rs r D i w) : r < w.heap.size := (Array.getElem?_eq_some_iff.1 h).1
theorem Rs.below {r : Nat} {D : ByteArray} {i : Nat} {w w' : World} (h : Rs r D i w) (hb : Below w.heap.size w w') : Rs r D i w' := (hb.block r h.lt).trans h
theorem Rs.c0 {r : Nat} {D : ByteArray} {i : Nat} {w : World} (h : Rs r D i w) : w.cell? ⟨r, 0, none⟩ = some (.string D) := by rw [Lib.cell_of_heap h]; rfl
theorem Rs.c1 {r : Nat} {D : ByteArray} {i : Nat} {w : World} (h : Rs r D i w) : w.cell? ⟨r, 1, none⟩ = some (.int .i64 i) := by rw [Lib.cell_of_heap h]; rfl
theorem Rs.c2 {r : Nat} {D : ByteArray} {i : Nat} {w : World} (h : Rs r D i w) : w.cell? ⟨r, 2, none⟩ = some .nilIface := by rw [Lib.cell_of_heap h]; rfl
theorem Rs.f1 {r : Nat} {D : ByteArray} {i : Nat} {w : World} (h : Rs r D i w) : w.frozen? ⟨r, 1, none⟩ = false := Lib.frozen_of_heap h 1
theorem Rs.set {r : Nat} {D : ByteArray} {i : Nat} {w : World} (h : Rs r D i w) (j : Nat) : Rs r D j (w.setCell ⟨r, 1, none⟩ (.int .i64 j)) ∧ Fm r w (w.setCell ⟨r, 1, none⟩ (.int .i64 j)) := by
  have s1 := setCell_eq_setRow w r 1 _ 61 (0, 0) (.int .i64 j) h
  have h1 := setRow_heap w r _ (#[Value.string D, .int .i64 i, .nilIface].setIfInBounds 1 (.int .i64 j)) _ _ h
  rw [← s1] at h1
  refine ⟨h1, ?_⟩
  have hb := (Below.refl r w).setCell (p := ⟨r, 1, none⟩) (Nat.le_refl _) (.int .i64 j)
  refine ⟨hb.os, hb.tape, hb.output, hb.size, fun k hk hr => ?_⟩
  exact Below.heap_setCell w ⟨r, 1, none⟩ _ k (fun e => hr (by rw [e]))

set_option maxHeartbeats 1000000 in
theorem unv_ok (w : World) (D : ByteArray) (i n : Nat) (post : List UInt8) (hd : D.data.toList.drop i = Lib.uvarint n ++ post) (hn : n ≤ 9223372036854775807) (hi : i ≤ D.size) (hD : D.size ≤ 140737488355328) :
    Calls Tryd.prog 63 #[.string D, .int .i64 i] w fun e w' => e = .returned (.tuple #[.int .i64 n, .int .i64 ((i + (Lib.uvarint n).length : Nat) : Int), .int .i64 0]) ∧ w' = w := by
  have hgood := Plain.good_of_uv n (by omega) post
  have hpos := Lib.uvarint_pos n
  have h9 := Lib.uvarint_length 8 n (Nat.lt_of_lt_of_le (Nat.lt_succ_of_le hn) (by decide))
  have HG : Hid (∀ k, Plain.Good (D.data.toList.drop i) k → k + 1 = (Lib.uvarint n).length ∧ Plain.grp (k + 1) (D.data.toList.drop i) = n) := fun k hk => by
    rw [hd] at hk ⊢
    have := hk.one hgood.1
    have e : k + 1 = (Lib.uvarint n).length := by omega
    exact ⟨e, by rw [e]; exact hgood.2⟩
  have HE : Hid (∃ k, Plain.Good (D.data.toList.drop i) k) := ⟨_, by rw [hd]; exact hgood.1⟩
  obtain ⟨L, hL⟩ : ∃ L, L = (Lib.uvarint n).length := ⟨_, rfl⟩
  rw [← hL] at HG hpos h9 ⊢
  clear hd hgood
  go_enter Tryd.func63, Tryd.ntmps63
  go_wp2_with fail
  refine (read_any _ _ (by simp; omega)).mono ?_
  rintro e w' ⟨ha, rfl⟩
  rw [Lib.extract_to_end] at ha
  rcases ha with ⟨k, hk, rfl⟩ | ⟨hne, rfl⟩
  · obtain ⟨e1, e2⟩ := HG.out k hk
    rw [e2, e1]
    go_wp2_with fail
    go_ret3
    exact ⟨by simp [hL], rfl⟩
  · obtain ⟨k, hk⟩ := HE.out
    exact absurd hk (hne k)

set_option maxHeartbeats 4000000 in
set_option maxRecDepth 20000 in
/-- (*parcel.Reader).Number -/
theorem number_rd (w : World) (r i n : Nat) (D : ByteArray) (post : List UInt8) (h : Rs r D i w) (hd : D.data.toList.drop i = Lib.uvarint n ++ post) (hn : n ≤ 9223372036854775807) (hi : i ≤ D.size) (hD : D.size ≤ 140737488355328) :
    Calls Tryd.prog 45 #[.pointer (some ⟨r, 0, none⟩)] w fun e w' => e = .returned (.int .i64 n) ∧ Rs r D (i + (Lib.uvarint n).length) w' ∧ Fm r w w' := by
  have mixed : Tryd.prog.follows Departure.mixedOrders = true := by kernel_rfl
  have HU : Hid (∀ w1, Rs r D i w1 ∧ Fm r w w1 → Calls Tryd.prog 63 #[.string D, .int .i64 i] w1 fun e w' => e = .returned (.tuple #[.int .i64 n, .int .i64 ((i + (Lib.uvarint n).length : Nat) : Int), .int .i64 0]) ∧ (Rs r D i w' ∧ Fm r w w')) := fun w1 h1 => by
    refine (unv_ok w1 D i n post hd hn hi hD).mono ?_
    rintro e w2 ⟨rfl, rfl⟩
    exact ⟨rfl, h1⟩
  have c0 := h.c0
  have c1 := h.c1
  have HR : Hid (Rs r D i w) := h
  obtain ⟨j, hj⟩ : ∃ j, j = i + (Lib.uvarint n).length := ⟨_, rfl⟩
  rw [← hj] at HU ⊢
  clear hd h hj
  go_enter Tryd.func45, Tryd.ntmps45
  go_wp2_with fail
  go_region_held3 (fun w' => w'.cell? ⟨r, 0, none⟩ = some (.string D) ∧ w'.cell? ⟨r, 1, none⟩ = some (.int .i64 i) ∧ (Rs r D i w' ∧ Fm r w w')) (first | assumption | exact ⟨c0, c1, HR.out, Fm.refl r w⟩ | exact ⟨c0, c1, HR.out, (Fm.refl r w).drew⟩ | exact ⟨Rs.c0 hS.1, Rs.c1 hS.1, hS⟩) (first | (go_at_call 63; refine (HU.out _ (by first | assumption | exact ⟨HR.out, (Fm.refl r w).drew⟩)).mono ?_; rintro e2 w2 ⟨rfl, hS⟩))
  obtain ⟨hR2, hF2⟩ := hS
  have d2 := hR2.c2
  have d1 := hR2.c1
  have f1 := hR2.f1
  have HS : Hid (Rs r D j (w2.setCell ⟨r, 1, none⟩ (.int .i64 j)) ∧ Fm r w (w2.setCell ⟨r, 1, none⟩ (.int .i64 j))) := ⟨(hR2.set j).1, hF2.trans (hR2.set j).2⟩
  clear hR2 hF2 HU HR c0 c1
  go_wp2_with fail
  go_ret
  exact ⟨rfl, HS.out.1, HS.out.2⟩

set_option maxHeartbeats 4000000 in
set_option maxRecDepth 20000 in
/-- (*parcel.Reader).Take -/
theorem take_rd (w : World) (r i n : Nat) (D : ByteArray) (h : Rs r D i w) (hn : i + n ≤ D.size) (hD : D.size ≤ 140737488355328) :
    Calls Tryd.prog 66 #[.pointer (some ⟨r, 0, none⟩), .int .i64 n] w fun e w' => e = .returned (.string (D.extract i (i + n))) ∧ Rs r D (i + n) w' ∧ Fm r w w' := by
  have mixed : Tryd.prog.follows Departure.mixedOrders = true := by kernel_rfl
  have c0 := h.c0
  have c1 := h.c1
  have c2 := h.c2
  have f1 := h.f1
  have hs := h.set (i + n)
  have d0 := hs.1.c0
  have d1 := hs.1.c1
  have HS : Hid (Rs r D (i + n) (w.setCell ⟨r, 1, none⟩ (.int .i64 ((i + n : Nat) : Int))) ∧ Fm r w (w.setCell ⟨r, 1, none⟩ (.int .i64 ((i + n : Nat) : Int)))) := hs
  have hw1 : IntKind.i64.wrap ((D.size : Int) - i) = (D.size : Int) - i := by rw [IntKind.wrap_i64]; omega
  have hw2 : IntKind.i64.wrap ((i : Int) + n) = (i : Int) + n := by rw [IntKind.wrap_i64]; omega
  have hi0 : (0 : Int) ≤ i := by omega
  have hi1 : (i : Int) ≤ (i : Int) + n := by omega
  have hi2 : (i : Int) + n ≤ (D.size : Int) := by omega
  have hi3 : ¬ ((D.size : Int) - i < n) := by omega
  have HR : Hid (Rs r D i w) := h
  obtain ⟨X, hX⟩ : ∃ X : ByteArray, D.extract i (i + n) = X := ⟨_, rfl⟩
  rw [hX]
  clear h hs
  go_enter Tryd.func66, Tryd.ntmps66
  go_wp2_with fail
  go_quiet (fail)
  go_wp2_with fail
  obtain ⟨W, hW⟩ : ∃ W, (w.drewN nq).setCell ⟨r, 1, none⟩ (.int .i64 ((i : Int) + n)) = W := ⟨_, rfl⟩
  have hsW : Rs r D (i + n) W ∧ Fm r w W := by
    have hq : Rs r D i (w.drewN nq) := HR.out
    have := hq.set (i + n)
    rw [show (((i + n : Nat) : Int)) = (i : Int) + n by omega, hW] at this
    exact ⟨this.1, ((Fm.refl r w).drewN nq).trans this.2⟩
  rw [hW]
  have g0 := hsW.1.c0
  have g1 := hsW.1.c1
  rw [show (((i + n : Nat) : Int)) = (i : Int) + n by omega] at g1
  have HSW : Hid (Rs r D (i + n) W ∧ Fm r w W) := hsW
  clear hsW hW
  go_quiet (fail)
  go_wp2_with fail
  go_ret
  exact ⟨by rw [← hX]; rfl, HSW.out.1, HSW.out.2.drewN _⟩

set_option maxHeartbeats 4000000 in
set_option maxRecDepth 20000 in
/-- (*parcel.Reader).Text -/
theorem text_rd (w : World) (r i : Nat) (D : ByteArray) (t post : List UInt8) (h : Rs r D i w) (hd : D.data.toList.drop i = Lib.uvarint t.length ++ t ++ post) (hi : i ≤ D.size) (hD : D.size ≤ 140737488355328) :
    Calls Tryd.prog 53 #[.pointer (some ⟨r, 0, none⟩)] w fun e w' => e = .returned (strT t) ∧ Rs r D (i + ((Lib.uvarint t.length).length + t.length)) w' ∧ Fm r w w' := by
  have hlen : D.data.toList.length = D.size := Array.length_toList
  have hl := congrArg List.length hd
  simp only [List.length_drop, List.length_append, hlen] at hl
  have hx : D.extract (i + (Lib.uvarint t.length).length) (i + (Lib.uvarint t.length).length + t.length) = ⟨t.toArray⟩ := by
    have e : (D.extract (i + (Lib.uvarint t.length).length) (i + (Lib.uvarint t.length).length + t.length)).data.toList = t := by
      rw [ByteArray.data_extract, Array.toList_extract]
      simp only [List.extract]
      rw [← List.drop_drop, hd, List.append_assoc, List.drop_left, show i + (Lib.uvarint t.length).length + t.length - (i + (Lib.uvarint t.length).length) = t.length by omega, List.take_left]
    generalize D.extract (i + (Lib.uvarint t.length).length) (i + (Lib.uvarint t.length).length + t.length) = Z at e
    obtain ⟨⟨z⟩⟩ := Z
    rw [← e]
  have HN : Hid (Calls Tryd.prog 45 #[.pointer (some ⟨r, 0, none⟩)] w fun e w' => e = .returned (.int .i64 t.length) ∧ Rs r D (i + (Lib.uvarint t.length).length) w' ∧ Fm r w w') := number_rd w r i t.length D (t ++ post) h (by rw [hd, List.append_assoc]) (by omega) hi hD
  have HT : Hid (∀ w1, Rs r D (i + (Lib.uvarint t.length).length) w1 → Calls Tryd.prog 66 #[.pointer (some ⟨r, 0, none⟩), .int .i64 t.length] w1 fun e w' => e = .returned (strT t) ∧ Rs r D (i + ((Lib.uvarint t.length).length + t.length)) w' ∧ Fm r w1 w') := fun w1 h1 => by
    have := take_rd w1 r (i + (Lib.uvarint t.length).length) t.length D h1 (by omega) hD
    rw [hx, Nat.add_assoc] at this
    exact this
  clear h hd hl hx
  go_enter Tryd.func53, Tryd.ntmps53
  go_wp2_with fail
  refine HN.out.mono ?_
  rintro e w1 ⟨rfl, hR1, hF1⟩
  have HF1 : Hid (Fm r w w1) := hF1
  have HT1 := HT.out w1 hR1
  clear hR1 hF1
  go_wp2_with fail
  refine HT1.mono ?_
  rintro e w2 ⟨rfl, hR2, hF2⟩
  have HR2 : Hid (Rs r D (i + ((Lib.uvarint t.length).length + t.length)) w2 ∧ Fm r w w2) := ⟨hR2, HF1.out.trans hF2⟩
  clear hR2 hF2 HT1
  go_wp2_with fail
  go_ret
  exact ⟨rfl, HR2.out.1, HR2.out.2⟩

theorem place_rd (w : World) (r i : Nat) (D : ByteArray) (h : Rs r D i w) :
    Calls Tryd.prog 46 #[.pointer (some ⟨r, 0, none⟩)] w fun e w' => e = .returned (.int .i64 i) ∧ w' = w := by
  have c1 := h.c1
  go_enter Tryd.func46, Tryd.ntmps46
  go_wp2
  go_ret
  exact ⟨rfl, rfl⟩
theorem err_rd (w : World) (r i : Nat) (D : ByteArray) (h : Rs r D i w) :
    Calls Tryd.prog 28 #[.pointer (some ⟨r, 0, none⟩)] w fun e w' => e = .returned .nilIface ∧ w' = w := by
  have c1 := h.c2
  go_enter Tryd.func28, Tryd.ntmps28
  go_wp2
  go_ret
  exact ⟨rfl, rfl⟩
set_option maxHeartbeats 1000000 in
theorem since_rd (w : World) (r i p : Nat) (D : ByteArray) (h : Rs r D i w) (hp : p ≤ i) (hi : i ≤ D.size) (hD : D.size ≤ 140737488355328) :
    Calls Tryd.prog 48 #[.pointer (some ⟨r, 0, none⟩), .int .i64 p] w fun e w' => e = .returned (.string (D.extract p i)) ∧ ∃ n, w' = w.drewN n := by
  have mixed : Tryd.prog.follows Departure.mixedOrders = true := by kernel_rfl
  have c0 := h.c0
  have c1 := h.c1
  have hi0 : (0 : Int) ≤ p := by omega
  have hi1 : (p : Int) ≤ (i : Int) := by omega
  have hi2 : (i : Int) ≤ (D.size : Int) := by omega
  obtain ⟨X, hX⟩ : ∃ X : ByteArray, D.extract p i = X := ⟨_, rfl⟩
  rw [hX]
  go_enter Tryd.func48, Tryd.ntmps48
  go_wp2_with fail
  go_quiet (fail)
  go_wp2_with fail
  go_ret
  exact ⟨rfl, _, rfl⟩
theorem end_rd (w : World) (r : Nat) (D : ByteArray) (h : Rs r D D.size w) :
    Calls Tryd.prog 51 #[.pointer (some ⟨r, 0, none⟩)] w fun e w' => e = .returned (.tuple #[]) ∧ ∃ n, w' = w.drewN n := by
  have mixed : Tryd.prog.follows Departure.mixedOrders = true := by kernel_rfl
  have c0 := h.c0
  have c1 := h.c1
  go_enter Tryd.func51, Tryd.ntmps51
  go_wp2_with fail
  go_quiet (fail)
  go_wp2_with fail
  go_end0
  exact ⟨rfl, _, rfl⟩
theorem over_any (w : World) (D : ByteArray) :
    Calls Tryd.prog 25 #[.string D] w fun e w' => e = .returned (.agg #[.string D, .int .i64 0, .nilIface]) ∧ Below w.heap.size w w' := by
  go_enter Tryd.func25, Tryd.ntmps25
  go_wp2
  exact bodyPost_ret (v := .agg #[.string D, .int .i64 0, .nilIface]) (by simp [results, Tryd.results25, go_sem]) rfl ⟨rfl, by first | exact (Below.refl _ w).alloc (Nat.le_refl _) _ | exact ((Below.refl _ w).alloc (Nat.le_refl _) _).alloc (by simp) _⟩

end Go.Proofs.YtnffjoipinhojabDoor
