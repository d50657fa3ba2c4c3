import Derived.Test.YtnffjoipinhojabDoorDp
import Derived.Deep.RegionHeld3
set_option linter.unusedSimpArgs false
set_option linter.unusedVariables false
namespace Go.Proofs.YtnffjoipinhojabDoor
open Go.RowKit

theorem new_b (w : World) (n : Int) :
    Calls Tryd.prog 37 #[.int .i64 n] w fun e w' => e = .returned (.iface 80 (.agg #[.int .i64 n])) ∧ Below w.heap.size w w' := by
  go_enter Tryd.func37, Tryd.ntmps37
  go_wp2
  go_ret
  first | exact ⟨rfl, Below.refl _ w⟩ | exact ⟨rfl, (Below.refl _ w).alloc (Nat.le_refl _) _⟩

theorem at_b (w : World) (i n : Int) :
    Calls Tryd.prog 36 #[.int .i64 i, .iface 80 (.agg #[.int .i64 n])] w fun e w' => e = .returned (.iface 84 (.agg #[.int .i64 i, .iface 80 (.agg #[.int .i64 n])])) ∧ Below w.heap.size w w' := by
  go_enter Tryd.func36, Tryd.ntmps36
  go_wp2
  go_ret
  first | exact ⟨rfl, Below.refl _ w⟩ | exact ⟨rfl, (Below.refl _ w).alloc (Nat.le_refl _) _⟩

/-- what Build refuses of a list: the error's number and its place -/
def refuse (l : List (List UInt8)) : Option (Int × Nat) := match orderAt 1 l with
  | some i => some (7, i)
  | none => match longAt 0 l with
    | some i => some (1, i)
    | none => none

/-- check's answer -/
def ckV (l : List (List UInt8)) : Value := match refuse l with
  | some x => .iface 84 (.agg #[.int .i64 x.2, .iface 80 (.agg #[.int .i64 x.1])])
  | none => .nilIface

theorem ckV_order {l : List (List UInt8)} {i : Nat} (h : orderAt 1 l = some i) : ckV l = .iface 84 (.agg #[.int .i64 i, .iface 80 (.agg #[.int .i64 7])]) := by
  unfold ckV refuse; rw [h]
theorem ckV_long {l : List (List UInt8)} {i : Nat} (h : orderAt 1 l = none) (h2 : longAt 0 l = some i) : ckV l = .iface 84 (.agg #[.int .i64 i, .iface 80 (.agg #[.int .i64 1])]) := by
  unfold ckV refuse; rw [h, h2]
theorem ckV_none {l : List (List UInt8)} (h : orderAt 1 l = none) (h2 : longAt 0 l = none) : ckV l = .nilIface := by
  unfold ckV refuse; rw [h, h2]

set_option maxHeartbeats 4000000 in
set_option maxRecDepth 20000 in
theorem check_some (w : World) (g off cap : Nat) (l : List (List UInt8)) (hg : g < w.heap.size) (hn : l.length ≤ 1000000000) (hL : Strs w g off l) (hz : ∀ t ∈ l, t.length ≤ 1000000000) :
    Calls Tryd.prog 15 #[.slice (some ⟨g, off, none⟩) l.length cap] w fun e w' => e = .returned (ckV l) ∧ Below w.heap.size w w' := by
  have HL : Hid (Strs w g off l) := hL
  have HZ : Hid (∀ t ∈ l, t.length ≤ 1000000000) := hz
  have HB0 : Hid (Below w.heap.size w w) := Below.refl _ w
  have mixed : Tryd.prog.follows Departure.mixedOrders = true := by kernel_rfl
  clear hL hz
  go_enter Tryd.func15, Tryd.ntmps15
  go_wp2_with fail
  go_loopw [3] (fun t3 wr => ∃ k : Nat, t3 = .int .i64 ((k + 1 : Nat) : Int) ∧ (k = 0 ∨ k < l.length) ∧ orderAt 1 l = orderAt (k + 1) (l.drop k) ∧ Below w.heap.size w wr) (fun t3 wr => l.length - (intOf t3).toNat)
  case atStart => exact ⟨0, rfl, .inl rfl, by simp, HB0.out⟩
  case round =>
    obtain ⟨k, rfl, hk, ho, hb⟩ := hrel
    have HO : Hid (orderAt 1 l = orderAt (k + 1) (l.drop k)) := ho
    have HB : Hid (Below w.heap.size w wr) := hb
    clear ho hb
    by_cases hlt : k + 1 < l.length
    · obtain ⟨a, ha⟩ : ∃ a, l[k]? = some a := ⟨_, List.getElem?_eq_getElem (by omega)⟩
      obtain ⟨b, hb⟩ : ∃ b, l[k + 1]? = some b := ⟨_, List.getElem?_eq_getElem hlt⟩
      have c1 := (HL.out.below hg HB.out) k a ha
      have c2 := (HL.out.below hg HB.out) (k + 1) b hb
      have hst := order_step (q := k + 1) (Nat.succ_pos k) (by simpa using ha) hb
      rw [Nat.add_sub_cancel, ← HO.out] at hst
      obtain ⟨A, hA⟩ : ∃ A : ByteArray, A = ⟨a.toArray⟩ := ⟨_, rfl⟩
      obtain ⟨B, hB⟩ : ∃ B : ByteArray, B = ⟨b.toArray⟩ := ⟨_, rfl⟩
      rw [show strT a = .string A by rw [hA]] at c1
      rw [show strT b = .string B by rw [hB]] at c2
      have eA : A.toList = a := by rw [hA, ByteArray.toList_mk]
      have eB : B.toList = b := by rw [hB, ByteArray.toList_mk]
      obtain ⟨x, hx⟩ : ∃ x, x = Op.bytesLess a b := ⟨_, rfl⟩
      have hop : Op.bytesLess A.toList B.toList = x := by rw [eA, eB, hx]
      rw [← hx] at hst
      have HST : Hid (orderAt 1 l = if x then orderAt (k + 1 + 1) (l.drop (k + 1)) else some (k + 1)) := hst
      have b3 := HB.out
      have hi0 : (0 : Int) ≤ k := by omega
      have hi1 : (k : Int) < (l.length : Int) := by omega
      have hi2 : (k : Int) + 1 < (l.length : Int) := by omega
      have hi3 : (0 : Int) ≤ (k : Int) + 1 := by omega
      have hw1 : IntKind.i64.wrap ((k : Int) + 1 - 1) = k := by rw [IntKind.wrap_i64]; omega
      have hw0 : IntKind.i64.wrap (k : Int) = k := by rw [IntKind.wrap_i64]; omega
      clear hst hx eA eB hA hB ha hb HO
      cases x with
      | true =>
        have HO2 : Hid (orderAt 1 l = orderAt (k + 1 + 1) (l.drop (k + 1))) := HST.out
        clear HST
        go_wp2_with fail
        go_region_held3 (fun w' => w'.cell? ⟨g, off + k, none⟩ = some (.string A) ∧ w'.cell? ⟨g, off + (k + 1), none⟩ = some (.string B) ∧ Below w.heap.size w w') (first | assumption | exact ⟨c1, c2, b3⟩ | exact ⟨c1, c2, b3.drew⟩) (fail)
        all_goals go_wp2_with fail
        all_goals go_roundw
        case rel => exact ⟨k + 1, by go_num, .inr hlt, HO2.out, b3.drew⟩
        case measure => simp [intOf]; omega
      | false =>
        have HO2 : Hid (orderAt 1 l = some (k + 1)) := HST.out
        have HNw : Hid (∀ w3, Calls Tryd.prog 37 #[.int .i64 7] w3 fun e w' => e = .returned (.iface 80 (.agg #[.int .i64 7])) ∧ Below w3.heap.size w3 w') := fun w3 => new_b w3 7
        have HAt : Hid (∀ w3, Calls Tryd.prog 36 #[.int .i64 ((k + 1 : Nat) : Int), .iface 80 (.agg #[.int .i64 7])] w3 fun e w' => e = .returned (.iface 84 (.agg #[.int .i64 ((k + 1 : Nat) : Int), .iface 80 (.agg #[.int .i64 7])])) ∧ Below w3.heap.size w3 w') := fun w3 => at_b w3 _ 7
        clear HST
        go_wp2_with fail
        go_region_held3 (fun w' => w'.cell? ⟨g, off + k, none⟩ = some (.string A) ∧ w'.cell? ⟨g, off + (k + 1), none⟩ = some (.string B) ∧ Below w.heap.size w w') (first | assumption | exact ⟨c1, c2, b3⟩ | exact ⟨c1, c2, b3.drew⟩) (fail)
        all_goals go_wp2_with fail
        refine (HNw.out _).mono ?_
        rintro e w3 ⟨rfl, hb3⟩
        have HB3 : Hid (Below w.heap.size w w3) := b3.drew.trans (hb3.mono b3.size)
        clear hb3
        go_wp2_with fail
        refine (HAt.out w3).mono ?_
        rintro e w4 ⟨rfl, hb4⟩
        have HB4 : Hid (Below w.heap.size w w4) := HB3.out.trans (hb4.mono HB3.out.size)
        clear hb4
        go_wp2_with fail
        refine bodyPost_ret (v := .iface 84 (.agg #[.int .i64 ((k + 1 : Nat) : Int), .iface 80 (.agg #[.int .i64 7])])) (by simp [results, Tryd.results15, go_sem]) rfl ?_
        exact ⟨by rw [ckV_order HO2.out], HB4.out⟩
    · have HO2 : Hid (orderAt 1 l = none) := by
        unfold Hid
        rw [HO.out]
        exact order_end (q := k + 1) (Nat.succ_pos k) (by omega)
      clear HO
      go_wp2_with fail
      go_loopw [27] (fun t27 w1 => ∃ k : Nat, k ≤ l.length ∧ t27 = .int .i64 k ∧ longAt 0 l = longAt k (l.drop k) ∧ Below w.heap.size w w1) (fun t27 w1 => l.length - (intOf t27).toNat)
      case atStart => exact ⟨0, Nat.zero_le _, rfl, by simp, HB.out⟩
      case round =>
        obtain ⟨q, hq, rfl, ho, hb⟩ := hrel
        have HG : Hid (longAt 0 l = longAt q (l.drop q)) := ho
        have HB2 : Hid (Below w.heap.size w wr) := hb
        clear ho hb HB
        by_cases hlt2 : q < l.length
        · obtain ⟨t, ht⟩ : ∃ t, l[q]? = some t := ⟨_, List.getElem?_eq_getElem hlt2⟩
          have c1 := (HL.out.below hg HB2.out) q t ht
          have hst := long_step ht
          rw [← HG.out] at hst
          have hzt := HZ.out t (List.mem_of_getElem? ht)
          obtain ⟨T, hT⟩ : ∃ T : ByteArray, T = ⟨t.toArray⟩ := ⟨_, rfl⟩
          rw [show strT t = .string T by rw [hT]] at c1
          have zT : T.size = t.length := by rw [hT]; exact arrSize t
          clear hT ht HG
          by_cases hbig : 200 < t.length
          · have HG2 : Hid (longAt 0 l = some q) := by unfold Hid; rw [hst, if_pos hbig]
            have HNw : Hid (∀ w3, Calls Tryd.prog 37 #[.int .i64 1] w3 fun e w' => e = .returned (.iface 80 (.agg #[.int .i64 1])) ∧ Below w3.heap.size w3 w') := fun w3 => new_b w3 1
            have HAt : Hid (∀ w3, Calls Tryd.prog 36 #[.int .i64 q, .iface 80 (.agg #[.int .i64 1])] w3 fun e w' => e = .returned (.iface 84 (.agg #[.int .i64 q, .iface 80 (.agg #[.int .i64 1])])) ∧ Below w3.heap.size w3 w') := fun w3 => at_b w3 _ 1
            clear hst
            go_wp2_with fail
            refine (HNw.out _).mono ?_
            rintro e w3 ⟨rfl, hb3⟩
            have HB3 : Hid (Below w.heap.size w w3) := HB2.out.trans (hb3.mono HB2.out.size)
            clear hb3
            go_wp2_with fail
            refine (HAt.out w3).mono ?_
            rintro e w4 ⟨rfl, hb4⟩
            have HB4 : Hid (Below w.heap.size w w4) := HB3.out.trans (hb4.mono HB3.out.size)
            clear hb4
            go_wp2_with fail
            refine bodyPost_ret (v := .iface 84 (.agg #[.int .i64 q, .iface 80 (.agg #[.int .i64 1])])) (by simp [results, Tryd.results15, go_sem]) rfl ?_
            exact ⟨by rw [ckV_long HO2.out HG2.out], HB4.out⟩
          · have HG2 : Hid (longAt 0 l = longAt (q + 1) (l.drop (q + 1))) := by unfold Hid; rw [hst, if_neg hbig]
            clear hst
            go_wp2_with fail
            go_roundw
            case rel => exact ⟨q + 1, by omega, by go_num, HG2.out, HB2.out⟩
            case measure => simp [intOf]; omega
        · have HG2 : Hid (longAt 0 l = none) := by
            unfold Hid
            rw [HG.out]
            exact long_end (by omega)
          go_wp2_with fail
          go_ret
          exact ⟨by rw [ckV_none HO2.out HG2.out]; rfl, HB2.out⟩

end Go.Proofs.YtnffjoipinhojabDoor
