import Derived.Test.YtnffjoipinhojabDoorDk
set_option linter.unusedSimpArgs false
set_option linter.unusedVariables false
namespace Go.Proofs.YtnffjoipinhojabDoor
open Go.RowKit

/-- one text, and nothing older touched -/
def S8 (w : World) (g o : Nat) (T : ByteArray) (w' : World) : Prop := w'.cell? ⟨g, o, none⟩ = some (.string T) ∧ Below w.heap.size w w'
theorem S8.on {w w1 w2 : World} {g o : Nat} {T : ByteArray} (e : S8 w g o T w1) (hg : g < w.heap.size) (hb : Below w1.heap.size w1 w2) : S8 w g o T w2 :=
  ⟨(hb.cell (p := ⟨g, o, none⟩) (Nat.lt_of_lt_of_le hg e.2.size)).trans e.1, e.2.trans (hb.mono e.2.size)⟩
theorem S8.low {w w1 : World} {g o : Nat} {T : ByteArray} (e : S8 w g o T w1) : Below w.heap.size w w1 := e.2
/-- two texts, and nothing older touched -/
def S7 (w : World) (g o p : Nat) (A T : ByteArray) (w' : World) : Prop := w'.cell? ⟨g, o, none⟩ = some (.string A) ∧ w'.cell? ⟨g, p, none⟩ = some (.string T) ∧ Below w.heap.size w w'
theorem S7.on {w w1 w2 : World} {g o p : Nat} {A T : ByteArray} (e : S7 w g o p A T w1) (hg : g < w.heap.size) (hb : Below w1.heap.size w1 w2) : S7 w g o p A T w2 :=
  ⟨(hb.cell (p := ⟨g, o, none⟩) (Nat.lt_of_lt_of_le hg e.2.2.size)).trans e.1, (hb.cell (p := ⟨g, p, none⟩) (Nat.lt_of_lt_of_le hg e.2.2.size)).trans e.2.1, e.2.2.trans (hb.mono e.2.2.size)⟩

theorem drewN_below (w : World) (n : Nat) : Below w.heap.size w (w.drewN n) := below_drewN (Below.refl _ w) n

theorem catD (a b : ByteArray) : (a ++ b).data.toList = a.data.toList ++ b.data.toList := by
  obtain ⟨⟨x⟩⟩ := a
  obtain ⟨⟨y⟩⟩ := b
  have := str_app x y
  have e : (⟨⟨x⟩⟩ : ByteArray) ++ ⟨⟨y⟩⟩ = ⟨(x ++ y).toArray⟩ := this
  rw [e]

/-- what either Build answers of a list -/
def rbV (l : List (List UInt8)) : Value := match refuse l with
  | some x => .tuple #[.string ⟨#[]⟩, .int .i64 x.1, .int .i64 x.2]
  | none => .tuple #[strT (Lib.uvarint l.length ++ dictE l), .int .i64 0, .int .i64 0]
theorem rbV_some {l : List (List UInt8)} {n : Int} {i : Nat} (h : refuse l = some (n, i)) : rbV l = .tuple #[.string ⟨#[]⟩, .int .i64 n, .int .i64 i] := by
  unfold rbV; rw [h]
theorem rbV_none {l : List (List UInt8)} (h : refuse l = none) : rbV l = .tuple #[strT (Lib.uvarint l.length ++ dictE l), .int .i64 0, .int .i64 0] := by
  unfold rbV; rw [h]

theorem long_none : ∀ {l : List (List UInt8)} {q : Nat}, longAt q l = none → ∀ t ∈ l, t.length ≤ 200
  | [], _, _, t, ht => by cases ht
  | x :: r, q, h, t, ht => by
    unfold longAt at h
    split at h
    · cases h
    · rename_i hx
      rcases List.mem_cons.1 ht with rfl | ht
      · omega
      · exact long_none h t ht
theorem refuse_none {l : List (List UInt8)} (h : orderAt 1 l = none) (h2 : longAt 0 l = none) : refuse l = none := by
  unfold refuse; rw [h, h2]
theorem refuse_long {l : List (List UInt8)} {i : Nat} (h : orderAt 1 l = none) (h2 : longAt 0 l = some i) : refuse l = some (1, i) := by
  unfold refuse; rw [h, h2]

theorem ext_drop (T : ByteArray) (c : Nat) : (T.extract c T.size).data.toList = T.data.toList.drop c := by
  rw [ByteArray.data_extract, Array.toList_extract]
  simp only [List.extract, ByteArray.size]
  rw [List.take_of_length_le]
  rw [List.length_drop, Array.length_toList]
  exact Nat.le_refl _

set_option maxHeartbeats 4000000 in
set_option maxRecDepth 20000 in
theorem buildDict_some (w : World) (g off cap : Nat) (l : List (List UInt8)) (hg : g < w.heap.size) (hn : l.length ≤ 1048576) (hL : Strs w g off l) (hz : ∀ t ∈ l, t.length ≤ 1000000000) :
    Calls Tryd.prog 7 #[.slice (some ⟨g, off, none⟩) l.length cap] w fun e w' => e = .returned (rbV l) ∧ Below w.heap.size w w' := by
  have HL : Hid (Strs w g off l) := hL
  have HZ : Hid (∀ t ∈ l, t.length ≤ 1000000000) := hz
  have HB0 : Hid (Below w.heap.size w w) := Below.refl _ w
  have mixed : Tryd.prog.follows Departure.mixedOrders = true := by kernel_rfl
  have HV : Hid (∀ (w1 : World) (n : Nat), n ≤ 9223372036854775807 → Calls Tryd.prog 23 #[.int .i64 n] w1 fun e w' => e = .returned (.string ⟨(Lib.uvarint n).toArray⟩) ∧ Below w1.heap.size w1 w') := fun w1 n h => refv_any n w1 h
  clear hL hz
  go_enter Tryd.func7, Tryd.ntmps7
  go_wp2_with fail
  go_loopw [5] (fun t3 wr => ∃ k : Nat, t3 = .int .i64 ((k + 1 : Nat) : Int) ∧ (k = 0 ∨ k < l.length) ∧ orderAt 1 l = orderAt (k + 1) (l.drop k) ∧ Below w.heap.size w wr) (fun t3 wr => l.length - (intOf t3).toNat)
  case atStart => exact ⟨0, rfl, .inl rfl, by simp, HB0.out⟩
  case round =>
    obtain ⟨k, rfl, hk, ho, hb⟩ := hrel
    have HO : Hid (orderAt 1 l = orderAt (k + 1) (l.drop k)) := ho
    have HB : Hid (Below w.heap.size w wr) := hb
    clear ho hb
    by_cases hlt : k + 1 < l.length
    · obtain ⟨a, ha⟩ : ∃ a, l[k]? = some a := ⟨_, List.getElem?_eq_getElem (by omega)⟩
      obtain ⟨b, hb⟩ : ∃ b, l[k + 1]? = some b := ⟨_, List.getElem?_eq_getElem hlt⟩
      have c1 := (HL.out.below hg HB.out) k a ha
      have c2 := (HL.out.below hg HB.out) (k + 1) b hb
      have hst := order_step (q := k + 1) (Nat.succ_pos k) (by simpa using ha) hb
      rw [Nat.add_sub_cancel, ← HO.out] at hst
      obtain ⟨A, hA⟩ : ∃ A : ByteArray, A = ⟨a.toArray⟩ := ⟨_, rfl⟩
      obtain ⟨B, hB⟩ : ∃ B : ByteArray, B = ⟨b.toArray⟩ := ⟨_, rfl⟩
      rw [show strT a = .string A by rw [hA]] at c1
      rw [show strT b = .string B by rw [hB]] at c2
      have eA : A.toList = a := by rw [hA, ByteArray.toList_mk]
      have eB : B.toList = b := by rw [hB, ByteArray.toList_mk]
      obtain ⟨x, hx⟩ : ∃ x, x = Op.bytesLess a b := ⟨_, rfl⟩
      have hop : (Op.bytesLess B.toList A.toList || (B.toList == A.toList)) = !x := by rw [eA, eB, hx]; exact less_total a b
      rw [← hx] at hst
      have HST : Hid (orderAt 1 l = if x then orderAt (k + 1 + 1) (l.drop (k + 1)) else some (k + 1)) := hst
      have b3 := HB.out
      have hi0 : (0 : Int) ≤ k := by omega
      have hi1 : (k : Int) < (l.length : Int) := by omega
      have hi2 : (k : Int) + 1 < (l.length : Int) := by omega
      have hi3 : (0 : Int) ≤ (k : Int) + 1 := by omega
      have hw1 : IntKind.i64.wrap ((k : Int) + 1 - 1) = k := by rw [IntKind.wrap_i64]; omega
      have hw0 : IntKind.i64.wrap (k : Int) = k := by rw [IntKind.wrap_i64]; omega
      clear hst hx eA eB hA hB ha hb HO HV
      cases x with
      | true =>
        have HO2 : Hid (orderAt 1 l = orderAt (k + 1 + 1) (l.drop (k + 1))) := HST.out
        simp only [Bool.not_true, Bool.or_eq_false_iff] at hop
        obtain ⟨hop1, hop2⟩ := hop
        clear HST
        go_wp2_with fail
        go_region_held3 (fun w' => w'.cell? ⟨g, off + k, none⟩ = some (.string A) ∧ w'.cell? ⟨g, off + (k + 1), none⟩ = some (.string B) ∧ Below w.heap.size w w') (first | assumption | exact ⟨c1, c2, b3⟩ | exact ⟨c1, c2, b3.drew⟩) (fail)
        all_goals go_wp2_with fail
        all_goals go_roundw
        case rel => exact ⟨k + 1, by go_num, .inr hlt, HO2.out, b3.drew⟩
        case measure => simp [intOf]; omega
      | false =>
        have HO2 : Hid (refuse l = some (7, k + 1)) := by
          have := HST.out
          unfold Hid refuse
          rw [this]
          rfl
        clear HST
        simp only [Bool.not_false] at hop
        go_wp2_with fail
        go_region_held3 (fun w' => w'.cell? ⟨g, off + k, none⟩ = some (.string A) ∧ w'.cell? ⟨g, off + (k + 1), none⟩ = some (.string B) ∧ Below w.heap.size w w') (first | assumption | exact ⟨c1, c2, b3⟩ | exact ⟨c1, c2, b3.drew⟩) (fail)
        all_goals go_wp2_with fail
        refine bodyPost_ret (v := .tuple #[.string ⟨#[]⟩, .int .i64 7, .int .i64 ((k + 1 : Nat) : Int)]) (by simp [results, Tryd.results7, go_sem]) rfl ?_
        exact ⟨by rw [rbV_some HO2.out], b3.drew⟩
    · have HO2 : Hid (orderAt 1 l = none) := by
        unfold Hid
        rw [HO.out]
        exact order_end (q := k + 1) (Nat.succ_pos k) (by omega)
      clear HO
      go_wp2_with fail
      go_loopw [6] (fun t6 w1 => ∃ k : Nat, k ≤ l.length ∧ t6 = .int .i64 k ∧ longAt 0 l = longAt k (l.drop k) ∧ Below w.heap.size w w1) (fun t6 w1 => l.length - (intOf t6).toNat)
      case atStart => exact ⟨0, Nat.zero_le _, rfl, by simp, HB.out⟩
      case round =>
        obtain ⟨q, hq, rfl, ho, hb⟩ := hrel
        have HG : Hid (longAt 0 l = longAt q (l.drop q)) := ho
        have HB2 : Hid (Below w.heap.size w wr) := hb
        clear ho hb HB
        by_cases hlt2 : q < l.length
        · obtain ⟨t, ht⟩ : ∃ t, l[q]? = some t := ⟨_, List.getElem?_eq_getElem hlt2⟩
          have c1 := (HL.out.below hg HB2.out) q t ht
          have hst := long_step ht
          rw [← HG.out] at hst
          have hzt := HZ.out t (List.mem_of_getElem? ht)
          obtain ⟨T, hT⟩ : ∃ T : ByteArray, T = ⟨t.toArray⟩ := ⟨_, rfl⟩
          rw [show strT t = .string T by rw [hT]] at c1
          have zT : T.size = t.length := by rw [hT]; exact arrSize t
          clear hT ht HG
          by_cases hbig : 200 < t.length
          · have HG2 : Hid (longAt 0 l = some q) := by unfold Hid; rw [hst, if_pos hbig]
            clear hst
            go_wp2_with fail
            refine bodyPost_ret (v := .tuple #[.string ⟨#[]⟩, .int .i64 1, .int .i64 q]) (by simp [results, Tryd.results7, go_sem]) rfl ?_
            exact ⟨by rw [rbV_some (refuse_long HO2.out HG2.out)], HB2.out⟩
          · have HG2 : Hid (longAt 0 l = longAt (q + 1) (l.drop (q + 1))) := by unfold Hid; rw [hst, if_neg hbig]
            clear hst
            go_wp2_with fail
            go_roundw
            case rel => exact ⟨q + 1, by omega, by go_num, HG2.out, HB2.out⟩
            case measure => simp [intOf]; omega
        · have HG2 : Hid (longAt 0 l = none) := by
            unfold Hid
            rw [HG.out]
            exact long_end (by omega)
          have HRV : Hid (rbV l = .tuple #[strT (Lib.uvarint l.length ++ dictE l), .int .i64 0, .int .i64 0]) := rbV_none (refuse_none HO2.out HG2.out)
          have HSh : Hid (∀ t ∈ l, t.length ≤ 200) := long_none HG2.out
          clear HG HG2 HO2
          go_wp2_with fail
          refine (HV.out wr l.length (by omega)).mono ?_
          rintro e w3 ⟨rfl, hb3⟩
          have HB3 : Hid (Below w.heap.size w w3) := HB2.out.trans (hb3.mono HB2.out.size)
          have hu9 := uv_len l.length (by omega)
          have HU9 : Hid ((Lib.uvarint l.length).length ≤ 9) := hu9
          clear hb3 hu9
          go_wp2_with fail
          go_loopw [7, 8] (fun t7 t8 wr => ∃ (q : Nat) (V : ByteArray) (X : List UInt8), q ≤ l.length ∧ t8 = .int .i64 q ∧ t7 = .string V ∧ V.data.toList = Lib.uvarint l.length ++ X ∧ X ++ restE l q = dictE l ∧ V.size ≤ 9 + q * 400 ∧ Below w.heap.size w wr) (fun t7 t8 wr => l.length - (intOf t8).toNat)
          case atStart =>
            refine ⟨0, ⟨(Lib.uvarint l.length).toArray⟩, [], Nat.zero_le _, rfl, rfl, by simp, by rw [rest_start]; rfl, ?_, HB3.out⟩
            rw [arrSize]
            exact HU9.out
          case round =>
            obtain ⟨q, V, X, hq, rfl, rfl, hV, hX, hVs, hb⟩ := hrel
            have HVV : Hid (V.data.toList = Lib.uvarint l.length ++ X) := hV
            have HX : Hid (X ++ restE l q = dictE l) := hX
            have HB4 : Hid (Below w.heap.size w wr) := hb
            clear hV hX hb HB3 HB2
            by_cases hlt3 : q < l.length
            · obtain ⟨t, ht⟩ : ∃ t, l[q]? = some t := ⟨_, List.getElem?_eq_getElem hlt3⟩
              have ct := (HL.out.below hg HB4.out) q t ht
              have hst : t.length ≤ 200 := HSh.out t (List.mem_of_getElem? ht)
              obtain ⟨T, hT⟩ : ∃ T : ByteArray, T = ⟨t.toArray⟩ := ⟨_, rfl⟩
              rw [show strT t = .string T by rw [hT]] at ct
              have zT : T.size = t.length := by rw [hT]; exact arrSize t
              have HTd : Hid (T.data.toList = t) := by unfold Hid; rw [hT]
              have b4 := HB4.out
              have hj0 : (0 : Int) ≤ q := by omega
              have hj1 : (q : Int) < (l.length : Int) := by omega
              have hwt : IntKind.i64.wrap (t.length : Int) = t.length := by rw [IntKind.wrap_i64]; omega
              clear hT
              by_cases h4 : q % 4 = 0
              · have HX2 : Hid (X ++ (Lib.uvarint t.length ++ t ++ restE l (q + 1)) = dictE l) := by
                  unfold Hid
                  rw [← HX.out, rest_zero ht h4]
                have h4i : ((q : Int) % 4 == 0) = true := by simp; omega
                have h4j : (q : Int) % 4 = 0 := by omega
                obtain ⟨Y, hY⟩ : ∃ Y : ByteArray, T.extract 0 t.length = Y := ⟨_, rfl⟩
                have HY : Hid (Y.data.toList = t) := by
                  unfold Hid
                  rw [← hY, ← zT, ext_drop, List.drop_zero]
                  exact HTd.out
                have sY : Y.size = t.length := by rw [← lenOf, HY.out]
                obtain ⟨U, hU⟩ : ∃ U : ByteArray, U = ⟨(Lib.uvarint t.length).toArray⟩ := ⟨_, rfl⟩
                have sU : U.size ≤ 9 := by rw [hU, arrSize]; exact uv_len t.length (by omega)
                have HU : Hid (U.data.toList = Lib.uvarint t.length) := by unfold Hid; rw [hU]
                have HVa : Hid (∀ w1, S8 w g (off + q) T w1 → Calls Tryd.prog 23 #[.int .i64 t.length] w1 fun e w' => e = .returned (.string U) ∧ S8 w g (off + q) T w') := fun w1 h1 => by
                  refine (HV.out w1 t.length (by omega)).mono ?_
                  rintro e w2 ⟨rfl, hb2⟩
                  exact ⟨by rw [hU], h1.on hg hb2⟩
                obtain ⟨C1, hC1⟩ : ∃ C : ByteArray, C = V ++ U := ⟨_, rfl⟩
                have nC1 : C1.size = V.size + U.size := by rw [hC1]; exact ByteArray.size_append
                have eC1 : ∀ w, (Op.stringOp .add V U).run Tryd.prog w = .ok (.string C1) w := fun w => by rw [hC1]; exact run_string_add_sum w V U (by omega)
                obtain ⟨C2, hC2⟩ : ∃ C : ByteArray, C = C1 ++ Y := ⟨_, rfl⟩
                have nC2 : C2.size = C1.size + Y.size := by rw [hC2]; exact ByteArray.size_append
                have eC2 : ∀ w, (Op.stringOp .add C1 Y).run Tryd.prog w = .ok (.string C2) w := fun w => by rw [hC2]; exact run_string_add_sum w C1 Y (by omega)
                have HC : Hid (C2.data.toList = Lib.uvarint l.length ++ (X ++ (Lib.uvarint t.length ++ t)) ∧ C2.size ≤ 9 + (q + 1) * 400) := by
                  refine ⟨?_, by omega⟩
                  rw [hC2, hC1, catD, catD, HVV.out, HU.out, HY.out]
                  simp only [List.append_assoc]
                clear hC1 hC2 nC1 nC2 sU hU ht HX HV
                go_wp2_with fail
                go_region_held3 (fun w' => w'.cell? ⟨g, off + q, none⟩ = some (.string T) ∧ Below w.heap.size w w') (first | assumption | exact ⟨ct, b4⟩ | exact ⟨ct, b4.drew⟩) (first | (go_at_call 23; refine (HVa.out _ (by first | assumption | exact ⟨by assumption, by first | assumption | exact b4.drew⟩)).mono ?_; rintro e2 w2 ⟨rfl, hS⟩))
                all_goals go_wp2_with fail
                all_goals go_roundw
                case rel => exact ⟨q + 1, C2, X ++ (Lib.uvarint t.length ++ t), by omega, by go_num, rfl, HC.out.1, by rw [List.append_assoc]; exact HX2.out, HC.out.2, S8.low (by assumption)⟩
                case measure => simp [intOf]; omega
              · obtain ⟨k, rfl⟩ : ∃ k, q = k + 1 := ⟨q - 1, by omega⟩
                obtain ⟨a, ha⟩ : ∃ a, l[k]? = some a := ⟨_, List.getElem?_eq_getElem (by omega)⟩
                have ca := (HL.out.below hg HB4.out) k a ha
                have hsa : a.length ≤ 200 := HSh.out a (List.mem_of_getElem? ha)
                obtain ⟨A, hA⟩ : ∃ A : ByteArray, A = ⟨a.toArray⟩ := ⟨_, rfl⟩
                rw [show strT a = .string A by rw [hA]] at ca
                have zA : A.size = a.length := by rw [hA]; exact arrSize a
                have HAd : Hid (A.data.toList = a) := by unfold Hid; rw [hA]
                have hcl := comn_le a t
                have HX2 : Hid (X ++ (enc4 a t ++ restE l (k + 1 + 1)) = dictE l) := by
                  unfold Hid
                  rw [← HX.out, rest_in ht (by simpa using ha) h4]
                obtain ⟨c, hc⟩ : ∃ c, c = comn a t := ⟨_, rfl⟩
                obtain ⟨d, hd⟩ : ∃ d, t.length = c + d := ⟨t.length - c, by omega⟩
                have HCE : Hid (enc4 a t = Lib.uvarint c ++ Lib.uvarint d ++ t.drop c) := by
                  unfold Hid enc4
                  rw [← hc, show t.length - c = d by omega]
                have h4j : ¬ ((k : Int) + 1) % 4 = 0 := by omega
                have h4i : (((k : Int) + 1) % 4 == 0) = false := by simp; omega
                obtain ⟨Y, hY⟩ : ∃ Y : ByteArray, T.extract c (c + d) = Y := ⟨_, rfl⟩
                have HY : Hid (Y.data.toList = t.drop c) := by
                  unfold Hid
                  rw [← hY, ← hd, ← zT, ext_drop, HTd.out]
                have sY : Y.size = d := by rw [← lenOf, HY.out, List.length_drop]; omega
                obtain ⟨U1, hU1⟩ : ∃ U : ByteArray, U = ⟨(Lib.uvarint c).toArray⟩ := ⟨_, rfl⟩
                have sU1 : U1.size ≤ 9 := by rw [hU1, arrSize]; exact uv_len c (by omega)
                have HU1 : Hid (U1.data.toList = Lib.uvarint c) := by unfold Hid; rw [hU1]
                obtain ⟨U2, hU2⟩ : ∃ U : ByteArray, U = ⟨(Lib.uvarint d).toArray⟩ := ⟨_, rfl⟩
                have sU2 : U2.size ≤ 9 := by rw [hU2, arrSize]; exact uv_len d (by omega)
                have HU2 : Hid (U2.data.toList = Lib.uvarint d) := by unfold Hid; rw [hU2]
                have HCm : Hid (∀ w1, S7 w g (off + k) (off + (k + 1)) A T w1 → Calls Tryd.prog 24 #[.string A, .string T] w1 fun e w' => e = .returned (.int .i64 c) ∧ S7 w g (off + k) (off + (k + 1)) A T w') := fun w1 h1 => by
                  have := common_any w1 A T (by omega) (by omega)
                  rw [HAd.out, HTd.out, ← hc] at this
                  refine this.mono ?_
                  rintro e w2 ⟨rfl, n2, rfl⟩
                  exact ⟨rfl, h1.on hg (drewN_below _ _)⟩
                have HV1 : Hid (∀ w1, S8 w g (off + (k + 1)) T w1 → Calls Tryd.prog 23 #[.int .i64 c] w1 fun e w' => e = .returned (.string U1) ∧ S8 w g (off + (k + 1)) T w') := fun w1 h1 => by
                  refine (HV.out w1 c (by omega)).mono ?_
                  rintro e w2 ⟨rfl, hb2⟩
                  exact ⟨by rw [hU1], h1.on hg hb2⟩
                have HV2 : Hid (∀ w1, S8 w g (off + (k + 1)) T w1 → Calls Tryd.prog 23 #[.int .i64 d] w1 fun e w' => e = .returned (.string U2) ∧ S8 w g (off + (k + 1)) T w') := fun w1 h1 => by
                  refine (HV.out w1 d (by omega)).mono ?_
                  rintro e w2 ⟨rfl, hb2⟩
                  exact ⟨by rw [hU2], h1.on hg hb2⟩
                obtain ⟨C0, hC0⟩ : ∃ C : ByteArray, C = V ++ U1 := ⟨_, rfl⟩
                have nC0 : C0.size = V.size + U1.size := by rw [hC0]; exact ByteArray.size_append
                have eC0 : ∀ w, (Op.stringOp .add V U1).run Tryd.prog w = .ok (.string C0) w := fun w => by rw [hC0]; exact run_string_add_sum w V U1 (by omega)
                obtain ⟨C1, hC1⟩ : ∃ C : ByteArray, C = C0 ++ U2 := ⟨_, rfl⟩
                have nC1 : C1.size = C0.size + U2.size := by rw [hC1]; exact ByteArray.size_append
                have eC1 : ∀ w, (Op.stringOp .add C0 U2).run Tryd.prog w = .ok (.string C1) w := fun w => by rw [hC1]; exact run_string_add_sum w C0 U2 (by omega)
                obtain ⟨C2, hC2⟩ : ∃ C : ByteArray, C = C1 ++ Y := ⟨_, rfl⟩
                have nC2 : C2.size = C1.size + Y.size := by rw [hC2]; exact ByteArray.size_append
                have eC2 : ∀ w, (Op.stringOp .add C1 Y).run Tryd.prog w = .ok (.string C2) w := fun w => by rw [hC2]; exact run_string_add_sum w C1 Y (by omega)
                have HC : Hid (C2.data.toList = Lib.uvarint l.length ++ (X ++ enc4 a t) ∧ C2.size ≤ 9 + (k + 1 + 1) * 400) := by
                  refine ⟨?_, by omega⟩
                  rw [hC2, hC1, hC0, catD, catD, catD, HVV.out, HU1.out, HU2.out, HY.out, HCE.out]
                  simp only [List.append_assoc]
                have hi0 : (0 : Int) ≤ k := by omega
                have hi1 : (k : Int) < (l.length : Int) := by omega
                have hi2 : (k : Int) + 1 < (l.length : Int) := by omega
                have hi3 : (0 : Int) ≤ (k : Int) + 1 := by omega
                have hw1 : IntKind.i64.wrap ((k : Int) + 1 - 1) = k := by rw [IntKind.wrap_i64]; omega
                have hw0 : IntKind.i64.wrap (k : Int) = k := by rw [IntKind.wrap_i64]; omega
                have hwd : IntKind.i64.wrap ((c : Int) + d - c) = d := by rw [IntKind.wrap_i64]; omega
                have hcd : (c : Int) ≤ (c : Int) + d := by omega
                have hc0 : (0 : Int) ≤ c := by omega
                rw [hd] at zT
                clear hC0 hC1 hC2 nC0 nC1 nC2 sU1 sU2 hU1 hU2 ht ha HX HV hc hcl hA
                go_wp2_with fail
                go_region_held3 (fun w' => w'.cell? ⟨g, off + k, none⟩ = some (.string A) ∧ w'.cell? ⟨g, off + (k + 1), none⟩ = some (.string T) ∧ Below w.heap.size w w') (first | assumption | exact ⟨ca, ct, b4⟩ | exact ⟨ca, ct, b4.drew⟩) (first | (go_at_call 24; refine (HCm.out _ (by first | assumption | exact ⟨by assumption, by assumption, by first | assumption | exact b4.drew⟩)).mono ?_; rintro e2 w2 ⟨rfl, hS⟩))
                all_goals go_wp2_with fail
                refine (HV1.out w2 ⟨hS.2.1, hS.2.2⟩).mono ?_
                rintro e w3 ⟨rfl, ct3, b5⟩
                clear hS HCm ca ct b4 HB4
                go_wp2_with fail
                go_region_held3 (fun w' => w'.cell? ⟨g, off + (k + 1), none⟩ = some (.string T) ∧ Below w.heap.size w w') (first | assumption | exact ⟨ct3, b5⟩ | exact ⟨ct3, b5.drew⟩) (first | (go_at_call 23; refine (HV2.out _ (by first | assumption | exact ⟨by assumption, by first | assumption | exact b5.drew⟩)).mono ?_; rintro e2 w4 ⟨rfl, hS⟩))
                all_goals go_wp2_with fail
                all_goals go_roundw
                case rel => exact ⟨k + 1 + 1, C2, X ++ enc4 a t, by omega, by go_num, rfl, HC.out.1, by rw [List.append_assoc]; exact HX2.out, HC.out.2, S8.low (by assumption)⟩
                case measure => simp [intOf]; omega
            · have HE : Hid (strT (Lib.uvarint l.length ++ dictE l) = .string V) := by
                unfold Hid
                rw [← HX.out, rest_end l (by omega), List.append_nil, ← HVV.out]
              go_wp2_with fail
              refine bodyPost_ret (v := .tuple #[.string V, .int .i64 0, .int .i64 0]) (by simp [results, Tryd.results7, go_sem]) rfl ?_
              exact ⟨by rw [HRV.out, HE.out], HB4.out⟩

end Go.Proofs.YtnffjoipinhojabDoor
