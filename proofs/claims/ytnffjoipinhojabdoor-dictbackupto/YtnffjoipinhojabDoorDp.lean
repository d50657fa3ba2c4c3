import Derived.Test.YtnffjoipinhojabDoorDc
set_option linter.unusedSimpArgs false
set_option linter.unusedVariables false
namespace Go.Proofs.YtnffjoipinhojabDoor
open Go.RowKit

abbrev strT (t : List UInt8) : Value := .string ⟨t.toArray⟩

/-- texts that lie in a block, one behind the other -/
def Strs (w : World) (g off : Nat) (l : List (List UInt8)) : Prop := ∀ (k : Nat) (t : List UInt8), l[k]? = some t → w.cell? ⟨g, off + k, none⟩ = some (strT t)

theorem Strs.below {w w' : World} {g off : Nat} {l : List (List UInt8)} {B : Nat} (h : Strs w g off l) (hg : g < B) (hb : Below B w w') : Strs w' g off l :=
  fun k t hk => (hb.cell (p := ⟨g, _, none⟩) hg).trans (h k t hk)

theorem uv_len (n : Nat) (hn : n ≤ 1000000000) : (Lib.uvarint n).length ≤ 9 := by
  have := Lib.uvarint_length 8 n (Nat.lt_of_le_of_lt hn (by decide))
  omega

theorem arrSize (t : List UInt8) : (ByteArray.mk t.toArray).size = t.length := by simp [ByteArray.size]

set_option maxHeartbeats 4000000 in
set_option maxRecDepth 20000 in
theorem packBlock_any (w : World) (g off cap : Nat) (t0 : List UInt8) (r : List (List UInt8)) (h4 : r.length ≤ 3) (hcap : r.length + 1 ≤ cap) (hc1 : cap ≠ 1) (hcm : cap ≤ maxLen) (hs : ∀ t ∈ t0 :: r, t.length ≤ 200) (hg : g < w.heap.size) (hL : Strs w g off (t0 :: r)) :
    Calls Tryd.prog 21 #[.slice (some ⟨g, off, none⟩) ((r.length + 1 : Nat) : Nat) cap] w fun e w' => e = .returned (strT (blockE (t0 :: r))) ∧ Below w.heap.size w w' := by
  have HL : Hid (Strs w g off (t0 :: r)) := hL
  have HS : Hid (∀ t ∈ t0 :: r, t.length ≤ 200) := hs
  have c0 : (w.alloc (.cells #[.pointer none, .slice none 0 0] 50)).cell? ⟨g, off, none⟩ = some (strT t0) := by
    have := (((Below.refl w.heap.size w).alloc (Nat.le_refl _) (.cells #[.pointer none, .slice none 0 0] 50)).cell (p := ⟨g, off, none⟩) hg).trans (hL 0 t0 rfl)
    exact this
  have hs0 : t0.length ≤ 200 := hs t0 (List.mem_cons_self ..)
  have HW0 : Hid (Wb w.heap.size w.heap.size [] (w.alloc (.cells #[.pointer none, .slice none 0 0] 50))) := Wb.fresh w
  have HB0 : Hid (Below w.heap.size w (w.alloc (.cells #[.pointer none, .slice none 0 0] 50))) := (Below.refl w.heap.size w).alloc (Nat.le_refl _) _
  obtain ⟨T0, hT0⟩ : ∃ T0 : ByteArray, T0 = ⟨t0.toArray⟩ := ⟨_, rfl⟩
  have HT0 : Hid (T0 = ⟨t0.toArray⟩) := hT0
  have hz0 : T0.size = t0.length := by rw [hT0]; exact arrSize t0
  have c0' : (w.alloc (.cells #[.pointer none, .slice none 0 0] 50)).cell? ⟨g, off, none⟩ = some (.string T0) := by rw [hT0]; exact c0
  unfold maxLen at hcm
  clear hL hs c0 hT0
  go_enter Tryd.func21, Tryd.ntmps21
  go_wp2_with fail
  refine (text_wr _ w.heap.size w.heap.size [] T0 HW0.out (by omega) (by simp) HB0.out.size).mono ?_
  rintro e w1 ⟨rfl, hw1, hb1⟩
  have HW1 : Hid (Wb w.heap.size w.heap.size (Lib.uvarint t0.length ++ t0) w1) := by
    unfold Hid
    have e1 : T0.data.toList = t0 := by rw [HT0.out]
    rw [List.nil_append, hz0, e1] at hw1
    exact hw1
  have HB1 : Hid (Below w.heap.size w w1) := HB0.out.trans hb1
  clear hw1 hb1 c0'
  go_wp2_with fail
  go_loopw [4, 16] (fun t4 t16 wr => ∃ (k : Nat) (a pre : List UInt8), k ≤ r.length ∧ t16 = .int .i64 k ∧ t4 = strT a ∧ (t0 :: r)[k]? = some a ∧ pre ++ tailE a (r.drop k) = blockE (t0 :: r) ∧ pre ≠ [] ∧ pre.length ≤ (k + 1) * 400 ∧ Wb w.heap.size w.heap.size pre wr ∧ Below w.heap.size w wr) (fun t4 t16 wr => r.length - (intOf t16).toNat)
  case atStart =>
    refine ⟨0, t0, Lib.uvarint t0.length ++ t0, Nat.zero_le _, rfl, by rw [HT0.out], rfl, by simp [blockE], ?_, ?_, HW1.out, HB1.out⟩
    · intro e
      have h1 := congrArg List.length e
      have h2 := Lib.uvarint_pos t0.length
      simp at h1
      simp [h1.1] at h2
    · have := uv_len t0.length (by omega)
      simp only [List.length_append]
      omega
  case round =>
    obtain ⟨k, a, pre, hk, rfl, rfl, ha, hpre, hne, hlen, hw, hb⟩ := hrel
    have HA : Hid ((t0 :: r)[k]? = some a) := ha
    have HP : Hid (pre ++ tailE a (r.drop k) = blockE (t0 :: r)) := hpre
    have HN : Hid (pre ≠ []) := hne
    have HW : Hid (Wb w.heap.size w.heap.size pre wr) := hw
    have HB : Hid (Below w.heap.size w wr) := hb
    clear ha hpre hne hw hb HW0 HB0 HW1 HB1
    by_cases hlt : k < r.length
    · obtain ⟨t, ht⟩ : ∃ t, r[k]? = some t := ⟨_, List.getElem?_eq_getElem hlt⟩
      have hct := (HL.out.below hg HB.out) (k + 1) t (by simpa using ht)
      rw [show off + (k + 1) = off + 1 + k by omega] at hct
      have hst : t.length ≤ 200 := HS.out t (List.mem_cons_of_mem _ (List.mem_of_getElem? ht))
      have hsa : a.length ≤ 200 := HS.out a (List.mem_of_getElem? HA.out)
      obtain ⟨A, hA⟩ : ∃ A : ByteArray, A = ⟨a.toArray⟩ := ⟨_, rfl⟩
      obtain ⟨T, hT⟩ : ∃ T : ByteArray, T = ⟨t.toArray⟩ := ⟨_, rfl⟩
      have eA : A.data.toList = a := by rw [hA]
      have eT : T.data.toList = t := by rw [hT]
      have zA : A.size = a.length := by rw [hA]; exact arrSize a
      have zT : T.size = t.length := by rw [hT]; exact arrSize t
      have HTT : Hid (T = ⟨t.toArray⟩) := hT
      have hcl := comn_le a t
      have hd : r.drop k = t :: r.drop (k + 1) := by
        rw [List.drop_eq_getElem_cons hlt]
        congr 1
        exact (List.getElem?_eq_some_iff.1 ht).2
      have HC : Hid (∀ w1, Calls Tryd.prog 43 #[.string A, .string T] w1 fun e w' => e = .returned (.int .i64 (comn a t)) ∧ ∃ n, w' = w1.drewN n) := fun w1 => by
        have := shared_any w1 A T (by omega) (by omega)
        rw [eA, eT] at this
        exact this
      have HP2 : Hid (pre ++ (enc4 a t ++ tailE t (r.drop (k + 1))) = blockE (t0 :: r)) := by
        unfold Hid
        rw [← HP.out, hd, tailE]
      have HT2 : Hid ((t0 :: r)[k + 1]? = some t) := by unfold Hid; simpa using ht
      obtain ⟨c, hc⟩ : ∃ c, c = comn a t := ⟨_, rfl⟩
      have HCE : Hid (enc4 a t = Lib.uvarint c ++ Lib.uvarint (t.length - c) ++ t.drop c) := by unfold Hid enc4; rw [hc]
      rw [← hc] at HC hcl
      rw [show strT a = .string A by rw [hA]]
      rw [show strT t = .string T by rw [hT]] at hct
      clear hA hT ht hd HP hc HA
      go_wp2_with fail
      refine (HC.out wr).mono ?_
      rintro e w2 ⟨rfl, n2, rfl⟩
      have HW2 : Hid (Wb w.heap.size w.heap.size pre (wr.drewN n2)) := HW.out
      have HB2 : Hid (Below w.heap.size w (wr.drewN n2)) := below_drewN HB.out _
      go_wp2_with fail
      refine (number_wr _ w.heap.size w.heap.size c pre HW2.out (by omega) (by omega) HB2.out.size).mono ?_
      rintro e w3 ⟨rfl, hw3, hb3⟩
      have HW3 : Hid (Wb w.heap.size w.heap.size (pre ++ Lib.uvarint c) w3) := hw3
      have HB3 : Hid (Below w.heap.size w w3) := HB2.out.trans hb3
      clear hw3 hb3 hct
      have hx : (T.extract c T.size).data.toList = t.drop c := by
        rw [← eT, ByteArray.data_extract, Array.toList_extract]
        simp only [List.extract, ByteArray.size]
        rw [List.take_of_length_le]
        rw [List.length_drop, Array.length_toList]
        exact Nat.le_refl _
      have hxs : (T.extract c T.size).size = t.length - c := by
        rw [← lenOf, hx, List.length_drop]
      obtain ⟨X, hX⟩ : ∃ X : ByteArray, T.extract c T.size = X := ⟨_, rfl⟩
      rw [hX] at hx hxs
      have HX : Hid (X.data.toList = t.drop c ∧ X.size = t.length - c) := ⟨hx, hxs⟩
      clear hx hxs eA eT
      rw [zT] at hX
      go_wp2_with fail
      refine (text_wr _ w.heap.size w.heap.size (pre ++ Lib.uvarint c) X HW3.out (by have := HX.out.2; omega) (by have := uv_len c (by omega); simp only [List.length_append]; omega) HB3.out.size).mono ?_
      rintro e w4 ⟨rfl, hw4, hb4⟩
      have HW4 : Hid (Wb w.heap.size w.heap.size (pre ++ enc4 a t) w4) := by
        unfold Hid
        rw [HCE.out]
        rw [HX.out.1, HX.out.2] at hw4
        rw [List.append_assoc (Lib.uvarint c), ← List.append_assoc pre]
        exact hw4
      have HB4 : Hid (Below w.heap.size w w4) := HB3.out.trans hb4
      clear hw4 hb4
      go_wp2_with fail
      go_roundw
      case rel =>
        refine ⟨k + 1, t, pre ++ enc4 a t, by omega, by go_num, by rw [HTT.out], HT2.out, by rw [List.append_assoc]; exact HP2.out, ?_, ?_, HW4.out, HB4.out⟩
        · intro e
          exact HN.out (List.append_eq_nil_iff.1 e).1
        · rw [HCE.out]
          have u1 := uv_len c (by omega)
          have u2 := uv_len (t.length - c) (by omega)
          simp only [List.length_append, List.length_drop]
          omega
      case measure => simp [intOf]; omega
    · obtain rfl : k = r.length := by omega
      have HP2 : Hid (pre = blockE (t0 :: r)) := by
        unfold Hid
        rw [← HP.out, List.drop_length, tailE, List.append_nil]
      clear HP
      go_wp2_with fail
      refine (bstring_any wr w.heap.size w.heap.size pre HW.out HN.out).mono ?_
      rintro e w2 ⟨rfl, hb2⟩
      have HB2 : Hid (Below w.heap.size w w2) := HB.out.trans hb2
      clear hb2
      go_wp2_with fail
      go_ret
      exact ⟨by rw [← HP2.out]; rfl, HB2.out⟩

set_option maxHeartbeats 4000000 in
set_option maxRecDepth 20000 in
theorem packBlock_one (w : World) (g off : Nat) (t0 : List UInt8) (hs : t0.length ≤ 200) (hg : g < w.heap.size) (hL : Strs w g off [t0]) :
    Calls Tryd.prog 21 #[.slice (some ⟨g, off, none⟩) 1 1] w fun e w' => e = .returned (strT (blockE [t0])) ∧ Below w.heap.size w w' := by
  have c0 : (w.alloc (.cells #[.pointer none, .slice none 0 0] 50)).cell? ⟨g, off, none⟩ = some (strT t0) :=
    (((Below.refl w.heap.size w).alloc (Nat.le_refl _) (.cells #[.pointer none, .slice none 0 0] 50)).cell (p := ⟨g, off, none⟩) hg).trans (hL 0 t0 rfl)
  have HW0 : Hid (Wb w.heap.size w.heap.size [] (w.alloc (.cells #[.pointer none, .slice none 0 0] 50))) := Wb.fresh w
  have HB0 : Hid (Below w.heap.size w (w.alloc (.cells #[.pointer none, .slice none 0 0] 50))) := (Below.refl w.heap.size w).alloc (Nat.le_refl _) _
  obtain ⟨T0, hT0⟩ : ∃ T0 : ByteArray, T0 = ⟨t0.toArray⟩ := ⟨_, rfl⟩
  have HT0 : Hid (T0 = ⟨t0.toArray⟩) := hT0
  have hz0 : T0.size = t0.length := by rw [hT0]; exact arrSize t0
  have c0' : (w.alloc (.cells #[.pointer none, .slice none 0 0] 50)).cell? ⟨g, off, none⟩ = some (.string T0) := by rw [hT0]; exact c0
  clear hL c0 hT0
  go_enter Tryd.func21, Tryd.ntmps21
  go_wp2_with fail
  refine (text_wr _ w.heap.size w.heap.size [] T0 HW0.out (by omega) (by simp) HB0.out.size).mono ?_
  rintro e w1 ⟨rfl, hw1, hb1⟩
  have HW1 : Hid (Wb w.heap.size w.heap.size (blockE [t0]) w1) := by
    unfold Hid
    have e1 : T0.data.toList = t0 := by rw [HT0.out]
    rw [List.nil_append, hz0, e1] at hw1
    simpa [blockE, tailE] using hw1
  have HB1 : Hid (Below w.heap.size w w1) := HB0.out.trans hb1
  have HN : Hid (blockE [t0] ≠ []) := by
    intro e
    have h1 := congrArg List.length e
    have h2 := Lib.uvarint_pos t0.length
    simp [blockE, tailE] at h1
    simp [h1.1] at h2
  clear hw1 hb1 c0'
  go_wp2_with fail
  go_loopw [16] (fun t16 wr => t16 = .int .i64 0 ∧ wr = w1) (fun t16 wr => 0)
  case atStart => exact ⟨rfl, rfl⟩
  case round =>
    obtain ⟨rfl, rfl⟩ := hrel
    go_wp2_with fail
    refine (bstring_any wr w.heap.size w.heap.size _ HW1.out HN.out).mono ?_
    rintro e w2 ⟨rfl, hb2⟩
    have HB2 : Hid (Below w.heap.size w w2) := HB1.out.trans hb2
    clear hb2
    go_wp2_with fail
    go_ret
    exact ⟨rfl, HB2.out⟩

/-- a block of texts, packed -/
theorem pack_any (w : World) (g off cap : Nat) (l : List (List UInt8)) (h0 : l ≠ []) (h4 : l.length ≤ 4) (hcap : l.length ≤ cap) (hcm : cap ≤ maxLen) (hs : ∀ t ∈ l, t.length ≤ 200) (hg : g < w.heap.size) (hL : Strs w g off l) :
    Calls Tryd.prog 21 #[.slice (some ⟨g, off, none⟩) l.length cap] w fun e w' => e = .returned (strT (blockE l)) ∧ Below w.heap.size w w' := by
  cases l with
  | nil => exact absurd rfl h0
  | cons t0 r =>
    by_cases hc1 : cap = 1
    · subst hc1
      cases r with
      | nil => exact packBlock_one w g off t0 (hs t0 (List.mem_cons_self ..)) hg hL
      | cons t r => simp at hcap
    · exact packBlock_any w g off cap t0 r (by simpa using h4) (by simpa using hcap) hc1 hcm hs hg hL

end Go.Proofs.YtnffjoipinhojabDoor
