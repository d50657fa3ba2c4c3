import Derived.Test.YtnffjoipinhojaaDoorW
namespace Go.Proofs.YtnffjoipinhojaaDoor
open Go.RowKit

theorem back_list (n : Nat) (s : ByteArray) : ((⟨#[120]⟩ : ByteArray) ++ (⟨(Lib.uvarint n).toArray⟩ : ByteArray) ++ s).data.toList.drop 1 = Lib.uvarint n ++ s.data.toList := by
  simp [ByteArray.data_append]

/-- What Varint writes, behind a byte and ahead of others, is read again. -/
theorem unv_back (n : Nat) (s : ByteArray) (w : World) (hg : Handle w) (hn : n ≤ 9223372036854775807) (hs : s.size ≤ 140737488351232) :
    Calls Tryd.prog 10 #[.string ((⟨#[120]⟩ : ByteArray) ++ (⟨(Lib.uvarint n).toArray⟩ : ByteArray) ++ s), .int .i64 1] w fun e w' => e = .returned (.tuple #[.int .i64 n, .int .i64 (1 + ((Lib.uvarint n).length : Int)), .int .i64 0]) ∧ Below w.heap.size w w' := by
  have hl9 := Lib.uvarint_length 8 n (Nat.lt_of_lt_of_le (Nat.lt_succ_of_le hn) (by decide))
  have hsz : ((⟨#[120]⟩ : ByteArray) ++ (⟨(Lib.uvarint n).toArray⟩ : ByteArray) ++ s).size = 1 + (Lib.uvarint n).length + s.size := by
    simp [ByteArray.size_append]
    rfl
  refine (unv_in _ 1 w hg (by rw [hsz]; omega) (by rw [hsz]; omega)).mono ?_
  rintro e w1 ⟨ha, hb⟩
  refine ⟨?_, hb⟩
  rw [back_list] at ha
  obtain ⟨g1, g2⟩ := Plain.good_of_uv n (by omega) s.data.toList
  have hp := Lib.uvarint_pos n
  rcases ha with ⟨k, hk, rfl⟩ | ⟨hno, _⟩
  · obtain rfl := hk.one g1
    have e1 : (Lib.uvarint n).length - 1 + 1 = (Lib.uvarint n).length := by omega
    have e2 : ((1 + ((Lib.uvarint n).length - 1) + 1 : Nat) : Int) = 1 + ((Lib.uvarint n).length : Int) := by omega
    rw [e1, g2, e2]
  · exact absurd g1 (hno _)

set_option maxHeartbeats 800000 in
set_option maxRecDepth 20000 in
theorem law_neg_out (n : Int) (s : ByteArray) (p : Int) (w : World) (_hg : Handle w) (hn : n < 0) (hs : s.size ≤ 140737488351232) (hp : p < 0 ∨ (s.size : Int) < p) :
    Calls Tryd.prog 3 #[.int .i64 n, .string s, .int .i64 p] w fun e w' => e = .returned (.bool true) ∧ Below w.heap.size w w' := by
  clear _hg
  go_enter Tryd.func3, Tryd.ntmps3
  go_wp2_with fail
  refine (varint_neg n _ hn).mono ?_
  rintro e w1 ⟨rfl, rfl⟩
  have HBX : Hid (Below w.heap.size w w) := Below.refl _ _
  go_wp2_with (go_at_call 8; refine (num_any _ _).mono ?_; rintro e w' ⟨rfl, rfl⟩)
  refine (unv_out s p _ (by omega) hp).mono ?_
  rintro e w3 ⟨rfl, rfl⟩
  rcases hp with hp | hp
  · go_wp2_with (go_at_call 8; refine (num_any _ _).mono ?_; rintro e w' ⟨rfl, rfl⟩)
    go_ret
    exact ⟨rfl, HBX.out⟩
  · have hp0 : ¬ p < 0 := by omega
    go_wp2_with (go_at_call 8; refine (num_any _ _).mono ?_; rintro e w' ⟨rfl, rfl⟩)
    go_ret
    exact ⟨rfl, HBX.out⟩

set_option maxHeartbeats 800000 in
set_option maxRecDepth 20000 in
theorem law_neg_in (n : Int) (s : ByteArray) (p : Nat) (w : World) (hg : Handle w) (hn : n < 0) (hs : s.size ≤ 140737488351232) (hp : p ≤ s.size) :
    Calls Tryd.prog 3 #[.int .i64 n, .string s, .int .i64 p] w fun e w' => e = .returned (.bool true) ∧ Below w.heap.size w w' := by
  have HG : Hid (Handle w) := hg
  clear hg
  go_enter Tryd.func3, Tryd.ntmps3
  go_wp2_with fail
  refine (varint_neg n _ hn).mono ?_
  rintro e w1 ⟨rfl, rfl⟩
  have HBX : Hid (Below w.heap.size w w) := Below.refl _ _
  go_wp2_with (go_at_call 8; refine (num_any _ _).mono ?_; rintro e w' ⟨rfl, rfl⟩)
  refine (unv_in s p _ (HG.out.below HBX.out) (by omega) hp).mono ?_
  rintro e w3 ⟨ha, hb3⟩
  have HB3 : Hid (Below w.heap.size w w3) := HBX.out.trans (hb3.mono HBX.out.size)
  clear hb3
  have hp' : ¬ (s.size : Int) < (p : Int) := by omega
  rcases ha with ⟨k, hk, rfl⟩ | ⟨hno, rfl⟩
  · have HK : Hid (Plain.Good (s.data.toList.drop p) k) := hk
    have hz : (((p + k + 1 : Nat) : Int) == 0) = false := by simp; omega
    clear hk
    go_wp2_with fail
    refine (refun_any s p _ (by omega) hp).mono ?_
    rintro e w4 ⟨hr, rfl⟩
    rcases hr with ⟨k', hk', rfl⟩ | ⟨hno', rfl⟩
    · obtain rfl := HK.out.one hk'
      clear hk'
      go_wp2_with (go_at_call 8; refine (num_any _ _).mono ?_; rintro e w' ⟨rfl, rfl⟩)
      go_ret
      exact ⟨rfl, HB3.out⟩
    · exact absurd HK.out (hno' k)
  · have HN : Hid (∀ k, ¬ Plain.Good (s.data.toList.drop p) k) := hno
    clear hno
    go_wp2_with fail
    refine (refun_any s p _ (by omega) hp).mono ?_
    rintro e w4 ⟨hr, rfl⟩
    rcases hr with ⟨k', hk', rfl⟩ | ⟨hno', rfl⟩
    · exact absurd hk' (HN.out k')
    · clear hno'
      go_wp2_with (go_at_call 8; refine (num_any _ _).mono ?_; rintro e w' ⟨rfl, rfl⟩)
      go_ret
      exact ⟨rfl, HB3.out⟩

set_option maxHeartbeats 800000 in
set_option maxRecDepth 20000 in
theorem law_pos_out (n : Nat) (s : ByteArray) (p : Int) (w : World) (hg : Handle w) (hn : n ≤ 9223372036854775807) (hs : s.size ≤ 140737488351232) (hp : p < 0 ∨ (s.size : Int) < p) :
    Calls Tryd.prog 3 #[.int .i64 n, .string s, .int .i64 p] w fun e w' => e = .returned (.bool true) ∧ Below w.heap.size w w' := by
  have HG : Hid (Handle w) := hg
  have hl9 := Lib.uvarint_length 8 n (Nat.lt_of_lt_of_le (Nat.lt_succ_of_le hn) (by decide))
  clear hg
  go_enter Tryd.func3, Tryd.ntmps3
  go_wp2_with fail
  refine (varint_any n _ hn).mono ?_
  rintro e w1 ⟨rfl, hb1⟩
  have HB1 : Hid (Below w.heap.size w w1) := hb1
  clear hb1
  go_wp2_with (go_at_call 8; refine (num_any _ _).mono ?_; rintro e w' ⟨rfl, rfl⟩)
  refine (refv_any n _ hn).mono ?_
  rintro e w2 ⟨rfl, hb2⟩
  have HB2 : Hid (Below w.heap.size w w2) := HB1.out.trans (hb2.mono HB1.out.size)
  clear hb2
  go_wp2_with fail
  refine (unv_back n s _ (HG.out.below HB2.out) hn hs).mono ?_
  rintro e wx ⟨rfl, hbx⟩
  have HBX : Hid (Below w.heap.size w wx) := HB2.out.trans (hbx.mono HB2.out.size)
  clear hbx HB1 HB2
  go_wp2_with (go_at_call 8; refine (num_any _ _).mono ?_; rintro e w' ⟨rfl, rfl⟩)
  refine (unv_out s p _ (by omega) hp).mono ?_
  rintro e w3 ⟨rfl, rfl⟩
  rcases hp with hp | hp
  · go_wp2_with (go_at_call 8; refine (num_any _ _).mono ?_; rintro e w' ⟨rfl, rfl⟩)
    go_ret
    exact ⟨rfl, HBX.out⟩
  · have hp0 : ¬ p < 0 := by omega
    go_wp2_with (go_at_call 8; refine (num_any _ _).mono ?_; rintro e w' ⟨rfl, rfl⟩)
    go_ret
    exact ⟨rfl, HBX.out⟩

set_option maxHeartbeats 800000 in
set_option maxRecDepth 20000 in
theorem law_pos_in (n : Nat) (s : ByteArray) (p : Nat) (w : World) (hg : Handle w) (hn : n ≤ 9223372036854775807) (hs : s.size ≤ 140737488351232) (hp : p ≤ s.size) :
    Calls Tryd.prog 3 #[.int .i64 n, .string s, .int .i64 p] w fun e w' => e = .returned (.bool true) ∧ Below w.heap.size w w' := by
  have HG : Hid (Handle w) := hg
  have hl9 := Lib.uvarint_length 8 n (Nat.lt_of_lt_of_le (Nat.lt_succ_of_le hn) (by decide))
  clear hg
  go_enter Tryd.func3, Tryd.ntmps3
  go_wp2_with fail
  refine (varint_any n _ hn).mono ?_
  rintro e w1 ⟨rfl, hb1⟩
  have HB1 : Hid (Below w.heap.size w w1) := hb1
  clear hb1
  go_wp2_with (go_at_call 8; refine (num_any _ _).mono ?_; rintro e w' ⟨rfl, rfl⟩)
  refine (refv_any n _ hn).mono ?_
  rintro e w2 ⟨rfl, hb2⟩
  have HB2 : Hid (Below w.heap.size w w2) := HB1.out.trans (hb2.mono HB1.out.size)
  clear hb2
  go_wp2_with fail
  refine (unv_back n s _ (HG.out.below HB2.out) hn hs).mono ?_
  rintro e wx ⟨rfl, hbx⟩
  have HBX : Hid (Below w.heap.size w wx) := HB2.out.trans (hbx.mono HB2.out.size)
  clear hbx HB1 HB2
  go_wp2_with (go_at_call 8; refine (num_any _ _).mono ?_; rintro e w' ⟨rfl, rfl⟩)
  refine (unv_in s p _ (HG.out.below HBX.out) (by omega) hp).mono ?_
  rintro e w3 ⟨ha, hb3⟩
  have HB3 : Hid (Below w.heap.size w w3) := HBX.out.trans (hb3.mono HBX.out.size)
  clear hb3
  have hp' : ¬ (s.size : Int) < (p : Int) := by omega
  rcases ha with ⟨k, hk, rfl⟩ | ⟨hno, rfl⟩
  · have HK : Hid (Plain.Good (s.data.toList.drop p) k) := hk
    have hz : (((p + k + 1 : Nat) : Int) == 0) = false := by simp; omega
    clear hk
    go_wp2_with fail
    refine (refun_any s p _ (by omega) hp).mono ?_
    rintro e w4 ⟨hr, rfl⟩
    rcases hr with ⟨k', hk', rfl⟩ | ⟨hno', rfl⟩
    · obtain rfl := HK.out.one hk'
      clear hk'
      go_wp2_with (go_at_call 8; refine (num_any _ _).mono ?_; rintro e w' ⟨rfl, rfl⟩)
      go_ret
      exact ⟨rfl, HB3.out⟩
    · exact absurd HK.out (hno' k)
  · have HN : Hid (∀ k, ¬ Plain.Good (s.data.toList.drop p) k) := hno
    clear hno
    go_wp2_with fail
    refine (refun_any s p _ (by omega) hp).mono ?_
    rintro e w4 ⟨hr, rfl⟩
    rcases hr with ⟨k', hk', rfl⟩ | ⟨hno', rfl⟩
    · exact absurd hk' (HN.out k')
    · clear hno'
      go_wp2_with (go_at_call 8; refine (num_any _ _).mono ?_; rintro e w' ⟨rfl, rfl⟩)
      go_ret
      exact ⟨rfl, HB3.out⟩

/-- THE LAW, at every argument. -/
theorem varints_walk (n : Int) (s : ByteArray) (p : Int) (w : World) (hg : Handle w) (hn : n ≤ 9223372036854775807) (hs : s.size ≤ 140737488351232) :
    Calls Tryd.prog 3 #[.int .i64 n, .string s, .int .i64 p] w fun e w' => e = .returned (.bool true) ∧ Below w.heap.size w w' := by
  by_cases hp : p < 0 ∨ (s.size : Int) < p
  · by_cases h0 : n < 0
    · exact law_neg_out n s p w hg h0 hs hp
    · obtain ⟨m, rfl⟩ := Int.eq_ofNat_of_zero_le (show 0 ≤ n by omega)
      exact law_pos_out m s p w hg (by omega) hs hp
  · obtain ⟨q, rfl⟩ := Int.eq_ofNat_of_zero_le (show 0 ≤ p by omega)
    by_cases h0 : n < 0
    · exact law_neg_in n s q w hg h0 hs (by omega)
    · obtain ⟨m, rfl⟩ := Int.eq_ofNat_of_zero_le (show 0 ≤ n by omega)
      exact law_pos_in m s q w hg (by omega) hs (by omega)
end Go.Proofs.YtnffjoipinhojaaDoor
