import Derived.Test.YtnffjoipinhojaaDoorRf
import Derived.Test.YtnffjoipinhojaaDoorPa
namespace Go.Proofs.YtnffjoipinhojaaDoor
open Go.RowKit

theorem bits_own {w : World} {base V C : Nat} {v : Value} (h : Own w base v (Nums V 1 C)) : BitsIn w v V C := by
  rcases own_ints h with ⟨a, cap, rfl, h0⟩ | ⟨b, off, cap, rfl, hc⟩
  · have hC : C = 0 := by rw [← nums_len V 1 C, h0]; rfl
    subst hC
    exact ⟨a, cap, rfl, fun j hj => by omega⟩
  · refine ⟨some ⟨b, off, none⟩, cap, by rw [nums_len], fun j hj => ⟨b, off, rfl, ?_⟩⟩
    rw [hc j (by rw [nums_len]; exact hj)]
    simp [Nums, hj]

theorem ref_ones_val {w : World} {v : Value} {V C : Nat} {i z : Int} (hC : C ≤ 1000000000000) (h : BitsIn w v V C) (hz : Hid (((OnesOf V C i : Nat) : Int) = z)) :
    Calls Tryd.prog 21 #[v, .int .i64 i] w fun x w' => x = .returned (.int .i64 z) ∧ w' = w := by
  rw [← hz.out]
  exact ref_ones i hC h

theorem err_num {l : List UInt8} {d c n : Int} (h : UnErr l d c n) : n = 3 ∨ n = 8 := by
  rcases h with ⟨_, h⟩ | ⟨_, _, _, h⟩ | ⟨_, _, _, _, h⟩ <;> omega

set_option maxHeartbeats 1600000 in
set_option maxRecDepth 20000 in
theorem rows_walk (s : ByteArray) (c i k : Int) (w : World) (hg : Handle w) (hT : Tab w) (hs : s.size ≤ 1048576) (hc : c ≤ 9223372036854775807) (hk : k ≤ 9223372036854775807) :
    Calls Tryd.prog 5 #[.string s, .int .i64 c, .int .i64 i, .int .i64 k] w fun e w' => e = .returned (.bool true) ∧ Below w.heap.size w w' := by
  have HG : Hid (Handle w) := hg
  have HT : Hid (Tab w) := hT
  clear hg hT
  rcases un_cases s.data.toList 1 c with hok | ⟨n, herr⟩
  · obtain ⟨C, rfl⟩ := Int.eq_ofNat_of_zero_le hok.2.2.1
    have hC : C ≤ 1000000000000 := by
      have h1 := (fit_le hok.2.2.2 (by decide)).1
      have e : s.data.toList.length = s.size := by simp
      rw [Int.toNat_natCast] at h1
      omega
    have HOK : Hid (UnOk s.data.toList 1 (C : Int)) := hok
    clear hok
    go_enter Tryd.func5, Tryd.ntmps5
    go_wp2_with fail
    refine (new_row_good s (C : Int) w (by omega) HOK.out).mono ?_
    rintro e w3 ⟨⟨b, rfl, hr⟩, hb3⟩
    rw [Int.toNat_natCast] at hr
    have HR3 : Hid (RowAt w3 b (Plain.val s.data.toList) C ((s.size + 7) / 8)) := hr
    have HB3 : Hid (Below w.heap.size w w3) := hb3
    clear hr hb3
    go_wp2_with fail
    refine (ru_good s 1 (C : Int) w3 (by omega) HOK.out).mono ?_
    rintro e w4 ⟨⟨v, rfl, hl⟩, hb4⟩
    rw [Int.toNat_natCast] at hl
    have HLX : Hid (BitsIn w4 v (Plain.val s.data.toList) C) := bits_own hl
    have HRX : Hid (RowAt w4 b (Plain.val s.data.toList) C ((s.size + 7) / 8)) := HR3.out.below hb4
    have HBX : Hid (Below w.heap.size w w4) := HB3.out.trans (hb4.mono HB3.out.size)
    have HTX : Hid (Tab w4) := HT.out.below HBX.out
    clear hl hb4 HR3 HB3 HT HG HOK
    generalize Plain.val s.data.toList = V at HLX HRX
    generalize (s.size + 7) / 8 = n at HRX
    obtain ⟨ad, cp, rfl, hcell⟩ := HLX.out
    have HCL : Hid (∀ j, j < C → ∃ g o, ad = some ⟨g, o, none⟩ ∧ w4.cell? ⟨g, o + j, none⟩ = some (.int .i64 (V / 2 ^ j % 2 : Nat))) := hcell
    clear hcell
    obtain ⟨v, hv⟩ : ∃ v, v = Value.slice ad C cp := ⟨_, rfl⟩
    rw [← hv] at HLX
    obtain ⟨z, hz⟩ : ∃ z : Int, ((OnesOf V C i : Nat) : Int) = z := ⟨_, rfl⟩
    have HZ : Hid (((OnesOf V C i : Nat) : Int) = z) := hz
    clear hz
    by_cases hi : i < 0
    · have HGB : Hid (Bit V C i = false) := by simp [Hid, Bit]; omega
      clear HCL
      subst hv
      go_wp2_with (go_at_call 8; refine (num_any _ _).mono ?_; rintro e w' ⟨rfl, rfl⟩)
      refine (len_row HRX.out).mono ?_
      rintro e wl ⟨rfl, rfl⟩
      go_wp2_with fail
      refine (get_val HRX.out HGB).mono ?_
      rintro e wg ⟨rfl, rfl⟩
      go_wp2_with fail
      refine (ones_val HRX.out HZ).mono ?_
      rintro e wh ⟨rfl, m9, rfl⟩
      have HRY : Hid (RowAt (wg.drewN m9) b V C n) := HRX.out.drewN m9
      have HTY : Hid (Tab (wg.drewN m9)) := HTX.out.drewN m9
      have HBY : Hid (Below w.heap.size w (wg.drewN m9)) := below_drewN HBX.out m9
      have HLY : Hid (BitsIn (wg.drewN m9) _ V C) := HLX.out.below (below_drewN (Below.refl _ _) m9)
      generalize wg.drewN m9 = wy at HRY HTY HBY HLY ⊢
      clear HRX HTX HBX HLX HGB
      go_wp2_with fail
      refine (ref_ones_val hC HLY.out HZ).mono ?_
      rintro e wi ⟨rfl, rfl⟩
      go_wp2_with fail
      refine (find_row k hk HRY.out HTY.out).mono ?_
      rintro e wj ⟨⟨F, rfl, hF⟩, hbj⟩
      have HF : Hid (FindOf V C k F) := hF
      have HBJ : Hid (Below w.heap.size w wj) := HBY.out.trans (hbj.mono HBY.out.size)
      have HLJ : Hid (BitsIn wj _ V C) := HLY.out.below hbj
      clear hF hbj HRY HTY HBY HLY HZ
      go_wp2_with fail
      refine (ref_find k hC HLJ.out).mono ?_
      rintro e wk ⟨⟨G, rfl, hG⟩, rfl⟩
      obtain rfl := find_one HF.out hG
      clear hG
      go_wp2_with fail
      go_ret
      exact ⟨rfl, HBJ.out⟩
    · by_cases hiC : i < (C : Int)
      · obtain ⟨m, rfl⟩ := Int.eq_ofNat_of_zero_le (show 0 ≤ i by omega)
        obtain ⟨g, o, rfl, kc⟩ := HCL.out m (by omega)
        obtain ⟨B, hB⟩ : ∃ B, B = V / 2 ^ m % 2 := ⟨_, rfl⟩
        have hB2 : B < 2 := by rw [hB]; exact Nat.mod_lt _ (by decide)
        rw [← hB] at kc
        have hm0 : (0 : Int) ≤ (m : Int) := by omega
        have HGB' : Hid (Bit V C (m : Int) = (B == 1)) := by simp [Hid, Bit, hiC, hm0, hB]
        clear HCL hB
        subst hv
        by_cases hb1 : B = 1
        · subst hb1
          have HGB : Hid (Bit V C (m : Int) = true) := HGB'
          clear HGB'
          go_wp2_with (go_at_call 8; refine (num_any _ _).mono ?_; rintro e w' ⟨rfl, rfl⟩)
          refine (len_row HRX.out).mono ?_
          rintro e wl ⟨rfl, rfl⟩
          go_wp2_with fail
          refine (get_val HRX.out HGB).mono ?_
          rintro e wg ⟨rfl, rfl⟩
          go_wp2_with fail
          refine (ones_val HRX.out HZ).mono ?_
          rintro e wh ⟨rfl, m9, rfl⟩
          have HRY : Hid (RowAt (wg.drewN m9) b V C n) := HRX.out.drewN m9
          have HTY : Hid (Tab (wg.drewN m9)) := HTX.out.drewN m9
          have HBY : Hid (Below w.heap.size w (wg.drewN m9)) := below_drewN HBX.out m9
          have HLY : Hid (BitsIn (wg.drewN m9) _ V C) := HLX.out.below (below_drewN (Below.refl _ _) m9)
          generalize wg.drewN m9 = wy at HRY HTY HBY HLY ⊢
          clear HRX HTX HBX HLX HGB
          go_wp2_with fail
          refine (ref_ones_val hC HLY.out HZ).mono ?_
          rintro e wi ⟨rfl, rfl⟩
          go_wp2_with fail
          refine (find_row k hk HRY.out HTY.out).mono ?_
          rintro e wj ⟨⟨F, rfl, hF⟩, hbj⟩
          have HF : Hid (FindOf V C k F) := hF
          have HBJ : Hid (Below w.heap.size w wj) := HBY.out.trans (hbj.mono HBY.out.size)
          have HLJ : Hid (BitsIn wj _ V C) := HLY.out.below hbj
          clear hF hbj HRY HTY HBY HLY HZ
          go_wp2_with fail
          refine (ref_find k hC HLJ.out).mono ?_
          rintro e wk ⟨⟨G, rfl, hG⟩, rfl⟩
          obtain rfl := find_one HF.out hG
          clear hG
          go_wp2_with fail
          go_ret
          exact ⟨rfl, HBJ.out⟩
        · have hb0 : B = 0 := by omega
          subst hb0
          have HGB : Hid (Bit V C (m : Int) = false) := HGB'
          clear HGB'
          go_wp2_with (go_at_call 8; refine (num_any _ _).mono ?_; rintro e w' ⟨rfl, rfl⟩)
          refine (len_row HRX.out).mono ?_
          rintro e wl ⟨rfl, rfl⟩
          go_wp2_with fail
          refine (get_val HRX.out HGB).mono ?_
          rintro e wg ⟨rfl, rfl⟩
          go_wp2_with fail
          refine (ones_val HRX.out HZ).mono ?_
          rintro e wh ⟨rfl, m9, rfl⟩
          have HRY : Hid (RowAt (wg.drewN m9) b V C n) := HRX.out.drewN m9
          have HTY : Hid (Tab (wg.drewN m9)) := HTX.out.drewN m9
          have HBY : Hid (Below w.heap.size w (wg.drewN m9)) := below_drewN HBX.out m9
          have HLY : Hid (BitsIn (wg.drewN m9) _ V C) := HLX.out.below (below_drewN (Below.refl _ _) m9)
          generalize wg.drewN m9 = wy at HRY HTY HBY HLY ⊢
          clear HRX HTX HBX HLX HGB
          go_wp2_with fail
          refine (ref_ones_val hC HLY.out HZ).mono ?_
          rintro e wi ⟨rfl, rfl⟩
          go_wp2_with fail
          refine (find_row k hk HRY.out HTY.out).mono ?_
          rintro e wj ⟨⟨F, rfl, hF⟩, hbj⟩
          have HF : Hid (FindOf V C k F) := hF
          have HBJ : Hid (Below w.heap.size w wj) := HBY.out.trans (hbj.mono HBY.out.size)
          have HLJ : Hid (BitsIn wj _ V C) := HLY.out.below hbj
          clear hF hbj HRY HTY HBY HLY HZ
          go_wp2_with fail
          refine (ref_find k hC HLJ.out).mono ?_
          rintro e wk ⟨⟨G, rfl, hG⟩, rfl⟩
          obtain rfl := find_one HF.out hG
          clear hG
          go_wp2_with fail
          go_ret
          exact ⟨rfl, HBJ.out⟩
      · have HGB : Hid (Bit V C i = false) := by simp [Hid, Bit]; omega
        clear HCL
        subst hv
        go_wp2_with (go_at_call 8; refine (num_any _ _).mono ?_; rintro e w' ⟨rfl, rfl⟩)
        refine (len_row HRX.out).mono ?_
        rintro e wl ⟨rfl, rfl⟩
        go_wp2_with fail
        refine (get_val HRX.out HGB).mono ?_
        rintro e wg ⟨rfl, rfl⟩
        go_wp2_with fail
        refine (ones_val HRX.out HZ).mono ?_
        rintro e wh ⟨rfl, m9, rfl⟩
        have HRY : Hid (RowAt (wg.drewN m9) b V C n) := HRX.out.drewN m9
        have HTY : Hid (Tab (wg.drewN m9)) := HTX.out.drewN m9
        have HBY : Hid (Below w.heap.size w (wg.drewN m9)) := below_drewN HBX.out m9
        have HLY : Hid (BitsIn (wg.drewN m9) _ V C) := HLX.out.below (below_drewN (Below.refl _ _) m9)
        generalize wg.drewN m9 = wy at HRY HTY HBY HLY ⊢
        clear HRX HTX HBX HLX HGB
        go_wp2_with fail
        refine (ref_ones_val hC HLY.out HZ).mono ?_
        rintro e wi ⟨rfl, rfl⟩
        go_wp2_with fail
        refine (find_row k hk HRY.out HTY.out).mono ?_
        rintro e wj ⟨⟨F, rfl, hF⟩, hbj⟩
        have HF : Hid (FindOf V C k F) := hF
        have HBJ : Hid (Below w.heap.size w wj) := HBY.out.trans (hbj.mono HBY.out.size)
        have HLJ : Hid (BitsIn wj _ V C) := HLY.out.below hbj
        clear hF hbj HRY HTY HBY HLY HZ
        go_wp2_with fail
        refine (ref_find k hC HLJ.out).mono ?_
        rintro e wk ⟨⟨G, rfl, hG⟩, rfl⟩
        obtain rfl := find_one HF.out hG
        clear hG
        go_wp2_with fail
        go_ret
        exact ⟨rfl, HBJ.out⟩
  · have hn := err_num herr
    have HE : Hid (UnErr s.data.toList 1 c n) := herr
    clear herr
    have hn0 : (n == 0) = false := by simp; omega
    go_enter Tryd.func5, Tryd.ntmps5
    go_wp2_with fail
    refine (new_row_err s c n w HG.out (by omega) hc HE.out).mono ?_
    rintro e w3 ⟨rfl, hb3⟩
    have HB3 : Hid (Below w.heap.size w w3) := hb3
    clear hb3
    go_wp2_with fail
    refine (ru_err s 1 c n w3 (by omega) hc HE.out).mono ?_
    rintro e w4 ⟨rfl, hb4⟩
    have HB4 : Hid (Below w.heap.size w w4) := HB3.out.trans (hb4.mono HB3.out.size)
    clear hb4 HB3 HE HT HG
    go_wp2_with (go_at_call 8; refine (num_any _ _).mono ?_; rintro e w' ⟨rfl, rfl⟩)
    go_ret
    exact ⟨rfl, HB4.out⟩
end Go.Proofs.YtnffjoipinhojaaDoor
