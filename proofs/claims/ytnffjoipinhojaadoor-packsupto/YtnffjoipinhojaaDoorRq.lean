import Derived.Test.YtnffjoipinhojaaDoorRp
namespace Go.Proofs.YtnffjoipinhojaaDoor
open Go.RowKit

theorem mul_wrap (n d : Nat) (h : n * d ≤ 992000000000) : wrap64 ((n : Int) * (d : Int)) = ((n * d : Nat) : Int) := by
  have e : (n : Int) * (d : Int) = ((n * d : Nat) : Int) := by simp
  rw [e]
  generalize n * d = M at *
  exact IntWalk.wrap64_in _ (by omega)

theorem make_bytes (L : Nat) (h : L ≤ 1000000000000) (u : World) : (Instr.makeSlice 51 (.int .i64 (L : Int)) (.int .i64 (L : Int))).run Tryd.prog u =
      .ok (.slice (some ⟨u.heap.size, 0, none⟩) L L) (u.alloc (.cells (madeCells #[.int .u8 0] L) 5)) := by
  obtain ⟨i0, hi, hz0, hz1, hz2⟩ := info_parts info5
  have h := run_make (P := Tryd.prog) u 51 5 i0 (.int .u8 0) Tryd.underlying51 hi hz0 .i64 .i64 (L : Int) (L : Int) (by omega) (Int.le_refl _) (by rw [hz2]; omega) (by omega)
  simpa [hz1, Value.cells] using h

/-- A made row of bytes. -/
def Out (w : World) (g : Nat) (bs : List UInt8) (L : Nat) : Prop := bs.length = L ∧ w.ownsRow g 5 1 (.slice (some ⟨g, 0, none⟩) L L) L (bs.map cellOf)
theorem out_new (u : World) (L g : Nat) (h : L ≤ 1000000000000) (hg : u.heap.size = g) : Out (u.alloc (.cells (madeCells #[.int .u8 0] L) 5)) g (List.replicate L 0) L := by
  subst hg
  refine ⟨by simp, ?_⟩
  have h1 := World.ownsRow_lit (base := u.heap.size) (e := 5) (size := 1) u (madeCells #[.int .u8 0] L) L (Nat.le_refl _) (by unfold maxLen; omega) (by rw [size_madeCells]; omega)
  rw [toList_madeCells_one] at h1
  have e : (List.replicate L (0 : UInt8)).map cellOf = List.replicate L (.int .u8 0) := by simp [cellOf]
  rw [e]
  exact h1
/-- One bit set in a made row. -/
theorem out_bit {w : World} {g L p r : Nat} {bs : List UInt8} {c : UInt8} (h : Out w g bs L) (hp : p < L) (hr : r < 8) (hs : Plain.val bs < 2 ^ (8 * p + r)) (hc : c = bs.getD p 0) {X : Int} (hX : X = bits .or .u8 (c.toNat : Int) (2 ^ r % 256)) :
    ∃ bs', Out (w.setCell ⟨g, p, none⟩ (.int .u8 X)) g bs' L ∧ Plain.val bs' = Plain.val bs + 2 ^ (8 * p + r) := by
  have hcs : c.toNat < 2 ^ r := by rw [hc]; exact small_last bs p r hs
  have hb := put_byte c.toNat 1 1 r (8 - r) (by omega) (by omega) hcs
  have e : ((1 : Nat) : Int) % 2 ^ 1 % 256 * 2 ^ r % 256 = 2 ^ r % 256 := by simp
  rw [e] at hb
  obtain ⟨hb1, hb2⟩ := hb
  have e2 : 1 % 2 ^ 1 * 2 ^ r = 2 ^ r := by simp
  rw [e2] at hb1 hb2
  obtain ⟨B, hB⟩ : ∃ B : UInt8, B.toNat = c.toNat + 2 ^ r := ⟨(c.toNat + 2 ^ r).toUInt8, by simp; omega⟩
  refine ⟨bs.set p B, ⟨by rw [List.length_set]; exact h.1, ?_⟩, ?_⟩
  · have h1 := (h.2.stored p (.int .u8 X)).1
    have hmap : (bs.map cellOf).set p (.int .u8 X) = (bs.set p B).map cellOf := by
      rw [List.map_set]
      congr 1
      rw [cellOf, hB, hX, hb1]
    rw [hmap] at h1
    exact h1
  · have h2 := Plain.val_set bs p B (by rw [h.1]; exact hp)
    rw [← hc, hB, Nat.add_mul] at h2
    have e3 : 2 ^ r * 256 ^ p = 2 ^ (8 * p + r) := by rw [Plain.pow256, ← Nat.pow_add, Nat.add_comm]
    omega
theorem Out.cl {w : World} {g L p : Nat} {bs : List UInt8} (h : Out w g bs L) (hp : p < L) : w.cell? ⟨g, p, none⟩ = some (.int .u8 ((bs.getD p 0).toNat : Int)) := by
  rw [h.2.cellAt p (by omega)]
  have hl : p < bs.length := by rw [h.1]; exact hp
  simp [cellOf, hl]
theorem bit_and (m q : Nat) (hm : m < 4611686018427387904) : bits .and .i64 ((m : Int) / 2 ^ q) 1 = ((m / 2 ^ q % 2 : Nat) : Int) := by
  have e : (m : Int) / 2 ^ q = ((m / 2 ^ q : Nat) : Int) := by simp
  have h := Nat.div_le_self m (2 ^ q)
  have hn := (bits_nat .i64 63 (by decide) Plain.wraps_i64 (m / 2 ^ q) 1 (by omega) (by decide)).1
  rw [e]
  have e1 : ((1 : Nat) : Int) = 1 := rfl
  rw [e1] at hn
  rw [hn, nat_mask1]
theorem bit_more (m q : Nat) : m % 2 ^ (q + 1) = m % 2 ^ q + m / 2 ^ q % 2 * 2 ^ q := by
  rw [Nat.pow_succ, Nat.mod_mul, Nat.mul_comm (2 ^ q)]

theorem low_sum (a m q A : Nat) (h : a < 2 ^ A) : a + m % 2 ^ q * 2 ^ A < 2 ^ (A + q) := by
  have h1 : m % 2 ^ q < 2 ^ q := Nat.mod_lt _ (Nat.two_pow_pos q)
  have h2 : m % 2 ^ q * 2 ^ A + 2 ^ A ≤ 2 ^ q * 2 ^ A := by rw [← Nat.succ_mul]; exact Nat.mul_le_mul_right _ h1
  rw [Nat.pow_add, Nat.mul_comm (2 ^ A)]
  omega
theorem fits_nat {x : Int} {d m : Nat} (h : fitsB x d = true) (hm : x = (m : Int)) : m < 2 ^ d := by
  rw [hm] at h
  simp only [fitsB, decide_eq_true_eq] at h
  have e : ((2 : Int) ^ d) = ((2 ^ d : Nat) : Int) := by simp
  rw [e] at h
  omega
theorem take_lt (xs : List Int) (d i : Nat) (h : ∀ j, j < xs.length → fitsB (xs.getD j 0) d = true) (hi : i ≤ xs.length) : Plain.packN d ((xs.take i).map Int.toNat) < 2 ^ (i * d) := by
  have hl := Plain.packN_lt d ((xs.take i).map Int.toNat) (by
    intro x hx
    obtain ⟨y, hy, rfl⟩ := List.mem_map.1 hx
    obtain ⟨j, hj, e⟩ := List.getElem_of_mem (List.mem_of_mem_take hy)
    have h1 := h j hj
    rw [List.getD_eq_getElem?_getD, List.getElem?_eq_getElem hj] at h1
    simp only [Option.getD_some] at h1
    rw [e] at h1
    have h2 : 0 ≤ y := by simp only [fitsB, decide_eq_true_eq] at h1; exact h1.1
    exact fits_nat h1 (by omega))
  rw [List.length_map, List.length_take, Nat.min_eq_left hi, Nat.mul_comm] at hl
  exact hl

set_option maxHeartbeats 1600000 in
set_option maxRecDepth 20000 in
theorem rpack_ok (xs : List Int) (d : Nat) (v : Value) (w : World) (hv : Ints w v xs) (hl : xs.length ≤ 16000000000) (h1 : 1 ≤ d) (h2 : d ≤ 62) (hall : ∀ j, j < xs.length → fitsB (xs.getD j 0) d = true) :
    Calls Tryd.prog 13 #[v, .int .i64 d] w fun x w' => (∃ bs, Packed d xs bs ∧ x = .returned (.tuple #[.string ⟨bs.toArray⟩, .int .i64 0, .int .i64 0])) ∧ Below w.heap.size w w' := by
  have HA : Hid (∀ j, j < xs.length → fitsB (xs.getD j 0) d = true) := hall
  have HV : Hid (Ints w v xs) := hv
  clear hall hv
  obtain ⟨n, hn⟩ : ∃ n, n = xs.length := ⟨_, rfl⟩
  have HN : Hid (n = xs.length) := hn
  have hnl : n ≤ 16000000000 := by omega
  have hnd : n * d ≤ 16000000000 * 62 := Nat.mul_le_mul hnl h2
  clear hn hl
  have hlen : ∀ u : World, (Builtin.len_ #[32] 3 #[v]).run Tryd.prog u = .ok (.int .i64 (n : Int)) u := by
    intro u
    rcases HV.out with ⟨a0, cap0, rfl, hx0⟩ | ⟨b, off, cap, rfl, _⟩
    · have hn0 : n = 0 := by rw [HN.out, hx0]; rfl
      subst hn0
      exact run_len_slice u 32 3 a0 0 cap0 (by kernel_rfl)
    · rw [HN.out]
      exact run_len_slice u 32 3 _ _ _ (by kernel_rfl)
  have hdw : ¬ (d : Int) < 1 := by omega
  have hdw2 : ¬ (62 : Int) < (d : Int) := by omega
  obtain ⟨Lm, hLm⟩ : ∃ Lm, Lm = (n * d + 7) / 8 := ⟨_, rfl⟩
  obtain ⟨M, hM⟩ : ∃ M, M = n * d := ⟨_, rfl⟩
  have HMM : Hid (wrap64 ((n : Int) * (d : Int)) = (M : Int)) := by
    have := mul_wrap n d hnd
    rw [← hM] at this
    exact this
  have hMb : M ≤ 992000000000 := by omega
  have hLq : ((M : Int) + 7) / 8 = (Lm : Int) := by rw [hLm, ← hM]; omega
  have HM : Hid (M = n * d) := hM
  have HLm : Hid (Lm = (n * d + 7) / 8) := hLm
  have hmk := fun u => make_bytes Lm (by omega) u
  clear hLm hnd hM
  go_enter Tryd.func13, Tryd.ntmps13
  go_wp2_with fail
  go_loopw [7] (fun a wr => ∃ k : Nat, k ≤ n ∧ a = .int .i64 k ∧ ∃ m, wr = w.drewN m) (fun a _ => n - (intOf a).toNat)
  case atStart => exact ⟨0, Nat.zero_le _, rfl, 0, rfl⟩
  case round =>
    obtain ⟨k, hk, rfl, m0, rfl⟩ := hrel
    by_cases hkn : k < n
    · have hkx : k < xs.length := by have := HN.out; omega
      have hki : (k : Int) < (xs.length : Int) := by omega
      rcases HV.out with ⟨_, _, _, h0⟩ | ⟨b, off, cap, rfl, hc⟩
      · rw [h0] at hkx; simp at hkx
      · have hcell := hc k hkx
        obtain ⟨x, hxx⟩ : ∃ x, x = xs.getD k 0 := ⟨_, rfl⟩
        rw [← hxx] at hcell
        have hf := HA.out k hkx
        rw [← hxx, fits_iff x d h2] at hf
        obtain ⟨hf1, hf2⟩ := hf
        have hxd : decide (x < 0) = false := by simp; omega
        clear hxx hc hmk hlen
        have hlen : ∀ u : World, (Builtin.len_ #[32] 3 #[.slice (some ⟨b, off, none⟩) xs.length cap]).run Tryd.prog u = .ok (.int .i64 (n : Int)) u := fun u => by rw [HN.out]; exact run_len_slice u 32 3 _ _ _ (by kernel_rfl)
        go_wp2_with fail
        go_quiet (fail)
        go_wp2
        clear hf1 hf2
        go_roundw
        case rel => exact ⟨k + 1, by omega, by go_num, m0 + nq, rfl⟩
        case measure => simp [intOf]; omega
    · have hMM := HMM.out
      go_wp2_with fail
      clear hMM hmk hLq hkn hk
      have HO : Hid (Out ((w.drewN m0).alloc (.cells (madeCells #[.int .u8 0] Lm) 5)) w.heap.size (List.replicate Lm 0) Lm) := out_new _ _ _ (by have := HLm.out; have := HM.out; omega) (by simp)
      have HB0 : Hid (Below w.heap.size w ((w.drewN m0).alloc (.cells (madeCells #[.int .u8 0] Lm) 5))) := (below_drewN (Below.refl _ _) m0).alloc (by simp) _
      generalize (w.drewN m0).alloc (.cells (madeCells #[.int .u8 0] Lm) 5) = w2 at HO HB0 ⊢
      go_loopw [9, 10] (fun a c wr => ∃ (i A : Nat) (bs : List UInt8), i ≤ n ∧ c = .int .i64 i ∧ a = .int .i64 A ∧ A = i * d ∧ Out wr w.heap.size bs Lm ∧ Plain.val bs = Plain.packN d ((xs.take i).map Int.toNat) ∧ Below w.heap.size w wr) (fun _ c _ => n - (intOf c).toNat)
      case atStart => exact ⟨0, 0, _, Nat.zero_le _, rfl, rfl, by simp, HO.out, by simp [Plain.val_zeros, Plain.packN], HB0.out⟩
      case round =>
        obtain ⟨i, A, bs, hin, rfl, rfl, hA, hO, hV, hB⟩ := hrel
        have HA' : Hid (A = i * d) := hA
        have HO1 : Hid (Out wr w.heap.size bs Lm) := hO
        have HV1 : Hid (Plain.val bs = Plain.packN d ((xs.take i).map Int.toNat)) := hV
        have HB1 : Hid (Below w.heap.size w wr) := hB
        have hA9 : A ≤ 992000000000 := by rw [hA]; exact Nat.le_trans (Nat.mul_le_mul hin h2) (by omega)
        clear hA hO hV hB
        by_cases hlt : i < n
        · have hix : i < xs.length := by have := HN.out; omega
          have hii : (i : Int) < (xs.length : Int) := by omega
          have hfit := HA.out i hix
          obtain ⟨m, hm⟩ : ∃ m : Nat, xs.getD i 0 = (m : Int) := ⟨(xs.getD i 0).toNat, by simp [fitsB] at hfit; simp; omega⟩
          have hmlt := fits_nat hfit hm
          have hm62 : m < 4611686018427387904 := by have hp62 : (2 : Nat) ^ d ≤ 2 ^ 62 := Nat.pow_le_pow_right (by decide) h2
                                                    omega
          have HMl : Hid (m < 2 ^ d) := hmlt
          have HMX : Hid ((xs.getD i 0).toNat = m) := by simp only [Hid]; rw [hm]; simp
          rcases HV.out with ⟨_, _, _, h0⟩ | ⟨b, off, cap, rfl, hc⟩
          · rw [h0] at hix; simp at hix
          · have HC : Hid (w.cell? ⟨b, off + i, none⟩ = some (.int .i64 (m : Int))) := by simp only [Hid]; rw [hc i hix, hm]
            have HPL : Hid (Plain.packN d ((xs.take i).map Int.toNat) < 2 ^ A) := by simp only [Hid]; rw [HA'.out]; exact take_lt xs d i HA.out (by omega)
            have hlen2 : ∀ u : World, (Builtin.len_ #[32] 3 #[.slice (some ⟨b, off, none⟩) xs.length cap]).run Tryd.prog u = .ok (.int .i64 (n : Int)) u := hlen
            have HAL : Hid (A + d ≤ 8 * Lm) := by
              have h5 := HLm.out
              have h6 := HA'.out
              have h7 : (i + 1) * d ≤ n * d := Nat.mul_le_mul_right _ (by omega)
              rw [Nat.succ_mul] at h7
              simp only [Hid]
              omega
            clear hc hfit hm hmlt hlen
            go_wp2_with fail
            go_loopw [9, 11] (fun a c wr' => ∃ (q E : Nat) (cs : List UInt8), q ≤ d ∧ c = .int .i64 q ∧ a = .int .i64 E ∧ E = A + q ∧ Out wr' w.heap.size cs Lm ∧ Plain.val cs = Plain.val bs + m % 2 ^ q * 2 ^ A ∧ Below w.heap.size w wr') (fun _ c _ => d - (intOf c).toNat)
            case atStart => exact ⟨0, A, bs, Nat.zero_le _, rfl, rfl, rfl, HO1.out, by simp [Nat.mod_one], HB1.out⟩
            case round =>
              obtain ⟨q, E, cs, hq, rfl, rfl, hE, hO2, hV2, hB2⟩ := hrel
              have HE : Hid (E = A + q) := hE
              have HO2 : Hid (Out wr w.heap.size cs Lm) := hO2
              have HV2 : Hid (Plain.val cs = Plain.val bs + m % 2 ^ q * 2 ^ A) := hV2
              have HB2 : Hid (Below w.heap.size w wr) := hB2
              have hE9 : E ≤ 2000000000000 := by omega
              clear hE hO2 hV2 hB2
              by_cases hqd : q < d
              · have hcell : wr.cell? ⟨b, off + i, none⟩ = some (.int .i64 (m : Int)) := (HB2.out.cell (p := ⟨b, off + i, none⟩) (World.block_lt_of_cell? w _ HC.out)).trans HC.out
                obtain ⟨t, ht⟩ : ∃ t, t = m / 2 ^ q % 2 := ⟨_, rfl⟩
                have hbit : bits .and .i64 ((m : Int) / 2 ^ q) 1 = (t : Int) := by rw [ht]; exact bit_and m q hm62
                have ht2 : t = 0 ∨ t = 1 := by omega
                have HT : Hid (t = m / 2 ^ q % 2) := ht
                obtain ⟨p, hp⟩ : ∃ p, p = E / 8 := ⟨_, rfl⟩
                obtain ⟨r, hr⟩ : ∃ r, r = E % 8 := ⟨_, rfl⟩
                have hp8 : (E : Int) / 8 = (p : Int) := by omega
                have hr8 : (E : Int) % 8 = (r : Int) := by omega
                have hq1 : IntKind.i64.wrap (p : Int) = (p : Int) := by rw [IntKind.wrap_i64]; omega
                have hr1 : (E : Int).tmod 8 = (r : Int) := by rw [Int.tmod_eq_emod_of_nonneg (by omega)]; omega
                have HPR : Hid (8 * p + r = E ∧ r < 8) := by simp only [Hid]; omega
                have hr0 : (0 : Int) ≤ (r : Int) := by omega
                have hr7 : (r : Int) < 8 := by omega
                have hp0 : (0 : Int) ≤ (p : Int) := by omega
                have hpL : (p : Int) < (Lm : Int) := by have := HAL.out; have := HE.out; omega
                have kl := HO2.out.cl (p := p) (by omega)
                have kf := HO2.out.2.frozenAt p
                obtain ⟨c, hc⟩ : ∃ c, c = cs.getD p 0 := ⟨_, rfl⟩
                rw [← hc] at kl
                have HCC : Hid (c = cs.getD p 0) := hc
                have HSM : Hid (Plain.val cs < 2 ^ (8 * p + r)) := by simp only [Hid]; rw [HPR.out.1, HE.out, HV2.out, HV1.out]; exact low_sum _ _ _ _ HPL.out
                clear hc ht hp hr
                rcases ht2 with rfl | rfl
                · go_wp2_with fail
                  go_roundw
                  case rel => exact ⟨q + 1, E + 1, cs, by omega, by go_num, by go_num, by have := HE.out; omega, HO2.out, by rw [HV2.out, bit_more, ← HT.out]; simp, HB2.out⟩
                  case measure => simp [intOf]; omega
                · go_wp2_with fail
                  go_still_tail 13, (by kernel_rfl)
                  go_wp2
                  obtain ⟨cs', R1, R2⟩ := out_bit HO2.out (p := p) (r := r) (by omega) (by omega) HSM.out HCC.out rfl
                  have R3 : Plain.val cs' = Plain.val bs + m % 2 ^ (q + 1) * 2 ^ A := by
                    rw [R2, HV2.out, bit_more, ← HT.out, HPR.out.1, HE.out, Nat.pow_add, Nat.add_mul, Nat.one_mul, Nat.mul_comm (2 ^ A)]
                    omega
                  go_roundw
                  case rel => exact ⟨q + 1, E + 1, cs', by omega, by go_num, by go_num, by have := HE.out; omega, R1, R3, (HB2.out.setCell (by simp) _).drew⟩
                  case measure => simp [intOf]; omega
              · go_wp2_with fail
                have R1 : E = (i + 1) * d := by rw [Nat.succ_mul, HE.out, HA'.out]; omega
                have R2 : Plain.val cs = Plain.packN d ((xs.take (i + 1)).map Int.toNat) := by
                  have hqq : q = d := by omega
                  rw [take_snoc xs i hix, Plain.packN_snoc, HV2.out, HV1.out, HMX.out, hqq, Nat.mod_eq_of_lt HMl.out, HA'.out, List.length_map, List.length_take, Nat.min_eq_left (by omega), Nat.mul_comm i d]
                go_roundw
                case rel => exact ⟨i + 1, E, cs, by omega, by go_num, rfl, R1, HO2.out, R2, HB2.out⟩
                case measure => simp [intOf]; omega
        · have hcv := conv_own HO1.out.2
          have HP : Hid (Packed d xs bs) := by
            have e : xs.length = i := by have := HN.out; omega
            have h5 := HV1.out
            rw [List.take_of_length_le (by omega)] at h5
            refine ⟨?_, h5⟩
            have h6 := HLm.out
            have h7 := HN.out
            rw [HO1.out.1, h6, h7]
          go_wp2_with fail
          go_ret3
          exact ⟨⟨bs, HP.out, rfl⟩, HB1.out⟩
end Go.Proofs.YtnffjoipinhojaaDoor
