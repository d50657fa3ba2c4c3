import Derived.Test.YtnffjoipinhojaaDoorN
import Derived.Test.YtnffjoipinhojaaDoorPut
namespace Go.Proofs.YtnffjoipinhojaaDoor
open Go.RowKit

theorem nums_width (d : Int) (v : Value) (w : World) (h : d < 1 ∨ 62 < d) :
    Calls Tryd.prog 28 #[v, .int .i64 d] w fun x w' => x = .returned (.iface 82 (.agg #[.int .i64 3])) ∧ w = w' := by
  go_enter Tryd.func28, Tryd.ntmps28
  go_wp2_with (go_at_call 43; refine (width_bad _ _ h).mono ?_; rintro e w' ⟨rfl, rfl⟩)
  go_ret
  exact ⟨rfl, rfl⟩

/-- bits.Pack at a width out of its bounds -/
theorem pack_width (d : Int) (v : Value) (w : World) (hg : Handle w) (h : d < 1 ∨ 62 < d) :
    Calls Tryd.prog 12 #[v, .int .i64 d] w fun x w' => x = .returned (.tuple #[.string ⟨#[]⟩, .int .i64 3, .int .i64 0]) ∧ Below w.heap.size w w' := by
  have HG : Hid (Handle w) := hg
  clear hg
  go_enter Tryd.func12, Tryd.ntmps12
  go_wp2_with fail
  refine (nums_width d v w h).mono ?_
  rintro e w' ⟨rfl, rfl⟩
  go_wp2_with fail
  refine (number_any 3 _ HG.out).mono ?_
  rintro e w1 ⟨rfl, hb1⟩
  have HB1 : Hid (Below w.heap.size w w1) := hb1
  clear hb1
  go_wp2_with fail
  refine (place_miss 3 _ (HG.out.below HB1.out)).mono ?_
  rintro e w2 ⟨rfl, hb2⟩
  have HB2 : Hid (Below w.heap.size w w2) := HB1.out.trans (hb2.mono HB1.out.size)
  clear hb2
  go_wp2_with fail
  go_ret3
  exact ⟨rfl, HB2.out⟩

/-- bits.Pack where a number is out of the width's bounds -/
theorem pack_bad (xs : List Int) (d i : Nat) (v : Value) (w : World) (hg : Handle w) (hv : Ints w v xs) (hx : ∀ i, I64 (xs.getD i 0)) (hl : xs.length ≤ 16000000000) (h1 : 1 ≤ d) (h2 : d ≤ 62) (hb : bad d xs i) :
    Calls Tryd.prog 12 #[v, .int .i64 d] w fun x w' => x = .returned (.tuple #[.string ⟨#[]⟩, .int .i64 3, .int .i64 i]) ∧ Below w.heap.size w w' := by
  have HG : Hid (Handle w) := hg
  have HBad : Hid (bad d xs i) := hb
  have HV : Hid (Ints w v xs) := hv
  have HXX : Hid (∀ i, I64 (xs.getD i 0)) := hx
  clear hg hb hv hx
  go_enter Tryd.func12, Tryd.ntmps12
  go_wp2_with fail
  refine (nums_any xs d v w HV.out HXX.out (by omega) h1 h2).mono ?_
  rintro e w' ⟨ha, rfl⟩
  rcases ha with ⟨hall, rfl⟩ | ⟨j, hj, rfl⟩
  · have := HBad.out.2.2
    rw [hall i HBad.out.1] at this
    cases this
  · obtain rfl : i = j := by
      rcases Nat.lt_trichotomy i j with e | e | e
      · have := hj.2.1 i e; rw [HBad.out.2.2] at this; cases this
      · exact e
      · have := HBad.out.2.1 j e; rw [hj.2.2] at this; cases this
    clear hj
    go_wp2_with fail
    refine (number_placed i 3 _ HG.out).mono ?_
    rintro e w1 ⟨rfl, hb1⟩
    have HB1 : Hid (Below w.heap.size w w1) := hb1
    clear hb1
    go_wp2_with fail
    refine (place_hit i 3 _ (HG.out.below HB1.out)).mono ?_
    rintro e w2 ⟨rfl, hb2⟩
    have HB2 : Hid (Below w.heap.size w w2) := HB1.out.trans (hb2.mono HB1.out.size)
    clear hb2
    go_wp2_with fail
    go_ret3
    exact ⟨rfl, HB2.out⟩

/-- The bytes that the numbers make. -/
def Packed (d : Nat) (xs : List Int) (bs : List UInt8) : Prop := bs.length = (xs.length * d + 7) / 8 ∧ Plain.val bs = Plain.packN d (xs.map Int.toNat)

theorem Packed.one {d : Nat} {xs : List Int} {a b : List UInt8} (h : Packed d xs a) (g : Packed d xs b) : a = b :=
  Plain.val_inj a b (h.1.trans g.1.symm) (h.2.trans g.2.symm)

theorem wr_new (w : World) : Wr (w.alloc (.cells #[.slice none 0 0, .int .i64 0] 64)) w.heap.size [] 0 :=
  ⟨⟨.slice none 0 0, by simp, World.ownsRow_nil _ _ _ _⟩, by simp, by simp, by simp, by simp, by simp, by simp [Plain.val], by simp⟩

theorem take_snoc (xs : List Int) (k : Nat) (h : k < xs.length) : (xs.take (k + 1)).map Int.toNat = (xs.take k).map Int.toNat ++ [(xs.getD k 0).toNat] := by
  rw [List.take_succ_eq_append_getElem h, List.map_append, List.map_cons, List.map_nil, List.getD_eq_getElem?_getD, List.getElem?_eq_getElem h]
  rfl

theorem pack_step (xs : List Int) (d k m : Nat) (bs bs' : List UInt8) (hk : k < xs.length) (hm : m < 2 ^ d) (hmx : (xs.getD k 0).toNat = m) (h : Plain.val bs = Plain.packN d ((xs.take k).map Int.toNat)) (hv : Plain.val bs' = Plain.val bs + m % 2 ^ d * 2 ^ (k * d)) :
    Plain.val bs' = Plain.packN d ((xs.take (k + 1)).map Int.toNat) := by
  rw [take_snoc xs k hk, Plain.packN_snoc, ← h, hv, hmx, Nat.mod_eq_of_lt hm, List.length_map, List.length_take, Nat.min_eq_left (by omega), Nat.mul_comm k d]

set_option maxHeartbeats 400000 in
/-- bits.Pack of numbers that fit -/
theorem pack_ok (xs : List Int) (d : Nat) (v : Value) (w : World) (hv : Ints w v xs) (hx : ∀ i, I64 (xs.getD i 0)) (hl : xs.length ≤ 16000000000) (h1 : 1 ≤ d) (h2 : d ≤ 62) (hall : ∀ j, j < xs.length → fitsB (xs.getD j 0) d = true) :
    Calls Tryd.prog 12 #[v, .int .i64 d] w fun x w' => (∃ bs, Packed d xs bs ∧ x = .returned (.tuple #[.string ⟨bs.toArray⟩, .int .i64 0, .int .i64 0])) ∧ Below w.heap.size w w' := by
  have HA : Hid (∀ j, j < xs.length → fitsB (xs.getD j 0) d = true) := hall
  have HV : Hid (Ints w v xs) := hv
  have HXX : Hid (∀ i, I64 (xs.getD i 0)) := hx
  clear hall hv hx
  obtain ⟨n, hn⟩ : ∃ n, n = xs.length := ⟨_, rfl⟩
  have HN : Hid (n = xs.length) := hn
  have hnl : n ≤ 16000000000 := by omega
  clear hn hl
  have hlen : ∀ u : World, (Builtin.len_ #[32] 3 #[v]).run Tryd.prog u = .ok (.int .i64 (n : Int)) u := by
    intro u
    rcases HV.out with ⟨a0, cap0, rfl, hx0⟩ | ⟨b, off, cap, rfl, _⟩
    · have hn0 : n = 0 := by rw [HN.out, hx0]; rfl
      subst hn0
      exact run_len_slice u 32 3 a0 0 cap0 (by kernel_rfl)
    · rw [HN.out]
      exact run_len_slice u 32 3 _ _ _ (by kernel_rfl)
  go_enter Tryd.func12, Tryd.ntmps12
  go_wp2_with fail
  refine (nums_any xs d v w HV.out HXX.out (by have := HN.out; omega) h1 h2).mono ?_
  rintro e w' ⟨ha, rfl⟩
  rcases ha with ⟨_, rfl⟩ | ⟨j, hj, rfl⟩
  · go_wp2_with fail
    go_loopw [22] (fun i wr => ∃ (k : Nat) (bs : List UInt8), k ≤ n ∧ i = .int .i64 k ∧ Wr wr w.heap.size bs (k * d) ∧ Plain.val bs = Plain.packN d ((xs.take k).map Int.toNat) ∧ Below w.heap.size w wr) (fun i _ => n - (intOf i).toNat)
    case atStart => exact ⟨0, [], Nat.zero_le _, rfl, by rw [Nat.zero_mul]; exact wr_new w, by simp [Plain.val, Plain.packN], (Below.refl _ _).alloc (Nat.le_refl _) _⟩
    case round =>
      obtain ⟨k, bs, hk, rfl, hwr, hval, hb⟩ := hrel
      have HW : Hid (Wr wr w.heap.size bs (k * d)) := hwr
      have HVAL : Hid (Plain.val bs = Plain.packN d ((xs.take k).map Int.toNat)) := hval
      have HB : Hid (Below w.heap.size w wr) := hb
      clear hwr hval hb
      by_cases hlt : k < n
      · have hkx : k < xs.length := by have := HN.out; omega
        have hki : (k : Int) < (xs.length : Int) := by omega
        have hfit := HA.out k hkx
        obtain ⟨m, hm⟩ : ∃ m : Nat, xs.getD k 0 = (m : Int) := ⟨(xs.getD k 0).toNat, by simp [fitsB] at hfit; simp; omega⟩
        have hmlt : m < 2 ^ d := by rw [hm] at hfit; simp only [fitsB, decide_eq_true_eq] at hfit; have e : ((2 : Int) ^ d) = ((2 ^ d : Nat) : Int) := by simp
                                    rw [e] at hfit; omega
        have hp62 : (2 : Nat) ^ d ≤ 2 ^ 62 := Nat.pow_le_pow_right (by decide) h2
        have hm62 : m < 4611686018427387904 := by omega
        have HM : Hid (m < 2 ^ d) := hmlt
        have HMX : Hid ((xs.getD k 0).toNat = m) := by simp only [Hid]; rw [hm]; simp
        have hkd : k * d ≤ 16000000000 * 62 := Nat.mul_le_mul (by omega) h2
        rcases HV.out with ⟨_, _, _, h0⟩ | ⟨b, off, cap, rfl, hc⟩
        · rw [h0] at hkx; simp at hkx
        · have hcell : wr.cell? ⟨b, off + k, none⟩ = some (.int .i64 (m : Int)) := by
            have h5 := hc k hkx
            rw [hm] at h5
            exact (HB.out.cell (p := ⟨b, off + k, none⟩) (World.block_lt_of_cell? w _ h5)).trans h5
          clear hc hfit hm hmlt hp62
          go_wp2_with (first | (go_at_call 30; refine (put_any _ _ _ _ bs _ HW.out (by omega) (by omega) (by omega)).mono ?_; rintro e w1 ⟨rfl, bs', hw1, hv1, hb1⟩))
          have R := pack_step xs d k m bs bs' hkx HM.out HMX.out HVAL.out hv1
          have R2 : Wr w1 w.heap.size bs' ((k + 1) * d) := by rw [Nat.succ_mul]; exact hw1
          have R3 := HB.out.trans hb1
          go_roundw
          case rel => exact ⟨k + 1, bs', by omega, by go_num, R2, R, R3⟩
          case measure => simp [intOf]; omega
      · obtain ⟨u, hu, hown⟩ := HW.out.own
        have hcv := conv_own hown
        have HO : Hid (Packed d xs bs) := by
          have e : xs.length = k := by have := HN.out; omega
          have h3 := HW.out.le
          have h4 := HW.out.lt
          have h5 := HVAL.out
          rw [List.take_of_length_le (by omega)] at h5
          exact ⟨by rw [e]; omega, h5⟩
        clear hown
        go_wp2_with fail
        go_ret3
        exact ⟨⟨bs, HO.out, rfl⟩, HB.out⟩
  · have := hj.2.2
    rw [HA.out j hj.1] at this
    cases this
end Go.Proofs.YtnffjoipinhojaaDoor
