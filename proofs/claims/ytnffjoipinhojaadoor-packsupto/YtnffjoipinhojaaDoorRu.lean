import Derived.Test.YtnffjoipinhojaaDoorUn
import Derived.Test.YtnffjoipinhojaaDoorRq
namespace Go.Proofs.YtnffjoipinhojaaDoor
open Go.RowKit

theorem wrap_mulI (a b B : Nat) (h : a * b ≤ B) (hB : B ≤ 9223372036854775807) : IntKind.i64.wrap ((a : Int) * (b : Int)) = ((a * b : Nat) : Int) := by
  have e : (a : Int) * (b : Int) = ((a * b : Nat) : Int) := by simp
  rw [e]
  generalize a * b = M at *
  rw [IntKind.wrap_i64]
  omega

/-- trineref.Unpack out of its bounds -/
theorem ru_range (s : ByteArray) (d c : Int) (w : World) (h : (d < 1 ∨ 62 < d) ∨ (1 ≤ d ∧ d ≤ 62 ∧ c < 0)) :
    Calls Tryd.prog 16 #[.string s, .int .i64 d, .int .i64 c] w fun x w' => x = .returned (.tuple #[.slice none 0 0, .int .i64 3]) ∧ w = w' := by
  rcases h with (h | h) | ⟨h1, h2, h3⟩
  · go_enter Tryd.func16, Tryd.ntmps16
    go_wp2
    go_ret2
    exact ⟨rfl, rfl⟩
  · have h1 : ¬ d < 1 := by omega
    go_enter Tryd.func16, Tryd.ntmps16
    go_wp2
    go_ret2
    exact ⟨rfl, rfl⟩
  · have h1' : ¬ d < 1 := by omega
    have h2' : ¬ 62 < d := by omega
    go_enter Tryd.func16, Tryd.ntmps16
    go_wp2
    go_ret2
    exact ⟨rfl, rfl⟩

theorem fit_big (l : List UInt8) (d c : Nat) (hd : 1 ≤ d) (h : 8 * l.length / d < c) : ¬ Fit l d c := by
  rintro ⟨h1, _⟩
  have h2 : 8 * l.length < c * d := (Nat.div_lt_iff_lt_mul (by omega)).1 h
  omega

set_option maxHeartbeats 400000 in
/-- .. where the length doesn't fit -/
theorem ru_len (s : ByteArray) (d c : Nat) (w : World) (hs : s.size ≤ 1000000000) (h1 : 1 ≤ d) (h2 : d ≤ 62) (hc : c ≤ 9223372036854775807) (h : s.size ≠ (c * d + 7) / 8) :
    Calls Tryd.prog 16 #[.string s, .int .i64 d, .int .i64 c] w fun x w' => x = .returned (.tuple #[.slice none 0 0, .int .i64 8]) ∧ w = w' := by
  have hd1 : ¬ (d : Int) < 1 := by omega
  have hd2 : ¬ (62 : Int) < (d : Int) := by omega
  have hc0 : ¬ (c : Int) < 0 := by omega
  have hd0 : ((d : Int) == 0) = false := by simp; omega
  obtain ⟨Q, hQ⟩ : ∃ Q, Q = 8 * s.size / d := ⟨_, rfl⟩
  have hQd : (8 * ((s.size : Nat) : Int)) / (d : Int) = (Q : Int) := by rw [hQ]; simp
  by_cases hcQ : Q < c
  · clear hQ h
    go_enter Tryd.func16, Tryd.ntmps16
    go_wp2
    go_ret2
    exact ⟨rfl, rfl⟩
  · have hcd : c * d ≤ 8 * s.size := Nat.le_trans (Nat.mul_le_mul_right d (show c ≤ 8 * s.size / d by omega)) (Nat.div_mul_le_self _ _)
    have HM := wrap_mul c d _ hcd (by omega)
    obtain ⟨M, hM⟩ : ∃ M, M = c * d := ⟨_, rfl⟩
    rw [← hM] at HM h hcd
    have hne : (((s.size : Nat) : Int) != ((M : Int) + 7) / 8) = true := by simp; omega
    clear hQ hM
    go_enter Tryd.func16, Tryd.ntmps16
    go_wp2
    go_ret2
    exact ⟨rfl, rfl⟩

theorem bit_and8 (m q : Nat) (hm : m < 256) : bits .and .u8 ((m : Int) / 2 ^ q) 1 = ((m / 2 ^ q % 2 : Nat) : Int) := by
  have e : (m : Int) / 2 ^ q = ((m / 2 ^ q : Nat) : Int) := by simp
  have h := Nat.div_le_self m (2 ^ q)
  have hn := u8_and_nat (m / 2 ^ q) 1 (by omega) (by decide)
  rw [e]
  have e1 : ((1 : Nat) : Int) = 1 := rfl
  rw [e1] at hn
  rw [hn, nat_mask1]
theorem or_join (acc X q : Nat) (ha : acc < 2 ^ q) (hX : X % 2 ^ q = 0) (hs : acc + X < 4611686018427387904) : bits .or .i64 (acc : Int) (wrap64 (X : Int)) = ((acc + X : Nat) : Int) := by
  have w2 : wrap64 (X : Int) = (X : Int) := IntWalk.wrap64_in _ (by omega)
  have hn := (bits_nat .i64 63 (by decide) Plain.wraps_i64 acc X (by omega) (by omega)).2
  rw [w2, hn, Nat.or_comm, nat_join q _ _ hX ha, Nat.add_comm]
theorem ref_step (V A q t acc : Nat) (hacc : acc = V / 2 ^ A % 2 ^ q) (ht : t = V / 2 ^ (A + q) % 2) (hq : q ≤ 61) : bits .or .i64 (acc : Int) (wrap64 ((t : Int) * 2 ^ q)) = ((V / 2 ^ A % 2 ^ (q + 1) : Nat) : Int) := by
  have e3 : V / 2 ^ A % 2 ^ (q + 1) = acc + t * 2 ^ q := by
    rw [Nat.pow_succ, Nat.mod_mul, ← hacc, ht, Nat.div_div_eq_div_mul, ← Nat.pow_add, Nat.mul_comm (2 ^ q)]
  have ha : acc < 2 ^ q := by rw [hacc]; exact Nat.mod_lt _ (Nat.two_pow_pos q)
  have hs : V / 2 ^ A % 2 ^ (q + 1) < 4611686018427387904 := Nat.lt_of_lt_of_le (Nat.mod_lt _ (Nat.two_pow_pos _)) (Nat.pow_le_pow_right (n := 2) (by decide) (show q + 1 ≤ 62 by omega))
  have c1 : (t : Int) * 2 ^ q = ((t * 2 ^ q : Nat) : Int) := by simp
  rw [c1, e3]
  rw [e3] at hs
  exact or_join acc (t * 2 ^ q) q ha (Nat.mul_mod_left _ _) hs

theorem oneInt (b : Int) : ∀ u ∈ [Value.int .i64 b], u.oneCell' = true := by
  intro u hu
  simp at hu
  subst hu
  rfl
theorem one_int (w : World) (b : Int) : ∀ j v, [Value.int .i64 b][j]? = some v → (w.alloc (.cells #[.int .i64 b] 3)).cell? ((⟨w.heap.size, 0, none⟩ : Addr).add j) = some v := by
  intro j v hj
  match j, hj with
  | 0, hj => simp at hj; subst hj; simp [Addr.add]
theorem own_app {w : World} {base V d k : Nat} {v : Value} {x : Int} (h : w.ownsRow base 3 1 v ((Nums V d k).length + 1) ((Nums V d k).map (Value.int .i64) ++ [.int .i64 x])) (hx : x = ((V / 2 ^ (k * d) % 2 ^ d : Nat) : Int)) : Own w base v (Nums V d (k + 1)) := by
  subst hx
  unfold Own
  rw [nums_succ, List.length_append, List.map_append]
  exact h
theorem own_below {w w' : World} {base : Nat} {v : Value} {xs : List Int} (h : Own w base v xs) (hb : Below w.heap.size w w') : Own w' base v xs := by
  refine ⟨h.1, ?_⟩
  rcases h.2 with h0 | ⟨g, cap, cur, rfl, hg, hc, rest⟩
  · exact .inl h0
  · exact .inr ⟨g, cap, cur, rfl, hg, by rw [hb.block g (Array.getElem?_eq_some_iff.1 hc).1]; exact hc, rest⟩
theorem nums_fit (V d k : Nat) : ∀ j, j < (Nums V d k).length → fitsB ((Nums V d k).getD j 0) d = true := by
  intro j hj
  rw [nums_len] at hj
  have e : (Nums V d k).getD j 0 = ((V / 2 ^ (j * d) % 2 ^ d : Nat) : Int) := by simp [Nums, hj]
  rw [e]
  have h1 : V / 2 ^ (j * d) % 2 ^ d < 2 ^ d := Nat.mod_lt _ (Nat.two_pow_pos d)
  have c1 : ((2 : Int) ^ d) = ((2 ^ d : Nat) : Int) := by simp
  simp only [fitsB, decide_eq_true_eq, c1]
  omega
theorem fit_packed (s : ByteArray) (d c : Nat) (bs : List UInt8) (hp : Packed d (Nums (Plain.val s.data.toList) d c) bs) (hs : s.size = (c * d + 7) / 8) : bs = s.data.toList ↔ Fit s.data.toList d c := by
  have e : s.data.toList.length = s.size := by simp
  have hv : Plain.val bs = Plain.val s.data.toList % 2 ^ (c * d) := by
    rw [hp.2]
    have : (Nums (Plain.val s.data.toList) d c).map Int.toNat = (List.range c).map fun i => Plain.val s.data.toList / 2 ^ (i * d) % 2 ^ d := by
      rw [Nums, List.map_map]
      apply List.map_congr_left
      intro i _
      exact Int.toNat_natCast _
    rw [this, Plain.packN_cut]
  constructor
  · intro h
    refine ⟨by rw [e]; exact hs, ?_⟩
    rw [h] at hv
    rw [hv]
    exact Nat.mod_lt _ (Nat.two_pow_pos _)
  · intro h
    refine Plain.val_inj _ _ ?_ ?_
    · rw [hp.1, nums_len, e, hs]
    · rw [hv, Nat.mod_eq_of_lt h.2]

set_option maxHeartbeats 1600000 in
set_option maxRecDepth 20000 in
/-- .. where it does: the numbers, or none if the rest isn't 0 -/
theorem ru_any (s : ByteArray) (d c : Nat) (w : World) (hs : s.size ≤ 1000000000) (h1 : 1 ≤ d) (h2 : d ≤ 62) (h : s.size = (c * d + 7) / 8) :
    Calls Tryd.prog 16 #[.string s, .int .i64 d, .int .i64 c] w fun x w' =>
      ((Fit s.data.toList d c ∧ ∃ v, x = .returned (.tuple #[v, .int .i64 0]) ∧ Own w' w.heap.size v (Nums (Plain.val s.data.toList) d c)) ∨ (¬ Fit s.data.toList d c ∧ x = .returned (.tuple #[.slice none 0 0, .int .i64 8]))) ∧ Below w.heap.size w w' := by
  have hd1 : ¬ (d : Int) < 1 := by omega
  have hd2 : ¬ (62 : Int) < (d : Int) := by omega
  have hc0 : ¬ (c : Int) < 0 := by omega
  have hd0 : ((d : Int) == 0) = false := by simp; omega
  have hcd0 : c * 1 ≤ c * d := Nat.mul_le_mul_left _ h1
  have hcb : c ≤ 8000000000 := by omega
  obtain ⟨Q, hQ⟩ : ∃ Q, Q = 8 * s.size / d := ⟨_, rfl⟩
  have hQd : (8 * ((s.size : Nat) : Int)) / (d : Int) = (Q : Int) := by rw [hQ]; simp
  have hcQ : ¬ Q < c := by
    intro hlt
    rw [hQ] at hlt
    have := (Nat.div_lt_iff_lt_mul (by omega)).1 hlt
    omega
  have HM := wrap_mulI c d (c * d) (Nat.le_refl _) (by omega)
  obtain ⟨M, hM⟩ : ∃ M, M = c * d := ⟨_, rfl⟩
  rw [← hM] at HM h
  have hMb : M ≤ 8000000000 := by omega
  have hne : (((s.size : Nat) : Int) != ((M : Int) + 7) / 8) = false := by simp; omega
  have HS : Hid (s.size = (c * d + 7) / 8) := by simp only [Hid]; rw [← hM]; exact h
  have HMM : Hid (M = c * d) := hM
  obtain ⟨V, hV⟩ : ∃ V, V = Plain.val s.data.toList := ⟨_, rfl⟩
  rw [← hV]
  have HV : Hid (V = Plain.val s.data.toList) := hV
  obtain ⟨i0, hi, hz0, hz1, hz2⟩ := info_parts info3
  clear hQ hM h hcd0 hV
  go_enter Tryd.func16, Tryd.ntmps16
  go_wp2_with fail
  clear HM hne hQd hcQ
  go_loopw [8, 9] (fun a b wr => ∃ k : Nat, k ≤ c ∧ b = .int .i64 k ∧ Own wr w.heap.size a (Nums V d k) ∧ Below w.heap.size w wr) (fun _ b _ => c - (intOf b).toNat)
  case atStart => exact ⟨0, Nat.zero_le _, rfl, World.ownsRow_nil _ _ _ _, Below.refl _ _⟩
  case round =>
    obtain ⟨k, hk, rfl, hown, hb⟩ := hrel
    have HO : Hid (Own wr w.heap.size u8 (Nums V d k)) := hown
    have HB : Hid (Below w.heap.size w wr) := hb
    clear hown hb
    by_cases hlt : k < c
    · have hkd : k * d + d ≤ c * d := by
        have h5 : (k + 1) * d ≤ c * d := Nat.mul_le_mul_right _ hlt
        rw [Nat.succ_mul] at h5
        exact h5
      have hcs : c * d ≤ 8 * s.size := by have := HS.out; omega
      have HMK : Hid (IntKind.i64.wrap ((k : Int) * (d : Int)) = ((k * d : Nat) : Int)) := wrap_mulI k d (8 * s.size) (by omega) (by omega)
      obtain ⟨A, hA⟩ : ∃ A, A = k * d := ⟨_, rfl⟩
      rw [← hA] at HMK hkd
      have hAs : A + d ≤ 8 * s.size := by omega
      have HA : Hid (A = k * d) := hA
      clear hA hkd hcs
      go_wp2_with fail
      go_loop [10, 11] (fun a b => ∃ q acc : Nat, q ≤ d ∧ b = .int .i64 q ∧ a = .int .i64 acc ∧ acc = V / 2 ^ A % 2 ^ q) (fun _ b => d - (intOf b).toNat)
      case atStart => exact ⟨0, 0, Nat.zero_le _, rfl, rfl, by simp [Nat.mod_one]⟩
      case round =>
        obtain ⟨q, acc, hq, rfl, rfl, hacc⟩ := hrel
        have HACC : Hid (acc = V / 2 ^ A % 2 ^ q) := hacc
        have haccb : acc < 4611686018427387904 := by rw [hacc]; exact Nat.lt_of_lt_of_le (Nat.mod_lt _ (Nat.two_pow_pos q)) (Nat.pow_le_pow_right (n := 2) (by decide) (show q ≤ 62 by omega))
        clear hacc
        by_cases hqd : q < d
        · obtain ⟨p, hp⟩ : ∃ p, p = (A + q) / 8 := ⟨_, rfl⟩
          obtain ⟨r, hr⟩ : ∃ r, r = (A + q) % 8 := ⟨_, rfl⟩
          have hpe : ((A : Int) + (q : Int)) / 8 = (p : Int) := by omega
          have hre : ((A : Int) + (q : Int)) % 8 = (r : Int) := by omega
          have hps : p < s.size := by omega
          have hby : s[p].toNat < 256 := s[p].toNat_lt
          obtain ⟨t, ht⟩ : ∃ t, t = s[p].toNat / 2 ^ r % 2 := ⟨_, rfl⟩
          have hbit : bits .and .u8 ((s[p].toNat : Int) / 2 ^ r) 1 = (t : Int) := by rw [ht]; exact bit_and8 _ r hby
          have ht2 : t < 2 := by omega
          have HT : Hid (bits .or .i64 (acc : Int) (wrap64 ((t : Int) * 2 ^ q)) = ((V / 2 ^ A % 2 ^ (q + 1) : Nat) : Int)) := by
            refine ref_step V A q t acc HACC.out ?_ (by omega)
            rw [ht, HV.out, ← Plain.val_bit, ← hp, ← hr, byte_at s p hps]
          have hr0 : (0 : Int) ≤ (r : Int) := by omega
          have hr7 : (r : Int) < 8 := by omega
          have hEs : (A : Int) + (q : Int) ≤ 8000000000 := by omega
          have hMK := HMK.out
          clear hp hr ht
          go_wp2
          go_round
          case rel => exact ⟨q + 1, _, by omega, by go_num, by rw [HT.out], rfl⟩
          case measure => simp [intOf]; omega
        · have HNX : Hid ((acc : Int) = ((V / 2 ^ (k * d) % 2 ^ d : Nat) : Int)) := by
            have hqe : q = d := by omega
            simp only [Hid]
            rw [HACC.out, HA.out, hqe]
          have hown : wr.ownsRow w.heap.size 3 1 u8 (Nums V d k).length ((Nums V d k).map (Value.int .i64)) := HO.out
          have hws : w.heap.size ≤ wr.heap.size := HB.out.size
          have hnl := nums_len V d k
          have HNL : Hid ((Nums V d k).length = k) := hnl
          clear hnl
          go_wp2_with (first
            | (at_builtin; refine wpList_append_own _ rfl (.tmp 71) (.tmp 73) 32 rfl w.heap.size 3 i0 (.int .i64 0) 1 8 Tryd.underlying32 hi hz0 hz1 hz2 rfl (by decide) _ _ _ rfl (hown.alloc _) ⟨wr.heap.size, 0, none⟩ 1 1 [.int .i64 (acc : Int)] rfl rfl (one_int _ _) (oneInt _) (by rw [HNL.out]; unfold maxLen; omega) (by rw [HNL.out]; omega) (by simp; omega) ?_; intro v' w1 hown' hgrow _; have R1 := own_app hown' HNX.out; have R2 := Below.grown (HB.out.alloc hws _) hgrow (by simp; omega) (fun j hj => (hown.lt j hj).1); clear hown' hgrow hown))
          go_roundw
          case rel => exact ⟨k + 1, by omega, by go_num, R1, R2⟩
          case measure => simp [intOf]; omega
    · have hkc : k = c := by omega
      subst hkc
      have HI : Hid (Ints wr u8 (Nums V d k)) := own_ints HO.out
      have HAL : Hid (∀ j, j < (Nums V d k).length → fitsB ((Nums V d k).getD j 0) d = true) := nums_fit V d k
      go_wp2_with fail
      refine (rpack_ok (Nums V d k) d u8 wr HI.out (by rw [nums_len]; omega) h1 h2 HAL.out).mono ?_
      rintro e w1 ⟨⟨bs, hp, rfl⟩, hb1⟩
      have HB1 : Hid (Below w.heap.size w w1) := HB.out.trans (hb1.mono HB.out.size)
      have HO1 : Hid (Own w1 w.heap.size u8 (Nums V d k)) := own_below HO.out hb1
      have HQ : Hid (bs = s.data.toList ↔ Fit s.data.toList d k) := by rw [HV.out] at hp; exact fit_packed s d k bs hp HS.out
      clear hb1 hp
      by_cases hbs : bs = s.data.toList
      · have HF : Hid (Fit s.data.toList d k) := HQ.out.1 hbs
        have heq : (⟨bs.toArray⟩ : ByteArray) = s := by rw [hbs]
        rw [heq]
        clear hbs
        go_wp2_with fail
        go_ret2
        exact ⟨.inl ⟨HF.out, _, rfl, HO1.out⟩, HB1.out⟩
      · have HF : Hid (¬ Fit s.data.toList d k) := fun h => hbs (HQ.out.2 h)
        have heq : (bs == s.toList) = false := by
          rw [beq_eq_false_iff_ne, ByteArray.toList_eq]
          exact hbs
        clear hbs
        go_wp2_with fail
        go_ret2
        exact ⟨.inr ⟨HF.out, rfl⟩, HB1.out⟩
end Go.Proofs.YtnffjoipinhojaaDoor
