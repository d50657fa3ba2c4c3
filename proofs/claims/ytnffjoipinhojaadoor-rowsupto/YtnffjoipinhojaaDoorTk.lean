import Derived.Test.YtnffjoipinhojaaDoorCp
import Derived.StillTactics
import Derived.Lib.MinMax
namespace Go.Proofs.YtnffjoipinhojaaDoor
open Go.RowKit

theorem low8_still (n c : Int) (w : World) (hn : 0 ≤ n) (hn2 : n < 256) (hc : 0 ≤ c) (hc2 : c ≤ 8) :
    Calls Tryd.prog 39 #[.int .u8 n, .int .i64 c] w fun e w' => e = .returned (.int .u8 ((n.toNat % 2 ^ c.toNat : Nat) : Int)) ∧ w' = w :=
  (low8 n c w hn hn2 hc hc2).mono fun _ _ h => ⟨h.1, h.2.symm⟩

/-- A reader at block b, T bits taken. -/
structure Rd (w : World) (b : Nat) (s : ByteArray) (T : Nat) : Prop where
  c0 : w.cell? ⟨b, 0, none⟩ = some (.string s)
  c1 : w.cell? ⟨b, 1, none⟩ = some (.int .i64 ((T / 8 : Nat) : Int))
  c2 : w.cell? ⟨b, 2, none⟩ = some (.int .i64 ((T % 8 : Nat) : Int))
  f1 : w.frozen? ⟨b, 1, none⟩ = false
  f2 : w.frozen? ⟨b, 2, none⟩ = false

theorem take_num (V T q z r p acc y : Nat) (hU : 8 * p + r = T + q) (hz : r + z ≤ 8) (hacc : acc = V / 2 ^ T % 2 ^ q) (hy : y = V / 2 ^ (8 * p) % 256 / 2 ^ r) (hq : q + z ≤ 62) :
    bits .or .u64 (acc : Int) (IntKind.u64.wrap (IntKind.u64.wrap ((y : Int) % 2 ^ z) * 2 ^ q)) = ((V / 2 ^ T % 2 ^ (q + z) : Nat) : Int) := by
  have e1 : y % 2 ^ z = V / 2 ^ (T + q) % 2 ^ z := by
    have e2 : (256 : Nat) = 2 ^ r * 2 ^ (8 - r) := by rw [← Nat.pow_add, show r + (8 - r) = 8 by omega]
    have dv : (2 : Nat) ^ z ∣ 2 ^ (8 - r) := Nat.pow_dvd_pow 2 (by omega)
    rw [hy, e2, Nat.mod_mul_right_div_self, Nat.mod_mod_of_dvd _ dv, Nat.div_div_eq_div_mul, ← Nat.pow_add, hU]
  have e3 : V / 2 ^ T % 2 ^ (q + z) = acc + y % 2 ^ z * 2 ^ q := by
    rw [Nat.pow_add, Nat.mod_mul, ← hacc, e1, Nat.div_div_eq_div_mul, ← Nat.pow_add, Nat.mul_comm (2 ^ q)]
  have ha : acc < 2 ^ q := by rw [hacc]; exact Nat.mod_lt _ (Nat.two_pow_pos q)
  have hb : y % 2 ^ z < 2 ^ z := Nat.mod_lt _ (Nat.two_pow_pos z)
  have hs : V / 2 ^ T % 2 ^ (q + z) < 2 ^ 62 := Nat.lt_of_lt_of_le (Nat.mod_lt _ (Nat.two_pow_pos _)) (Nat.pow_le_pow_right (by decide) hq)
  have hb64 : y % 2 ^ z < 2 ^ 62 := Nat.lt_of_lt_of_le hb (Nat.pow_le_pow_right (by decide) (by omega))
  rw [e3] at hs ⊢
  have c0 : ((y : Int) % 2 ^ z) = ((y % 2 ^ z : Nat) : Int) := by simp
  have c1 : ((2 : Int) ^ q) = ((2 ^ q : Nat) : Int) := by simp
  generalize y % 2 ^ z = Y at *
  have w1 : IntKind.u64.wrap (Y : Int) = (Y : Int) := by rw [IntKind.wrap_u64]; exact Int.emod_eq_of_lt (by omega) (by omega)
  have w2 : IntKind.u64.wrap ((Y * 2 ^ q : Nat) : Int) = ((Y * 2 ^ q : Nat) : Int) := by rw [IntKind.wrap_u64]; exact Int.emod_eq_of_lt (by omega) (by omega)
  rw [c0, w1, c1, ← Int.natCast_mul, w2, u64_or_nat _ _ (by omega) (by omega), Nat.or_comm, nat_join q _ _ (Nat.mul_mod_left _ _) ha, Nat.add_comm]

theorem heap_set {w : World} {b o k : Nat} (u : Value) (h : k ≠ b) : (w.setCell ⟨b, o, none⟩ u).heap[k]? = w.heap[k]? := Below.heap_setCell w ⟨b, o, none⟩ u k h

theorem rd_part {w : World} {b U p r z : Nat} {s : ByteArray} (h : Rd w b s U) (hU : 8 * p + r = U) (hz : r + z < 8) :
    Rd (w.setCell ⟨b, 2, none⟩ (.int .i64 ((r : Int) + (z : Int)))).drew b s (U + z) ∧ ∀ k, k ≠ b → (w.setCell ⟨b, 2, none⟩ (.int .i64 ((r : Int) + (z : Int)))).drew.heap[k]? = w.heap[k]? := by
  refine ⟨⟨(World.cell?_setCell_other _ _ _ _ (by simp)).trans h.c0, ?_, ?_, ?_, ?_⟩, fun k hk => heap_set _ hk⟩
  · refine ((World.cell?_setCell_other _ _ _ _ (by simp)).trans h.c1).trans ?_
    rw [show (U + z) / 8 = U / 8 by omega]
  · refine (World.cell?_setCell_same _ _ _ h.c2).trans ?_
    rw [show (U + z) % 8 = r + z by omega]
    simp
  · simpa using h.f1
  · simpa using h.f2

theorem rd_full {w : World} {b U p r z : Nat} {s : ByteArray} (h : Rd w b s U) (hU : 8 * p + r = U) (hz : r + z = 8) :
    Rd (((w.setCell ⟨b, 2, none⟩ (.int .i64 ((r : Int) + (z : Int)))).setCell ⟨b, 1, none⟩ (.int .i64 ((p : Int) + 1))).setCell ⟨b, 2, none⟩ (.int .i64 0)).drew b s (U + z) ∧
      ∀ k, k ≠ b → (((w.setCell ⟨b, 2, none⟩ (.int .i64 ((r : Int) + (z : Int)))).setCell ⟨b, 1, none⟩ (.int .i64 ((p : Int) + 1))).setCell ⟨b, 2, none⟩ (.int .i64 0)).drew.heap[k]? = w.heap[k]? := by
  have a2 : (w.setCell ⟨b, 2, none⟩ (.int .i64 ((r : Int) + (z : Int)))).cell? ⟨b, 2, none⟩ = some (.int .i64 ((r : Int) + (z : Int))) := World.cell?_setCell_same _ _ _ h.c2
  have a1 : (w.setCell ⟨b, 2, none⟩ (.int .i64 ((r : Int) + (z : Int)))).cell? ⟨b, 1, none⟩ = some (.int .i64 ((U / 8 : Nat) : Int)) := (World.cell?_setCell_other _ _ _ _ (by simp)).trans h.c1
  refine ⟨⟨?_, ?_, ?_, ?_, ?_⟩, fun k hk => ?_⟩
  · exact (World.cell?_setCell_other _ _ _ _ (by simp)).trans ((World.cell?_setCell_other _ _ _ _ (by simp)).trans ((World.cell?_setCell_other _ _ _ _ (by simp)).trans h.c0))
  · refine ((World.cell?_setCell_other _ _ _ _ (by simp)).trans (World.cell?_setCell_same _ _ _ a1)).trans ?_
    rw [show (U + z) / 8 = p + 1 by omega]
    simp
  · refine (World.cell?_setCell_same _ _ _ ((World.cell?_setCell_other _ _ _ _ (by simp)).trans a2)).trans ?_
    rw [show (U + z) % 8 = 0 by omega]
    rfl
  · simpa using h.f1
  · simpa using h.f2
  · exact (heap_set _ hk).trans ((heap_set _ hk).trans (heap_set _ hk))

set_option maxHeartbeats 800000 in
set_option maxRecDepth 20000 in
theorem take_any (b d T : Nat) (s : ByteArray) (w : World) (hw : Rd w b s T) (hd : d ≤ 62) (hs : s.size ≤ 1000000000000) (hT : T + d ≤ 8 * s.size) :
    Calls Tryd.prog 32 #[.pointer (some ⟨b, 0, none⟩), .int .i64 d] w fun x w' => x = .returned (.int .u64 ((Plain.val s.data.toList / 2 ^ T % 2 ^ d : Nat) : Int)) ∧ Rd w' b s (T + d) ∧ Below b w w' ∧ ∀ k, k ≠ b → w'.heap[k]? = w.heap[k]? := by
  have HW : Hid (Rd w b s T) := hw
  clear hw
  go_enter Tryd.func32, Tryd.ntmps32
  go_wp2_with fail
  go_loopw [5, 6] (fun a c wr => ∃ q : Nat, q ≤ d ∧ c = .int .i64 q ∧ a = .int .u64 ((Plain.val s.data.toList / 2 ^ T % 2 ^ q : Nat) : Int) ∧ Rd wr b s (T + q) ∧ Below b w wr ∧ ∀ k, k ≠ b → wr.heap[k]? = w.heap[k]?) (fun _ c _ => d - (intOf c).toNat)
  case atStart => exact ⟨0, Nat.zero_le _, rfl, by simp [Nat.mod_one], HW.out, Below.refl _ _, fun _ _ => rfl⟩
  case round =>
    obtain ⟨q, hq, rfl, rfl, hrd, hb, hk⟩ := hrel
    have HR : Hid (Rd wr b s (T + q)) := hrd
    have HB : Hid (Below b w wr) := hb
    have HK : Hid (∀ k, k ≠ b → wr.heap[k]? = w.heap[k]?) := hk
    have k0 := hrd.c0
    have k1 := hrd.c1
    have k2 := hrd.c2
    have kf1 := hrd.f1
    have kf2 := hrd.f2
    obtain ⟨U, hU⟩ : ∃ U, U = T + q := ⟨_, rfl⟩
    rw [← hU] at k1 k2
    obtain ⟨p, hp⟩ : ∃ p, p = U / 8 := ⟨_, rfl⟩
    obtain ⟨r, hr⟩ : ∃ r, r = U % 8 := ⟨_, rfl⟩
    rw [← hp] at k1
    rw [← hr] at k2
    obtain ⟨acc, hacc⟩ : ∃ acc, acc = Plain.val s.data.toList / 2 ^ T % 2 ^ q := ⟨_, rfl⟩
    rw [← hacc]
    have HACC : Hid (acc = Plain.val s.data.toList / 2 ^ T % 2 ^ q) := hacc
    have HU : Hid (U = T + q ∧ p = U / 8 ∧ r = U % 8) := ⟨hU, hp, hr⟩
    by_cases hqd : q < d
    · have hps : p < s.size := by omega
      have hr8 : r < 8 := by omega
      obtain ⟨z, hz⟩ : ∃ z, z = min (8 - r) (d - q) := ⟨_, rfl⟩
      have HZ : Hid (z = min (8 - r) (d - q)) := hz
      have hmin : min (8 - (r : Int)) ((d : Int) - (q : Int)) = (z : Int) := by omega
      have hz8 : z ≤ 8 := by omega
      have hz1 : 1 ≤ z := by omega
      have hacc64 : acc < 2 ^ 64 := by
        rw [hacc]
        exact Nat.lt_of_lt_of_le (Nat.mod_lt _ (Nat.two_pow_pos q)) (Nat.pow_le_pow_right (by decide) (by omega))
      have hpi : (p : Int) < (s.size : Int) := by omega
      have hpi0 : (0 : Int) ≤ (p : Int) := by omega
      have hby : s[p].toNat < 256 := s[p].toNat_lt
      obtain ⟨y, hy⟩ : ∃ y, y = s[p].toNat / 2 ^ r := ⟨_, rfl⟩
      have hyi : (s[p].toNat : Int) / 2 ^ r = (y : Int) := by rw [hy]; simp
      have hy256 : y < 256 := by rw [hy]; exact Nat.lt_of_le_of_lt (Nat.div_le_self _ _) hby
      have HYV : Hid (y = Plain.val s.data.toList / 2 ^ (8 * p) % 256 / 2 ^ r) := by simp only [Hid]; rw [hy, ← Plain.pow256, ← Plain.val_byte, byte_at s p hps]
      clear hU hp hr hacc hz hb hk hrd hy
      go_wp2_with fail
      refine wp_region_still_lit (by kernel_rfl) (by kernel_rfl) ?_
      repeat still_step
      still_call (low8_still _ _ _ (by omega) (by omega) (by omega) (by omega))
      repeat still_step
      refine wpStill_nil ?_
      go_wp2
      · have h8 : ((r : Int) + (z : Int) == 8) = true := by assumption
        have h8' : r + z = 8 := by simp at h8; omega
        have R := take_num (Plain.val s.data.toList) T q z r p acc y (by have := HU.out; omega) (by omega) HACC.out HYV.out (by have := HZ.out; omega)
        obtain ⟨R1, R2⟩ := rd_full HR.out (p := p) (r := r) (z := z) (by have := HU.out; omega) h8'
        go_roundw
        case rel => exact ⟨q + z, by have := HZ.out; omega, by go_num, by rw [R], by rw [← Nat.add_assoc]; exact R1, HB.out.trans (((Below.refl _ _).setCell (by simp) _).setCell (by simp) _ |>.setCell (by simp) _).drew, fun k hk => (R2 k hk).trans (HK.out k hk)⟩
        case measure => simp [intOf]; omega
      · have h8 : ((r : Int) + (z : Int) == 8) = false := by assumption
        have h8' : r + z < 8 := by have := HZ.out; simp at h8; omega
        have R := take_num (Plain.val s.data.toList) T q z r p acc y (by have := HU.out; omega) (by omega) HACC.out HYV.out (by have := HZ.out; omega)
        obtain ⟨R1, R2⟩ := rd_part HR.out (p := p) (r := r) (z := z) (by have := HU.out; omega) h8'
        go_roundw
        case rel => exact ⟨q + z, by have := HZ.out; omega, by go_num, by rw [R], by rw [← Nat.add_assoc]; exact R1, HB.out.trans ((Below.refl _ _).setCell (by simp) _).drew, fun k hk => (R2 k hk).trans (HK.out k hk)⟩
        case measure => simp [intOf]; omega
    · have hqe : q = d := by omega
      subst hqe
      clear hU hp hr hacc hb hk hrd
      go_wp2_with fail
      go_ret
      exact ⟨by rw [← HACC.out]; rfl, HR.out, HB.out, HK.out⟩
end Go.Proofs.YtnffjoipinhojaaDoor
