import Derived.Test.YtnffjoipinhojaaDoorW
import Derived.Test.YtnffjoipinhojaaDoorP
import Derived.StillTailTactics
import Derived.Lib.MinMax
import Derived.Lib.SmallJoins
namespace Go.Proofs.YtnffjoipinhojaaDoor
open Go.RowKit

theorem low64_still (n c : Int) (w : World) (hn : 0 ≤ n) (hn2 : n < 18446744073709551616) (hc : 0 ≤ c) (hc2 : c ≤ 64) :
    Calls Tryd.prog 25 #[.int .u64 n, .int .i64 c] w fun e w' => e = .returned (.int .u64 ((n.toNat % 2 ^ c.toNat : Nat) : Int)) ∧ w' = w :=
  (low64 n c w hn hn2 hc hc2).mono fun _ _ h => ⟨h.1, h.2.symm⟩

/-- A writer at block b: its bytes bs, T bits in all. -/
structure Wr (w : World) (b : Nat) (bs : List UInt8) (T : Nat) : Prop where
  own : ∃ v, w.cell? ⟨b, 0, none⟩ = some v ∧ w.ownsRow (b + 1) 5 1 v bs.length (bs.map cellOf)
  free : w.cell? ⟨b, 1, none⟩ = some (.int .i64 ((8 * bs.length - T : Nat) : Int))
  f0 : w.frozen? ⟨b, 0, none⟩ = false
  f1 : w.frozen? ⟨b, 1, none⟩ = false
  le : T ≤ 8 * bs.length
  lt : 8 * bs.length < T + 8
  small : Plain.val bs < 2 ^ T
  size : b < w.heap.size

/-- The same, in the midst of a round: there is a last byte, and f of its bits are free. -/
structure Mid (w : World) (b g cap L : Nat) (cs : List UInt8) (f : Nat) : Prop where
  c0 : w.cell? ⟨b, 0, none⟩ = some (.slice (some ⟨g, 0, none⟩) (L + 1) cap)
  c1 : w.cell? ⟨b, 1, none⟩ = some (.int .i64 (f : Int))
  f0 : w.frozen? ⟨b, 0, none⟩ = false
  f1 : w.frozen? ⟨b, 1, none⟩ = false
  len : cs.length = L + 1
  own : w.ownsRow (b + 1) 5 1 (.slice (some ⟨g, 0, none⟩) (L + 1) cap) (L + 1) (cs.map cellOf)
  size : b < w.heap.size

theorem Mid.gb {w : World} {b g cap L f : Nat} {cs : List UInt8} (h : Mid w b g cap L cs f) : b < g := (h.own.lt g rfl).1
theorem Mid.gs {w : World} {b g cap L f : Nat} {cs : List UInt8} (h : Mid w b g cap L cs f) : g < w.heap.size := (h.own.lt g rfl).2
theorem Mid.cl {w : World} {b g cap L f : Nat} {cs : List UInt8} (h : Mid w b g cap L cs f) : w.cell? ⟨g, L, none⟩ = some (.int .u8 ((cs.getD L 0).toNat : Int)) := by
  rw [h.own.cellAt L (by omega)]
  have hl : L < cs.length := by rw [h.len]; omega
  simp [cellOf, hl]
theorem Mid.fl {w : World} {b g cap L f : Nat} {cs : List UInt8} (h : Mid w b g cap L cs f) : w.frozen? ⟨g, L, none⟩ = false := h.own.frozenAt L

theorem block_b {wr w1 : World} {b n : Nat} {v : Value} {xs : List Value} {o : Obj} (hown : wr.ownsRow (b + 1) 5 1 v n xs) (hb : b < wr.heap.size) (hg : (wr.alloc o).grownBy w1 v.ownBlock) : w1.heap[b]? = wr.heap[b]? := by
  rw [hg.block b (by simp; omega) (fun e => by have := (hown.lt b e.symm).1; omega)]
  exact Below.heap_alloc _ _ _ hb

/-- Behind 'w.bytes = append(w.bytes, 0); w.free = 8'. -/
theorem mid_grown {wr w1 : World} {b g cap : Nat} {v : Value} {cs : List UInt8} {o : Obj} (hown : wr.ownsRow (b + 1) 5 1 v cs.length (cs.map cellOf)) (hb : b < wr.heap.size)
    (hg : (wr.alloc o).grownBy w1 v.ownBlock) (h1 : w1.ownsRow (b + 1) 5 1 (.slice (some ⟨g, 0, none⟩) (cs.length + 1) cap) (cs.length + 1) (cs.map cellOf ++ [.int .u8 0])) (hf0 : wr.frozen? ⟨b, 0, none⟩ = false) (hf1 : wr.frozen? ⟨b, 1, none⟩ = false)
    (hc0 : wr.cell? ⟨b, 0, none⟩ = some v) (hc1 : wr.cell? ⟨b, 1, none⟩ = some (.int .i64 0)) :
    Mid ((w1.setCell ⟨b, 0, none⟩ (.slice (some ⟨g, 0, none⟩) (cs.length + 1) cap)).setCell ⟨b, 1, none⟩ (.int .i64 8)) b g cap cs.length (cs ++ [0]) 8 := by
  have hbb := block_b hown hb hg
  have e0 : w1.cell? ⟨b, 0, none⟩ = some v := (World.cell?_of_block hbb).trans hc0
  have e1 : w1.cell? ⟨b, 1, none⟩ = some (.int .i64 0) := (World.cell?_of_block hbb).trans hc1
  have z0 : w1.frozen? ⟨b, 0, none⟩ = false := (World.frozen?_of_block hbb).trans hf0
  have z1 : w1.frozen? ⟨b, 1, none⟩ = false := (World.frozen?_of_block hbb).trans hf1
  have hsz : b < w1.heap.size := by have := hg.size; simp at this; omega
  refine ⟨?_, ?_, ?_, ?_, by simp, ?_, ?_⟩
  · have := World.cell?_setCell_same' w1 ⟨b, 0, none⟩ (.slice (some ⟨g, 0, none⟩) (cs.length + 1) cap) (by rw [e0]; rfl)
    go_simp
  · have := World.cell?_setCell_same' (w1.setCell ⟨b, 0, none⟩ (.slice (some ⟨g, 0, none⟩) (cs.length + 1) cap)) ⟨b, 1, none⟩ (.int .i64 8) (by go_simp)
    exact this
  · simpa using z0
  · simpa using z1
  · have := ownsRow_setCell_below (ownsRow_setCell_below h1 (a := ⟨b, 0, none⟩) (by simp) (.slice (some ⟨g, 0, none⟩) (cs.length + 1) cap)) (a := ⟨b, 1, none⟩) (by simp) (.int .i64 8)
    simpa [cellOf] using this
  · simpa using hsz

theorem grown_facts {wr w1 : World} {b : Nat} {v v' : Value} {cs : List UInt8} {o : Obj} (hown : wr.ownsRow (b + 1) 5 1 v cs.length (cs.map cellOf)) (hb : b < wr.heap.size)
    (hg : (wr.alloc o).grownBy w1 v.ownBlock) (h1 : w1.ownsRow (b + 1) 5 1 v' (cs.length + 1) (cs.map cellOf ++ [.int .u8 0])) (hf0 : wr.frozen? ⟨b, 0, none⟩ = false) (hf1 : wr.frozen? ⟨b, 1, none⟩ = false)
    (hc0 : wr.cell? ⟨b, 0, none⟩ = some v) (hc1 : wr.cell? ⟨b, 1, none⟩ = some (.int .i64 0)) :
    ∃ g cap, v' = .slice (some ⟨g, 0, none⟩) (cs.length + 1) cap ∧ Hid (Mid ((w1.setCell ⟨b, 0, none⟩ (.slice (some ⟨g, 0, none⟩) (cs.length + 1) cap)).setCell ⟨b, 1, none⟩ (.int .i64 8)) b g cap cs.length (cs ++ [0]) 8) ∧
      Hid (Below b wr w1) ∧ w1.cell? ⟨b, 0, none⟩ = some v ∧ w1.cell? ⟨b, 1, none⟩ = some (.int .i64 0) ∧ w1.frozen? ⟨b, 0, none⟩ = false ∧ w1.frozen? ⟨b, 1, none⟩ = false := by
  obtain ⟨g, cap, rfl⟩ := Joins.ownsRow_form h1 (by omega)
  have hbb := block_b hown hb hg
  exact ⟨g, cap, rfl, mid_grown hown hb hg h1 hf0 hf1 hc0 hc1, Below.grown ((Below.refl b wr).alloc (by omega) _) hg (by simp; omega) (fun k hk => by have := (hown.lt k hk).1; omega),
    (World.cell?_of_block hbb).trans hc0, (World.cell?_of_block hbb).trans hc1, (World.frozen?_of_block hbb).trans hf0, (World.frozen?_of_block hbb).trans hf1⟩

theorem small_last (cs : List UInt8) (L S : Nat) (h : Plain.val cs < 2 ^ (8 * L + S)) : (cs.getD L 0).toNat < 2 ^ S := by
  rw [Plain.val_byte, Plain.pow256]
  refine Nat.lt_of_le_of_lt (Nat.mod_le _ _) ?_
  rw [Nat.div_lt_iff_lt_mul (Nat.two_pow_pos _), ← Nat.pow_add, Nat.add_comm S]
  exact h

/-- The byte behind the store. -/
theorem put_byte (c n q S f : Nat) (hS : S + f = 8) (hq : q ≤ f) (hc : c < 2 ^ S) :
    bits .or .u8 (c : Int) ((n : Int) % 2 ^ q % 256 * 2 ^ S % 256) = ((c + n % 2 ^ q * 2 ^ S : Nat) : Int) ∧ c + n % 2 ^ q * 2 ^ S < 256 := by
  have h0 : (2 : Nat) ^ q ≤ 2 ^ f := Nat.pow_le_pow_right (by decide) hq
  have h1 : n % 2 ^ q < 2 ^ q := Nat.mod_lt _ (Nat.two_pow_pos q)
  have h2 : (2 : Nat) ^ f * 2 ^ S = 256 := by rw [← Nat.pow_add, Nat.add_comm, hS]
  have h3 : n % 2 ^ q * 2 ^ S + 2 ^ S ≤ 256 := by
    rw [← Nat.succ_mul, ← h2]
    exact Nat.mul_le_mul_right _ (Nat.le_trans h1 h0)
  have hp : 0 < (2 : Nat) ^ S := Nat.two_pow_pos S
  have h4 : n % 2 ^ q < 256 := by
    have : n % 2 ^ q * 1 ≤ n % 2 ^ q * 2 ^ S := Nat.mul_le_mul_left _ hp
    omega
  have e : ((n : Int) % 2 ^ q % 256 * 2 ^ S % 256) = ((n % 2 ^ q * 2 ^ S : Nat) : Int) := by
    have e0 : ((n : Int) % 2 ^ q) = ((n % 2 ^ q : Nat) : Int) := by simp
    have e1 : ((2 : Int) ^ S) = ((2 ^ S : Nat) : Int) := by simp
    have e2 : ((n % 2 ^ q : Nat) : Int) % 256 = ((n % 2 ^ q : Nat) : Int) := Int.emod_eq_of_lt (by omega) (by omega)
    rw [e0, e2, e1, ← Int.natCast_mul, Int.emod_eq_of_lt (by omega) (by omega)]
  refine ⟨?_, by omega⟩
  rw [e, u8_or_nat c _ (by omega) (by omega), Nat.or_comm, nat_join S _ c (Nat.mul_mod_left _ _) hc, Nat.add_comm]

theorem cut_num (n d q U : Nat) (hq : q ≤ d) : n % 2 ^ q * 2 ^ U + n / 2 ^ q % 2 ^ (d - q) * 2 ^ (U + q) = n % 2 ^ d * 2 ^ U := by
  have e : (2 : Nat) ^ d = 2 ^ q * 2 ^ (d - q) := by rw [← Nat.pow_add]; congr 1; omega
  rw [e, Nat.mod_mul, Nat.add_mul, Nat.pow_add, Nat.mul_comm (2 ^ q) (n / 2 ^ q % 2 ^ (d - q)), Nat.mul_assoc, Nat.mul_comm (2 ^ q) (2 ^ U)]

theorem put_round {wr : World} {b g cap L f U n d q S : Nat} {cs : List UInt8} {c : UInt8} (HM : Mid wr b g cap L cs f) (hf : U + f = 8 * (L + 1)) (f1 : 1 ≤ f) (f8 : f ≤ 8) (small : Plain.val cs < 2 ^ U) (hd0 : 0 < d) (hq : q = min f d) (hS : S = 8 - f) (hc : c = cs.getD L 0) :
    ∃ cs', Wr (((wr.setCell ⟨g, L, none⟩ (.int .u8 (bits .or .u8 (c.toNat : Int) ((n : Int) % 2 ^ q % 256 * 2 ^ S % 256)))).setCell ⟨b, 1, none⟩ (.int .i64 ((f : Int) - (q : Int)))).drew) b cs' (U + q) ∧
      Plain.val cs' + n / 2 ^ q % 2 ^ (d - q) * 2 ^ (U + q) = Plain.val cs + n % 2 ^ d * 2 ^ U ∧
      Below b wr (((wr.setCell ⟨g, L, none⟩ (.int .u8 (bits .or .u8 (c.toNat : Int) ((n : Int) % 2 ^ q % 256 * 2 ^ S % 256)))).setCell ⟨b, 1, none⟩ (.int .i64 ((f : Int) - (q : Int)))).drew) := by
  have hqd : q ≤ d := by omega
  have hqf : q ≤ f := by omega
  have hL : L < cs.length := by rw [HM.len]; omega
  have hcs : c.toNat < 2 ^ S := by rw [hc]; exact small_last cs L S (by rw [show 8 * L + S = U by omega]; exact small)
  obtain ⟨hb1, hb2⟩ := put_byte c.toNat n q S f (by omega) hqf hcs
  rw [hb1]
  obtain ⟨B, hB⟩ : ∃ B : UInt8, B.toNat = c.toNat + n % 2 ^ q * 2 ^ S := ⟨(c.toNat + n % 2 ^ q * 2 ^ S).toUInt8, by simp; omega⟩
  have hv : Plain.val (cs.set L B) = Plain.val cs + n % 2 ^ q * 2 ^ U := by
    have h := Plain.val_set cs L B hL
    rw [← hc, hB, Nat.add_mul] at h
    have e : n % 2 ^ q * 2 ^ S * 256 ^ L = n % 2 ^ q * 2 ^ U := by rw [Plain.pow256, Nat.mul_assoc, ← Nat.pow_add]; congr 2; omega
    omega
  have hown := (HM.own.stored L (.int .u8 ((c.toNat + n % 2 ^ q * 2 ^ S : Nat) : Int))).1
  have hmap : (cs.map cellOf).set L (.int .u8 ((c.toNat + n % 2 ^ q * 2 ^ S : Nat) : Int)) = (cs.set L B).map cellOf := by
    rw [List.map_set]
    congr 1
    rw [cellOf, hB]
  rw [hmap] at hown
  have hgb := HM.gb
  have hne : ∀ o : Nat, (⟨g, L, none⟩ : Addr) ≠ ⟨b, o, none⟩ := fun o e => by
    have := congrArg Addr.block e
    simp at this
    omega
  have k0 : (wr.setCell ⟨g, L, none⟩ (.int .u8 ((c.toNat + n % 2 ^ q * 2 ^ S : Nat) : Int))).cell? ⟨b, 0, none⟩ = some (.slice (some ⟨g, 0, none⟩) (L + 1) cap) := (World.cell?_setCell_other _ _ _ _ (hne 0)).trans HM.c0
  have k1 : (wr.setCell ⟨g, L, none⟩ (.int .u8 ((c.toNat + n % 2 ^ q * 2 ^ S : Nat) : Int))).cell? ⟨b, 1, none⟩ = some (.int .i64 (f : Int)) := (World.cell?_setCell_other _ _ _ _ (hne 1)).trans HM.c1
  have hlen : (cs.set L B).length = L + 1 := by rw [List.length_set, HM.len]
  refine ⟨cs.set L B, ⟨⟨_, (World.cell?_setCell_other _ _ _ _ (by simp)).trans k0, ?_⟩, ?_, ?_, ?_, ?_, ?_, ?_, ?_⟩, ?_, ?_⟩
  · rw [hlen]
    exact ownsRow_setCell_below hown (a := ⟨b, 1, none⟩) (by simp) _
  · have := World.cell?_setCell_same _ _ (.int .i64 ((f : Int) - (q : Int))) k1
    rw [hlen]
    have e : ((8 * (L + 1) - (U + q) : Nat) : Int) = (f : Int) - (q : Int) := by omega
    rw [e]
    exact this
  · simpa using HM.f0
  · simpa using HM.f1
  · rw [hlen]; omega
  · rw [hlen]; omega
  · rw [hv, Nat.pow_add]
    have h1 : n % 2 ^ q < 2 ^ q := Nat.mod_lt _ (Nat.two_pow_pos q)
    have h2 : n % 2 ^ q * 2 ^ U + 2 ^ U ≤ 2 ^ q * 2 ^ U := by rw [← Nat.succ_mul]; exact Nat.mul_le_mul_right _ h1
    rw [Nat.mul_comm (2 ^ U)]
    omega
  · have := HM.size
    simpa using this
  · rw [hv, ← cut_num n d q U hqd]
    omega
  · exact ((Below.refl _ _).setCell (by simp; omega) _).setCell (by simp) _ |>.drew

set_option maxHeartbeats 800000 in
set_option maxRecDepth 20000 in
theorem put_any (b m wd T : Nat) (bs : List UInt8) (w : World) (hw : Wr w b bs T) (hm : m < 18446744073709551616) (hwd : wd ≤ 64) (hT : T + wd ≤ 1000000000000) :
    Calls Tryd.prog 30 #[.pointer (some ⟨b, 0, none⟩), .int .u64 m, .int .i64 wd] w fun e w' => e = .returned (.tuple #[]) ∧ ∃ bs', Wr w' b bs' (T + wd) ∧ Plain.val bs' = Plain.val bs + m % 2 ^ wd * 2 ^ T ∧ Below b w w' := by
  obtain ⟨i0, hi, hz0, hz1, hz2⟩ := info_parts info5
  have HW : Hid (Wr w b bs T) := hw
  clear hw
  go_enter Tryd.func30, Tryd.ntmps30
  go_wp2_with fail
  go_loopw [1, 2] (fun a c wr => ∃ (n d U : Nat) (cs : List UInt8), n < 18446744073709551616 ∧ d ≤ wd ∧ a = .int .u64 n ∧ c = .int .i64 d ∧ Wr wr b cs U ∧ U + d = T + wd ∧ Plain.val cs + n % 2 ^ d * 2 ^ U = Plain.val bs + m % 2 ^ wd * 2 ^ T ∧ Below b w wr) (fun _ c _ => (intOf c).toNat)
  case atStart => exact ⟨m, wd, T, bs, hm, Nat.le_refl _, rfl, rfl, HW.out, rfl, rfl, Below.refl _ _⟩
  case round =>
    obtain ⟨n, d, U, cs, hn, hd, rfl, rfl, hwr, hU, hv, hb⟩ := hrel
    have HR : Hid (Wr wr b cs U) := hwr
    have HU : Hid (U + d = T + wd) := hU
    have HV : Hid (Plain.val cs + n % 2 ^ d * 2 ^ U = Plain.val bs + m % 2 ^ wd * 2 ^ T) := hv
    have HB : Hid (Below b w wr) := hb
    have hle := hwr.le
    have hlt := hwr.lt
    have hc1 := hwr.free
    have hf0 := hwr.f0
    have hf1 := hwr.f1
    obtain ⟨v, hc0, hown⟩ := hwr.own
    have hub : U + d ≤ 1000000000000 := by omega
    obtain ⟨f, hf⟩ : ∃ f, f = 8 * cs.length - U := ⟨_, rfl⟩
    rw [← hf] at hc1
    have HF : Hid (f = 8 * cs.length - U) := hf
    have hf8 : f < 8 := by omega
    have hcl : cs.length ≤ 1000000000000 := by omega
    clear hwr hU hv hb hf hle hlt hub
    by_cases hd0 : 0 < d
    · by_cases hfr : f = 0
      · subst hfr
        have hbs := HR.out.size
        go_wp2_with (first
          | (at_builtin; refine wpList_append_own _ rfl (.tmp 18) (.tmp 19) 51 rfl (b + 1) 5 i0 (.int .u8 0) 1 1 Tryd.underlying51 hi hz0 hz1 hz2 rfl (by decide) _ _ _ rfl (hown.alloc _) ⟨wr.heap.size, 0, none⟩ 1 1 [.int .u8 0] rfl rfl (one_byte _ _) (oneByte _) (by unfold maxLen; omega) (by omega) (by simp; omega) ?_; intro v' w1 hown' hgrow _; obtain ⟨g, cap, rfl, HM, HG, e0, e1, z0, z1⟩ := grown_facts hown hbs hgrow hown' hf0 hf1 hc0 hc1; clear hown' hgrow hown hc0 hc1 hf0 hf1))
        have HB2 : Hid (Below b w ((w1.setCell ⟨b, 0, none⟩ (.slice (some ⟨g, 0, none⟩) (cs.length + 1) cap)).setCell ⟨b, 1, none⟩ (.int .i64 8))) := HB.out.trans ((HG.out.setCell (by simp) _).setCell (by simp) _)
        generalize ((w1.setCell ⟨b, 0, none⟩ (.slice (some ⟨g, 0, none⟩) (cs.length + 1) cap)).setCell ⟨b, 1, none⟩ (.int .i64 8)) = wr2 at HM HB2 ⊢
        clear e0 e1 z0 z1 HG
        have HX0 : Hid (U = 8 * cs.length) := by have := HF.out; have := HR.out.le; simp only [Hid]; omega
        have HSM : Hid (Plain.val (cs ++ [0]) < 2 ^ U) := by have := HR.out.small; simp only [Hid]; rw [Plain.val_append]; simpa [Plain.val] using this
        have HV2 : Hid (Plain.val (cs ++ [0]) + n % 2 ^ d * 2 ^ U = Plain.val bs + m % 2 ^ wd * 2 ^ T) := by have := HV.out; simp only [Hid]; rw [Plain.val_append]; simpa [Plain.val] using this
        clear HR HF HV hi hz0 hz1 hz2
        obtain ⟨f, hf⟩ : ∃ f, f = 8 := ⟨_, rfl⟩
        rw [← hf] at HM
        obtain ⟨L, hLL⟩ : ∃ L, L = cs.length := ⟨_, rfl⟩
        rw [← hLL] at HM
        have HX : Hid (U + f = 8 * (L + 1)) := by have := HX0.out; simp only [Hid]; omega
        have k0 := HM.out.c0
        have k1 := HM.out.c1
        have kl := HM.out.cl
        have kf := HM.out.fl
        have kf1 := HM.out.f1
        have kgb := HM.out.gb
        obtain ⟨c, hc⟩ : ∃ c, c = (cs ++ [0]).getD L 0 := ⟨_, rfl⟩
        rw [← hc] at kl
        have HC : Hid (c = (cs ++ [0]).getD L 0) := hc
        have hcb : c.toNat < 256 := c.toNat_lt
        have hL : (L : Int) < 2000000000000 := by have := HM.out.len; first | omega | (simp at this; omega)
        obtain ⟨N, hN⟩ : ∃ N, N = L + 1 := ⟨_, rfl⟩
        rw [← hN] at k0
        have hL0 : (0 : Int) ≤ (L : Int) := by omega
        have hL1 : (L : Int) < (N : Int) := by omega
        have hs1 : IntKind.i64.wrap ((N : Int) - 1) = (L : Int) := by rw [IntKind.wrap_i64]; omega
        obtain ⟨S, hS⟩ : ∃ S, S = 8 - f := ⟨_, rfl⟩
        have hs2 : IntKind.i64.wrap (8 - (f : Int)) = (S : Int) := by rw [IntKind.wrap_i64]; omega
        have hS0 : (0 : Int) ≤ (S : Int) := by omega
        have hS8 : (S : Int) ≤ 8 := by omega
        have HS : Hid (S = 8 - f) := hS
        obtain ⟨q, hq'⟩ : ∃ q, q = min f d := ⟨_, rfl⟩
        have hmin : min (8 : Int) (d : Int) = (q : Int) := by omega
        have hq8 : q ≤ 8 := by omega
        have HQ : Hid (q = min f d) := hq'
        have hf1' : 1 ≤ f := by omega
        have hf8' : f ≤ 8 := by omega
        clear hN hS hq' hc
        clear hf hLL hcl
        go_still_tail 24, (by kernel_rfl)
        still_call (low64_still _ _ _ (by omega) (by omega) (by omega) (by omega))
        repeat still_step
        refine wpStill_nil ?_
        go_wp2
        obtain ⟨cs', R1, R2, R3⟩ := put_round (n := n) (d := d) (U := U) HM.out HX.out hf1' hf8' HSM.out hd0 HQ.out HS.out HC.out
        go_roundw
        case rel => exact ⟨n / 2 ^ q, d - q, U + q, cs', by have := Nat.div_le_self n (2 ^ q); omega, by omega, by simp, by have := HQ.out; go_num, R1, by have := HU.out; have := HQ.out; omega, by rw [R2]; exact HV2.out, HB2.out.trans R3⟩
        case measure => have := HQ.out; simp [intOf]; omega
      · have hq : (((f : Nat) : Int) == 0) = false := by simp; omega
        obtain ⟨g, cap, rfl⟩ := Joins.ownsRow_form hown (by have := HF.out; omega)
        obtain ⟨L, hLL⟩ : ∃ L, L + 1 = cs.length := ⟨cs.length - 1, by have := HF.out; omega⟩
        have HM : Hid (Mid wr b g cap L cs f) := ⟨by rw [hLL]; exact hc0, hc1, hf0, hf1, hLL.symm, by rw [hLL]; exact hown, HR.out.size⟩
        have HX : Hid (U + f = 8 * (L + 1)) := by have := HF.out; have := HR.out.le; simp only [Hid]; omega
        have HSM : Hid (Plain.val cs < 2 ^ U) := HR.out.small
        have HV2 := HV
        have HB2 := HB
        clear hc0 hown
        have k0 := HM.out.c0
        have k1 := HM.out.c1
        have kl := HM.out.cl
        have kf := HM.out.fl
        have kf1 := HM.out.f1
        have kgb := HM.out.gb
        obtain ⟨c, hc⟩ : ∃ c, c = (cs).getD L 0 := ⟨_, rfl⟩
        rw [← hc] at kl
        have HC : Hid (c = (cs).getD L 0) := hc
        have hcb : c.toNat < 256 := c.toNat_lt
        have hL : (L : Int) < 2000000000000 := by have := HM.out.len; first | omega | (simp at this; omega)
        obtain ⟨N, hN⟩ : ∃ N, N = L + 1 := ⟨_, rfl⟩
        rw [← hN] at k0
        have hL0 : (0 : Int) ≤ (L : Int) := by omega
        have hL1 : (L : Int) < (N : Int) := by omega
        have hs1 : IntKind.i64.wrap ((N : Int) - 1) = (L : Int) := by rw [IntKind.wrap_i64]; omega
        obtain ⟨S, hS⟩ : ∃ S, S = 8 - f := ⟨_, rfl⟩
        have hs2 : IntKind.i64.wrap (8 - (f : Int)) = (S : Int) := by rw [IntKind.wrap_i64]; omega
        have hS0 : (0 : Int) ≤ (S : Int) := by omega
        have hS8 : (S : Int) ≤ 8 := by omega
        have HS : Hid (S = 8 - f) := hS
        obtain ⟨q, hq'⟩ : ∃ q, q = min f d := ⟨_, rfl⟩
        have hmin : min (f : Int) (d : Int) = (q : Int) := by omega
        have hq8 : q ≤ 8 := by omega
        have HQ : Hid (q = min f d) := hq'
        have hf1' : 1 ≤ f := by omega
        have hf8' : f ≤ 8 := by omega
        clear hN hS hq' hc
        clear hLL hcl hi hz0 hz1 hz2
        go_wp2_with fail
        go_still_tail 24, (by kernel_rfl)
        still_call (low64_still _ _ _ (by omega) (by omega) (by omega) (by omega))
        repeat still_step
        refine wpStill_nil ?_
        go_wp2
        obtain ⟨cs', R1, R2, R3⟩ := put_round (n := n) (d := d) (U := U) HM.out HX.out hf1' hf8' HSM.out hd0 HQ.out HS.out HC.out
        go_roundw
        case rel => exact ⟨n / 2 ^ q, d - q, U + q, cs', by have := Nat.div_le_self n (2 ^ q); omega, by omega, by simp, by have := HQ.out; go_num, R1, by have := HU.out; have := HQ.out; omega, by rw [R2]; exact HV2.out, HB2.out.trans R3⟩
        case measure => have := HQ.out; simp [intOf]; omega
    · have hdz : d = 0 := by omega
      subst hdz
      go_wp2
      go_end0
      refine ⟨rfl, cs, ?_, ?_, HB.out⟩
      · have h1 : U = T + wd := HU.out
        rw [← h1]
        exact HR.out
      · have h2 := HV.out
        rw [Nat.pow_zero, Nat.mod_one, Nat.zero_mul, Nat.add_zero] at h2
        exact h2
end Go.Proofs.YtnffjoipinhojaaDoor
