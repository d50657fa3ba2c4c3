import Derived.Test.YtnffjoipinhojabDoorBa
import Derived.Lib.Varint
import Derived.Laws.BitsAllLaws
import Derived.Laws.Bits64
import Derived.RowKit
import Derived.Lib.IndexBytes
namespace Go.Proofs.YtnffjoipinhojabDoor
open Go.RowKit

theorem conv1 (W : World) (b : Int) : (convert 46 9 (.slice (some ⟨W.heap.size, 0, none⟩) 1 1)).run Tryd.prog (W.alloc (.cells #[.int .u8 b] 5)) = .ok (.string ⟨#[UInt8.ofNat b.toNat]⟩) (W.alloc (.cells #[.int .u8 b] 5)) := by
  have hc : ∀ i, i < 1 → (W.alloc (.cells #[.int .u8 b] 5)).cell? ⟨W.heap.size, 0 + i, none⟩ = some (.int .u8 ([b].getD i 0)) := by
    intro i hi
    obtain rfl : i = 0 := by omega
    simp
  have h := run_convert_bytes_arg (P := Tryd.prog) (W.alloc (.cells #[.int .u8 b] 5)) 46 5 Tryd.underlying46 Tryd.underlying5 W.heap.size 0 1 1 [b] rfl hc 9 Tryd.underlying9
  simpa [strOfNums] using h

theorem str_app (l r : List UInt8) : (⟨l.toArray⟩ : ByteArray) ++ (⟨r.toArray⟩ : ByteArray) = ⟨(l ++ r).toArray⟩ := by
  apply ByteArray.ext
  simp

theorem val_app (l : List UInt8) (b c : UInt8) (h : b = c) : Value.string ((⟨l.toArray⟩ : ByteArray) ++ (⟨#[b]⟩ : ByteArray)) = Value.string ⟨(l ++ [c]).toArray⟩ := by
  subst h
  rw [← str_app]

theorem uv_snoc {n m : Nat} {pre : List UInt8} (h : pre ++ Lib.uvarint m = Lib.uvarint n) (hm : 128 ≤ m) : (pre ++ [(m % 128 + 128).toUInt8]) ++ Lib.uvarint (m / 128) = Lib.uvarint n := by
  rw [← h, Lib.uvarint_big hm]
  simp
theorem uv_last {n m : Nat} {pre : List UInt8} (h : pre ++ Lib.uvarint m = Lib.uvarint n) (hm : ¬ 128 ≤ m) : pre ++ [m.toUInt8] = Lib.uvarint n := by
  rw [← h, Lib.uvarint_small (by omega)]
theorem uv_pre {n m : Nat} {pre : List UInt8} (h : pre ++ Lib.uvarint m = Lib.uvarint n) (hn : n ≤ 9223372036854775807) : pre.length ≤ 9 := by
  have h9 := Lib.uvarint_length 8 n (Nat.lt_of_lt_of_le (Nat.lt_succ_of_le hn) (by decide))
  have : (pre ++ Lib.uvarint m).length = (Lib.uvarint n).length := by rw [h]
  rw [List.length_append] at this
  omega

set_option maxHeartbeats 400000 in
set_option maxRecDepth 20000 in
theorem refv_any (n : Nat) (w : World) (hn : n ≤ 9223372036854775807) :
    Calls Tryd.prog 23 #[.int .i64 n] w fun e w' => e = .returned (.string ⟨(Lib.uvarint n).toArray⟩) ∧ Below w.heap.size w w' := by
  have hcv := conv1
  go_enter Tryd.func23, Tryd.ntmps23
  go_wp2
  go_loopw [0, 3] (fun a b wr => ∃ (m : Nat) (pre : List UInt8), m ≤ n ∧ a = .int .i64 m ∧ b = .string ⟨pre.toArray⟩ ∧ pre ++ Lib.uvarint m = Lib.uvarint n ∧ Below w.heap.size w wr) (fun a _ _ => (intOf a).toNat)
  case atStart => exact ⟨n, [], Nat.le_refl _, rfl, rfl, by simp, Below.refl _ _⟩
  case round =>
    obtain ⟨m, pre, hm, rfl, rfl, he, hb⟩ := hrel
    have HE : Hid (pre ++ Lib.uvarint m = Lib.uvarint n) := he
    have HB : Hid (Below w.heap.size w wr) := hb
    have hsz : pre.length ≤ 9 := uv_pre he hn
    have hws : w.heap.size ≤ wr.heap.size := hb.size
    clear he hb
    by_cases hlt : 128 ≤ m
    · go_wp2
      go_roundw
      case rel => exact ⟨m / 128, pre ++ [(m % 128 + 128).toUInt8], by omega, by go_num, val_app _ _ _ (by simp), uv_snoc HE.out hlt, HB.out.alloc hws _⟩
      case measure => simp [intOf]; omega
    · go_wp2
      go_ret
      refine ⟨?_, HB.out.alloc hws _⟩
      rw [← uv_last HE.out hlt]
      exact congrArg Ending.returned (val_app _ _ _ (by simp))

theorem info5 : (Tryd.prog.info? 5).map (fun i => (i.zero, i.size, i.bytes)) = some (some (.int .u8 0), 1, 1) := by kernel_rfl

/-- A byte in a cell. -/
def cellOf (c : UInt8) : Value := .int .u8 c.toNat

theorem own_snoc {w : World} {base : Nat} {v : Value} {pre : List UInt8} {b : Int} {c : UInt8} (h : w.ownsRow base 5 1 v (pre.length + 1) (pre.map cellOf ++ [.int .u8 b])) (hb : b = c.toNat) :
    w.ownsRow base 5 1 v (pre ++ [c]).length ((pre ++ [c]).map cellOf) := by
  subst hb
  simpa [cellOf] using h

/-- 'string(out)' of a row of the call's own -/
theorem conv_own {w : World} {base : Nat} {v : Value} {n : Nat} {l : List UInt8} (h : w.ownsRow base 5 1 v n (l.map cellOf)) : (convert 46 9 v).run Tryd.prog w = .ok (.string ⟨l.toArray⟩) w := by
  have hlen : l.length = n := by have := h.1; simpa using this
  rcases h.2 with ⟨rfl, h0⟩ | ⟨g, cap, cur, rfl, _⟩
  · have : l = [] := List.length_eq_zero_iff.1 (by omega)
    subst this
    rw [run_convert_bytes_nil (P := Tryd.prog) w 46 5 Tryd.underlying46 Tryd.underlying5 0 0 9 Tryd.underlying9]
    rfl
  · have hc := h.cells (g := g) rfl
    subst hlen
    exact run_convert_bytes_back (P := Tryd.prog) w 46 9 5 ⟨g, 0, none⟩ cap l Tryd.underlying46 Tryd.underlying5 Tryd.underlying9 (fun j hj => hc j _ (by simp [hj, cellOf]))

theorem or_more (m : Nat) : bits .or .u8 128 ((m : Int) % 128) = ((m % 128 + 128).toUInt8.toNat : Int) := by
  have h := (bits_nat .u8 8 (by decide) wraps_u8 128 (m % 128) (by decide) (by omega)).2
  have e : (m % 128 + 128).toUInt8.toNat = m % 128 + 128 := by simp; omega
  have e2 : (128 ||| (m % 128)) = 128 + m % 128 := nat_join 7 128 (m % 128) (by decide) (by omega)
  have e3 : ((m : Int) % 128) = ((m % 128 : Nat) : Int) := by simp
  have e4 : (128 : Int) = ((128 : Nat) : Int) := rfl
  rw [e3, e, e4, h, e2]
  omega

theorem low_byte (m : Nat) (h : m < 128) : (m : Int) = (m.toUInt8.toNat : Int) := by
  simp
  omega

theorem own_lt {w wr : World} {v : Value} {n : Nat} {xs : List Value} (h : wr.ownsRow w.heap.size 5 1 v n xs) : ∀ k, v.ownBlock = some k → w.heap.size ≤ k := fun k hk => (h.lt k hk).1

theorem oneByte (b : Int) : ∀ u ∈ [Value.int .u8 b], u.oneCell' = true := by
  intro u hu
  simp at hu
  subst hu
  rfl

theorem one_byte (w : World) (b : Int) : ∀ j v, [Value.int .u8 b][j]? = some v → (w.alloc (.cells #[.int .u8 b] 5)).cell? ((⟨w.heap.size, 0, none⟩ : Addr).add j) = some v := by
  intro j v hj
  match j, hj with
  | 0, hj => simp at hj; subst hj; simp [Addr.add]

set_option maxHeartbeats 400000 in
set_option maxRecDepth 20000 in
/-- bits.Varint of a number that is not below 0 -/
theorem varint_any (n : Nat) (w : World) (hn : n ≤ 9223372036854775807) :
    Calls Tryd.prog 39 #[.int .i64 n] w fun e w' => e = .returned (.tuple #[.string ⟨(Lib.uvarint n).toArray⟩, .int .i64 0]) ∧ Below w.heap.size w w' := by
  obtain ⟨i0, hi, hz0, hz1, hz2⟩ := info_parts info5
  go_enter Tryd.func39, Tryd.ntmps39
  go_wp2
  go_loopw [4, 5] (fun a b wr => ∃ (m : Nat) (pre : List UInt8), m ≤ n ∧ b = .int .u64 m ∧ wr.ownsRow w.heap.size 5 1 a pre.length (pre.map cellOf) ∧ pre ++ Lib.uvarint m = Lib.uvarint n ∧ Below w.heap.size w wr) (fun _ b _ => (intOf b).toNat)
  case atStart => exact ⟨n, [], Nat.le_refl _, rfl, World.ownsRow_nil _ _ _ _, by simp, Below.refl _ _⟩
  case round =>
    obtain ⟨m, pre, hm, rfl, hown, he, hb⟩ := hrel
    have HE : Hid (pre ++ Lib.uvarint m = Lib.uvarint n) := he
    have HB : Hid (Below w.heap.size w wr) := hb
    have hsz : pre.length ≤ 9 := uv_pre he hn
    have hws : w.heap.size ≤ wr.heap.size := hb.size
    clear he hb
    by_cases hlt : 128 ≤ m
    · have hq : (m / 128 == 0) = false := by simp; omega
      go_wp2_with (first
        | (go_at_call 60; refine (fits64 _ _ _ (by omega) (by omega) (by omega)).mono ?_; rintro e w' ⟨rfl, rfl⟩)
        | (go_at_call 61; refine (low64 _ _ _ (by omega) (by omega) (by omega) (by omega)).mono ?_; rintro e w' ⟨rfl, rfl⟩)
        | (at_builtin; refine wpList_append_own _ rfl (.tmp 13) (.tmp 18) 46 rfl w.heap.size 5 i0 (.int .u8 0) 1 1 Tryd.underlying46 hi hz0 hz1 hz2 rfl (by decide) _ _ _ rfl (hown.alloc _) ⟨wr.heap.size, 0, none⟩ 1 1 [.int .u8 (bits .or .u8 128 ((m : Int) % 128))] rfl rfl (one_byte _ _) (oneByte _) (by unfold maxLen; omega) (by omega) (by simp; omega) ?_; intro v' w1 hown' hgrow _; have R1 := own_snoc hown' (or_more m); have R2 := Below.grown (HB.out.alloc hws _) hgrow (by simp; omega) (own_lt hown); clear hown' hgrow hown))
      go_roundw
      case rel => exact ⟨m / 128, _, by omega, by go_num, R1, uv_snoc HE.out hlt, R2⟩
      case measure => simp [intOf]; omega
    · have hq : (m / 128 == 0) = true := by simp; omega
      go_wp2_with (first
        | (go_at_call 60; refine (fits64 _ _ _ (by omega) (by omega) (by omega)).mono ?_; rintro e w' ⟨rfl, rfl⟩)
        | (at_builtin; refine wpList_append_own _ rfl (.tmp 22) (.tmp 25) 46 rfl w.heap.size 5 i0 (.int .u8 0) 1 1 Tryd.underlying46 hi hz0 hz1 hz2 rfl (by decide) _ _ _ rfl (hown.alloc _) ⟨wr.heap.size, 0, none⟩ 1 1 [.int .u8 (m : Int)] rfl rfl (one_byte _ _) (oneByte _) (by unfold maxLen; omega) (by omega) (by simp; omega) ?_; intro v' w1 hown' hgrow _; have R1 := conv_own (own_snoc (c := m.toUInt8) hown' (low_byte m (by omega))); have R2 := Below.grown (HB.out.alloc hws _) hgrow (by simp; omega) (own_lt hown); clear hown' hgrow hown))
      go_ret2
      exact ⟨by rw [← uv_last HE.out hlt]; rfl, R2⟩

/-- bits.Varint of a number below 0 -/
theorem varint_neg (n : Int) (w : World) (hn : n < 0) :
    Calls Tryd.prog 39 #[.int .i64 n] w fun e w' => e = .returned (.tuple #[.string ⟨#[]⟩, .int .i64 3]) ∧ w = w' := by
  go_enter Tryd.func39, Tryd.ntmps39
  go_wp2
  go_ret2
  exact ⟨rfl, rfl⟩
end Go.Proofs.YtnffjoipinhojabDoor
