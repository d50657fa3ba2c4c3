import Derived.Test.YtnffjoipinhojaaDoorA
import Derived.Test.YtnffjoipinhojaaDoorQ
namespace Go.Proofs.YtnffjoipinhojaaDoor
open Go.RowKit

theorem wraps_i63 (n : Int) (h0 : 0 ≤ n) (h1 : n < 2 ^ 63) : IntKind.i64.wrap n = n := by rw [IntKind.wrap_i64]; omega
theorem wrapU {n : Int} {m : Nat} (h : n = (m : Int)) (hm : m < 18446744073709551616) : IntKind.u64.wrap n = (m : Int) := by
  rw [h, IntKind.wrap_u64]
  omega
theorem andU {n : Int} {m M : Nat} (h : n = (m : Int)) (hm : m < 18446744073709551616) (hM : M < 18446744073709551616) : bits .and .u64 n (M : Int) = ((m &&& M : Nat) : Int) := by
  rw [h]
  exact u64_and_nat m M hm hM

set_option maxHeartbeats 800000 in
/-- math/bits.OnesCount64 -/
theorem oc_any (x : Nat) (w : World) (hx : x < 18446744073709551616) :
    Calls Tryd.prog 35 #[.int .u64 x] w fun e w' => e = .returned (.int .i64 (Plain.pop x 64 : Nat)) ∧ w = w' := by
  obtain ⟨a1, ha1⟩ : ∃ a, a = x / 2 &&& 6148914691236517205 := ⟨_, rfl⟩
  obtain ⟨a2, ha2⟩ : ∃ a, a = x &&& 6148914691236517205 := ⟨_, rfl⟩
  obtain ⟨y1, hy1⟩ : ∃ y, y = a1 + a2 := ⟨_, rfl⟩
  obtain ⟨b1, hb1⟩ : ∃ a, a = y1 / 4 &&& 3689348814741910323 := ⟨_, rfl⟩
  obtain ⟨b2, hb2⟩ : ∃ a, a = y1 &&& 3689348814741910323 := ⟨_, rfl⟩
  obtain ⟨y2, hy2⟩ : ∃ y, y = b1 + b2 := ⟨_, rfl⟩
  obtain ⟨t, ht⟩ : ∃ y, y = y2 / 16 + y2 := ⟨_, rfl⟩
  obtain ⟨y3, hy3⟩ : ∃ y, y = t &&& 1085102592571150095 := ⟨_, rfl⟩
  obtain ⟨p1, p2, p3, p4⟩ := Plain.count64 x hx y1 y2 y3 (by rw [hy1, ha1, ha2]) (by rw [hy2, hb1, hb2]) (by rw [hy3, ht])
  obtain ⟨z1, hz1⟩ : ∃ y, y = y3 + y3 / 256 := ⟨_, rfl⟩
  obtain ⟨z2, hz2⟩ : ∃ y, y = z1 + z1 / 65536 := ⟨_, rfl⟩
  obtain ⟨z3, hz3⟩ : ∃ y, y = z2 + z2 / 4294967296 := ⟨_, rfl⟩
  have r1 : bits .and .u64 ((x : Int) / 2) 6148914691236517205 = (a1 : Int) := by rw [ha1]; exact andU (m := x / 2) (M := 6148914691236517205) (by omega) (by omega) (by decide)
  have r2 : bits .and .u64 (x : Int) 6148914691236517205 = (a2 : Int) := by rw [ha2]; exact andU (m := x) (M := 6148914691236517205) rfl hx (by decide)
  have w1 : IntKind.u64.wrap ((a1 : Int) + (a2 : Int)) = (y1 : Int) := wrapU (by omega) p1
  have r3 : bits .and .u64 ((y1 : Int) / 4) 3689348814741910323 = (b1 : Int) := by rw [hb1]; exact andU (m := y1 / 4) (M := 3689348814741910323) (by omega) (by omega) (by decide)
  have r4 : bits .and .u64 (y1 : Int) 3689348814741910323 = (b2 : Int) := by rw [hb2]; exact andU (m := y1) (M := 3689348814741910323) rfl p1 (by decide)
  have w2 : IntKind.u64.wrap ((b1 : Int) + (b2 : Int)) = (y2 : Int) := wrapU (by omega) (by omega)
  have w3 : IntKind.u64.wrap ((y2 : Int) / 16 + (y2 : Int)) = (t : Int) := wrapU (by omega) (by omega)
  have r5 : bits .and .u64 (t : Int) 1085102592571150095 = (y3 : Int) := by rw [hy3]; exact andU (m := t) (M := 1085102592571150095) rfl (by omega) (by decide)
  have w4 : IntKind.u64.wrap ((y3 : Int) + (y3 : Int) / 256) = (z1 : Int) := wrapU (by omega) (by omega)
  have w5 : IntKind.u64.wrap ((z1 : Int) + (z1 : Int) / 65536) = (z2 : Int) := wrapU (by omega) (by omega)
  have w6 : IntKind.u64.wrap ((z2 : Int) + (z2 : Int) / 4294967296) = (z3 : Int) := wrapU (by omega) (by omega)
  have z3b : z3 ≤ 4000000000000000000 := by omega
  have HF : Hid (bits .and .i64 (z3 : Int) 127 = ((Plain.pop x 64 : Nat) : Int)) := by
    have hn := (bits_nat .i64 63 (by decide) wraps_i63 z3 127 (by omega) (by decide)).1
    have e1 : ((127 : Nat) : Int) = 127 := rfl
    rw [e1] at hn
    simp only [Hid]
    rw [hn, nat_mask7, ← p4, ← hz1, ← hz2, ← hz3]
  clear ha1 ha2 hy1 hb1 hb2 hy2 ht hy3 hz1 hz2 hz3 p1 p2 p3 p4
  go_enter Tryd.func35, Tryd.ntmps35
  go_wp2
  go_ret
  exact ⟨ret_int HF.out, rfl⟩
end Go.Proofs.YtnffjoipinhojaaDoor
