import Derived.Test.YtnffjoipinhojaaGreatDoorPa
import Derived.Laws.BitsAllLaws
import Derived.Laws.IdiomStrings
set_option linter.unusedSimpArgs false
set_option linter.unusedVariables false
namespace Go.Proofs.YtnffjoipinhojaaGreatDoor
open Go.RowKit
namespace Ref

abbrev str (l : List UInt8) : Value := .string ⟨l.toArray⟩

def encS (n : Nat) : List UInt8 := if Lib.validRune n then Lib.encodeRune n else []

theorem i64_and63 (n : Int) : bits .and .i64 n 63 = n % 64 := by
  have h63 : (BitVec.ofInt 64 63).toNat = 2 ^ 6 - 1 := by decide
  have key : (BitVec.ofInt 64 n &&& BitVec.ofInt 64 63).toNat = (n % ((2 ^ 64 : Nat) : Int)).toNat % 2 ^ 6 := by
    rw [BitVec.toNat_and, BitVec.toNat_ofInt, h63, Nat.and_two_pow_sub_one_eq_mod]
  show IntKind.i64.wrap ((BitVec.ofInt 64 n &&& BitVec.ofInt 64 63).toNat : Nat) = n % 64
  rw [key, IntKind.wrap_i64]
  omega

theorem conv (w : World) (l : List UInt8) : (convert 98 9 (.slice (some ⟨w.heap.size, 0, none⟩) l.length l.length)).run Tryz.prog (w.alloc (.cells (l.map fun x => Value.int .u8 (x.toNat : Int)).toArray 5)) = .ok (str l) (w.alloc (.cells (l.map fun x => Value.int .u8 (x.toNat : Int)).toArray 5)) :=
  run_convert_bytes_back _ 98 9 5 ⟨w.heap.size, 0, none⟩ l.length l Tryz.underlying98 Tryz.underlying5 Tryz.underlying9 (fun j hj => by
    have e : (⟨w.heap.size, 0, none⟩ : Addr).add j = ⟨w.heap.size, j, none⟩ := by
      unfold Addr.add
      by_cases h0 : j = 0
      · subst h0; simp
      · simp [h0]
    rw [e, World.cell?_alloc_new]
    simp [hj])

theorem ofNat8 {x : Nat} (h : x < 256) : ((UInt8.ofNat x).toNat : Int) = (x : Int) := by simp; omega

set_option maxRecDepth 20000 in
set_option maxHeartbeats 1000000 in
theorem encoded_any (w : World) (n : Nat) (hn : n < 4294967296) :
    Calls Tryz.prog 147 #[.int .i64 n] w fun e w' => e = .returned (str (encS n)) ∧ Below w.heap.size w w' := by
  have b63 := i64_and63
  by_cases c1 : n < 128
  · have e : Hid (encS n = [UInt8.ofNat n]) := by
      unfold Hid encS
      rw [if_pos (by simp [Lib.validRune]; omega)]
      simp only [Lib.encodeRune, Lib.encodeRuneZ_one (r := (n : Int)) (by omega) (by omega), List.map_cons, List.map_nil]
      rfl
    have hcv := conv w [UInt8.ofNat n]
    simp only [List.map_cons, List.map_nil, ofNat8 (show n < 256 by omega), List.length_cons, List.length_nil] at hcv
    have d1 : (n : Int) < 128 := by omega
    have d2 : (n : Int) % 256 = n := by omega
    clear c1
    go_enter Tryz.func147, Tryz.ntmps147
    go_wp2_with fail
    go_ret
    exact ⟨by rw [e.out]; rfl, (Below.refl _ w).alloc (Nat.le_refl _) _⟩
  have c1' : ¬ ((n : Int) < 128) := by omega
  by_cases c2 : n < 2048
  · obtain ⟨p, hp⟩ : ∃ p : Nat, p = n / 64 := ⟨_, rfl⟩
    obtain ⟨q, hq⟩ : ∃ q : Nat, q = n % 64 := ⟨_, rfl⟩
    have e : Hid (encS n = [UInt8.ofNat (192 + p), UInt8.ofNat (128 + q)]) := by
      unfold Hid encS
      rw [if_pos (by simp [Lib.validRune]; omega)]
      simp only [Lib.encodeRune, Lib.encodeRuneZ_two (r := (n : Int)) (by omega) (by omega), List.map_cons, List.map_nil]
      rw [show (192 + (n : Int) / 64).toNat = 192 + p by omega, show (128 + (n : Int) % 64).toNat = 128 + q by omega]
    have hcv : (convert 98 9 (.slice (some ⟨w.heap.size, 0, none⟩) 2 2)).run Tryz.prog (w.alloc (.cells #[.int .u8 (192 + (p : Int)), .int .u8 (128 + (q : Int))] 5)) = .ok (str [UInt8.ofNat (192 + p), UInt8.ofNat (128 + q)]) (w.alloc (.cells #[.int .u8 (192 + (p : Int)), .int .u8 (128 + (q : Int))] 5)) := by
      have := conv w [UInt8.ofNat (192 + p), UInt8.ofNat (128 + q)]
      simp only [List.map_cons, List.map_nil, List.length_cons, List.length_nil, ofNat8 (show 192 + p < 256 by omega), ofNat8 (show 128 + q < 256 by omega)] at this
      simpa using this
    generalize UInt8.ofNat (192 + p) = X at e hcv
    generalize UInt8.ofNat (128 + q) = Y at e hcv
    have c2' : (n : Int) < 2048 := by omega
    have d1 : (n : Int) / 64 = (p : Int) := by omega
    have d2 : bits .and .i64 (n : Int) 63 = (q : Int) := by rw [b63]; omega
    have d3 : (p : Int) < 32 := by omega
    have d4 : (q : Int) < 64 := by omega
    clear hp hq c2
    clear b63 c1 hn
    go_enter Tryz.func147, Tryz.ntmps147
    go_wp2_with fail
    go_ret
    exact ⟨by rw [e.out]; rfl, (Below.refl _ w).alloc (Nat.le_refl _) _⟩
  have c2' : ¬ ((n : Int) < 2048) := by omega
  by_cases c3 : 55296 ≤ n ∧ n ≤ 57343
  · have e : Hid (encS n = []) := by
      unfold Hid encS
      rw [if_neg (by simp [Lib.validRune]; omega)]
    have d1 : (55296 : Int) ≤ n := by omega
    have d2 : (n : Int) ≤ 57343 := by omega
    clear b63 c1 c2 c3 hn
    go_enter Tryz.func147, Tryz.ntmps147
    go_wp2_with fail
    go_ret
    exact ⟨by rw [e.out]; rfl, Below.refl _ w⟩
  have c3' : ¬ ((55296 : Int) ≤ n ∧ (n : Int) ≤ 57343) := by omega
  by_cases c4 : n < 65536
  · obtain ⟨p, hp⟩ : ∃ p : Nat, p = n / 4096 := ⟨_, rfl⟩
    obtain ⟨q, hq⟩ : ∃ q : Nat, q = n / 64 % 64 := ⟨_, rfl⟩
    obtain ⟨r, hr⟩ : ∃ r : Nat, r = n % 64 := ⟨_, rfl⟩
    have e : Hid (encS n = [UInt8.ofNat (224 + p), UInt8.ofNat (128 + q), UInt8.ofNat (128 + r)]) := by
      unfold Hid encS
      rw [if_pos (by simp [Lib.validRune]; omega)]
      simp only [Lib.encodeRune, Lib.encodeRuneZ_three (r := (n : Int)) (by omega), List.map_cons, List.map_nil]
      rw [show (224 + (n : Int) / 4096).toNat = 224 + p by omega, show (128 + (n : Int) / 64 % 64).toNat = 128 + q by omega, show (128 + (n : Int) % 64).toNat = 128 + r by omega]
    have hcv : (convert 98 9 (.slice (some ⟨w.heap.size, 0, none⟩) 3 3)).run Tryz.prog (w.alloc (.cells #[.int .u8 (224 + (p : Int)), .int .u8 (128 + (q : Int)), .int .u8 (128 + (r : Int))] 5)) = .ok (str [UInt8.ofNat (224 + p), UInt8.ofNat (128 + q), UInt8.ofNat (128 + r)]) (w.alloc (.cells #[.int .u8 (224 + (p : Int)), .int .u8 (128 + (q : Int)), .int .u8 (128 + (r : Int))] 5)) := by
      have := conv w [UInt8.ofNat (224 + p), UInt8.ofNat (128 + q), UInt8.ofNat (128 + r)]
      simp only [List.map_cons, List.map_nil, List.length_cons, List.length_nil, ofNat8 (show 224 + p < 256 by omega), ofNat8 (show 128 + q < 256 by omega), ofNat8 (show 128 + r < 256 by omega)] at this
      simpa using this
    generalize UInt8.ofNat (224 + p) = X at e hcv
    generalize UInt8.ofNat (128 + q) = Y at e hcv
    generalize UInt8.ofNat (128 + r) = Z at e hcv
    have c4' : (n : Int) < 65536 := by omega
    have d1 : (n : Int) / 4096 = (p : Int) := by omega
    obtain ⟨m, hm⟩ : ∃ m : Nat, m = n / 64 := ⟨_, rfl⟩
    have d5 : (n : Int) / 64 = (m : Int) := by omega
    have d2 : bits .and .i64 (m : Int) 63 = (q : Int) := by rw [b63]; omega
    have d6 : bits .and .i64 (n : Int) 63 = (r : Int) := by rw [b63]; omega
    have d3 : (p : Int) < 16 := by omega
    have d4 : (q : Int) < 64 := by omega
    have d7 : (r : Int) < 64 := by omega
    by_cases k1 : (55296 : Int) ≤ n
    · have k2 : ¬ ((n : Int) ≤ 57343) := by omega
      clear b63 c1 c2 c3 c4 hn hp hq hr hm c3'
      go_enter Tryz.func147, Tryz.ntmps147
      go_wp2_with fail
      go_ret
      exact ⟨by rw [e.out]; rfl, (Below.refl _ w).alloc (Nat.le_refl _) _⟩
    · clear b63 c1 c2 c3 c4 hn hp hq hr hm c3'
      go_enter Tryz.func147, Tryz.ntmps147
      go_wp2_with fail
      go_ret
      exact ⟨by rw [e.out]; rfl, (Below.refl _ w).alloc (Nat.le_refl _) _⟩
  have c4' : ¬ ((n : Int) < 65536) := by omega
  have k1 : (55296 : Int) ≤ n := by omega
  have k2 : ¬ ((n : Int) ≤ 57343) := by omega
  by_cases c5 : n ≤ 1114111
  · obtain ⟨p, hp⟩ : ∃ p : Nat, p = n / 262144 := ⟨_, rfl⟩
    obtain ⟨q, hq⟩ : ∃ q : Nat, q = n / 4096 % 64 := ⟨_, rfl⟩
    obtain ⟨r, hr⟩ : ∃ r : Nat, r = n / 64 % 64 := ⟨_, rfl⟩
    obtain ⟨t, ht⟩ : ∃ t : Nat, t = n % 64 := ⟨_, rfl⟩
    have e : Hid (encS n = [UInt8.ofNat (240 + p), UInt8.ofNat (128 + q), UInt8.ofNat (128 + r), UInt8.ofNat (128 + t)]) := by
      unfold Hid encS
      rw [if_pos (by simp [Lib.validRune]; omega)]
      simp only [Lib.encodeRune, Lib.encodeRuneZ_four (r := (n : Int)) (by omega) (by omega), List.map_cons, List.map_nil]
      rw [show (240 + (n : Int) / 262144).toNat = 240 + p by omega, show (128 + (n : Int) / 4096 % 64).toNat = 128 + q by omega, show (128 + (n : Int) / 64 % 64).toNat = 128 + r by omega, show (128 + (n : Int) % 64).toNat = 128 + t by omega]
    have hcv : (convert 98 9 (.slice (some ⟨w.heap.size, 0, none⟩) 4 4)).run Tryz.prog (w.alloc (.cells #[.int .u8 (240 + (p : Int)), .int .u8 (128 + (q : Int)), .int .u8 (128 + (r : Int)), .int .u8 (128 + (t : Int))] 5)) = .ok (str [UInt8.ofNat (240 + p), UInt8.ofNat (128 + q), UInt8.ofNat (128 + r), UInt8.ofNat (128 + t)]) (w.alloc (.cells #[.int .u8 (240 + (p : Int)), .int .u8 (128 + (q : Int)), .int .u8 (128 + (r : Int)), .int .u8 (128 + (t : Int))] 5)) := by
      have := conv w [UInt8.ofNat (240 + p), UInt8.ofNat (128 + q), UInt8.ofNat (128 + r), UInt8.ofNat (128 + t)]
      simp only [List.map_cons, List.map_nil, List.length_cons, List.length_nil, ofNat8 (show 240 + p < 256 by omega), ofNat8 (show 128 + q < 256 by omega), ofNat8 (show 128 + r < 256 by omega), ofNat8 (show 128 + t < 256 by omega)] at this
      simpa using this
    generalize UInt8.ofNat (240 + p) = X at e hcv
    generalize UInt8.ofNat (128 + q) = Y at e hcv
    generalize UInt8.ofNat (128 + r) = Z at e hcv
    generalize UInt8.ofNat (128 + t) = V at e hcv
    have c5' : (n : Int) ≤ 1114111 := by omega
    have d1 : (n : Int) / 262144 = (p : Int) := by omega
    obtain ⟨m, hm⟩ : ∃ m : Nat, m = n / 64 := ⟨_, rfl⟩
    obtain ⟨x, hx⟩ : ∃ x : Nat, x = n / 4096 := ⟨_, rfl⟩
    have d5 : (n : Int) / 64 = (m : Int) := by omega
    have d8 : (n : Int) / 4096 = (x : Int) := by omega
    have d2 : bits .and .i64 (m : Int) 63 = (r : Int) := by rw [b63]; omega
    have d9 : bits .and .i64 (x : Int) 63 = (q : Int) := by rw [b63]; omega
    have d6 : bits .and .i64 (n : Int) 63 = (t : Int) := by rw [b63]; omega
    have d3 : (p : Int) < 5 := by omega
    have d4 : (q : Int) < 64 := by omega
    have d7 : (r : Int) < 64 := by omega
    have d10 : (t : Int) < 64 := by omega
    clear b63 c1 c2 c3 c4 c5 hn hp hq hr ht hm hx c3'
    go_enter Tryz.func147, Tryz.ntmps147
    go_wp2_with fail
    go_ret
    exact ⟨by rw [e.out]; rfl, (Below.refl _ w).alloc (Nat.le_refl _) _⟩
  · have e : Hid (encS n = []) := by
      unfold Hid encS
      rw [if_neg (by simp [Lib.validRune]; omega)]
    have d1 : ¬ ((n : Int) ≤ 1114111) := by omega
    clear b63 c1 c2 c3 c4 c5 hn c3'
    go_enter Tryz.func147, Tryz.ntmps147
    go_wp2_with fail
    go_ret
    exact ⟨by rw [e.out]; rfl, Below.refl _ w⟩
end Ref
end Go.Proofs.YtnffjoipinhojaaGreatDoor
