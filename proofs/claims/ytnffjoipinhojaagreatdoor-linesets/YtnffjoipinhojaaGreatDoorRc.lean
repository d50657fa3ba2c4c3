import Derived.Test.YtnffjoipinhojaaGreatDoorRb
import Derived.Lib.OthersKept
import Derived.Lib.IndexLaws
import Derived.WalkMore
import Derived.Scope
set_option linter.unusedSimpArgs false
namespace Go.Proofs.YtnffjoipinhojaaGreatDoor
open Go.RowKit

theorem indexByte_any (w : World) (s : ByteArray) (c : Int) :
    Calls Tryz.prog 214 #[.string s, .int .u8 c] w fun e w' => e = .returned (.int .i64 (Lib.indexByte s.data.toList c.toNat.toUInt8)) ∧ w' = w :=
  Any.strings_IndexByte (ρ := Tryz.lays151_ren) { Tryz.lays151 with } s c w

def asc (l : List UInt8) : Prop := ∀ x ∈ l, x.toNat < 128

theorem indexByte_high {l : List UInt8} (h : asc l) {c : UInt8} (hc : 128 ≤ c.toNat) : Lib.indexByte l c = -1 := by
  induction l with
  | nil => rfl
  | cons x l ih =>
    have hx := h x (by simp)
    have hne : (x == c) = false := by
      simp only [beq_eq_false_iff_ne]
      rintro rfl
      omega
    simp [Lib.indexByte, hne, ih (fun y hy => h y (by simp [hy]))]

theorem encode_parts (r : Int) (h0 : 128 ≤ r) (hv : Lib.validRune r = true) : (∃ a z, Utf8.encode r = ⟨#[a, z]⟩ ∧ 128 ≤ z.toNat) ∨ (∃ a b z, Utf8.encode r = ⟨#[a, b, z]⟩ ∧ 128 ≤ z.toNat) ∨ (∃ a b c z, Utf8.encode r = ⟨#[a, b, c, z]⟩ ∧ 128 ≤ z.toNat) := by
  simp only [Lib.validRune, decide_eq_true_eq] at hv
  have hv' : Utf8.valid r = true := by simp [Utf8.valid]; omega
  unfold Utf8.encode
  simp only [hv', if_true]
  have hb : ∀ n : Nat, n < 64 → 128 ≤ (UInt8.ofNat (0x80 + n)).toNat := by
    intro n hn
    rw [UInt8.toNat_ofNat']
    omega
  split
  · omega
  · split
    · exact .inl ⟨_, _, rfl, hb _ (Nat.mod_lt _ (by omega))⟩
    · split
      · exact .inr (.inl ⟨_, _, _, rfl, hb _ (Nat.mod_lt _ (by omega))⟩)
      · exact .inr (.inr ⟨_, _, _, _, rfl, hb _ (Nat.mod_lt _ (by omega))⟩)

theorem ib_quiet {W : World} {q x : Nat} {s : ByteArray} {c : Int} (h : Lib.indexByte s.data.toList c.toNat.toUInt8 = -1) :
    Calls Tryz.prog 214 #[.string s, .int .u8 c] (W.drewN (q + x)) fun e w' => e = .returned (.int .i64 (-1)) ∧ ∃ m, w' = W.drewN (q + m) :=
  (indexByte_any _ s c).mono fun _ _ k => ⟨by rw [k.1, h], x, k.2⟩

set_option maxHeartbeats 4000000 in
set_option maxRecDepth 100000 in
theorem indexRune_high (w : World) (s : ByteArray) (r : Int) (hs : asc s.data.toList) (hms : s.size ≤ 9223372036854775807) (h0 : 128 ≤ r) (h1 : r ≤ 1114111) :
    Calls Tryz.prog 195 #[.string s, .int .i32 r] w fun e w' => e = .returned (.int .i64 (-1)) ∧ Below w.heap.size w w' := by
  by_cases hr : r = 65533
  · subst hr
    go_enter Tryz.func195, Tryz.ntmps195
    go_wp2
    go_loopw [] (fun wr => ∃ pos : Nat, wr.heap[w.heap.size]? = some (.stringIter s pos) ∧ Below w.heap.size w wr) (fun wr => s.size - wr.iterPos w.heap.size)
    case atStart =>
      refine ⟨0, ?_, (Below.refl _ w).alloc (Nat.le_refl _) _⟩
      have := World.iter_heap w s 0
      simpa using this
    case round =>
      obtain ⟨pos, hit, hb⟩ := hrel
      by_cases hp : pos < s.size
      · have hx : s[pos].toNat < 128 := hs _ (by
          show s.data[pos] ∈ s.data.toList
          simp)
        have hnx : ∀ ty, (Instr.next (.pointer (some ⟨w.heap.size, 0, none⟩)) true ty).run Tryz.prog wr = _ := fun ty => Lib.run_next_ascii_at wr w.heap.size s pos ty hit hp hx
        have hit2 := Lib.iterAt_heap wr w.heap.size s pos (pos + 1) hit
        have hb2 := Lib.below_iterAt hb (k := w.heap.size) (Nat.le_refl _) s (pos + 1)
        have hx2 : ¬ ((s[pos].toNat : Int) = 65533) := by omega
        go_wp2
        go_roundw
        case rel => exact ⟨pos + 1, hit2, hb2⟩
        case measure =>
          simp only [World.iterPos, hit2, hit]
          omega
      · have hnx : ∀ ty, (Instr.next (.pointer (some ⟨w.heap.size, 0, none⟩)) true ty).run Tryz.prog wr = _ := fun ty => Lib.run_next_end_at wr w.heap.size s pos ty hit hp
        go_wp2
        go_ret
        exact ⟨rfl, hb⟩
  · cases hv : Lib.validRune r with
    | false =>
      have hV := validRune_any w r
      rw [hv] at hV
      go_enter Tryz.func195, Tryz.ntmps195
      go_wp2_with (go_at_call 226; refine hV.mono ?_; rintro e w' ⟨rfl, rfl⟩)
      go_ret
      exact ⟨rfl, Below.refl _ _⟩
    | true =>
      have hv2 := hv
      have hV := validRune_any w r
      rw [hv] at hV
      have hsl : ∀ (a : Nat) (z : UInt8), 128 ≤ z.toNat → Lib.indexByte (s.extract a s.size).data.toList (((z.toNat : Nat) : Int)).toNat.toUInt8 = -1 := by
        intro a z hz
        apply indexByte_high
        · intro x hx
          apply hs
          have : (s.extract a s.size).data = s.data.extract a s.size := by simp
          rw [this] at hx
          simp only [Array.toList_extract] at hx
          exact List.mem_of_mem_drop (List.mem_of_mem_take hx)
        · simpa using hz
      have hat : ∀ (m : Nat) (h : m < s.size), s[m].toNat < 128 := fun m h => hs _ (by
          show s.data[m] ∈ s.data.toList
          simp)
      have HS : Hid (∀ (a : Nat) (z : UInt8), 128 ≤ z.toNat → Lib.indexByte (s.extract a s.size).data.toList (((z.toNat : Nat) : Int)).toNat.toUInt8 = -1) := hsl
      have HA : Hid (∀ (m : Nat) (h : m < s.size), s[m].toNat < 128) := hat
      clear hsl hat hs hv
      rcases encode_parts r h0 hv2 with ⟨a, z, hK, hz⟩ | ⟨a, b, z, hK, hz⟩ | ⟨a, b, c, z, hK, hz⟩
      · by_cases hm : 1 < s.size
        · have hx := HA.out 1 hm
          have hne : ¬ ((s[1].toNat : Int) = (((⟨#[a, z]⟩ : ByteArray)[1]'(by show _ < _; simp [ByteArray.size])).toNat : Int)) := by
            show ¬ ((s[1].toNat : Int) = (z.toNat : Int))
            omega
          have hw2 : IntKind.i64.wrap 2 = 2 := by decide
          go_enter Tryz.func195, Tryz.ntmps195
          go_wp2_with (go_at_call 226; refine hV.mono ?_; rintro e w' ⟨rfl, rfl⟩)
          refine wp_scope_straight ?_
          go_wp2_with fail
          refine wp_loop_rounds 1 ?_
          rw [rounds_succ]
          go_wp2_with fail
          refine wp_scope_straight ?_
          go_wp2_with fail
          go_quiet (fail)
          go_wp2_with fail
          go_quiet ((go_at_call 214; exact ib_quiet (HS.out 2 z hz)))
          go_wp2_with fail
          simp only [Exit.noGoto_ret, Exit.inBlock, Exit.then]
          go_ret
          exact ⟨rfl, below_drewN (Below.refl _ _) _⟩
        · have hm' : ¬ ((1 : Int) < (s.size : Int)) := by omega
          go_enter Tryz.func195, Tryz.ntmps195
          go_wp2_with (go_at_call 226; refine hV.mono ?_; rintro e w' ⟨rfl, rfl⟩)
          refine wp_scope_straight ?_
          go_wp2_with fail
          refine wp_loop_rounds 1 ?_
          rw [rounds_succ]
          go_wp2_with fail
          simp only [Exit.noGoto_ret, Exit.inBlock, Exit.then]
          go_ret
          exact ⟨rfl, Below.refl _ _⟩
      · by_cases hm : 2 < s.size
        · have hx := HA.out 2 hm
          have hne : ¬ ((s[2].toNat : Int) = (((⟨#[a, b, z]⟩ : ByteArray)[2]'(by show _ < _; simp [ByteArray.size])).toNat : Int)) := by
            show ¬ ((s[2].toNat : Int) = (z.toNat : Int))
            omega
          have hw2 : IntKind.i64.wrap 3 = 3 := by decide
          go_enter Tryz.func195, Tryz.ntmps195
          go_wp2_with (go_at_call 226; refine hV.mono ?_; rintro e w' ⟨rfl, rfl⟩)
          refine wp_scope_straight ?_
          go_wp2_with fail
          refine wp_loop_rounds 1 ?_
          rw [rounds_succ]
          go_wp2_with fail
          refine wp_scope_straight ?_
          go_wp2_with fail
          go_quiet (fail)
          go_wp2_with fail
          go_quiet ((go_at_call 214; exact ib_quiet (HS.out 3 z hz)))
          go_wp2_with fail
          simp only [Exit.noGoto_ret, Exit.inBlock, Exit.then]
          go_ret
          exact ⟨rfl, below_drewN (Below.refl _ _) _⟩
        · have hm' : ¬ ((2 : Int) < (s.size : Int)) := by omega
          go_enter Tryz.func195, Tryz.ntmps195
          go_wp2_with (go_at_call 226; refine hV.mono ?_; rintro e w' ⟨rfl, rfl⟩)
          refine wp_scope_straight ?_
          go_wp2_with fail
          refine wp_loop_rounds 1 ?_
          rw [rounds_succ]
          go_wp2_with fail
          simp only [Exit.noGoto_ret, Exit.inBlock, Exit.then]
          go_ret
          exact ⟨rfl, Below.refl _ _⟩
      · by_cases hm : 3 < s.size
        · have hx := HA.out 3 hm
          have hne : ¬ ((s[3].toNat : Int) = (((⟨#[a, b, c, z]⟩ : ByteArray)[3]'(by show _ < _; simp [ByteArray.size])).toNat : Int)) := by
            show ¬ ((s[3].toNat : Int) = (z.toNat : Int))
            omega
          have hw2 : IntKind.i64.wrap 4 = 4 := by decide
          go_enter Tryz.func195, Tryz.ntmps195
          go_wp2_with (go_at_call 226; refine hV.mono ?_; rintro e w' ⟨rfl, rfl⟩)
          refine wp_scope_straight ?_
          go_wp2_with fail
          refine wp_loop_rounds 1 ?_
          rw [rounds_succ]
          go_wp2_with fail
          refine wp_scope_straight ?_
          go_wp2_with fail
          go_quiet (fail)
          go_wp2_with fail
          go_quiet ((go_at_call 214; exact ib_quiet (HS.out 4 z hz)))
          go_wp2_with fail
          simp only [Exit.noGoto_ret, Exit.inBlock, Exit.then]
          go_ret
          exact ⟨rfl, below_drewN (Below.refl _ _) _⟩
        · have hm' : ¬ ((3 : Int) < (s.size : Int)) := by omega
          go_enter Tryz.func195, Tryz.ntmps195
          go_wp2_with (go_at_call 226; refine hV.mono ?_; rintro e w' ⟨rfl, rfl⟩)
          refine wp_scope_straight ?_
          go_wp2_with fail
          refine wp_loop_rounds 1 ?_
          rw [rounds_succ]
          go_wp2_with fail
          simp only [Exit.noGoto_ret, Exit.inBlock, Exit.then]
          go_ret
          exact ⟨rfl, Below.refl _ _⟩
end Go.Proofs.YtnffjoipinhojaaGreatDoor
