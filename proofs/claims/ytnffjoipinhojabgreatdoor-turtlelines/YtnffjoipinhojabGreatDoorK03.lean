import Derived.Test.YtnffjoipinhojabGreatDoorK02
import Derived.Lib.OthersKept
import Derived.Lib.IndexLaws
import Derived.WalkMore
import Derived.Scope
import Derived.Lib.IndexAny
set_option linter.unusedSimpArgs false
namespace Go.Proofs.YtnffjoipinhojabGreatDoor
open Go.RowKit

theorem indexByte_any (w : World) (s : ByteArray) (c : Int) :
    Calls Tryz.prog 166 #[.string s, .int .u8 c] w fun e w' => e = .returned (.int .i64 (Lib.indexByte s.data.toList c.toNat.toUInt8)) ∧ w' = w :=
  Any.strings_IndexByte (ρ := Tryz.lays151_ren) { Tryz.lays151 with } s c w

def asc (l : List UInt8) : Prop := ∀ x ∈ l, x.toNat < 128

theorem indexByte_high {l : List UInt8} (h : asc l) {c : UInt8} (hc : 128 ≤ c.toNat) : Lib.indexByte l c = -1 := by
  induction l with
  | nil => rfl
  | cons x l ih =>
    have hx := h x (by simp)
    have hne : (x == c) = false := by
      simp only [beq_eq_false_iff_ne]
      rintro rfl
      omega
    simp [Lib.indexByte, hne, ih (fun y hy => h y (by simp [hy]))]

theorem encode_parts (r : Int) (h0 : 128 ≤ r) (hv : Lib.validRune r = true) : (∃ a z, Utf8.encode r = ⟨#[a, z]⟩ ∧ 128 ≤ z.toNat) ∨ (∃ a b z, Utf8.encode r = ⟨#[a, b, z]⟩ ∧ 128 ≤ z.toNat) ∨ (∃ a b c z, Utf8.encode r = ⟨#[a, b, c, z]⟩ ∧ 128 ≤ z.toNat) := by
  simp only [Lib.validRune, decide_eq_true_eq] at hv
  have hv' : Utf8.valid r = true := by simp [Utf8.valid]; omega
  unfold Utf8.encode
  simp only [hv', if_true]
  have hb : ∀ n : Nat, n < 64 → 128 ≤ (UInt8.ofNat (0x80 + n)).toNat := by
    intro n hn
    rw [UInt8.toNat_ofNat']
    omega
  split
  · omega
  · split
    · exact .inl ⟨_, _, rfl, hb _ (Nat.mod_lt _ (by omega))⟩
    · split
      · exact .inr (.inl ⟨_, _, _, rfl, hb _ (Nat.mod_lt _ (by omega))⟩)
      · exact .inr (.inr ⟨_, _, _, _, rfl, hb _ (Nat.mod_lt _ (by omega))⟩)

theorem ib_quiet {W : World} {q x : Nat} {s : ByteArray} {c : Int} (h : Lib.indexByte s.data.toList c.toNat.toUInt8 = -1) :
    Calls Tryz.prog 166 #[.string s, .int .u8 c] (W.drewN (q + x)) fun e w' => e = .returned (.int .i64 (-1)) ∧ ∃ m, w' = W.drewN (q + m) :=
  (indexByte_any _ s c).mono fun _ _ k => ⟨by rw [k.1, h], x, k.2⟩

set_option maxHeartbeats 4000000 in
set_option maxRecDepth 100000 in
theorem indexRune_high (w : World) (s : ByteArray) (r : Int) (hs : asc s.data.toList) (hms : s.size ≤ 9223372036854775807) (h0 : 128 ≤ r) (h1 : r ≤ 1114111) :
    Calls Tryz.prog 182 #[.string s, .int .i32 r] w fun e w' => e = .returned (.int .i64 (-1)) ∧ Below w.heap.size w w' := by
  by_cases hr : r = 65533
  · subst hr
    go_enter Tryz.func182, Tryz.ntmps182
    go_wp2
    go_loopw [] (fun wr => ∃ pos : Nat, wr.heap[w.heap.size]? = some (.stringIter s pos) ∧ Below w.heap.size w wr) (fun wr => s.size - wr.iterPos w.heap.size)
    case atStart =>
      refine ⟨0, ?_, (Below.refl _ w).alloc (Nat.le_refl _) _⟩
      have := World.iter_heap w s 0
      simpa using this
    case round =>
      obtain ⟨pos, hit, hb⟩ := hrel
      by_cases hp : pos < s.size
      · have hx : s[pos].toNat < 128 := hs _ (by
          show s.data[pos] ∈ s.data.toList
          simp)
        have hnx : ∀ ty, (Instr.next (.pointer (some ⟨w.heap.size, 0, none⟩)) true ty).run Tryz.prog wr = _ := fun ty => Lib.run_next_ascii_at wr w.heap.size s pos ty hit hp hx
        have hit2 := Lib.iterAt_heap wr w.heap.size s pos (pos + 1) hit
        have hb2 := Lib.below_iterAt hb (k := w.heap.size) (Nat.le_refl _) s (pos + 1)
        have hx2 : ¬ ((s[pos].toNat : Int) = 65533) := by omega
        go_wp2
        go_roundw
        case rel => exact ⟨pos + 1, hit2, hb2⟩
        case measure =>
          simp only [World.iterPos, hit2, hit]
          omega
      · have hnx : ∀ ty, (Instr.next (.pointer (some ⟨w.heap.size, 0, none⟩)) true ty).run Tryz.prog wr = _ := fun ty => Lib.run_next_end_at wr w.heap.size s pos ty hit hp
        go_wp2
        go_ret
        exact ⟨rfl, hb⟩
  · cases hv : Lib.validRune r with
    | false =>
      have hV := validRune_any w r
      rw [hv] at hV
      go_enter Tryz.func182, Tryz.ntmps182
      go_wp2_with (go_at_call 211; refine hV.mono ?_; rintro e w' ⟨rfl, rfl⟩)
      go_ret
      exact ⟨rfl, Below.refl _ _⟩
    | true =>
      have hv2 := hv
      have hV := validRune_any w r
      rw [hv] at hV
      have hsl : ∀ (a : Nat) (z : UInt8), 128 ≤ z.toNat → Lib.indexByte (s.extract a s.size).data.toList (((z.toNat : Nat) : Int)).toNat.toUInt8 = -1 := by
        intro a z hz
        apply indexByte_high
        · intro x hx
          apply hs
          have : (s.extract a s.size).data = s.data.extract a s.size := by simp
          rw [this] at hx
          simp only [Array.toList_extract] at hx
          exact List.mem_of_mem_drop (List.mem_of_mem_take hx)
        · simpa using hz
      have hat : ∀ (m : Nat) (h : m < s.size), s[m].toNat < 128 := fun m h => hs _ (by
          show s.data[m] ∈ s.data.toList
          simp)
      have HS : Hid (∀ (a : Nat) (z : UInt8), 128 ≤ z.toNat → Lib.indexByte (s.extract a s.size).data.toList (((z.toNat : Nat) : Int)).toNat.toUInt8 = -1) := hsl
      have HA : Hid (∀ (m : Nat) (h : m < s.size), s[m].toNat < 128) := hat
      clear hsl hat hs hv
      rcases encode_parts r h0 hv2 with ⟨a, z, hK, hz⟩ | ⟨a, b, z, hK, hz⟩ | ⟨a, b, c, z, hK, hz⟩
      · by_cases hm : 1 < s.size
        · have hx := HA.out 1 hm
          have hne : ¬ ((s[1].toNat : Int) = (((⟨#[a, z]⟩ : ByteArray)[1]'(by show _ < _; simp [ByteArray.size])).toNat : Int)) := by
            show ¬ ((s[1].toNat : Int) = (z.toNat : Int))
            omega
          have hw2 : IntKind.i64.wrap 2 = 2 := by decide
          go_enter Tryz.func182, Tryz.ntmps182
          go_wp2_with (go_at_call 211; refine hV.mono ?_; rintro e w' ⟨rfl, rfl⟩)
          refine wp_scope_straight ?_
          go_wp2_with fail
          refine wp_loop_rounds 1 ?_
          rw [rounds_succ]
          go_wp2_with fail
          refine wp_scope_straight ?_
          go_wp2_with fail
          go_quiet (fail)
          go_wp2_with fail
          go_quiet ((go_at_call 166; exact ib_quiet (HS.out 2 z hz)))
          go_wp2_with fail
          simp only [Exit.noGoto_ret, Exit.inBlock, Exit.then]
          go_ret
          exact ⟨rfl, below_drewN (Below.refl _ _) _⟩
        · have hm' : ¬ ((1 : Int) < (s.size : Int)) := by omega
          go_enter Tryz.func182, Tryz.ntmps182
          go_wp2_with (go_at_call 211; refine hV.mono ?_; rintro e w' ⟨rfl, rfl⟩)
          refine wp_scope_straight ?_
          go_wp2_with fail
          refine wp_loop_rounds 1 ?_
          rw [rounds_succ]
          go_wp2_with fail
          simp only [Exit.noGoto_ret, Exit.inBlock, Exit.then]
          go_ret
          exact ⟨rfl, Below.refl _ _⟩
      · by_cases hm : 2 < s.size
        · have hx := HA.out 2 hm
          have hne : ¬ ((s[2].toNat : Int) = (((⟨#[a, b, z]⟩ : ByteArray)[2]'(by show _ < _; simp [ByteArray.size])).toNat : Int)) := by
            show ¬ ((s[2].toNat : Int) = (z.toNat : Int))
            omega
          have hw2 : IntKind.i64.wrap 3 = 3 := by decide
          go_enter Tryz.func182, Tryz.ntmps182
          go_wp2_with (go_at_call 211; refine hV.mono ?_; rintro e w' ⟨rfl, rfl⟩)
          refine wp_scope_straight ?_
          go_wp2_with fail
          refine wp_loop_rounds 1 ?_
          rw [rounds_succ]
          go_wp2_with fail
          refine wp_scope_straight ?_
          go_wp2_with fail
          go_quiet (fail)
          go_wp2_with fail
          go_quiet ((go_at_call 166; exact ib_quiet (HS.out 3 z hz)))
          go_wp2_with fail
          simp only [Exit.noGoto_ret, Exit.inBlock, Exit.then]
          go_ret
          exact ⟨rfl, below_drewN (Below.refl _ _) _⟩
        · have hm' : ¬ ((2 : Int) < (s.size : Int)) := by omega
          go_enter Tryz.func182, Tryz.ntmps182
          go_wp2_with (go_at_call 211; refine hV.mono ?_; rintro e w' ⟨rfl, rfl⟩)
          refine wp_scope_straight ?_
          go_wp2_with fail
          refine wp_loop_rounds 1 ?_
          rw [rounds_succ]
          go_wp2_with fail
          simp only [Exit.noGoto_ret, Exit.inBlock, Exit.then]
          go_ret
          exact ⟨rfl, Below.refl _ _⟩
      · by_cases hm : 3 < s.size
        · have hx := HA.out 3 hm
          have hne : ¬ ((s[3].toNat : Int) = (((⟨#[a, b, c, z]⟩ : ByteArray)[3]'(by show _ < _; simp [ByteArray.size])).toNat : Int)) := by
            show ¬ ((s[3].toNat : Int) = (z.toNat : Int))
            omega
          have hw2 : IntKind.i64.wrap 4 = 4 := by decide
          go_enter Tryz.func182, Tryz.ntmps182
          go_wp2_with (go_at_call 211; refine hV.mono ?_; rintro e w' ⟨rfl, rfl⟩)
          refine wp_scope_straight ?_
          go_wp2_with fail
          refine wp_loop_rounds 1 ?_
          rw [rounds_succ]
          go_wp2_with fail
          refine wp_scope_straight ?_
          go_wp2_with fail
          go_quiet (fail)
          go_wp2_with fail
          go_quiet ((go_at_call 166; exact ib_quiet (HS.out 4 z hz)))
          go_wp2_with fail
          simp only [Exit.noGoto_ret, Exit.inBlock, Exit.then]
          go_ret
          exact ⟨rfl, below_drewN (Below.refl _ _) _⟩
        · have hm' : ¬ ((3 : Int) < (s.size : Int)) := by omega
          go_enter Tryz.func182, Tryz.ntmps182
          go_wp2_with (go_at_call 211; refine hV.mono ?_; rintro e w' ⟨rfl, rfl⟩)
          refine wp_scope_straight ?_
          go_wp2_with fail
          refine wp_loop_rounds 1 ?_
          rw [rounds_succ]
          go_wp2_with fail
          simp only [Exit.noGoto_ret, Exit.inBlock, Exit.then]
          go_ret
          exact ⟨rfl, Below.refl _ _⟩
end Go.Proofs.YtnffjoipinhojabGreatDoor

set_option linter.unusedSimpArgs false
set_option linter.unusedVariables false
namespace Go.Proofs.YtnffjoipinhojabGreatDoor
open Go.RowKit

def oneOfP (l : List UInt8) (c : Int) : Bool := l.any fun x => decide ((x.toNat : Int) = c)

theorem oneOfP_low {l : List UInt8} {c : Int} (h0 : 0 ≤ c) (h1 : c < 128) : decide (0 ≤ Lib.indexByte l c.toNat.toUInt8) = oneOfP l c := by
  rw [← Lib.contains_iff_indexByte]
  unfold oneOfP
  rw [List.contains_eq_any_beq]
  congr 1
  funext x
  rw [Bool.eq_iff_iff]
  simp only [beq_iff_eq, decide_eq_true_eq]
  have hc : c.toNat.toUInt8.toNat = c.toNat := by simp; omega
  constructor
  · intro e; have := congrArg UInt8.toNat e; omega
  · intro e; apply UInt8.toNat_inj.1; omega

theorem oneOfP_high {l : List UInt8} (hl : asc l) {c : Int} (h0 : 128 ≤ c) : oneOfP l c = false := by
  unfold oneOfP
  rw [List.any_eq_false]
  intro x hx
  have := hl x hx
  simp only [decide_eq_true_eq]
  omega

theorem contains_any (w : World) (s : ByteArray) (c : Int) (hs : asc s.data.toList) (hms : s.size ≤ 9223372036854775807) (h0 : 0 ≤ c) (h1 : c ≤ 1114111) :
    Calls Tryz.prog 176 #[.string s, .int .i32 c] w fun e w' => e = .returned (.bool (oneOfP s.data.toList c)) ∧ Below w.heap.size w w' := by
  by_cases hc : c < 128
  · refine (containsRune_ascii w s c h0 hc).mono ?_
    rintro e w' ⟨rfl, rfl⟩
    exact ⟨by rw [oneOfP_low h0 hc], Below.refl _ _⟩
  · have hI := indexRune_high w s c hs hms (by omega) h1
    rw [oneOfP_high hs (by omega)]
    clear hs
    go_enter Tryz.func176, Tryz.ntmps176
    go_wp2_with (go_at_call 182; refine hI.mono ?_; rintro e w' ⟨rfl, hB⟩)
    go_ret
    exact ⟨rfl, hB⟩

/-! the four that are functions of their own -/
theorem set_letter (W : World) : IsSet 116 #[] letter 0 0 W := by
  refine ⟨enters_of Tryz.func116 (by kernel_rfl) rfl, Nat.zero_le _, fun w _ _ c h0 h1 => ?_⟩
  simp only [List.append_toArray, List.append_nil, Array.append_empty]
  by_cases a : 65 ≤ c <;> by_cases b : c ≤ 90 <;> by_cases d : 97 ≤ c <;> by_cases e : c ≤ 122
  all_goals
    go_enter Tryz.func116, Tryz.ntmps116
    go_wp2
    go_ret
    exact ⟨ret_bool (by simp [letter, a, b, d, e] <;> omega), Below.refl _ _⟩

theorem set_digit (W : World) : IsSet 121 #[] digit 0 0 W := by
  refine ⟨enters_of Tryz.func121 (by kernel_rfl) rfl, Nat.zero_le _, fun w _ _ c h0 h1 => ?_⟩
  simp only [List.append_toArray, List.append_nil, Array.append_empty]
  by_cases a : 48 ≤ c <;> by_cases b : c ≤ 57
  all_goals
    go_enter Tryz.func121, Tryz.ntmps121
    go_wp2
    go_ret
    exact ⟨ret_bool (by simp [digit, a, b] <;> omega), Below.refl _ _⟩

theorem set_control (W : World) : IsSet 124 #[] control 0 0 W := by
  refine ⟨enters_of Tryz.func124 (by kernel_rfl) rfl, Nat.zero_le _, fun w _ _ c h0 h1 => ?_⟩
  simp only [List.append_toArray, List.append_nil, Array.append_empty]
  by_cases a : c ≤ 32 <;> by_cases b : c = 127
  all_goals
    go_enter Tryz.func124, Tryz.ntmps124
    go_wp2
    go_ret
    exact ⟨ret_bool (by first | (simp [control, a, b]; done) | (simp [control]; omega) | (rw [Bool.eq_iff_iff]; simp [control]; omega)), Below.refl _ _⟩

theorem set_all (W : World) : IsSet 197 #[] allc 0 0 W := by
  refine ⟨enters_of Tryz.func197 (by kernel_rfl) rfl, Nat.zero_le _, fun w _ _ c h0 h1 => ?_⟩
  simp only [List.append_toArray, List.append_nil, Array.append_empty]
  go_enter Tryz.func197, Tryz.ntmps197
  go_wp2
  go_ret
  exact ⟨rfl, Below.refl _ _⟩

theorem set_oneOf (W : World) (k : Nat) (s : ByteArray) (hs : asc s.data.toList) (hms : s.size ≤ 9223372036854775807) (hk : W.cell? ⟨k, 0, none⟩ = some (.string s)) :
    IsSet 175 #[.pointer (some ⟨k, 0, none⟩)] (oneOfP s.data.toList) k (k + 1) W := by
  refine ⟨enters_of Tryz.func175 (by kernel_rfl) rfl, World.block_lt_of_cell? W ⟨k, 0, none⟩ hk, fun w hw _ c h0 h1 => ?_⟩
  simp only [List.append_toArray, List.cons_append, List.nil_append]
  have hc : w.cell? ⟨k, 0, none⟩ = some (.string s) := (World.cell?_of_block (w := W) (a := ⟨k, 0, none⟩) (hw k (Nat.le_refl _) (by omega))).trans hk
  have hC := contains_any w s c hs hms h0 h1
  clear hw hk hs
  go_enter Tryz.func175, Tryz.ntmps175
  go_wp2_with (go_at_call 176; refine hC.mono ?_; rintro e w' ⟨rfl, hB⟩)
  go_ret
  exact ⟨rfl, hB⟩

theorem set_not (W : World) (k : Nat) (g : Nat) (lb : Array Value) (p : Int → Bool) (lo hi : Nat) (hp : IsSet g lb p lo hi W) (hlo : lo ≤ k) (hhi : hi ≤ k) (hk : W.cell? ⟨k, 0, none⟩ = some (fnV g lb)) :
    IsSet 177 #[.pointer (some ⟨k, 0, none⟩)] (fun c => !p c) lo (k + 1) W := by
  refine ⟨enters_of Tryz.func177 (by kernel_rfl) rfl, World.block_lt_of_cell? W ⟨k, 0, none⟩ hk, fun w hw hsz c h0 h1 => ?_⟩
  simp only [List.append_toArray, List.cons_append, List.nil_append]
  have hc : w.cell? ⟨k, 0, none⟩ = some (fnV g lb) := (World.cell?_of_block (w := W) (a := ⟨k, 0, none⟩) (hw k hlo (by omega))).trans hk
  have hC := hp.at' w (fun j a b => hw j a (by omega)) (by omega) c h0 h1
  have eg := hp.en
  clear hw hk
  go_enter Tryz.func177, Tryz.ntmps177
  go_wp2_with (go_at_fn g; refine hC.mono ?_; rintro e w' ⟨rfl, hB⟩)
  go_ret
  exact ⟨rfl, hB⟩

/-- Sets as a list, and the values that tell them. -/
structure Ent where
  g : Nat
  lb : Array Value
  p : Int → Bool

def anyP (l : List Ent) (c : Int) : Bool := l.any fun x => x.p c

set_option maxHeartbeats 1000000 in
theorem set_either (W : World) (k m n cap : Nat) (l : List Ent) (lo hi : Nat) (hl : l.length = n) (hn : n ≤ 1000)
    (hp : ∀ x ∈ l, IsSet x.g x.lb x.p lo hi W) (hlo : lo ≤ k) (hhi : k < hi) (hlm : lo ≤ m) (hhm : m < hi) (hsz : hi ≤ W.heap.size)
    (hk : W.cell? ⟨k, 0, none⟩ = some (.slice (some ⟨m, 0, none⟩) n cap)) (hcp : n ≤ cap)
    (hm : ∀ j x, l[j]? = some x → W.cell? ⟨m, j, none⟩ = some (fnV x.g x.lb)) :
    IsSet 174 #[.pointer (some ⟨k, 0, none⟩)] (anyP l) lo hi W := by
  refine ⟨enters_of Tryz.func174 (by kernel_rfl) rfl, hsz, fun w hw hwz c h0 h1 => ?_⟩
  simp only [List.append_toArray, List.cons_append, List.nil_append]
  have hc : w.cell? ⟨k, 0, none⟩ = some (.slice (some ⟨m, 0, none⟩) n cap) := (World.cell?_of_block (w := W) (a := ⟨k, 0, none⟩) (hw k hlo hhi)).trans hk
  have HM : Hid (∀ j x, l[j]? = some x → w.cell? ⟨m, j, none⟩ = some (fnV x.g x.lb)) := fun j x hj => (World.cell?_of_block (w := W) (a := ⟨m, j, none⟩) (hw m hlm hhm)).trans (hm j x hj)
  have HP : Hid (∀ x ∈ l, ∀ w', Below w.heap.size w w' → Calls Tryz.prog x.g (#[.int .i32 c] ++ x.lb) w' fun e w'' => e = .returned (.bool (x.p c)) ∧ Below w.heap.size w w'') := by
    intro x hx w' hb
    refine ((hp x hx).at' w' (fun j a b => (hb.block j (by omega)).trans (hw j a b)) (Nat.le_trans hwz hb.size) c h0 h1).mono ?_
    rintro e w'' ⟨rfl, hb2⟩
    exact ⟨rfl, hb.trans (hb2.mono hb.size)⟩
  have HE : Hid (∀ x ∈ l, ∀ args w, (callFunc x.g args).run Tryz.prog w = .ok (.enter x.g args) w) := fun x hx => (hp x hx).en
  have hmw : m < w.heap.size := by omega
  have hkw : k < w.heap.size := by omega
  clear hw hk hm hp hlo hlm hsz
  go_enter Tryz.func174, Tryz.ntmps174
  go_wp2
  go_loopw [8] (fun i wr => ∃ q : Nat, q ≤ n ∧ i = .int .i64 q ∧ Below w.heap.size w wr ∧ ∀ j x, j < q → l[j]? = some x → x.p c = false) (fun i _ => n - (intOf i).toNat)
  case atStart => exact ⟨0, Nat.zero_le _, rfl, Below.refl _ _, fun j x h => by omega⟩
  case round =>
    obtain ⟨q, hq, rfl, hb, hno⟩ := hrel
    have HN : Hid (∀ j x, j < q → l[j]? = some x → x.p c = false) := hno
    clear hno
    by_cases hlt : q < n
    · obtain ⟨x, hx⟩ : ∃ x, l[q]? = some x := ⟨l[q]'(by omega), List.getElem?_eq_getElem (by omega)⟩
      have hmem : x ∈ l := List.mem_of_getElem? hx
      have hcell : wr.cell? ⟨m, q, none⟩ = some (fnV x.g x.lb) := (hb.cell (p := ⟨m, q, none⟩) hmw).trans (HM.out q x hx)
      have eg := HE.out x hmem
      have hC := HP.out x hmem wr hb
      obtain ⟨g, lb, p⟩ := x
      simp only at hcell eg hC
      cases hpc : p c with
      | false =>
        rw [hpc] at hC
        have HC : Hid (Calls Tryz.prog g (#[.int .i32 c] ++ lb) wr fun e w'' => e = .returned (.bool false) ∧ Below w.heap.size w w'') := hC
        have HX : Hid (l[q]? = some ⟨g, lb, p⟩) := hx
        have HPC : Hid (p c = false) := hpc
        have HB : Hid (Below w.heap.size w wr) := hb
        clear hC hx hpc hmem hb
        go_wp2_with (go_at_fn g; refine HC.out.mono ?_; rintro e w' ⟨rfl, hB⟩)
        go_roundw
        case rel =>
          refine ⟨q + 1, by omega, by go_num, hB, fun j y hj hy => ?_⟩
          rcases Nat.lt_or_ge j q with h | h
          · exact HN.out j y h hy
          · have : j = q := by omega
            subst this
            rw [HX.out] at hy
            cases hy
            exact HPC.out
        case measure => simp [intOf]; omega
      | true =>
        rw [hpc] at hC
        have HC : Hid (Calls Tryz.prog g (#[.int .i32 c] ++ lb) wr fun e w'' => e = .returned (.bool true) ∧ Below w.heap.size w w'') := hC
        have HX : Hid (anyP l c = true) := by
          show l.any _ = true
          rw [List.any_eq_true]
          exact ⟨_, hmem, hpc⟩
        have HB : Hid (Below w.heap.size w wr) := hb
        clear hC hx hpc hmem hb
        go_wp2_with (go_at_fn g; refine HC.out.mono ?_; rintro e w' ⟨rfl, hB⟩)
        go_ret
        exact ⟨ret_bool HX.out.symm, hB⟩
    · have HX : Hid (anyP l c = false) := by
        show l.any _ = false
        rw [List.any_eq_false]
        intro x hx
        obtain ⟨j, hj⟩ := List.getElem?_of_mem hx
        have hjl : j < l.length := (List.getElem?_eq_some_iff.1 hj).1
        have := HN.out j x (by omega) hj
        simp [this]
      go_wp2
      go_ret
      exact ⟨ret_bool HX.out.symm, hb⟩

end Go.Proofs.YtnffjoipinhojabGreatDoor

