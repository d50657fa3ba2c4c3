import Derived.Test.YtnffjoipinhojaaGreatDoorRc
import Derived.Lib.IndexAny
set_option linter.unusedSimpArgs false
set_option linter.unusedVariables false
namespace Go.Proofs.YtnffjoipinhojaaGreatDoor
open Go.RowKit

def oneOfP (l : List UInt8) (c : Int) : Bool := l.any fun x => decide ((x.toNat : Int) = c)

theorem oneOfP_low {l : List UInt8} {c : Int} (h0 : 0 ≤ c) (h1 : c < 128) : decide (0 ≤ Lib.indexByte l c.toNat.toUInt8) = oneOfP l c := by
  rw [← Lib.contains_iff_indexByte]
  unfold oneOfP
  rw [List.contains_eq_any_beq]
  congr 1
  funext x
  rw [Bool.eq_iff_iff]
  simp only [beq_iff_eq, decide_eq_true_eq]
  have hc : c.toNat.toUInt8.toNat = c.toNat := by simp; omega
  constructor
  · intro e; have := congrArg UInt8.toNat e; omega
  · intro e; apply UInt8.toNat_inj.1; omega

theorem oneOfP_high {l : List UInt8} (hl : asc l) {c : Int} (h0 : 128 ≤ c) : oneOfP l c = false := by
  unfold oneOfP
  rw [List.any_eq_false]
  intro x hx
  have := hl x hx
  simp only [decide_eq_true_eq]
  omega

theorem contains_any (w : World) (s : ByteArray) (c : Int) (hs : asc s.data.toList) (hms : s.size ≤ 9223372036854775807) (h0 : 0 ≤ c) (h1 : c ≤ 1114111) :
    Calls Tryz.prog 189 #[.string s, .int .i32 c] w fun e w' => e = .returned (.bool (oneOfP s.data.toList c)) ∧ Below w.heap.size w w' := by
  by_cases hc : c < 128
  · refine (containsRune_ascii w s c h0 hc).mono ?_
    rintro e w' ⟨rfl, rfl⟩
    exact ⟨by rw [oneOfP_low h0 hc], Below.refl _ _⟩
  · have hI := indexRune_high w s c hs hms (by omega) h1
    rw [oneOfP_high hs (by omega)]
    clear hs
    go_enter Tryz.func189, Tryz.ntmps189
    go_wp2_with (go_at_call 195; refine hI.mono ?_; rintro e w' ⟨rfl, hB⟩)
    go_ret
    exact ⟨rfl, hB⟩

/-! the four that are functions of their own -/
theorem set_letter (W : World) : IsSet 131 #[] letter 0 0 W := by
  refine ⟨enters_of Tryz.func131 (by kernel_rfl) rfl, Nat.zero_le _, fun w _ _ c h0 h1 => ?_⟩
  simp only [List.append_toArray, List.append_nil, Array.append_empty]
  by_cases a : 65 ≤ c <;> by_cases b : c ≤ 90 <;> by_cases d : 97 ≤ c <;> by_cases e : c ≤ 122
  all_goals
    go_enter Tryz.func131, Tryz.ntmps131
    go_wp2
    go_ret
    exact ⟨ret_bool (by simp [letter, a, b, d, e] <;> omega), Below.refl _ _⟩

theorem set_digit (W : World) : IsSet 132 #[] digit 0 0 W := by
  refine ⟨enters_of Tryz.func132 (by kernel_rfl) rfl, Nat.zero_le _, fun w _ _ c h0 h1 => ?_⟩
  simp only [List.append_toArray, List.append_nil, Array.append_empty]
  by_cases a : 48 ≤ c <;> by_cases b : c ≤ 57
  all_goals
    go_enter Tryz.func132, Tryz.ntmps132
    go_wp2
    go_ret
    exact ⟨ret_bool (by simp [digit, a, b] <;> omega), Below.refl _ _⟩

theorem set_control (W : World) : IsSet 135 #[] control 0 0 W := by
  refine ⟨enters_of Tryz.func135 (by kernel_rfl) rfl, Nat.zero_le _, fun w _ _ c h0 h1 => ?_⟩
  simp only [List.append_toArray, List.append_nil, Array.append_empty]
  by_cases a : c ≤ 32 <;> by_cases b : c = 127
  all_goals
    go_enter Tryz.func135, Tryz.ntmps135
    go_wp2
    go_ret
    exact ⟨ret_bool (by first | (simp [control, a, b]; done) | (simp [control]; omega) | (rw [Bool.eq_iff_iff]; simp [control]; omega)), Below.refl _ _⟩

theorem set_all (W : World) : IsSet 148 #[] allc 0 0 W := by
  refine ⟨enters_of Tryz.func148 (by kernel_rfl) rfl, Nat.zero_le _, fun w _ _ c h0 h1 => ?_⟩
  simp only [List.append_toArray, List.append_nil, Array.append_empty]
  go_enter Tryz.func148, Tryz.ntmps148
  go_wp2
  go_ret
  exact ⟨rfl, Below.refl _ _⟩

theorem set_oneOf (W : World) (k : Nat) (s : ByteArray) (hs : asc s.data.toList) (hms : s.size ≤ 9223372036854775807) (hk : W.cell? ⟨k, 0, none⟩ = some (.string s)) :
    IsSet 188 #[.pointer (some ⟨k, 0, none⟩)] (oneOfP s.data.toList) k (k + 1) W := by
  refine ⟨enters_of Tryz.func188 (by kernel_rfl) rfl, World.block_lt_of_cell? W ⟨k, 0, none⟩ hk, fun w hw _ c h0 h1 => ?_⟩
  simp only [List.append_toArray, List.cons_append, List.nil_append]
  have hc : w.cell? ⟨k, 0, none⟩ = some (.string s) := (World.cell?_of_block (w := W) (a := ⟨k, 0, none⟩) (hw k (Nat.le_refl _) (by omega))).trans hk
  have hC := contains_any w s c hs hms h0 h1
  clear hw hk hs
  go_enter Tryz.func188, Tryz.ntmps188
  go_wp2_with (go_at_call 189; refine hC.mono ?_; rintro e w' ⟨rfl, hB⟩)
  go_ret
  exact ⟨rfl, hB⟩

theorem set_not (W : World) (k : Nat) (g : Nat) (lb : Array Value) (p : Int → Bool) (lo hi : Nat) (hp : IsSet g lb p lo hi W) (hlo : lo ≤ k) (hhi : hi ≤ k) (hk : W.cell? ⟨k, 0, none⟩ = some (fnV g lb)) :
    IsSet 190 #[.pointer (some ⟨k, 0, none⟩)] (fun c => !p c) lo (k + 1) W := by
  refine ⟨enters_of Tryz.func190 (by kernel_rfl) rfl, World.block_lt_of_cell? W ⟨k, 0, none⟩ hk, fun w hw hsz c h0 h1 => ?_⟩
  simp only [List.append_toArray, List.cons_append, List.nil_append]
  have hc : w.cell? ⟨k, 0, none⟩ = some (fnV g lb) := (World.cell?_of_block (w := W) (a := ⟨k, 0, none⟩) (hw k hlo (by omega))).trans hk
  have hC := hp.at' w (fun j a b => hw j a (by omega)) (by omega) c h0 h1
  have eg := hp.en
  clear hw hk
  go_enter Tryz.func190, Tryz.ntmps190
  go_wp2_with (go_at_fn g; refine hC.mono ?_; rintro e w' ⟨rfl, hB⟩)
  go_ret
  exact ⟨rfl, hB⟩

/-- Sets as a list, and the values that tell them. -/
structure Ent where
  g : Nat
  lb : Array Value
  p : Int → Bool

def anyP (l : List Ent) (c : Int) : Bool := l.any fun x => x.p c

set_option maxHeartbeats 1000000 in
theorem set_either (W : World) (k m n cap : Nat) (l : List Ent) (lo hi : Nat) (hl : l.length = n) (hn : n ≤ 1000)
    (hp : ∀ x ∈ l, IsSet x.g x.lb x.p lo hi W) (hlo : lo ≤ k) (hhi : k < hi) (hlm : lo ≤ m) (hhm : m < hi) (hsz : hi ≤ W.heap.size)
    (hk : W.cell? ⟨k, 0, none⟩ = some (.slice (some ⟨m, 0, none⟩) n cap)) (hcp : n ≤ cap)
    (hm : ∀ j x, l[j]? = some x → W.cell? ⟨m, j, none⟩ = some (fnV x.g x.lb)) :
    IsSet 187 #[.pointer (some ⟨k, 0, none⟩)] (anyP l) lo hi W := by
  refine ⟨enters_of Tryz.func187 (by kernel_rfl) rfl, hsz, fun w hw hwz c h0 h1 => ?_⟩
  simp only [List.append_toArray, List.cons_append, List.nil_append]
  have hc : w.cell? ⟨k, 0, none⟩ = some (.slice (some ⟨m, 0, none⟩) n cap) := (World.cell?_of_block (w := W) (a := ⟨k, 0, none⟩) (hw k hlo hhi)).trans hk
  have HM : Hid (∀ j x, l[j]? = some x → w.cell? ⟨m, j, none⟩ = some (fnV x.g x.lb)) := fun j x hj => (World.cell?_of_block (w := W) (a := ⟨m, j, none⟩) (hw m hlm hhm)).trans (hm j x hj)
  have HP : Hid (∀ x ∈ l, ∀ w', Below w.heap.size w w' → Calls Tryz.prog x.g (#[.int .i32 c] ++ x.lb) w' fun e w'' => e = .returned (.bool (x.p c)) ∧ Below w.heap.size w w'') := by
    intro x hx w' hb
    refine ((hp x hx).at' w' (fun j a b => (hb.block j (by omega)).trans (hw j a b)) (Nat.le_trans hwz hb.size) c h0 h1).mono ?_
    rintro e w'' ⟨rfl, hb2⟩
    exact ⟨rfl, hb.trans (hb2.mono hb.size)⟩
  have HE : Hid (∀ x ∈ l, ∀ args w, (callFunc x.g args).run Tryz.prog w = .ok (.enter x.g args) w) := fun x hx => (hp x hx).en
  have hmw : m < w.heap.size := by omega
  have hkw : k < w.heap.size := by omega
  clear hw hk hm hp hlo hlm hsz
  go_enter Tryz.func187, Tryz.ntmps187
  go_wp2
  go_loopw [8] (fun i wr => ∃ q : Nat, q ≤ n ∧ i = .int .i64 q ∧ Below w.heap.size w wr ∧ ∀ j x, j < q → l[j]? = some x → x.p c = false) (fun i _ => n - (intOf i).toNat)
  case atStart => exact ⟨0, Nat.zero_le _, rfl, Below.refl _ _, fun j x h => by omega⟩
  case round =>
    obtain ⟨q, hq, rfl, hb, hno⟩ := hrel
    have HN : Hid (∀ j x, j < q → l[j]? = some x → x.p c = false) := hno
    clear hno
    by_cases hlt : q < n
    · obtain ⟨x, hx⟩ : ∃ x, l[q]? = some x := ⟨l[q]'(by omega), List.getElem?_eq_getElem (by omega)⟩
      have hmem : x ∈ l := List.mem_of_getElem? hx
      have hcell : wr.cell? ⟨m, q, none⟩ = some (fnV x.g x.lb) := (hb.cell (p := ⟨m, q, none⟩) hmw).trans (HM.out q x hx)
      have eg := HE.out x hmem
      have hC := HP.out x hmem wr hb
      obtain ⟨g, lb, p⟩ := x
      simp only at hcell eg hC
      cases hpc : p c with
      | false =>
        rw [hpc] at hC
        have HC : Hid (Calls Tryz.prog g (#[.int .i32 c] ++ lb) wr fun e w'' => e = .returned (.bool false) ∧ Below w.heap.size w w'') := hC
        have HX : Hid (l[q]? = some ⟨g, lb, p⟩) := hx
        have HPC : Hid (p c = false) := hpc
        have HB : Hid (Below w.heap.size w wr) := hb
        clear hC hx hpc hmem hb
        go_wp2_with (go_at_fn g; refine HC.out.mono ?_; rintro e w' ⟨rfl, hB⟩)
        go_roundw
        case rel =>
          refine ⟨q + 1, by omega, by go_num, hB, fun j y hj hy => ?_⟩
          rcases Nat.lt_or_ge j q with h | h
          · exact HN.out j y h hy
          · have : j = q := by omega
            subst this
            rw [HX.out] at hy
            cases hy
            exact HPC.out
        case measure => simp [intOf]; omega
      | true =>
        rw [hpc] at hC
        have HC : Hid (Calls Tryz.prog g (#[.int .i32 c] ++ lb) wr fun e w'' => e = .returned (.bool true) ∧ Below w.heap.size w w'') := hC
        have HX : Hid (anyP l c = true) := by
          show l.any _ = true
          rw [List.any_eq_true]
          exact ⟨_, hmem, hpc⟩
        have HB : Hid (Below w.heap.size w wr) := hb
        clear hC hx hpc hmem hb
        go_wp2_with (go_at_fn g; refine HC.out.mono ?_; rintro e w' ⟨rfl, hB⟩)
        go_ret
        exact ⟨ret_bool HX.out.symm, hB⟩
    · have HX : Hid (anyP l c = false) := by
        show l.any _ = false
        rw [List.any_eq_false]
        intro x hx
        obtain ⟨j, hj⟩ := List.getElem?_of_mem hx
        have hjl : j < l.length := (List.getElem?_eq_some_iff.1 hj).1
        have := HN.out j x (by omega) hj
        simp [this]
      go_wp2
      go_ret
      exact ⟨ret_bool HX.out.symm, hb⟩

end Go.Proofs.YtnffjoipinhojaaGreatDoor
