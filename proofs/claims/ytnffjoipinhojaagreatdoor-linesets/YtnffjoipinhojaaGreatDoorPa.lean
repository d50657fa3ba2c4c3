import Derived.Test.YtnffjoipinhojaaGreatDoorProg
import Derived.Test.YtnffjoipinhojaaGreatDoorFr
import Derived.Test.YtnffjoipinhojaaGreatDoorS
import Derived.WalkKit
import Derived.WalkLawsBesides
import Derived.WalkSpells
import Derived.Below
import Derived.BigQuiet
import Derived.Deep.QuietTactic
import Derived.Lib.SmallJoins
set_option linter.unusedSimpArgs false
set_option linter.unusedVariables false
namespace Go.Proofs.YtnffjoipinhojaaGreatDoor
open Go.RowKit
namespace Ref

theorem ret_int {k : IntKind} {a b : Int} (h : a = b) : Ending.returned (.int k a) = .returned (.int k b) := by rw [h]
theorem ret_bool {a b : Bool} (h : a = b) : Ending.returned (.bool a) = .returned (.bool b) := by rw [h]

/-- A Pen in block b: over s, at i, with the first error e met at a. -/
structure Pn (w : World) (b : Nat) (s : ByteArray) (i : Nat) (e a : Int) : Prop where
  c0 : w.cell? ⟨b, 0, none⟩ = some (.string s)
  c1 : w.cell? ⟨b, 1, none⟩ = some (.int .i64 i)
  c2 : w.cell? ⟨b, 2, none⟩ = some (.int .i64 e)
  c3 : w.cell? ⟨b, 3, none⟩ = some (.int .i64 a)
  fz : ∀ o, w.frozen? ⟨b, o, none⟩ = false
  ms : s.size ≤ 1099511627776
  le : i ≤ s.size + 1

/-- The Pen in block b has turned to that; all else that lay lies as it did. -/
structure Mv (b : Nat) (s : ByteArray) (i : Nat) (e a : Int) (w w' : World) : Prop where
  pn : Pn w' b s i e a
  size : w.heap.size ≤ w'.heap.size
  os : w'.os = w.os ∧ w'.tape = w.tape ∧ w'.output = w.output
  but : ∀ k, k < w.heap.size → k ≠ b → w'.heap[k]? = w.heap[k]?

theorem Pn.drewN {w : World} {b : Nat} {s : ByteArray} {i : Nat} {e a : Int} (h : Pn w b s i e a) (n : Nat) : Pn (w.drewN n) b s i e a := ⟨h.c0, h.c1, h.c2, h.c3, h.fz, h.ms, h.le⟩
theorem Pn.lt {w : World} {b : Nat} {s : ByteArray} {i : Nat} {e a : Int} (h : Pn w b s i e a) : b < w.heap.size := World.block_lt_of_cell? w ⟨b, 0, none⟩ h.c0
theorem Pn.below {w w' : World} {b : Nat} {s : ByteArray} {i : Nat} {e a : Int} {B : Nat} (h : Pn w b s i e a) (hb : Below B w w') (hB : b < B) : Pn w' b s i e a :=
  ⟨(hb.cell (p := ⟨b, 0, none⟩) hB).trans h.c0, (hb.cell (p := ⟨b, 1, none⟩) hB).trans h.c1, (hb.cell (p := ⟨b, 2, none⟩) hB).trans h.c2, (hb.cell (p := ⟨b, 3, none⟩) hB).trans h.c3, fun o => (hb.frozen (p := ⟨b, o, none⟩) hB).trans (h.fz o), h.ms, h.le⟩

theorem Mv.stay {w w' : World} {b : Nat} {s : ByteArray} {i : Nat} {e a : Int} (h : Pn w b s i e a) (hb : Below w.heap.size w w') : Mv b s i e a w w' :=
  ⟨h.below hb h.lt, hb.size, ⟨hb.os, hb.tape, hb.output⟩, fun k hk _ => hb.block k hk⟩
theorem Mv.stayN {w : World} {b : Nat} {s : ByteArray} {i : Nat} {e a : Int} (h : Pn w b s i e a) (n : Nat) : Mv b s i e a w (w.drewN n) := Mv.stay h (below_drewN (Below.refl _ _) n)
theorem Mv.trans {w w' w'' : World} {b : Nat} {s : ByteArray} {i j : Nat} {e a e' a' : Int} (h : Mv b s i e a w w') (k : Mv b s j e' a' w' w'') : Mv b s j e' a' w w'' :=
  ⟨k.pn, Nat.le_trans h.size k.size, ⟨k.os.1.trans h.os.1, k.os.2.1.trans h.os.2.1, k.os.2.2.trans h.os.2.2⟩, fun x hx hb => (k.but x (Nat.lt_of_lt_of_le hx h.size) hb).trans (h.but x hx hb)⟩

theorem cell_set {w : World} {b o o' : Nat} {v v' : Value} (h : w.cell? ⟨b, o', none⟩ = some v') : (w.setCell ⟨b, o, none⟩ v).cell? ⟨b, o', none⟩ = if o = o' then some v else some v' := by
  by_cases e : o = o'
  · subst e
    rw [if_pos rfl]
    exact World.cell?_setCell_same _ _ _ h
  · rw [if_neg e, World.cell?_setCell_other _ _ _ _ (fun x => e (by cases x; rfl))]
    exact h

/-- a step of the place -/
theorem Mv.at' {w : World} {b : Nat} {s : ByteArray} {i : Nat} {e a : Int} (h : Pn w b s i e a) (j : Nat) (hj : j ≤ s.size + 1) : Mv b s j e a w (w.setCell ⟨b, 1, none⟩ (.int .i64 j)) :=
  ⟨⟨by rw [cell_set h.c0]; rfl, by rw [cell_set h.c1]; rfl, by rw [cell_set h.c2]; rfl, by rw [cell_set h.c3]; rfl, fun o => (World.frozen?_setCell _ _ _ _).trans (h.fz o), h.ms, hj⟩, by simp, ⟨rfl, rfl, rfl⟩, fun k _ hb => Below.heap_setCell _ _ _ _ hb⟩

/-- an error -/
theorem Mv.err {w : World} {b : Nat} {s : ByteArray} {i : Nat} {e a : Int} (h : Pn w b s i e a) (e' a' : Int) : Mv b s i e' a' w ((w.setCell ⟨b, 2, none⟩ (.int .i64 e')).setCell ⟨b, 3, none⟩ (.int .i64 a')) := by
  have k0 : (w.setCell ⟨b, 2, none⟩ (.int .i64 e')).cell? ⟨b, 0, none⟩ = some (.string s) := by rw [cell_set h.c0]; rfl
  have k1 : (w.setCell ⟨b, 2, none⟩ (.int .i64 e')).cell? ⟨b, 1, none⟩ = some (.int .i64 i) := by rw [cell_set h.c1]; rfl
  have k2 : (w.setCell ⟨b, 2, none⟩ (.int .i64 e')).cell? ⟨b, 2, none⟩ = some (.int .i64 e') := by rw [cell_set h.c2]; rfl
  have k3 : (w.setCell ⟨b, 2, none⟩ (.int .i64 e')).cell? ⟨b, 3, none⟩ = some (.int .i64 a) := by rw [cell_set h.c3]; rfl
  refine ⟨⟨by rw [cell_set k0]; rfl, by rw [cell_set k1]; rfl, by rw [cell_set k2]; rfl, by rw [cell_set k3]; rfl, fun o => ?_, h.ms, h.le⟩, by simp, ⟨rfl, rfl, rfl⟩, fun k _ hb => ?_⟩
  · rw [World.frozen?_setCell, World.frozen?_setCell]; exact h.fz o
  · rw [Below.heap_setCell _ _ _ _ hb, Below.heap_setCell _ _ _ _ hb]

theorem fail_live (w : World) (b i : Nat) (s : ByteArray) (a e' a' : Int) (h : Pn w b s i 0 a) :
    Calls Tryz.prog 39 #[.pointer (some ⟨b, 0, none⟩), .int .i64 e', .int .i64 a'] w fun e w' => e = .returned (.tuple #[]) ∧ Mv b s i e' a' w w' := by
  have H : Hid (Pn w b s i 0 a) := h
  obtain ⟨c0, c1, c2, c3, fz, ms, le⟩ := h
  go_enter Tryz.func39, Tryz.ntmps39
  go_wp2
  go_end0
  exact ⟨rfl, Mv.err H.out e' a'⟩

theorem fail_dead (w : World) (b i : Nat) (s : ByteArray) (x a e' a' : Int) (h : Pn w b s i x a) (hx : x ≠ 0) :
    Calls Tryz.prog 39 #[.pointer (some ⟨b, 0, none⟩), .int .i64 e', .int .i64 a'] w fun e w' => e = .returned (.tuple #[]) ∧ w' = w := by
  obtain ⟨c0, c1, c2, c3, fz, ms, le⟩ := h
  go_enter Tryz.func39, Tryz.ntmps39
  go_wp2
  go_end0
  exact ⟨rfl, rfl⟩

theorem drewN2 (w : World) (a b : Nat) : (w.drewN a).drewN b = w.drewN (a + b) := by
  simp only [World.drewN, Nat.add_assoc]

/-- what next answers -/
def nb (s : ByteArray) (i : Nat) (x : Int) : Int := if x ≠ 0 then -1 else if i < s.size then bt s i else -1

theorem next_any (w : World) (b i : Nat) (s : ByteArray) (x a : Int) (h : Pn w b s i x a) :
    Calls Tryz.prog 71 #[.pointer (some ⟨b, 0, none⟩)] w fun e w' => e = .returned (.int .i64 (nb s i x)) ∧ ∃ n, w' = w.drewN n := by
  obtain ⟨c0, c1, c2, c3, fz, ms, le⟩ := h
  by_cases hx : x = 0
  · subst hx
    by_cases hi : i < s.size
    · have hb := bt_lt hi
      have hn : nb s i 0 = (s[i].toNat : Int) := by unfold nb; rw [if_neg (by simp), if_pos hi, hb]
      rw [hn]
      have hd : decide ((s.size : Int) ≤ (i : Int)) = false := by simp; omega
      have hw : wrap64 (s[i].toNat : Int) = (s[i].toNat : Int) := by have := s[i].toNat_lt; unfold wrap64; omega
      have HW : Hid (wrap64 (s[i].toNat : Int) = (s[i].toNat : Int)) := hw
      clear hb hn hw
      go_enter Tryz.func71, Tryz.ntmps71
      go_wp2
      go_quiet (fail)
      go_wp2
      go_quiet (fail)
      go_wp2
      go_ret
      exact ⟨ret_int HW.out, _, drewN2 _ _ _⟩
    · have hn : nb s i 0 = -1 := by unfold nb; rw [if_neg (by simp), if_neg hi]
      rw [hn]
      have hd : decide ((s.size : Int) ≤ (i : Int)) = true := by simp; omega
      clear hn
      go_enter Tryz.func71, Tryz.ntmps71
      go_wp2
      go_quiet (fail)
      go_wp2
      go_ret
      exact ⟨rfl, nq, rfl⟩
  · have hn : nb s i x = -1 := by unfold nb; rw [if_pos hx]
    rw [hn]
    clear hn
    go_enter Tryz.func71, Tryz.ntmps71
    go_wp2
    go_quiet (fail)
    go_wp2
    go_ret
    exact ⟨rfl, nq, rfl⟩

theorem nb_live (s : ByteArray) (i : Nat) (c : Int) (hc : 0 ≤ c) (h256 : c < 256) : nb s i 0 = c ↔ bt s i = c := by
  unfold nb
  rw [if_neg (by simp)]
  by_cases hi : i < s.size
  · rw [if_pos hi]
  · rw [if_neg hi, bt_end (by omega)]
    omega

theorem nb_dead (s : ByteArray) (i : Nat) {x : Int} (hx : x ≠ 0) : nb s i x = -1 := by unfold nb; rw [if_pos hx]

theorem need_ok (w : World) (b i : Nat) (s : ByteArray) (a c : Int) (h : Pn w b s i 0 a) (h0 : 0 ≤ c) (h1 : c < 256) (hi : bt s i = c) :
    Calls Tryz.prog 54 #[.pointer (some ⟨b, 0, none⟩), .int .i64 c] w fun e w' => e = .returned (.tuple #[]) ∧ Mv b s (i + 1) 0 a w w' := by
  have hN := next_any w b i s 0 a h
  rw [(nb_live s i c h0 h1).2 hi] at hN
  have hlt := bt_in hi h1
  have H : Hid (Pn w b s i 0 a) := h
  have hcell := h
  obtain ⟨c0, c1, c2, c3, fz, ms, le⟩ := hcell
  clear hi h
  go_enter Tryz.func54, Tryz.ntmps54
  go_wp2_with fail
  refine hN.mono ?_
  rintro e w2 ⟨rfl, n, rfl⟩
  go_wp2_with fail
  go_end0
  exact ⟨rfl, (Mv.stayN H.out n).trans (Mv.at' (H.out.drewN n) (i + 1) (by omega))⟩

theorem need_bad (w : World) (b i : Nat) (s : ByteArray) (a c : Int) (h : Pn w b s i 0 a) (h0 : 0 ≤ c) (h1 : c < 256) (hi : bt s i ≠ c) :
    Calls Tryz.prog 54 #[.pointer (some ⟨b, 0, none⟩), .int .i64 c] w fun e w' => e = .returned (.tuple #[]) ∧ Mv b s i 2 i w w' := by
  have hN := next_any w b i s 0 a h
  have hne : ¬ (nb s i 0 = c) := fun e => hi ((nb_live s i c h0 h1).1 e)
  obtain ⟨y, hy⟩ : ∃ y, y = nb s i 0 := ⟨_, rfl⟩
  rw [← hy] at hN hne
  have H : Hid (Pn w b s i 0 a) := h
  have hcell := h
  obtain ⟨c0, c1, c2, c3, fz, ms, le⟩ := hcell
  clear hi h hy
  go_enter Tryz.func54, Tryz.ntmps54
  go_wp2_with fail
  refine hN.mono ?_
  rintro e w2 ⟨rfl, n, rfl⟩
  go_wp2_with fail
  refine (fail_live _ _ _ _ _ _ _ (H.out.drewN n)).mono ?_
  rintro e w3 ⟨rfl, hM⟩
  go_wp2_with fail
  refine bodyPost_ret (results_none rfl _ _ _) rfl ?_
  exact ⟨rfl, (Mv.stayN H.out n).trans hM⟩

theorem need_dead (w : World) (b i : Nat) (s : ByteArray) (x a c : Int) (h : Pn w b s i x a) (hx : x ≠ 0) (h0 : 0 ≤ c) :
    Calls Tryz.prog 54 #[.pointer (some ⟨b, 0, none⟩), .int .i64 c] w fun e w' => e = .returned (.tuple #[]) ∧ ∃ n, w' = w.drewN n := by
  have hN := next_any w b i s x a h
  rw [nb_dead s i hx] at hN
  have hne : ¬ ((-1 : Int) = c) := by omega
  have H : Hid (Pn w b s i x a) := h
  have hcell := h
  obtain ⟨c0, c1, c2, c3, fz, ms, le⟩ := hcell
  clear h
  go_enter Tryz.func54, Tryz.ntmps54
  go_wp2_with fail
  refine hN.mono ?_
  rintro e w2 ⟨rfl, n, rfl⟩
  go_wp2_with fail
  refine (fail_dead _ _ _ _ _ _ _ _ (H.out.drewN n) hx).mono ?_
  rintro e w3 ⟨rfl, rfl⟩
  go_wp2_with fail
  refine bodyPost_ret (results_none rfl _ _ _) rfl ?_
  exact ⟨rfl, n, rfl⟩

theorem letter_any (w : World) (c : Int) : Calls Tryz.prog 81 #[.int .i64 c] w fun e w' => e = .returned (.bool (letter c)) ∧ w' = w := by
  by_cases a : 65 ≤ c <;> by_cases b : c ≤ 90 <;> by_cases d : 97 ≤ c <;> by_cases e : c ≤ 122
  all_goals
    go_enter Tryz.func81, Tryz.ntmps81
    go_wp2
    go_ret
    exact ⟨ret_bool (by simp [letter, a, b, d, e] <;> omega), rfl⟩

theorem digit_any (w : World) (c : Int) : Calls Tryz.prog 82 #[.int .i64 c] w fun e w' => e = .returned (.bool (digit c)) ∧ w' = w := by
  by_cases a : 48 ≤ c <;> by_cases b : c ≤ 57
  all_goals
    go_enter Tryz.func82, Tryz.ntmps82
    go_wp2
    go_ret
    exact ⟨ret_bool (by simp [digit, a, b] <;> omega), rfl⟩

theorem hex_any (w : World) (c : Int) (h0 : -1 ≤ c) (h1 : c ≤ 256) : Calls Tryz.prog 146 #[.int .i64 c] w fun e w' => e = .returned (.int .i64 (hexv c)) ∧ w' = w := by
  have hD := digit_any w c
  cases hd : digit c with
  | true =>
    rw [hd] at hD
    simp [digit] at hd
    have he : Hid (hexv c = c - 48) := by unfold Hid hexv; rw [if_pos hd]
    go_enter Tryz.func146, Tryz.ntmps146
    go_wp2_with fail
    refine hD.mono ?_
    rintro e w2 ⟨rfl, rfl⟩
    go_wp2_with fail
    go_ret
    exact ⟨ret_int he.out.symm, rfl⟩
  | false =>
    rw [hd] at hD
    simp [digit] at hd
    have hd' : ¬ (48 ≤ c ∧ c ≤ 57) := by omega
    by_cases a : 65 ≤ c ∧ c ≤ 70
    · obtain ⟨a1, a2⟩ := a
      have he : Hid (hexv c = c - 55) := by unfold Hid hexv; rw [if_neg hd', if_pos ⟨a1, a2⟩]
      clear hd hd'
      go_enter Tryz.func146, Tryz.ntmps146
      go_wp2_with fail
      refine hD.mono ?_
      rintro e w2 ⟨rfl, rfl⟩
      go_wp2_with fail
      go_ret
      exact ⟨ret_int (by rw [he.out] <;> omega), rfl⟩
    · by_cases b : 97 ≤ c ∧ c ≤ 102
      · obtain ⟨b1, b2⟩ := b
        have he : Hid (hexv c = c - 87) := by unfold Hid hexv; rw [if_neg hd', if_neg a, if_pos ⟨b1, b2⟩]
        have a1 : 65 ≤ c := by omega
        have a2 : ¬ (c ≤ 70) := by omega
        clear hd hd' a
        go_enter Tryz.func146, Tryz.ntmps146
        go_wp2_with fail
        refine hD.mono ?_
        rintro e w2 ⟨rfl, rfl⟩
        go_wp2_with fail
        go_ret
        exact ⟨ret_int (by rw [he.out] <;> omega), rfl⟩
      · have he : Hid (hexv c = -1) := by unfold Hid hexv; rw [if_neg hd', if_neg a, if_neg b]
        clear hd hd'
        by_cases a1 : 65 ≤ c <;> by_cases a2 : c ≤ 70 <;> by_cases b1 : 97 ≤ c <;> by_cases b2 : c ≤ 102
        all_goals first
          | (exfalso; omega)
          | (clear a b
             go_enter Tryz.func146, Tryz.ntmps146
             go_wp2_with fail
             refine hD.mono ?_
             rintro e w2 ⟨rfl, rfl⟩
             go_wp2_with fail
             go_ret
             exact ⟨ret_int he.out.symm, rfl⟩)
end Ref
end Go.Proofs.YtnffjoipinhojaaGreatDoor
