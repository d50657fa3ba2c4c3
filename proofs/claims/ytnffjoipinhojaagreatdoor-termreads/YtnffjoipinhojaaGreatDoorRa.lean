import Derived.Test.YtnffjoipinhojaaGreatDoorProg
import Derived.Test.YtnffjoipinhojaaGreatDoorFr
import Derived.Test.YtnffjoipinhojaaGreatDoorS
import Derived.WalkKit
import Derived.WalkLawsBesides
import Derived.WalkSpells
import Derived.Below
import Derived.StillTailTactics
import Derived.BigQuiet
import Derived.Deep.QuietTactic
namespace Go.Proofs.YtnffjoipinhojaaGreatDoor
open Go.RowKit

theorem ret_int {k : IntKind} {a b : Int} (h : a = b) : Ending.returned (.int k a) = .returned (.int k b) := by rw [h]
theorem ret_bool {a b : Bool} (h : a = b) : Ending.returned (.bool a) = .returned (.bool b) := by rw [h]


theorem ended_any (w : World) (b i : Nat) (s : ByteArray) (h : Rd w b s i) :
    Calls Tryz.prog 120 #[.pointer (some ⟨b, 0, none⟩)] w fun e w' => e = .returned (.bool (decide (i = s.size))) ∧ ∃ n, w' = w.drewN n := by
  obtain ⟨c0, c1, fz, le, hs⟩ := h
  go_enter Tryz.func120, Tryz.ntmps120
  go_wp2
  go_quiet (fail)
  go_wp2
  go_ret
  exact ⟨ret_bool (by rw [Bool.eq_iff_iff]; simp; omega), nq, rfl⟩

theorem sees_any (w : World) (b i : Nat) (s : ByteArray) (c : Int) (h : Rd w b s i) (h0 : 0 ≤ c) (h1 : c < 256) :
    Calls Tryz.prog 123 #[.pointer (some ⟨b, 0, none⟩), .int .u8 c] w fun e w' => e = .returned (.bool (decide (bt s i = c))) ∧ ∃ n, w' = w.drewN n := by
  have H : Hid (Rd w b s i) := h
  obtain ⟨c0, c1, fz, le, hs⟩ := h
  by_cases hi : i = s.size
  · have hd : decide (i = s.size) = true := by simpa using hi
    have hb := bt_end (s := s) (i := i) (by omega)
    go_enter Tryz.func123, Tryz.ntmps123
    go_wp2
    go_quiet ((go_at_call 120; exact Calls.quiet_of (ended_any _ _ _ _ (H.out.drewN _))))
    go_wp2
    go_ret
    exact ⟨ret_bool (by rw [Bool.eq_iff_iff]; simp; omega), nq, rfl⟩
  · have hd : decide (i = s.size) = false := by simpa using hi
    have hlt : i < s.size := by omega
    have hb := bt_lt hlt
    have HB : Hid (bt s i = s[i].toNat) := hb
    clear hb
    go_enter Tryz.func123, Tryz.ntmps123
    go_wp2
    go_quiet ((go_at_call 120; exact Calls.quiet_of (ended_any _ _ _ _ (H.out.drewN _))))
    go_wp2
    go_ret
    exact ⟨ret_bool (by rw [HB.out, Bool.eq_iff_iff]; simp), nq, rfl⟩

theorem take_any (w : World) (b i : Nat) (s : ByteArray) (c : Int) (h : Rd w b s i) (h0 : 0 ≤ c) (h1 : c < 256) :
    Calls Tryz.prog 88 #[.pointer (some ⟨b, 0, none⟩), .int .u8 c] w fun e w' => e = .returned (.bool (decide (bt s i = c))) ∧ Adv b (if bt s i = c then i + 1 else i) w w' := by
  have H : Hid (Rd w b s i) := h
  obtain ⟨c0, c1, fz, le, hs⟩ := h
  by_cases hi : bt s i = c
  · have hlt := bt_in hi h1
    simp only [if_pos hi]
    have hd : decide (bt s i = c) = true := by simpa using hi
    clear hi
    go_enter Tryz.func88, Tryz.ntmps88
    go_wp2_with (go_at_call 123; refine (sees_any _ _ _ _ _ (H.out) h0 h1).mono ?_; rintro e w' ⟨rfl, m, rfl⟩)
    go_ret
    exact ⟨ret_bool hd.symm, (H.out.stayN m).trans (Adv.set b (i + 1) (w.drewN m) 0)⟩
  · simp only [if_neg hi]
    have hd : decide (bt s i = c) = false := by simpa using hi
    clear hi
    go_enter Tryz.func88, Tryz.ntmps88
    go_wp2_with (go_at_call 123; refine (sees_any _ _ _ _ _ (H.out) h0 h1).mono ?_; rintro e w' ⟨rfl, m, rfl⟩)
    go_ret
    exact ⟨ret_bool (by simp [hd]), H.out.stayN m⟩

/-- what a reader panics with -/
def stopV (n i : Int) : Value := .iface 139 (.agg #[.iface 126 (.agg #[.int .i64 i, .iface 122 (.agg #[.int .i64 n])])])
abbrev stopE (n i : Int) : Ending := .panicked [{ v := stopV n i, recovered := false }]

theorem GiveUp_any (w : World) (t : TypeId) (v : Value) :
    Calls Tryz.prog 211 #[.iface t v] w fun e w' => e = .panicked [{ v := .iface 139 (.agg #[.iface t v]), recovered := false }] ∧ w' = w := by
  go_enter Tryz.func211, Tryz.ntmps211
  go_wp2
  exact ⟨rfl, rfl, rfl⟩

theorem Refuse_any (w : World) (n i : Int) :
    Calls Tryz.prog 180 #[.int .i64 n, .int .i64 i] w fun e w' => e = stopE n i ∧ w' = w := by
  go_enter Tryz.func180, Tryz.ntmps180
  go_wp2
  exact ⟨rfl, rfl, rfl, rfl⟩

theorem refuse_any (w : World) (b i : Nat) (s : ByteArray) (h : Rd w b s i) :
    Calls Tryz.prog 121 #[.pointer (some ⟨b, 0, none⟩)] w fun e w' => e = stopE 2 i ∧ w' = w := by
  obtain ⟨c0, c1, fz, le, hs⟩ := h
  go_enter Tryz.func121, Tryz.ntmps121
  go_wp2_with (go_at_call 180; refine (Refuse_any _ _ _).mono ?_; rintro e w' ⟨rfl, rfl⟩)
  exact ⟨rfl, rfl, rfl⟩

theorem want_ok (w : World) (b i : Nat) (s : ByteArray) (c : Int) (h : Rd w b s i) (h0 : 0 ≤ c) (h1 : c < 256) (hi : bt s i = c) :
    Calls Tryz.prog 89 #[.pointer (some ⟨b, 0, none⟩), .int .u8 c] w fun e w' => e = .returned (.tuple #[]) ∧ Adv b (i + 1) w w' := by
  have ht := take_any w b i s c h h0 h1
  simp only [if_pos hi] at ht
  have hd : decide (bt s i = c) = true := by simpa using hi
  clear hi
  go_enter Tryz.func89, Tryz.ntmps89
  go_wp2_with (go_at_call 88; refine ht.mono ?_; rintro e w' ⟨rfl, hA⟩)
  go_end0
  exact ⟨rfl, hA⟩

theorem want_bad (w : World) (b i : Nat) (s : ByteArray) (c : Int) (h : Rd w b s i) (h0 : 0 ≤ c) (h1 : c < 256) (hi : bt s i ≠ c) :
    Calls Tryz.prog 89 #[.pointer (some ⟨b, 0, none⟩), .int .u8 c] w fun e w' => e = stopE 2 i ∧ Adv b i w w' := by
  have ht := take_any w b i s c h h0 h1
  simp only [if_neg hi] at ht
  have hd : decide (bt s i = c) = false := by simpa using hi
  clear hi
  go_enter Tryz.func89, Tryz.ntmps89
  go_wp2_with (first
    | (go_at_call 88; refine ht.mono ?_; rintro e w' ⟨rfl, hA⟩)
    | (go_at_call 121; refine (refuse_any _ _ _ _ (h.adv hA h.le)).mono ?_; rintro e w' ⟨rfl, rfl⟩))
  exact ⟨rfl, rfl, hA⟩

theorem wantEnd_ok (w : World) (b i : Nat) (s : ByteArray) (h : Rd w b s i) (hi : i = s.size) :
    Calls Tryz.prog 68 #[.pointer (some ⟨b, 0, none⟩)] w fun e w' => e = .returned (.tuple #[]) ∧ Adv b i w w' := by
  have ht := ended_any w b i s h
  have hd : decide (i = s.size) = true := by simpa using hi
  clear hi
  go_enter Tryz.func68, Tryz.ntmps68
  go_wp2_with (go_at_call 120; refine ht.mono ?_; rintro e w' ⟨rfl, m, rfl⟩)
  go_end0
  exact ⟨rfl, h.stayN m⟩

theorem wantEnd_bad (w : World) (b i : Nat) (s : ByteArray) (h : Rd w b s i) (hi : i ≠ s.size) :
    Calls Tryz.prog 68 #[.pointer (some ⟨b, 0, none⟩)] w fun e w' => e = stopE 2 i ∧ Adv b i w w' := by
  have ht := ended_any w b i s h
  have hd : decide (i = s.size) = false := by simpa using hi
  clear hi
  go_enter Tryz.func68, Tryz.ntmps68
  go_wp2_with (first
    | (go_at_call 120; refine ht.mono ?_; rintro e w' ⟨rfl, m, rfl⟩)
    | (go_at_call 121; refine (refuse_any _ _ _ _ (h.drewN m)).mono ?_; rintro e w' ⟨rfl, rfl⟩))
  exact ⟨rfl, rfl, h.stayN m⟩

theorem place_any (w : World) (b i : Nat) (s : ByteArray) (h : Rd w b s i) :
    Calls Tryz.prog 159 #[.pointer (some ⟨b, 0, none⟩)] w fun e w' => e = .returned (.int .i64 i) ∧ w' = w := by
  obtain ⟨c0, c1, fz, le, hs⟩ := h
  go_enter Tryz.func159, Tryz.ntmps159
  go_wp2
  go_ret
  exact ⟨rfl, rfl⟩

end Go.Proofs.YtnffjoipinhojaaGreatDoor
