import Derived.Test.YtnffjoipinhojaaDoorN
import Derived.Test.YtnffjoipinhojaaDoorP
import Derived.Lib.IndexBytes
namespace Go.Proofs.YtnffjoipinhojaaDoor
open Go.RowKit

/-- The tail has as many bytes as that many bits need, filled up with 0. -/
def TailOk (l : List UInt8) (T : Nat) : Prop := l.length = (T + 7) / 8 ∧ (T % 8 = 0 ∨ (l.getD (l.length - 1) 0).toNat < 2 ^ (T % 8))
def TailAns (l : List UInt8) (T : Nat) (x : Ending) : Prop :=
  (TailOk l T ∧ x = .returned .nilIface) ∨ (¬ TailOk l T ∧ x = .returned (.iface 82 (.agg #[.int .i64 8])))

set_option maxHeartbeats 400000 in
theorem tail_any (s : ByteArray) (T : Nat) (w : World) (hs : s.size ≤ 140737488355328) (hT : T ≤ 1000) :
    Calls Tryd.prog 45 #[.string s, .int .i64 T] w fun x w' => TailAns s.data.toList T x ∧ w = w' := by
  have e : s.data.toList.length = s.size := by simp
  by_cases h1 : s.size = (T + 7) / 8
  · have hne : (((s.size : Nat) : Int) != ((T : Int) + 8 - 1) / 8) = false := by simp; omega
    by_cases hu : T % 8 = 0
    · have hu0 : (T : Int) % 8 = 0 := by omega
      have H : Hid (TailOk s.data.toList T) := ⟨by rw [e]; exact h1, .inl hu⟩
      clear hu h1 e
      go_enter Tryd.func45, Tryd.ntmps45
      go_wp2
      go_ret
      exact ⟨.inl ⟨H.out, rfl⟩, rfl⟩
    · obtain ⟨u, hu'⟩ : ∃ u, u = T % 8 := ⟨_, rfl⟩
      have hur : (T : Int) % 8 = (u : Int) := by omega
      have hu1 : (0 : Int) < (u : Int) := by omega
      have hu8 : u < 8 := by omega
      have hsz : 0 < s.size := by omega
      obtain ⟨L, hL⟩ : ∃ L, L + 1 = s.size := ⟨s.size - 1, by omega⟩
      have hLs : L < s.size := by omega
      have hLi : ((s.size : Nat) : Int) - 1 = (L : Int) := by omega
      have hby : s[L].toNat < 256 := s[L].toNat_lt
      have H : Hid (TailOk s.data.toList T ↔ s[L].toNat < 2 ^ u) := by
        have e5 : s.size - 1 = L := by omega
        simp only [Hid, TailOk, e, e5, byte_at s L hLs, hu']
        exact ⟨fun h => h.2.resolve_left hu, fun h => ⟨h1, .inr h⟩⟩
      clear hu h1 e hu' hL
      go_enter Tryd.func45, Tryd.ntmps45
      go_wp2_with (first | (go_at_call 40; refine (fits8 _ _ _ (by omega) (by omega) (by omega)).mono ?_; rintro e w' ⟨rfl, rfl⟩) | (go_at_call 41; refine (new_any _ _).mono ?_; rintro e w' ⟨rfl, rfl⟩))
      · have h3 : (!s[L].toNat / 2 ^ u == 0) = true := by assumption
        go_ret
        refine ⟨.inr ⟨fun h => ?_, rfl⟩, rfl⟩
        rw [Nat.div_eq_of_lt (H.out.1 h)] at h3
        simp at h3
      · have h3 : (!s[L].toNat / 2 ^ u == 0) = false := by assumption
        go_ret
        refine ⟨.inl ⟨H.out.2 ?_, rfl⟩, rfl⟩
        have h4 : s[L].toNat / 2 ^ u = 0 := by simpa using h3
        exact (Nat.div_eq_zero_iff.1 h4).resolve_left (Nat.ne_of_gt (Nat.two_pow_pos u))
  · have hne : (((s.size : Nat) : Int) != ((T : Int) + 8 - 1) / 8) = true := by simp; omega
    have H : Hid (¬ TailOk s.data.toList T) := fun h => h1 (e.symm.trans h.1)
    clear h1 e
    go_enter Tryd.func45, Tryd.ntmps45
    go_wp2_with (first | (go_at_call 41; refine (new_any _ _).mono ?_; rintro e w' ⟨rfl, rfl⟩))
    go_ret
    exact ⟨.inr ⟨H.out, rfl⟩, rfl⟩

/-- Bytes that are the Pack of count numbers of that width. -/
def Fit (l : List UInt8) (d c : Nat) : Prop := l.length = (c * d + 7) / 8 ∧ Plain.val l < 2 ^ (c * d)

theorem fit_tail (l : List UInt8) (d c : Nat) (h : c / 8 * d ≤ l.length) : TailOk (l.drop (c / 8 * d)) (c % 8 * d) ↔ Fit l d c := by
  have hc : c * d = 8 * (c / 8 * d) + c % 8 * d := by
    have e : c = 8 * (c / 8) + c % 8 := by omega
    rw [← Nat.mul_assoc, ← Nat.add_mul, ← e]
  generalize c / 8 * d = G at *
  generalize c % 8 * d = T at *
  unfold TailOk Fit
  rw [List.length_drop, hc]
  have hl : l.length - G = (T + 7) / 8 ↔ l.length = (8 * G + T + 7) / 8 := by omega
  constructor
  · rintro ⟨h1, h2⟩
    refine ⟨hl.1 h1, ?_⟩
    have hv := Plain.val_lt l
    rw [Plain.pow256] at hv
    rcases h2 with h2 | h2
    · rw [show 8 * G + T = 8 * l.length by omega]; exact hv
    · by_cases hT : T % 8 = 0
      · rw [show 8 * G + T = 8 * l.length by omega]; exact hv
      · have e1 : (l.drop G).getD (l.length - G - 1) 0 = l.getD (l.length - 1) 0 := by
          simp only [List.getD_eq_getElem?_getD, List.getElem?_drop]
          congr 2
          omega
        rw [e1, Plain.val_byte, Plain.pow256] at h2
        have h3 : Plain.val l / 2 ^ (8 * (l.length - 1)) < 256 := by
          rw [Nat.div_lt_iff_lt_mul (Nat.two_pow_pos _)]
          have : (256 : Nat) * 2 ^ (8 * (l.length - 1)) = 2 ^ (8 * l.length) := by
            rw [show (256 : Nat) = 2 ^ 8 by decide, ← Nat.pow_add]; congr 1; omega
          rw [this]; exact hv
        rw [Nat.mod_eq_of_lt h3, Nat.div_lt_iff_lt_mul (Nat.two_pow_pos _), ← Nat.pow_add] at h2
        rw [show 8 * G + T = T % 8 + 8 * (l.length - 1) by omega]
        exact h2
  · rintro ⟨h1, h2⟩
    refine ⟨hl.2 h1, ?_⟩
    by_cases hT : T % 8 = 0
    · exact .inl hT
    · right
      have e1 : (l.drop G).getD (l.length - G - 1) 0 = l.getD (l.length - 1) 0 := by
        simp only [List.getD_eq_getElem?_getD, List.getElem?_drop]
        congr 2
        omega
      rw [e1, Plain.val_byte, Plain.pow256]
      refine Nat.lt_of_le_of_lt (Nat.mod_le _ _) ?_
      rw [Nat.div_lt_iff_lt_mul (Nat.two_pow_pos _), ← Nat.pow_add]
      rw [show T % 8 + 8 * (l.length - 1) = 8 * G + T by omega]
      exact h2

theorem fit_groups (l : List UInt8) (d c : Nat) (h : l.length / d < c / 8) (hd : 0 < d) : ¬ Fit l d c := by
  rintro ⟨h1, _⟩
  have h2 : l.length < c / 8 * d := by
    have := (Nat.div_lt_iff_lt_mul hd).1 h
    exact this
  have h3 : c / 8 * d * 8 ≤ c * d := by
    rw [Nat.mul_assoc, Nat.mul_comm d 8, ← Nat.mul_assoc]
    exact Nat.mul_le_mul_right _ (by omega)
  omega
end Go.Proofs.YtnffjoipinhojaaDoor
