import Derived.Test.YtnffjoipinhojaaDoorCk
namespace Go.Proofs.YtnffjoipinhojaaDoor
open Go.RowKit

theorem cp_width (s : ByteArray) (d c : Int) (w : World) (h : d < 1 ∨ 62 < d) :
    Calls Tryd.prog 31 #[.string s, .int .i64 d, .int .i64 c] w fun x w' => x = .returned (.iface 82 (.agg #[.int .i64 3])) ∧ w = w' := by
  go_enter Tryd.func31, Tryd.ntmps31
  go_wp2_with (go_at_call 43; refine (width_bad _ _ h).mono ?_; rintro e w' ⟨rfl, rfl⟩)
  go_ret
  exact ⟨rfl, rfl⟩
theorem cp_neg (s : ByteArray) (d c : Int) (w : World) (h1 : 1 ≤ d) (h2 : d ≤ 62) (hc : c < 0) :
    Calls Tryd.prog 31 #[.string s, .int .i64 d, .int .i64 c] w fun x w' => x = .returned (.iface 82 (.agg #[.int .i64 3])) ∧ w = w' := by
  go_enter Tryd.func31, Tryd.ntmps31
  go_wp2_with (first | (go_at_call 43; refine (width_ok _ _ h1 h2).mono ?_; rintro e w' ⟨rfl, rfl⟩) | (go_at_call 41; refine (new_any _ _).mono ?_; rintro e w' ⟨rfl, rfl⟩))
  go_ret
  exact ⟨rfl, rfl⟩

def FitAns (l : List UInt8) (d c : Nat) (x : Ending) : Prop :=
  (Fit l d c ∧ x = .returned .nilIface) ∨ (¬ Fit l d c ∧ x = .returned (.iface 82 (.agg #[.int .i64 8])))

theorem wrap_mul (a b B : Nat) (h : a * b ≤ B) (hB : B ≤ 9223372036854775807) : wrap64 ((a : Int) * (b : Int)) = ((a * b : Nat) : Int) := by
  have e : (a : Int) * (b : Int) = ((a * b : Nat) : Int) := by simp
  rw [e]
  generalize a * b = M at *
  exact IntWalk.wrap64_in _ (by omega)

set_option maxHeartbeats 400000 in
theorem cp_any (s : ByteArray) (d c : Nat) (w : World) (hs : s.size ≤ 140737488355328) (h1 : 1 ≤ d) (h2 : d ≤ 62) (hc : c ≤ 9223372036854775807) :
    Calls Tryd.prog 31 #[.string s, .int .i64 d, .int .i64 c] w fun x w' => FitAns s.data.toList d c x ∧ w = w' := by
  have e : s.data.toList.length = s.size := by simp
  obtain ⟨g, hg⟩ : ∃ g, g = c / 8 := ⟨_, rfl⟩
  obtain ⟨r, hr⟩ : ∃ r, r = c % 8 := ⟨_, rfl⟩
  have hg8 : (c : Int) / 8 = (g : Int) := by omega
  have hr8 : (c : Int) % 8 = (r : Int) := by omega
  obtain ⟨Q, hQ⟩ : ∃ Q, Q = s.size / d := ⟨_, rfl⟩
  have hQd : ((s.size : Nat) : Int) / (d : Int) = (Q : Int) := by rw [hQ]; simp
  have hd0 : ((d : Int) == 0) = false := by simp; omega
  have hQl : Q ≤ s.size := by rw [hQ]; exact Nat.div_le_self _ _
  by_cases hgr : Q < g
  · have HF : Hid (¬ Fit s.data.toList d c) := fit_groups _ d c (by rw [e, ← hQ, ← hg]; exact hgr) (by omega)
    clear e hg hr hQ
    go_enter Tryd.func31, Tryd.ntmps31
    go_wp2_with (first | (go_at_call 43; refine (width_ok _ _ (by omega) (by omega)).mono ?_; rintro e w' ⟨rfl, rfl⟩) | (go_at_call 41; refine (new_any _ _).mono ?_; rintro e w' ⟨rfl, rfl⟩))
    go_ret
    exact ⟨.inr ⟨HF.out, rfl⟩, rfl⟩
  · have hgd : g * d ≤ s.size := by
      have h3 : g * d ≤ s.size / d * d := Nat.mul_le_mul_right _ (by omega)
      exact Nat.le_trans h3 (Nat.div_mul_le_self _ _)
    have hrd : r * d ≤ 7 * 62 := Nat.mul_le_mul (by omega) h2
    have HF : Hid (TailOk (s.data.toList.drop (g * d)) (r * d) ↔ Fit s.data.toList d c) := by
      simp only [Hid]; rw [hg, hr]; exact fit_tail _ d c (by rw [e, ← hg]; exact hgd)
    have m1 := wrap_mul g d _ hgd (by omega)
    have m2 := wrap_mul r d _ hrd (by omega)
    obtain ⟨G, hG⟩ : ∃ G, G = g * d := ⟨_, rfl⟩
    obtain ⟨T, hT⟩ : ∃ T, T = r * d := ⟨_, rfl⟩
    rw [← hG] at m1 hgd HF
    rw [← hT] at m2 hrd HF
    clear e hg hr hQ hG hT
    go_enter Tryd.func31, Tryd.ntmps31
    go_wp2_with (first | (go_at_call 43; refine (width_ok _ _ (by omega) (by omega)).mono ?_; rintro e w' ⟨rfl, rfl⟩))
    clear m1 m2
    refine (tail_any _ T _ (by simp; omega) (by omega)).mono ?_
    rintro e w' ⟨ha, rfl⟩
    rw [Lib.extract_to_end] at ha
    rcases ha with ⟨hk, rfl⟩ | ⟨hk, rfl⟩
    · have HK : Hid (Fit s.data.toList d c) := HF.out.1 hk
      clear hk
      go_wp2_with fail
      go_ret
      exact ⟨.inl ⟨HK.out, rfl⟩, rfl⟩
    · have HK : Hid (¬ Fit s.data.toList d c) := fun h => hk (HF.out.2 h)
      clear hk
      go_wp2_with fail
      go_ret
      exact ⟨.inr ⟨HK.out, rfl⟩, rfl⟩
end Go.Proofs.YtnffjoipinhojaaDoor
