import Derived.Test.YtnffjoipinhojaaGreatDoorPk
import Derived.Test.YtnffjoipinhojaaGreatDoorPd
import Derived.Test.YtnffjoipinhojaaGreatDoorPda
import Derived.Test.YtnffjoipinhojaaGreatDoorPdb
import Derived.Test.YtnffjoipinhojaaGreatDoorPdc
import Derived.Test.YtnffjoipinhojaaGreatDoorPdd
import Derived.Lib.MapLaws
set_option linter.unusedSimpArgs false
set_option linter.unusedVariables false
namespace Go.Proofs.YtnffjoipinhojaaGreatDoor
open Go.RowKit
namespace Ref

theorem sz_cases (c : Int) : sz c = (0, 0, 0) ∨ sz c = (1, 0, 0) ∨ sz c = (2, 128, 191) ∨ sz c = (3, 160, 191) ∨ sz c = (3, 128, 191) ∨ sz c = (3, 128, 159) ∨ sz c = (4, 144, 191) ∨ sz c = (4, 128, 191) ∨ sz c = (4, 128, 143) := by
  unfold sz
  repeat' split
  all_goals simp

theorem trip {z lo up : Nat} {x y v : Nat} {t : Int × Int × Int} (h : t = ((z : Int), (lo : Int), (up : Int))) (k : t = ((x : Int), (y : Int), (v : Int))) : z = x ∧ lo = y ∧ up = v := by
  have e := h.symm.trans k
  have h1 := congrArg (fun q : Int × Int × Int => q.1) e
  have h2 := congrArg (fun q : Int × Int × Int => q.2.1) e
  have h3 := congrArg (fun q : Int × Int × Int => q.2.2) e
  simp only at h1 h2 h3
  omega

theorem sz_seven {c : Int} {z lo up : Nat} (h : sz c = ((z : Int), (lo : Int), (up : Int))) (hz : z = 2 ∨ z = 3 ∨ z = 4) :
    (z = 2 ∧ lo = 128 ∧ up = 191) ∨ (z = 3 ∧ lo = 160 ∧ up = 191) ∨ (z = 3 ∧ lo = 128 ∧ up = 191) ∨ (z = 3 ∧ lo = 128 ∧ up = 159) ∨ (z = 4 ∧ lo = 144 ∧ up = 191) ∨ (z = 4 ∧ lo = 128 ∧ up = 191) ∨ (z = 4 ∧ lo = 128 ∧ up = 143) := by
  rcases sz_cases c with k | k | k | k | k | k | k | k | k
  · have := trip (x := 0) (y := 0) (v := 0) h k; omega
  · have := trip (x := 1) (y := 0) (v := 0) h k; omega
  · exact .inl (trip h k)
  · exact .inr (.inl (trip h k))
  · exact .inr (.inr (.inl (trip h k)))
  · exact .inr (.inr (.inr (.inl (trip h k))))
  · exact .inr (.inr (.inr (.inr (.inl (trip h k)))))
  · exact .inr (.inr (.inr (.inr (.inr (.inl (trip h k))))))
  · exact .inr (.inr (.inr (.inr (.inr (.inr (trip h k))))))

theorem whole_any (w : World) (s : ByteArray) (i : Nat) (hi : i < s.size) (hs : s.size ≤ 1099511627776) :
    Calls Tryz.prog 80 #[.string s, .int .i64 i] w fun e w' => e = .returned (.int .i64 (chr s i).2) ∧ w' = w := by
  obtain ⟨B0, hB⟩ : ∃ B0, B0 = bt s i := ⟨_, rfl⟩
  have HS := size_any w B0
  have w0 : wrap64 (s[i].toNat : Int) = B0 := by
    rw [hB, bt_lt hi]
    have := s[i].toNat_lt
    unfold wrap64
    omega
  rcases lead s i hi with ⟨hz, hc⟩ | ⟨hz, hc⟩ | ⟨z, lo, up, hz, hz3, _, _, hc⟩
  · rw [← hB] at hz
    rw [hz] at HS
    rw [hc]
    have HS' : Hid (Calls Tryz.prog 145 #[.int .i64 B0] w fun e w' => e = .returned (.tuple #[.int .i64 1, .int .i64 0, .int .i64 0]) ∧ w' = w) := HS
    clear HS hc hz hB
    go_enter Tryz.func80, Tryz.ntmps80
    go_wp2_with fail
    refine HS'.out.mono ?_
    rintro e w2 ⟨rfl, rfl⟩
    go_wp2_with fail
    go_ret
    exact ⟨rfl, rfl⟩
  · rw [← hB] at hz
    rw [hz] at HS
    rw [hc]
    have HS' : Hid (Calls Tryz.prog 145 #[.int .i64 B0] w fun e w' => e = .returned (.tuple #[.int .i64 0, .int .i64 0, .int .i64 0]) ∧ w' = w) := HS
    clear HS hc hz hB
    go_enter Tryz.func80, Tryz.ntmps80
    go_wp2_with fail
    refine HS'.out.mono ?_
    rintro e w2 ⟨rfl, rfl⟩
    go_wp2_with fail
    go_ret
    exact ⟨rfl, rfl⟩
  · rw [← hB] at hz
    rw [hz] at HS
    rcases sz_seven hz hz3 with ⟨rfl, rfl, rfl⟩ | ⟨rfl, rfl, rfl⟩ | ⟨rfl, rfl, rfl⟩ | ⟨rfl, rfl, rfl⟩ | ⟨rfl, rfl, rfl⟩ | ⟨rfl, rfl, rfl⟩ | ⟨rfl, rfl, rfl⟩
    · exact wh_2_128_191 w s i B0 hi hs HS w0 hc
    · exact wh_3_160_191 w s i B0 hi hs HS w0 hc
    · exact wh_3_128_191 w s i B0 hi hs HS w0 hc
    · exact wh_3_128_159 w s i B0 hi hs HS w0 hc
    · exact wh_4_144_191 w s i B0 hi hs HS w0 hc
    · exact wh_4_128_191 w s i B0 hi hs HS w0 hc
    · exact wh_4_128_143 w s i B0 hi hs HS w0 hc

def plainR (s : ByteArray) (i : Nat) : R Nat := if (chr s i).2 = 0 then .bad i else .ok (chr s i).1 (i + (chr s i).2)

theorem chr_dec {s : ByteArray} {i : Nat} (h : (chr s i).2 ≠ 0) : i < s.size ∧ chr s i = Utf8.decode s i ∧ Utf8.decode s i ≠ (65533, 1) := by
  unfold chr at h ⊢
  by_cases h1 : i < s.size
  · rw [if_pos h1] at h ⊢
    by_cases h2 : Utf8.decode s i = (65533, 1)
    · rw [if_pos h2] at h; exact absurd rfl h
    · rw [if_neg h2]; exact ⟨h1, rfl, h2⟩
  · rw [if_neg h1] at h; exact absurd rfl h

theorem chr_enc {s : ByteArray} {i : Nat} (h : (chr s i).2 ≠ 0) : i + (chr s i).2 ≤ s.size ∧ Lib.encodeRune ((chr s i).1 : Int) = sub s i (i + (chr s i).2) := by
  obtain ⟨h1, h2, h3⟩ := chr_dec h
  have hl : s.data.toList.length = s.size := by simp
  have hne : s.data.toList.drop i ≠ [] := by
    intro k
    have := congrArg List.length k
    rw [List.length_drop, hl] at this
    simp at this
    omega
  have e := Lib.decodeL_drop s i
  have h4 := Lib.decodeL_le _ hne
  rw [e, List.length_drop, hl] at h4
  have h5 := Lib.encode_decode _ hne (by
    rw [e]
    rintro ⟨k1, k2⟩
    exact h3 (Prod.ext k1 k2))
  rw [e] at h5
  rw [h2]
  refine ⟨by omega, ?_⟩
  unfold sub
  rw [h5]
  congr 1
  omega

theorem plain_any (w : World) (b i : Nat) (s : ByteArray) (a : Int) (h : Pn w b s i 0 a) (hi : i < s.size) :
    Calls Tryz.prog 85 #[.pointer (some ⟨b, 0, none⟩)] w (Pout b s a w (encR (plainR s i))) := by
  have hms := h.ms
  have H : Hid (Pn w b s i 0 a) := h
  have HW : Hid (∀ n, Calls Tryz.prog 80 #[.string s, .int .i64 i] (w.drewN n) fun e w' => e = .returned (.int .i64 (chr s i).2) ∧ w' = w.drewN n) := fun n => whole_any (w.drewN n) s i hi hms
  obtain ⟨z, hz⟩ : ∃ z, z = (chr s i).2 := ⟨_, rfl⟩
  rw [← hz] at HW
  obtain ⟨c0, c1, c2, c3, fz, ms, le⟩ := h
  by_cases h0 : z = 0
  · have HR : Hid (encR (plainR s i) = .bad i) := by unfold Hid plainR; rw [← hz, if_pos h0]; rfl
    subst h0
    clear hz
    go_enter Tryz.func85, Tryz.ntmps85
    go_wp2_with fail
    go_quiet ((go_at_call 80; exact Calls.quiet_of_same (HW.out _)))
    go_wp2_with fail
    refine (fail_live _ _ _ _ _ _ _ (H.out.drewN _)).mono ?_
    rintro e w3 ⟨rfl, m3⟩
    go_wp2_with fail
    go_ret
    rw [HR.out]
    exact ⟨[], _, rfl, by simp, (Mv.stayN H.out _).trans m3⟩
  · have hne : (chr s i).2 ≠ 0 := by omega
    have HR : Hid (encR (plainR s i) = .ok (sub s i (i + z)) (i + z)) := by
      unfold Hid plainR
      rw [← hz, if_neg h0]
      show R.ok (Lib.encodeRune ((chr s i).1 : Int)) (i + z) = _
      rw [(chr_enc hne).2, ← hz]
    have hin : i + z ≤ s.size := by rw [hz]; exact (chr_enc hne).1
    obtain ⟨X, hX⟩ : ∃ X : ByteArray, s.extract i (i + z) = X := ⟨_, rfl⟩
    have HX : Hid (X = ⟨(sub s i (i + z)).toArray⟩) := by unfold Hid; rw [← hX, str_sub]
    clear hz hne
    go_enter Tryz.func85, Tryz.ntmps85
    go_wp2_with fail
    go_quiet ((go_at_call 80; exact Calls.quiet_of_same (HW.out _)))
    go_wp2_with fail
    go_quiet (fail)
    go_wp2_with fail
    go_ret
    rw [HR.out]
    exact ⟨ret_str (hX.trans HX.out), (Mv.stayN H.out _).trans (Mv.atI (H.out.drewN _) _ (i + z) (by omega) (by omega))⟩

end Ref
end Go.Proofs.YtnffjoipinhojaaGreatDoor
