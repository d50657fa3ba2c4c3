import Derived.Test.YtnffjoipinhojaaDoorRu
import Derived.Test.YtnffjoipinhojaaDoorI
namespace Go.Proofs.YtnffjoipinhojaaDoor
open Go.RowKit

theorem ints_below {w w' : World} {v : Value} {xs : List Int} (h : Ints w v xs) (hb : Below w.heap.size w w') : Ints w' v xs := by
  rcases h with h | ⟨b, off, cap, rfl, hc⟩
  · exact .inl h
  · exact .inr ⟨b, off, cap, rfl, fun i hi => (hb.cell (p := ⟨b, off + i, none⟩) (World.block_lt_of_cell? w _ (hc i hi))).trans (hc i hi)⟩

theorem ru_err (s : ByteArray) (d c n : Int) (w : World) (hs : s.size ≤ 1000000000) (hc : c ≤ 9223372036854775807) (h : UnErr s.data.toList d c n) :
    Calls Tryd.prog 16 #[.string s, .int .i64 d, .int .i64 c] w fun x w' => x = .returned (.tuple #[.slice none 0 0, .int .i64 n]) ∧ Below w.heap.size w w' := by
  rcases h with ⟨h1, rfl⟩ | ⟨h1, h2, h3, rfl⟩ | ⟨h1, h2, h3, h4, rfl⟩
  · refine (ru_range s d c w (.inl h1)).mono ?_
    rintro e w' ⟨rfl, rfl⟩
    exact ⟨rfl, Below.refl _ _⟩
  · refine (ru_range s d c w (.inr ⟨h1, h2, h3⟩)).mono ?_
    rintro e w' ⟨rfl, rfl⟩
    exact ⟨rfl, Below.refl _ _⟩
  · obtain ⟨dn, rfl⟩ := Int.eq_ofNat_of_zero_le (show 0 ≤ d by omega)
    obtain ⟨cn, rfl⟩ := Int.eq_ofNat_of_zero_le h3
    rw [Int.toNat_natCast, Int.toNat_natCast] at h4
    by_cases hl : s.size = (cn * dn + 7) / 8
    · refine (ru_any s dn cn w hs (by omega) (by omega) hl).mono ?_
      rintro e w' ⟨ha, hb⟩
      rcases ha with ⟨hk, _⟩ | ⟨_, rfl⟩
      · exact absurd hk h4
      · exact ⟨rfl, hb⟩
    · refine (ru_len s dn cn w hs (by omega) (by omega) (by omega) hl).mono ?_
      rintro e w' ⟨rfl, rfl⟩
      exact ⟨rfl, Below.refl _ _⟩

theorem ru_good (s : ByteArray) (d c : Int) (w : World) (hs : s.size ≤ 1000000000) (h : UnOk s.data.toList d c) :
    Calls Tryd.prog 16 #[.string s, .int .i64 d, .int .i64 c] w fun x w' => (∃ v, x = .returned (.tuple #[v, .int .i64 0]) ∧ Own w' w.heap.size v (Nums (Plain.val s.data.toList) d.toNat c.toNat)) ∧ Below w.heap.size w w' := by
  obtain ⟨h1, h2, h3, h4⟩ := h
  obtain ⟨dn, rfl⟩ := Int.eq_ofNat_of_zero_le (show 0 ≤ d by omega)
  obtain ⟨cn, rfl⟩ := Int.eq_ofNat_of_zero_le h3
  rw [Int.toNat_natCast, Int.toNat_natCast] at *
  have e : s.data.toList.length = s.size := by simp
  refine (ru_any s dn cn w hs (by omega) (by omega) (by rw [← e]; exact h4.1)).mono ?_
  rintro x w' ⟨ha, hb⟩
  rcases ha with ⟨_, v, rfl, ho⟩ | ⟨hn, _⟩
  · exact ⟨⟨v, rfl, ho⟩, hb⟩
  · exact absurd h4 hn

theorem fits_mem {xs : List Int} {d : Nat} (h : ∀ j, j < xs.length → fitsB (xs.getD j 0) d = true) : ∀ y ∈ xs, 0 ≤ y ∧ y.toNat < 2 ^ d := by
  intro y hy
  obtain ⟨j, hj, e⟩ := List.getElem_of_mem hy
  have h1 := h j hj
  rw [List.getD_eq_getElem?_getD, List.getElem?_eq_getElem hj] at h1
  simp only [Option.getD_some] at h1
  rw [e] at h1
  have h2 : 0 ≤ y := by simp only [fitsB, decide_eq_true_eq] at h1; exact h1.1
  exact ⟨h2, fits_nat h1 (by omega)⟩

/-- What is packed is unpacked as it was. -/
theorem nums_back {xs : List Int} {d : Nat} {bs : List UInt8} (hall : ∀ j, j < xs.length → fitsB (xs.getD j 0) d = true) (hp : Packed d xs bs) : Fit bs d xs.length ∧ Nums (Plain.val bs) d xs.length = xs := by
  have hm := fits_mem hall
  have hmn : ∀ x ∈ xs.map Int.toNat, x < 2 ^ d := by
    intro x hx
    obtain ⟨y, hy, rfl⟩ := List.mem_map.1 hx
    exact (hm y hy).2
  refine ⟨⟨hp.1, ?_⟩, ?_⟩
  · rw [hp.2]
    have := Plain.packN_lt d (xs.map Int.toNat) hmn
    rw [List.length_map, Nat.mul_comm] at this
    exact this
  · apply List.ext_getElem
    · rw [nums_len]
    · intro i h1 h2
      have h3 := Plain.packN_get d (xs.map Int.toNat) i hmn
      simp only [Nums, List.getElem_map, List.getElem_range]
      rw [hp.2, h3, List.getD_eq_getElem?_getD, List.getElem?_map, List.getElem?_eq_getElem h2]
      have h4 := (hm xs[i] (List.getElem_mem h2)).1
      simp
      omega
end Go.Proofs.YtnffjoipinhojaaDoor
