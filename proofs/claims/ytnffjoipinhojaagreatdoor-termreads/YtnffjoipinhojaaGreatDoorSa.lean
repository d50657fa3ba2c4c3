import Derived.Test.YtnffjoipinhojaaGreatDoorS
set_option linter.unusedSimpArgs false
set_option linter.unusedVariables false
namespace Go.Proofs.YtnffjoipinhojaaGreatDoor

/-- Right characters alone. -/
inductive VU : List UInt8 → Prop
  | nil : VU []
  | cons (c : Nat) (l : List UInt8) : Lib.validRune c = true → VU l → VU (Lib.encodeRune c ++ l)

theorem VU.append {l m : List UInt8} (h : VU l) (k : VU m) : VU (l ++ m) := by
  induction h with
  | nil => exact k
  | cons c l hv _ ih => rw [List.append_assoc]; exact .cons c _ hv ih

theorem VU.one {c : Nat} (h : Lib.validRune c = true) : VU (Lib.encodeRune c) := by
  have := VU.cons c [] h .nil
  simpa using this

theorem arr_get! (l : List UInt8) (i : Nat) (x : UInt8) (h : l[i]? = some x) : (⟨l.toArray⟩ : ByteArray).get! i = x := by
  have hi : i < l.length := (List.getElem?_eq_some_iff.1 h).1
  show l.toArray[i]! = x
  rw [getElem!_pos l.toArray i (by simpa using hi)]
  simpa [List.getElem?_eq_getElem hi] using h

theorem u8_toNat {x : Int} (h0 : 0 ≤ x) (h1 : x < 256) : (x.toNat.toUInt8).toNat = x.toNat := by
  simp
  omega

/-- What was encoded is decoded. -/
theorem dec_enc (pre post : List UInt8) (c : Nat) (hv : Lib.validRune c = true) :
    Utf8.decode ⟨(pre ++ (Lib.encodeRune c ++ post)).toArray⟩ pre.length = (c, (Lib.encodeRune c).length) := by
  have at' : ∀ k x, (Lib.encodeRune c)[k]? = some x → (⟨(pre ++ (Lib.encodeRune c ++ post)).toArray⟩ : ByteArray).get! (pre.length + k) = x := by
    intro k x hx
    apply arr_get!
    have hk : k < (Lib.encodeRune c).length := (List.getElem?_eq_some_iff.1 hx).1
    rw [List.getElem?_append_right (by omega), Nat.add_sub_cancel_left, List.getElem?_append_left hk]
    exact hx
  have sz : (⟨(pre ++ (Lib.encodeRune c ++ post)).toArray⟩ : ByteArray).size - pre.length = (Lib.encodeRune c).length + post.length := by
    show (pre ++ (Lib.encodeRune c ++ post)).toArray.size - _ = _
    simp
  simp only [Lib.validRune, decide_eq_true_eq] at hv
  rw [Lib.decode_at, sz]
  by_cases h1 : c ≤ 127
  · have e : Lib.encodeRune c = [((c : Int).toNat).toUInt8] := by simp only [Lib.encodeRune, Lib.encodeRuneZ_one (r := (c : Int)) (by omega) (by omega), List.map_cons, List.map_nil]
    have g0 := at' 0 _ (by rw [e]; rfl)
    rw [Nat.add_zero] at g0
    rw [g0, e, u8_toNat (by omega) (by omega)]
    unfold Lib.decodeN
    rw [if_pos (by omega)]
    simp
  · by_cases h2 : c ≤ 2047
    · have e : Lib.encodeRune c = [((192 + (c : Int) / 64).toNat).toUInt8, ((128 + (c : Int) % 64).toNat).toUInt8] := by simp only [Lib.encodeRune, Lib.encodeRuneZ_two (r := (c : Int)) (by omega) (by omega), List.map_cons, List.map_nil]
      have g0 := at' 0 _ (by rw [e]; rfl)
      have g1 := at' 1 _ (by rw [e]; rfl)
      rw [Nat.add_zero] at g0
      rw [g0, g1, e, u8_toNat (by omega) (by omega), u8_toNat (by omega) (by omega)]
      unfold Lib.decodeN
      simp only [List.length_cons, List.length_nil]
      rw [if_neg (by omega), if_pos (by omega), if_pos (by omega)]
      apply Prod.ext <;> simp only <;> omega
    · by_cases h3 : c ≤ 65535
      · have e : Lib.encodeRune c = [((224 + (c : Int) / 4096).toNat).toUInt8, ((128 + (c : Int) / 64 % 64).toNat).toUInt8, ((128 + (c : Int) % 64).toNat).toUInt8] := by simp only [Lib.encodeRune, Lib.encodeRuneZ_three (r := (c : Int)) (by omega), List.map_cons, List.map_nil]
        have g0 := at' 0 _ (by rw [e]; rfl)
        have g1 := at' 1 _ (by rw [e]; rfl)
        have g2 := at' 2 _ (by rw [e]; rfl)
        rw [Nat.add_zero] at g0
        rw [g0, g1, g2, e, u8_toNat (by omega) (by omega), u8_toNat (by omega) (by omega), u8_toNat (by omega) (by omega)]
        unfold Lib.decodeN
        simp only [List.length_cons, List.length_nil]
        rw [if_neg (by omega), if_neg (by omega), if_pos (by omega), if_pos (by omega)]
        apply Prod.ext <;> simp only <;> omega
      · have e : Lib.encodeRune c = [((240 + (c : Int) / 262144).toNat).toUInt8, ((128 + (c : Int) / 4096 % 64).toNat).toUInt8, ((128 + (c : Int) / 64 % 64).toNat).toUInt8, ((128 + (c : Int) % 64).toNat).toUInt8] := by simp only [Lib.encodeRune, Lib.encodeRuneZ_four (r := (c : Int)) (by omega) (by omega), List.map_cons, List.map_nil]
        have g0 := at' 0 _ (by rw [e]; rfl)
        have g1 := at' 1 _ (by rw [e]; rfl)
        have g2 := at' 2 _ (by rw [e]; rfl)
        have g3 := at' 3 _ (by rw [e]; rfl)
        rw [Nat.add_zero] at g0
        rw [g0, g1, g2, g3, e, u8_toNat (by omega) (by omega), u8_toNat (by omega) (by omega), u8_toNat (by omega) (by omega), u8_toNat (by omega) (by omega)]
        unfold Lib.decodeN
        simp only [List.length_cons, List.length_nil]
        rw [if_neg (by omega), if_neg (by omega), if_neg (by omega), if_pos (by omega), if_pos (by omega)]
        apply Prod.ext <;> simp only <;> omega

theorem enc_pos (c : Nat) : 1 ≤ (Lib.encodeRune c).length := by
  unfold Lib.encodeRune
  rw [List.length_map]
  exact (Lib.encodeRuneZ_length c).1

theorem enc_low {c : Nat} (h : c ≤ 127) : Lib.encodeRune c = [UInt8.ofNat c] := by
  simp only [Lib.encodeRune, Lib.encodeRuneZ_one (r := (c : Int)) (by omega) (by omega), List.map_cons, List.map_nil]
  rfl

theorem enc_high {c : Nat} (h : 128 ≤ c) : ∀ x ∈ Lib.encodeRune c, 128 ≤ x.toNat := by
  have hz : ∀ y ∈ Lib.encodeRuneZ c, 128 ≤ y ∧ y < 256 := by
    intro y hy
    unfold Lib.encodeRuneZ at hy
    repeat' split at hy
    all_goals (simp at hy; omega)
  intro x hx
  unfold Lib.encodeRune at hx
  rw [List.mem_map] at hx
  obtain ⟨y, hy, rfl⟩ := hx
  have := hz y hy
  rw [u8_toNat (by omega) (by omega)]
  omega

theorem escaped_append (l m : List UInt8) : escaped (l ++ m) = escaped l ++ escaped m := by
  induction l with
  | nil => rfl
  | cons c l ih => simp only [List.cons_append, escaped, ih, List.append_assoc]

theorem escaped_high (l : List UInt8) (h : ∀ x ∈ l, 128 ≤ x.toNat) : escaped l = l := by
  induction l with
  | nil => rfl
  | cons c l ih =>
    have hc := h c (by simp)
    have ne : ∀ k : UInt8, k.toNat < 128 → c ≠ k := by rintro k hk rfl; omega
    simp only [escaped, if_neg (ne 92 (by decide)), if_neg (ne 34 (by decide)), if_neg (ne 10 (by decide)), if_neg (ne 13 (by decide)), ih (fun x hx => h x (by simp [hx]))]
    rfl

theorem escaped_other {c : Nat} (h1 : c ≠ 92) (h2 : c ≠ 34) (h3 : c ≠ 10) (h4 : c ≠ 13) : escaped (Lib.encodeRune c) = Lib.encodeRune c := by
  by_cases h : c ≤ 127
  · have ne : ∀ k : Nat, k ≤ 127 → c ≠ k → UInt8.ofNat c ≠ UInt8.ofNat k := by
      intro k hk hne e
      have := congrArg UInt8.toNat e
      simp at this
      omega
    rw [enc_low h]
    simp only [escaped, if_neg (ne 92 (by omega) h1), if_neg (ne 34 (by omega) h2), if_neg (ne 10 (by omega) h3), if_neg (ne 13 (by omega) h4)]
    have e1 := ne 92 (by omega) h1
    have e2 := ne 34 (by omega) h2
    have e3 := ne 10 (by omega) h3
    have e4 := ne 13 (by omega) h4
    simp only [show (92 : UInt8) = UInt8.ofNat 92 from rfl, show (34 : UInt8) = UInt8.ofNat 34 from rfl, show (10 : UInt8) = UInt8.ofNat 10 from rfl, show (13 : UInt8) = UInt8.ofNat 13 from rfl, if_neg e1, if_neg e2, if_neg e3, if_neg e4]
    rfl
  · exact escaped_high _ (enc_high (by omega))

theorem escaped_len (l : List UInt8) : (escaped l).length ≤ 2 * l.length := by
  induction l with
  | nil => simp [escaped]
  | cons c l ih =>
    simp only [escaped, List.length_append, List.length_cons]
    repeat' split
    all_goals (simp; omega)

theorem chr_valid {s : ByteArray} {i : Nat} (h : (chr s i).2 ≠ 0) : Lib.validRune (chr s i).1 = true := by
  unfold chr at *
  split at h
  · rename_i hi
    simp only [if_pos hi]
    split at h
    · exact absurd rfl h
    · rename_i hne
      simp only [if_neg hne]
      revert hne
      rw [Lib.decode_at]
      unfold Lib.decodeN Lib.validRune
      intro hne
      repeat' split
      all_goals first
        | (simp only [decide_eq_true_eq]; omega)
        | (exfalso; apply hne; repeat' split; all_goals first | rfl | omega)
  · exact absurd rfl h

theorem num_valid {s : ByteArray} {i j k : Nat} {has : Int → Bool} {c m : Nat} (h : num s i j k has = .ok c m) : Lib.validRune c = true := by
  unfold num at h
  split at h
  · cases h
  · split at h
    · rename_i hv
      cases h
      simp at hv
      exact hv.1
    · cases h

theorem one_valid {s : ByteArray} {i : Nat} {hasP hasE : Int → Bool} {sh : Bool} {c m : Nat} (h : one s i hasP hasE sh = .ok c m) : Lib.validRune c = true := by
  unfold one at h
  split at h
  · unfold esc at h
    split at h
    · exact num_valid h
    · split at h
      · exact num_valid h
      · split at h
        · split at h
          · rename_i x hx
            cases h
            unfold shortOf at hx
            repeat' split at hx
            all_goals first | (cases hx; decide) | cases hx
          · cases h
        · cases h
  · split at h
    · rename_i h2
      cases h
      exact chr_valid h2.1
    · cases h

theorem encr_len (r : Int) : (Lib.encodeRune r).length ≤ 4 := by
  unfold Lib.encodeRune
  rw [List.length_map]
  exact (Lib.encodeRuneZ_length r).2

theorem body_valid (s : ByteArray) (q : Int) (hq : q < 256) (hasP hasE : Int → Bool) (sh : Bool) : ∀ (n i : Nat), s.size - i < n → ∀ l j, body s q hasP hasE sh i = .ok l j → VU l ∧ l.length ≤ 4 * (j - i) ∧ i < j ∧ j ≤ s.size := by
  intro n
  induction n with
  | zero => intro i hn; omega
  | succ n ih =>
    intro i hn l j h
    rw [body] at h
    split at h
    · rename_i hb
      cases h
      have := bt_in hb hq
      exact ⟨.nil, by simp, by omega, by omega⟩
    · split at h
      · cases h
      · rename_i c k ho
        have hk := one_lt ho
        have hv := one_valid ho
        cases hb : body s q hasP hasE sh k with
        | bad m => rw [hb] at h; cases h
        | ok m j' =>
          rw [hb] at h
          simp only [R.pre] at h
          cases h
          have := ih k (by omega) m j hb
          refine ⟨.cons c m hv this.1, ?_, by omega, this.2.2.2⟩
          have := encr_len c
          simp only [List.length_append]
          omega

theorem quoted_valid {s : ByteArray} {i : Nat} {l : List UInt8} {j : Nat} (h : quoted s i = .ok l j) : VU l ∧ l.length ≤ 4 * s.size ∧ i < j ∧ j ≤ s.size := by
  unfold quoted at h
  split at h
  · cases h
  · have := body_valid s 34 (by omega) plainQ allc true (s.size - (i + 1) + 1) (i + 1) (by omega) l j h
    exact ⟨this.1, by omega, by omega, this.2.2.2⟩

theorem scheme_lt (s : ByteArray) : ∀ (n i : Nat), s.size - i < n → ∀ j, scheme s i = .ok () j → i < j ∧ j ≤ s.size := by
  intro n
  induction n with
  | zero => intro i hn; omega
  | succ n ih =>
    intro i hn j h
    rw [scheme] at h
    split at h
    · rename_i hb
      cases h
      have := bt_in hb (by omega)
      omega
    · split at h
      · rename_i hs
        have hi : i < s.size := by
          apply bt_lt_size
          simp [inScheme, letter, digit] at hs
          omega
        have := ih (i + 1) (by omega) j h
        omega
      · cases h

theorem iri_len {s : ByteArray} {i : Nat} {l : List UInt8} {j : Nat} (h : iri s i = .ok l j) : l.length ≤ 5 * s.size + 1 ∧ i < j ∧ j ≤ s.size ∧ l ≠ [] := by
  unfold iri at h
  split at h
  · cases h
  · split at h
    · cases h
    · split at h
      · cases h
      · rename_i k hk
        have h1 := scheme_lt s _ _ (Nat.lt_succ_self _) k hk
        split at h
        · cases h
        · rename_i m j' hb
          cases h
          have h2 := body_valid s 62 (by omega) inIri inIri false _ k (Nat.lt_succ_self _) m j hb
          have h3 : (sub s i k).length ≤ s.size := by
            have e : s.data.toList.length = s.size := by simp
            unfold sub
            rw [List.length_take, List.length_drop, e]
            omega
          refine ⟨by simp; omega, by omega, h2.2.2.2, by simp⟩
end Go.Proofs.YtnffjoipinhojaaGreatDoor
