import Derived.Test.YtnffjoipinhojaaGreatDoorVa
import Derived.Test.YtnffjoipinhojaaGreatDoorTa
import Derived.Deep.RegionHeld3
import Derived.Test.YtnffjoipinhojaaGreatDoorTb
set_option linter.unusedSimpArgs false
set_option linter.unusedVariables false
namespace Go.Proofs.YtnffjoipinhojaaGreatDoor
open Go.RowKit
open Back (vfrom)

theorem vfrom_VU (s : ByteArray) : ∀ (n i : Nat), s.size - i < n → i ≤ s.size → vfrom s i = true → VU (s.data.toList.drop i) := by
  have hl : s.data.toList.length = s.size := Array.length_toList
  intro n
  induction n with
  | zero => intro i h; omega
  | succ n ih =>
    intro i hn hi h
    by_cases hlt : i < s.size
    · by_cases hz : (chr s i).2 = 0
      · rw [Back.vfrom_bad hlt hz] at h
        cases h
      · rw [Back.vfrom_on hlt hz] at h
        obtain ⟨h1, h2⟩ := Ref.chr_enc hz
        have hr := ih (i + (chr s i).2) (by omega) h1 h
        have e : s.data.toList.drop i = Lib.encodeRune ((chr s i).1 : Int) ++ s.data.toList.drop (i + (chr s i).2) := by
          rw [h2]
          unfold sub
          rw [Nat.add_sub_cancel_left, ← List.drop_drop, List.take_append_drop]
        rw [e]
        exact VU.cons _ _ (chr_valid hz) hr
    · rw [List.drop_eq_nil_of_le (by omega)]
      exact VU.nil

theorem isEmpty_nil {l : ByteArray} (h : l.toList.isEmpty = true) : l.data.toList = [] := by
  rw [ByteArray.toList_eq] at h
  exact List.isEmpty_iff.1 h

theorem fits_facts {t l k : ByteArray} (h : fits t l k = true) : VU t.data.toList ∧ asc l.data.toList := by
  unfold fits at h
  rw [Bool.and_eq_true] at h
  refine ⟨?_, ?_⟩
  · have := vfrom_VU t (t.size + 1) 0 (by omega) (by omega) h.1
    rwa [List.drop_zero] at this
  · have h2 := h.2
    split at h2
    · rename_i he
      rw [isEmpty_nil he]
      exact nil_asc
    · rw [Bool.and_eq_true] at h2
      have h3 := h2.2
      unfold isW at h3
      split at h3
      · rename_i x j hw
        obtain ⟨e1, e2⟩ := Back.whole_ok hw
        unfold langR at e1
        split at e1
        · rename_i j' hl
          cases e1
          rw [decide_eq_true_iff] at h3
          rw [← h3]
          exact (language_asc hl).2.2
        · cases e1
      · cases h3

def litOf (t l k : ByteArray) : List UInt8 × Int :=
  if fits t l k = true then (if 200 < (form t.data.toList l.data.toList k.data.toList).length then ([], 4) else (form t.data.toList l.data.toList k.data.toList, 0)) else ([], 2)

theorem trip_str (t l k : ByteArray) : tripV t l k = .agg #[str t.data.toList, str l.data.toList, str k.data.toList] := by
  unfold tripV str
  rw [show (⟨t.data.toList.toArray⟩ : ByteArray) = t from Back.arr_data t, show (⟨l.data.toList.toArray⟩ : ByteArray) = l from Back.arr_data l, show (⟨k.data.toList.toArray⟩ : ByteArray) = k from Back.arr_data k]

set_option maxHeartbeats 2000000 in
set_option maxRecDepth 20000 in
theorem lit_any (w : World) (t l k : ByteArray) (hT : Tabs w) (hG : 8 ≤ w.heap.size) (ht : t.size ≤ 1099511627776) (hl : l.size ≤ 1099511627776) (hk : k.size ≤ 1099511627776) :
    Calls Tryz.prog 18 #[.string t, .string l, .string k] w fun e w' => e = .returned (.tuple #[str (litOf t l k).1, .int .i64 (litOf t l k).2]) ∧ Below w.heap.size w w' := by
  have HA : Hid (∀ w1, KS w w.heap.size t l k w1 → Calls Tryz.prog 40 #[tripV t l k] w1 fun e w2 => e = .returned (.bool (fits t l k)) ∧ KS w w.heap.size t l k w2) := by
    intro w1 h1
    refine (mayBe_any w1 t l k (h1.tabs hT) (Nat.le_trans hG h1.2.2.2.size) ht hl hk).mono ?_
    rintro e w2 ⟨rfl, hb⟩
    exact ⟨rfl, h1.on hb⟩
  have HM : Hid (KS w w.heap.size t l k (w.alloc (.cells #[.string t, .string l, .string k] 79))) := KS.mk w t l k _
  by_cases hf : fits t l k = true
  · obtain ⟨v1, v2⟩ := fits_facts hf
    have lt : t.data.toList.length = t.size := Array.length_toList
    have ll : l.data.toList.length = l.size := Array.length_toList
    have lk : k.data.toList.length = k.size := Array.length_toList
    obtain ⟨V, hV⟩ : ∃ V : ByteArray, V = ⟨(form t.data.toList l.data.toList k.data.toList).toArray⟩ := ⟨_, rfl⟩
    have hVl : V.size = (form t.data.toList l.data.toList k.data.toList).length := by rw [hV]; exact Back.arr_sz _
    have HB : Hid (∀ w1, KS w w.heap.size t l k w1 → Calls Tryz.prog 41 #[tripV t l k] w1 fun e w2 => e = .returned (.string V) ∧ KS w w.heap.size t l k w2) := by
      intro w1 h1
      rw [trip_str, hV]
      refine (form_any w1 t.data.toList l.data.toList k.data.toList v1 v2 (by omega) (by omega) (by omega)).mono ?_
      rintro e w2 ⟨rfl, hb⟩
      exact ⟨rfl, h1.on hb⟩
    have HBo : Hid (∀ w2, Calls Tryz.prog 37 #[.string V] w2 fun e w' => e = .returned (if 200 < V.size then .tuple #[.string ⟨#[]⟩, .int .i64 4] else .tuple #[.string V, .int .i64 0]) ∧ w' = w2) := fun w2 => bounded_any w2 V
    have HL : Hid (litOf t l k = if 200 < V.size then ([], 4) else (form t.data.toList l.data.toList k.data.toList, 0)) := by unfold Hid litOf; rw [if_pos hf, hVl]
    rw [hf] at HA
    have HV : Hid (V = ⟨(form t.data.toList l.data.toList k.data.toList).toArray⟩) := hV
    generalize form t.data.toList l.data.toList k.data.toList = F at *
    clear hT hG hf v1 v2 hVl hV lt ll lk
    by_cases h200 : 200 < V.size
    · rw [if_pos h200] at HL HBo
      rw [HL.out]
      go_enter Tryz.func18, Tryz.ntmps18
      go_wp2_with fail
      have hM := HM.out
      generalize w.alloc (.cells #[.string t, .string l, .string k] 79) = w1 at hM ⊢
      refine (HA.out _ hM).mono ?_
      rintro e w2 ⟨rfl, hM2⟩
      have hMx := hM2
      obtain ⟨m0, m1, m2, m3⟩ := hMx
      go_wp2_with fail
      clear m0 m1 m2 m3
      refine (HB.out _ hM2).mono ?_
      rintro e w3 ⟨rfl, hM3⟩
      go_wp2_with fail
      refine (HBo.out _).mono ?_
      rintro e w4 ⟨rfl, rfl⟩
      go_wp2_with fail
      exact bodyPost_ret (v := .tuple #[str [], .int .i64 4]) (by simp [results, Tryz.results18, go_sem]) rfl ⟨rfl, hM3.low⟩
    · rw [if_neg h200] at HL HBo
      rw [HL.out]
      go_enter Tryz.func18, Tryz.ntmps18
      go_wp2_with fail
      have hM := HM.out
      generalize w.alloc (.cells #[.string t, .string l, .string k] 79) = w1 at hM ⊢
      refine (HA.out _ hM).mono ?_
      rintro e w2 ⟨rfl, hM2⟩
      have hMx := hM2
      obtain ⟨m0, m1, m2, m3⟩ := hMx
      go_wp2_with fail
      clear m0 m1 m2 m3
      refine (HB.out _ hM2).mono ?_
      rintro e w3 ⟨rfl, hM3⟩
      go_wp2_with fail
      refine (HBo.out _).mono ?_
      rintro e w4 ⟨rfl, rfl⟩
      go_wp2_with fail
      exact bodyPost_ret (v := .tuple #[.string V, .int .i64 0]) (by simp [results, Tryz.results18, go_sem]) rfl ⟨by rw [HV.out], hM3.low⟩
  · have hf' : fits t l k = false := by simpa using hf
    have HL : Hid (litOf t l k = ([], 2)) := by unfold Hid litOf; rw [if_neg hf]
    rw [hf'] at HA
    rw [HL.out]
    clear hT hG hf hf'
    go_enter Tryz.func18, Tryz.ntmps18
    go_wp2_with fail
    have hM := HM.out
    generalize w.alloc (.cells #[.string t, .string l, .string k] 79) = w1 at hM ⊢
    refine (HA.out _ hM).mono ?_
    rintro e w2 ⟨rfl, hM2⟩
    go_wp2_with fail
    exact bodyPost_ret (v := .tuple #[str [], .int .i64 2]) (by simp [results, Tryz.results18, go_sem]) rfl ⟨rfl, hM2.low⟩

theorem as_nil (v : Value) (w : World) : Calls Tryz.prog 70 #[.nilIface, .iface 124 v] w fun e w' => e = .returned (.bool false) ∧ w' = w := by
  go_enter Tryz.func70, Tryz.ntmps70
  go_wp2
  go_ret
  exact ⟨rfl, rfl⟩

theorem number_nil (w : World) : Calls Tryz.prog 35 #[.nilIface] w fun e w' => e = .returned (.int .i64 0) ∧ Below w.heap.size w w' := by
  go_enter Tryz.func35, Tryz.ntmps35
  go_wp2_with fail
  refine (as_nil _ _).mono ?_
  rintro e w' ⟨rfl, rfl⟩
  go_wp2
  go_ret
  exact ⟨rfl, (Below.refl _ w).alloc (Nat.le_refl _) _⟩

/-- a literal in its one form has parts, of which it is the form -/
theorem kind3 {s : ByteArray} (h : kindOf s = 3) : s.size ≤ 200 ∧ ∃ p, parts s 0 = .ok p s.size ∧ form p.text p.lang p.kind = s.data.toList := by
  unfold kindOf at h
  split at h
  · omega
  · rename_i hs
    refine ⟨by omega, ?_⟩
    split at h
    · omega
    · rename_i p j hw
      obtain ⟨ht, rfl⟩ := Back.whole_ok hw
      split at h
      · rename_i he
        have hk := term_kind ht
        have hb : bt s 0 = 34 := by omega
        unfold term at ht
        rw [if_neg (by omega), if_neg (by omega), if_pos hb] at ht
        split at ht
        · cases ht
        · rename_i x j' hl
          cases ht
          unfold literal at hl
          split at hl
          · cases hl
          · rename_i q j'' hp
            simp only [R.ok.injEq] at hl
            refine ⟨q, by rw [hp, hl.2], ?_⟩
            rw [hl.1]
            exact he
      · omega

def partsOf (s : ByteArray) : Lit × Int := if kindOf s = 3 then (match parts s 0 with
    | .ok p _ => (p, 0)
    | .bad _ => (⟨[], [], []⟩, 2)) else (⟨[], [], []⟩, 4)

set_option maxHeartbeats 2000000 in
set_option maxRecDepth 20000 in
theorem partsP_any (w : World) (s : ByteArray) (hT : Tabs w) (hG : 8 ≤ w.heap.size) :
    Calls Tryz.prog 20 #[.string s] w fun e w' => e = .returned (.tuple #[str (partsOf s).1.text, str (partsOf s).1.lang, str (partsOf s).1.kind, .int .i64 (partsOf s).2]) ∧ Below w.heap.size w w' := by
  have HK : Hid (Calls Tryz.prog 13 #[.string s] w fun e w' => e = .returned (.int .i64 (kindOf s)) ∧ Below w.heap.size w w') := kind_any w s hT hG
  by_cases h3 : kindOf s = 3
  · obtain ⟨hs, p, hp, -⟩ := kind3 h3
    have HP : Hid (partsOf s = (p, 0)) := by unfold Hid partsOf; rw [if_pos h3, hp]
    have hwp : whole s (parts s 0) = .ok p s.size := by rw [hp]; unfold whole; simp
    obtain ⟨T, hTt⟩ : ∃ V : ByteArray, V = ⟨p.text.toArray⟩ := ⟨_, rfl⟩
    obtain ⟨L, hLl⟩ : ∃ V : ByteArray, V = ⟨p.lang.toArray⟩ := ⟨_, rfl⟩
    obtain ⟨K, hKk⟩ : ∃ V : ByteArray, V = ⟨p.kind.toArray⟩ := ⟨_, rfl⟩
    have HW : Hid (∀ w1, Below w.heap.size w w1 → Calls Tryz.prog 46 #[.string s, fnV 47 #[]] w1 fun e w' => e = .returned (.tuple #[tripV T L K, .nilIface]) ∧ Below w.heap.size w w') := by
      intro w1 hb
      have hw2 := wholeParts w1 s (hT.below hb (World.block_lt_of_cell? w ⟨_, _, none⟩ (hT.1 0 (by omega))) (World.block_lt_of_cell? w ⟨_, _, none⟩ (hT.2 0 (by omega)).1)) (Nat.le_trans hG hb.size) (by omega)
      rw [hwp] at hw2
      refine hw2.mono ?_
      rintro e w' ⟨he, hb2⟩
      exact ⟨by rw [hTt, hLl, hKk]; exact he, hb.trans (hb2.mono hb.size)⟩
    have HR : Hid ((.tuple #[str p.text, str p.lang, str p.kind, .int .i64 0] : Value) = .tuple #[.string T, .string L, .string K, .int .i64 0]) := by unfold Hid; rw [hTt, hLl, hKk]
    rw [h3] at HK
    rw [HP.out]
    simp only
    rw [HR.out]
    clear hT hG h3 hs hp HP hwp hTt hLl hKk HR
    have HM : Hid (∀ w2 : World, KS w2 w2.heap.size T L K (w2.alloc (.cells #[.string T, .string L, .string K] 79))) := fun w2 => KS.mk w2 T L K _
    have HN : Hid (∀ w2 n w1, KS w2 n T L K w1 → Calls Tryz.prog 35 #[.nilIface] w1 fun e w3 => e = .returned (.int .i64 0) ∧ KS w2 n T L K w3) := by
      intro w2 n w1 h1
      refine (number_nil w1).mono ?_
      rintro e w3 ⟨rfl, hb⟩
      exact ⟨rfl, h1.on hb⟩
    go_enter Tryz.func20, Tryz.ntmps20
    go_wp2_with fail
    refine HK.out.mono ?_
    rintro e w1 ⟨rfl, hb1⟩
    have HB1 : Hid (Below w.heap.size w w1) := hb1
    clear hb1
    go_wp2_with fail
    refine (HW.out _ HB1.out).mono ?_
    rintro e w2 ⟨rfl, hb2⟩
    have HB2 : Hid (Below w.heap.size w w2) := hb2
    clear hb2
    go_wp2_with fail
    have hM := HM.out w2
    generalize w2.alloc (.cells #[.string T, .string L, .string K] 79) = w3 at hM ⊢
    obtain ⟨m0, m1, m2, m3⟩ := hM
    go_region_held3 (fun w' => w'.cell? ⟨w2.heap.size, 0, none⟩ = some (.string T) ∧ w'.cell? ⟨w2.heap.size, 1, none⟩ = some (.string L) ∧ w'.cell? ⟨w2.heap.size, 2, none⟩ = some (.string K) ∧ Below w2.heap.size w2 w') (first | assumption | exact ⟨m0, m1, m2, m3⟩ | exact ⟨m0, m1, m2, m3.drew⟩) (first | (go_at_call 35; refine (HN.out w2 w2.heap.size _ (by first | assumption | exact ⟨by assumption, by assumption, by assumption, by assumption⟩)).mono ?_; rintro e w4 ⟨rfl, hS⟩))
    all_goals go_wp2_with fail
    all_goals refine bodyPost_ret (v := .tuple #[.string T, .string L, .string K, .int .i64 0]) (by simp [results, Tryz.results20, go_sem]) rfl ⟨rfl, ?_⟩
    all_goals exact HB2.out.trans ((KS.low (n := w2.heap.size) (a := T) (b := L) (c := K) (by assumption)).mono HB2.out.size)
  · have HP : Hid (partsOf s = (⟨[], [], []⟩, 4)) := by unfold Hid partsOf; rw [if_neg h3]
    rw [HP.out]
    simp only
    have hk : ((kindOf s : Int) != 3) = true := by simp; omega
    clear hT hG
    generalize kindOf s = k at *
    go_enter Tryz.func20, Tryz.ntmps20
    go_wp2_with fail
    refine HK.out.mono ?_
    rintro e w1 ⟨rfl, hb1⟩
    go_wp2_with fail
    exact bodyPost_ret (v := .tuple #[str [], str [], str [], .int .i64 4]) (by simp [results, Tryz.results20, go_sem]) rfl ⟨rfl, hb1⟩

end Go.Proofs.YtnffjoipinhojaaGreatDoor

namespace Go.Proofs.YtnffjoipinhojaaGreatDoor
open Go.RowKit
open Back (vfrom arr)

theorem lessK_whole (s : ByteArray) : whole s (Ref.lessK (term s 0)) = Ref.lessK (whole s (term s 0)) := by
  cases term s 0 with
  | bad j => rfl
  | ok p j => unfold whole Ref.lessK; simp only; split <;> rfl

theorem readT_bad {s : ByteArray} (h : (Ref.readT s).2.1 ≠ 0) : (Ref.readT s).1 = [] := by
  unfold Ref.readT at h ⊢
  split
  · rfl
  · rename_i h1
    rw [if_neg h1] at h
    cases hw : whole s (Ref.lessK (term s 0)) with
    | bad j => rfl
    | ok l j =>
      rw [hw] at h
      simp only at h ⊢
      split
      · rfl
      · rename_i h2
        rw [if_neg h2] at h
        exact absurd rfl h

theorem readT_ok {s : ByteArray} (h : (Ref.readT s).2.1 = 0) : ∃ k, whole s (term s 0) = .ok (k, (Ref.readT s).1) s.size ∧ (Ref.readT s).1.length ≤ 200 := by
  unfold Ref.readT at h ⊢
  split
  · rename_i h1
    rw [if_pos h1] at h
    simp at h
  · rename_i h1
    rw [if_neg h1, lessK_whole] at h
    rw [lessK_whole]
    cases hw : whole s (term s 0) with
    | bad j => rw [hw] at h; simp [Ref.lessK] at h
    | ok p j =>
      rw [hw] at h
      simp only [Ref.lessK] at h ⊢
      obtain ⟨ht, rfl⟩ := Back.whole_ok hw
      split
      · rename_i h2
        rw [if_pos h2] at h
        simp at h
      · rename_i h2
        exact ⟨p.1, rfl, by simp only; omega⟩

theorem readT_of {s : ByteArray} {k : Nat} {l : List UInt8} {j : Nat} (h : whole s (term s 0) = .ok (k, l) j) (hs : s.size ≤ 20000) (hl : l.length ≤ 200) : Ref.readT s = (l, 0, 0) := by
  unfold Ref.readT
  rw [if_neg (by omega), lessK_whole, h]
  simp only [Ref.lessK]
  rw [if_neg (by omega)]

theorem kindOf_of {l : List UInt8} {k : Nat} {j : Nat} (h : whole (arr l) (term (arr l) 0) = .ok (k, l) j) (hl : l.length ≤ 200) : kindOf (arr l) = k := by
  unfold kindOf
  rw [if_neg (by rw [Back.arr_sz]; omega), h]
  simp

theorem sub_whole (l : List UInt8) : sub (arr l) 0 l.length = l := by
  unfold sub
  simp

theorem fits_of {p : Lit} (h : Back.Fit p) : fits (arr p.text) (arr p.lang) (arr p.kind) = true := by
  unfold fits
  have hv := Back.valid_VU h.text []
  simp only [List.nil_append, List.length_nil] at hv
  rw [hv, Bool.true_and, ByteArray.toList_mk, ByteArray.toList_mk]
  rcases h.lang with hl | ⟨hk, hl⟩
  · rw [hl]
    rcases h.kind with hk | ⟨_, hk⟩
    · rw [hk]; rfl
    · have : isW (arr p.kind) (iri (arr p.kind) 0) = true := by
        unfold isW
        rw [hk]
        unfold whole
        simp only
        rw [if_pos (Back.arr_sz _).symm]
        simp
      rw [this]
      simp
  · have : isW (arr p.lang) (langR (arr p.lang) 0) = true := by
      unfold isW langR
      rw [hl]
      simp only
      unfold whole
      simp only
      rw [if_pos (Back.arr_sz _).symm, sub_whole]
      simp
    rw [this, hk]
    cases p.lang with
    | nil => rfl
    | cons x m => rfl

/-- what TermBack asks of a text that is read -/
theorem back_facts {s : ByteArray} (h : (Ref.readT s).2.1 = 0) : ∃ k, (k = 1 ∨ k = 2 ∨ k = 3) ∧ Ref.readT (arr (Ref.readT s).1) = ((Ref.readT s).1, 0, 0) ∧ kindOf (arr (Ref.readT s).1) = k ∧ (Ref.readT s).1.length ≤ 200 ∧
    (k = 3 → ∃ p, partsOf (arr (Ref.readT s).1) = (p, 0) ∧ litOf (arr p.text) (arr p.lang) (arr p.kind) = ((Ref.readT s).1, 0) ∧ p.text.length ≤ 1000 ∧ p.lang.length ≤ 1000 ∧ p.kind.length ≤ 2000) := by
  obtain ⟨k, hw, hl⟩ := readT_ok h
  generalize (Ref.readT s).1 = l at *
  obtain ⟨h1, h2, h3⟩ := Back.term_back hw
  refine ⟨k, h2, readT_of h1 (by rw [Back.arr_sz]; omega) hl, kindOf_of h1 hl, hl, fun hk => ?_⟩
  obtain ⟨p, hp, hf, hfit⟩ := h3 hk
  obtain ⟨hp1, _⟩ := Back.whole_ok hp
  have hpf := parts_facts hp1
  have hsz := Back.arr_sz l
  refine ⟨p, ?_, ?_, by omega, by omega, by omega⟩
  · unfold partsOf
    rw [if_pos (by rw [kindOf_of h1 hl]; exact hk), hp1]
  · unfold litOf
    rw [if_pos (fits_of hfit)]
    simp only
    rw [hf, if_neg (by omega)]

theorem sampleT : Ref.readT ⟨#[60, 97, 58, 92, 117, 48, 48, 54, 50, 62]⟩ = ([60, 97, 58, 98, 62], 0, 0) := by
  have := Back.sample
  exact readT_of (s := arr Back.sampleL) this (by rw [Back.arr_sz]; decide) (by decide)

set_option maxHeartbeats 4000000 in
set_option maxRecDepth 20000 in
theorem termBack_any (w : World) (s : ByteArray) (hT : Tabs w) (hG : 8 ≤ w.heap.size) (hH : Handle w) :
    Calls Tryz.prog 6 #[.string s] w fun e w' => e = .returned (.bool true) ∧ Below w.heap.size w w' := by
  have hTT : ∀ w1, Below w.heap.size w w1 → Tabs w1 := fun w1 hb => hT.below hb (World.block_lt_of_cell? w ⟨_, _, none⟩ (hT.1 0 (by omega))) (World.block_lt_of_cell? w ⟨_, _, none⟩ (hT.2 0 (by omega)).1)
  have HR : Hid (∀ w1 x, Below w.heap.size w w1 → Calls Tryz.prog 10 #[.string x] w1 fun e w' => e = .returned (.tuple #[.string ⟨(Ref.readT x).1.toArray⟩, .int .i64 (Ref.readT x).2.1, .int .i64 (Ref.readT x).2.2]) ∧ Below w.heap.size w w') := by
    intro w1 x hb
    refine (termRead_any w1 x (hTT w1 hb) (Nat.le_trans hG hb.size) (hH.below hb)).mono ?_
    rintro e w2 ⟨rfl, hb2⟩
    exact ⟨rfl, hb.trans (hb2.mono hb.size)⟩
  have HS : Hid (∀ w1, Below w.heap.size w w1 → Calls Tryz.prog 10 #[.string ⟨#[60, 97, 58, 92, 117, 48, 48, 54, 50, 62]⟩] w1 fun e w' => e = .returned (.tuple #[.string ⟨#[60, 97, 58, 98, 62]⟩, .int .i64 0, .int .i64 0]) ∧ Below w.heap.size w w') := by
    intro w1 hb
    have := HR.out w1 ⟨#[60, 97, 58, 92, 117, 48, 48, 54, 50, 62]⟩ hb
    rw [sampleT] at this
    exact this
  have HN : Hid (∀ w1 (n : Int), n = 0 ∨ n = 1 ∨ n = 2 ∨ n = 4 → Calls Tryz.prog 12 #[.int .i64 n] w1 fun e w' => e = .returned (.int .i64 n) ∧ w' = w1) := fun w1 n h => num_any w1 n h
  have HN0 : Hid (∀ w1, Calls Tryz.prog 12 #[.int .i64 0] w1 fun e w' => e = .returned (.int .i64 0) ∧ w' = w1) := fun w1 => num_any w1 0 (Or.inl rfl)
  have H1 := HR.out w s (Below.refl _ w)
  have hnum := readT_num s
  by_cases hn : (Ref.readT s).2.1 = 0
  · obtain ⟨k, hk, hr2, hkind, hlen, hp3⟩ := back_facts hn
    generalize (Ref.readT s).1 = l at *
    generalize (Ref.readT s).2.2 = a at *
    rw [hn] at H1
    obtain ⟨V, hV⟩ : ∃ V : ByteArray, V = arr l := ⟨_, rfl⟩
    have HA : Hid (Calls Tryz.prog 10 #[.string s] w fun e w' => e = .returned (.tuple #[.string V, .int .i64 0, .int .i64 a]) ∧ Below w.heap.size w w') := by unfold Hid; rw [hV]; exact H1
    have HB : Hid (∀ w1, Below w.heap.size w w1 → Calls Tryz.prog 10 #[.string V] w1 fun e w' => e = .returned (.tuple #[.string V, .int .i64 0, .int .i64 0]) ∧ Below w.heap.size w w') := by
      intro w1 hb
      have := HR.out w1 V hb
      rw [hV, hr2] at this
      rw [hV]
      exact this
    have HC : Hid (∀ w1, Below w.heap.size w w1 → Calls Tryz.prog 13 #[.string V] w1 fun e w' => e = .returned (.int .i64 k) ∧ Below w.heap.size w w') := by
      intro w1 hb
      have := kind_any w1 V (hTT w1 hb) (Nat.le_trans hG hb.size)
      rw [hV, hkind] at this
      rw [hV]
      refine this.mono ?_
      rintro e w2 ⟨rfl, hb2⟩
      exact ⟨rfl, hb.trans (hb2.mono hb.size)⟩
    by_cases hk3 : k = 3
    · obtain ⟨p, hpo, hlo, b1, b2, b3⟩ := hp3 hk3
      obtain ⟨T, hTt⟩ : ∃ V : ByteArray, V = arr p.text := ⟨_, rfl⟩
      obtain ⟨L, hLl⟩ : ∃ V : ByteArray, V = arr p.lang := ⟨_, rfl⟩
      obtain ⟨K, hKk⟩ : ∃ V : ByteArray, V = arr p.kind := ⟨_, rfl⟩
      have HD : Hid (∀ w1, Below w.heap.size w w1 → Calls Tryz.prog 20 #[.string V] w1 fun e w' => e = .returned (.tuple #[.string T, .string L, .string K, .int .i64 0]) ∧ Below w.heap.size w w') := by
        intro w1 hb
        have := partsP_any w1 V (hTT w1 hb) (Nat.le_trans hG hb.size)
        rw [hV, hpo] at this
        rw [hV, hTt, hLl, hKk]
        refine this.mono ?_
        rintro e w2 ⟨rfl, hb2⟩
        exact ⟨rfl, hb.trans (hb2.mono hb.size)⟩
      have HE : Hid (∀ w1, Below w.heap.size w w1 → Calls Tryz.prog 18 #[.string T, .string L, .string K] w1 fun e w' => e = .returned (.tuple #[.string V, .int .i64 0]) ∧ Below w.heap.size w w') := by
        intro w1 hb
        have := lit_any w1 T L K (hTT w1 hb) (Nat.le_trans hG hb.size) (by rw [hTt, Back.arr_sz]; omega) (by rw [hLl, Back.arr_sz]; omega) (by rw [hKk, Back.arr_sz]; omega)
        rw [hTt, hLl, hKk, hlo] at this
        rw [hV, hTt, hLl, hKk]
        refine this.mono ?_
        rintro e w2 ⟨rfl, hb2⟩
        exact ⟨rfl, hb.trans (hb2.mono hb.size)⟩
      subst hk3
      clear hT hG hH hTT H1 hnum hn hk hr2 hkind hlen hp3 hV hpo hlo b1 b2 b3 hTt hLl hKk HR HN
      go_enter Tryz.func6, Tryz.ntmps6
      go_wp2_with fail
      refine HA.out.mono ?_
      rintro e w1 ⟨rfl, hb1⟩
      have HB1 : Hid (Below w.heap.size w w1) := hb1
      clear hb1
      go_wp2_with fail
      refine (HS.out _ HB1.out).mono ?_
      rintro e w2 ⟨rfl, hb2⟩
      have HB2 : Hid (Below w.heap.size w w2) := hb2
      clear hb2
      go_wp2_with fail
      refine (HN0.out _).mono ?_
      rintro e w3 ⟨rfl, rfl⟩
      go_wp2_with fail
      refine (HN0.out _).mono ?_
      rintro e w4 ⟨rfl, rfl⟩
      go_wp2_with fail
      refine (HB.out _ HB2.out).mono ?_
      rintro e w5 ⟨rfl, hb5⟩
      have HB5 : Hid (Below w.heap.size w w5) := hb5
      clear hb5
      go_wp2_with fail
      refine (HC.out _ HB5.out).mono ?_
      rintro e w6 ⟨rfl, hb6⟩
      have HB6 : Hid (Below w.heap.size w w6) := hb6
      clear hb6
      go_wp2_with fail
      refine (HN0.out _).mono ?_
      rintro e w7 ⟨rfl, rfl⟩
      go_wp2_with fail
      refine (HD.out _ HB6.out).mono ?_
      rintro e w8 ⟨rfl, hb8⟩
      have HB8 : Hid (Below w.heap.size w w8) := hb8
      clear hb8
      go_wp2_with fail
      refine (HE.out _ HB8.out).mono ?_
      rintro e w9 ⟨rfl, hb9⟩
      have HB9 : Hid (Below w.heap.size w w9) := hb9
      clear hb9
      go_wp2_with fail
      refine (HN0.out _).mono ?_
      rintro e w10 ⟨rfl, rfl⟩
      go_wp2_with fail
      refine (HN0.out _).mono ?_
      rintro e w11 ⟨rfl, rfl⟩
      go_wp2_with fail
      go_ret
      exact ⟨ret_bool (by simp), HB9.out⟩
    · have hk1 : ¬ ((k : Int) < 1) := by omega
      have hk2 : ¬ ((3 : Int) < (k : Int)) := by omega
      have hkb : ((k : Int) != 3) = true := by simp; omega
      clear hT hG hH hTT H1 hnum hn hk hr2 hkind hlen hp3 hV HR HN
      go_enter Tryz.func6, Tryz.ntmps6
      go_wp2_with fail
      refine HA.out.mono ?_
      rintro e w1 ⟨rfl, hb1⟩
      have HB1 : Hid (Below w.heap.size w w1) := hb1
      clear hb1
      go_wp2_with fail
      refine (HS.out _ HB1.out).mono ?_
      rintro e w2 ⟨rfl, hb2⟩
      have HB2 : Hid (Below w.heap.size w w2) := hb2
      clear hb2
      go_wp2_with fail
      refine (HN0.out _).mono ?_
      rintro e w3 ⟨rfl, rfl⟩
      go_wp2_with fail
      refine (HN0.out _).mono ?_
      rintro e w4 ⟨rfl, rfl⟩
      go_wp2_with fail
      refine (HB.out _ HB2.out).mono ?_
      rintro e w5 ⟨rfl, hb5⟩
      have HB5 : Hid (Below w.heap.size w w5) := hb5
      clear hb5
      go_wp2_with fail
      refine (HC.out _ HB5.out).mono ?_
      rintro e w6 ⟨rfl, hb6⟩
      have HB6 : Hid (Below w.heap.size w w6) := hb6
      clear hb6
      go_wp2_with fail
      refine (HN0.out _).mono ?_
      rintro e w7 ⟨rfl, rfl⟩
      go_wp2_with fail
      go_ret
      exact ⟨rfl, HB6.out⟩
  · have hl := readT_bad hn
    rw [hl] at H1
    generalize (Ref.readT s).2.2 = a at *
    generalize (Ref.readT s).2.1 = n at *
    have HA : Hid (Calls Tryz.prog 10 #[.string s] w fun e w' => e = .returned (.tuple #[.string ⟨#[]⟩, .int .i64 n, .int .i64 a]) ∧ Below w.heap.size w w') := H1
    have HM : Hid (∀ w1, Calls Tryz.prog 12 #[.int .i64 n] w1 fun e w' => e = .returned (.int .i64 n) ∧ w' = w1) := fun w1 => num_any w1 n hnum
    have hnb : (n != 0) = true := by simpa using hn
    clear hT hG hH hTT H1 hnum hl HR HN
    go_enter Tryz.func6, Tryz.ntmps6
    go_wp2_with fail
    refine HA.out.mono ?_
    rintro e w1 ⟨rfl, hb1⟩
    have HB1 : Hid (Below w.heap.size w w1) := hb1
    clear hb1
    go_wp2_with fail
    refine (HS.out _ HB1.out).mono ?_
    rintro e w2 ⟨rfl, hb2⟩
    have HB2 : Hid (Below w.heap.size w w2) := hb2
    clear hb2
    go_wp2_with fail
    refine (HN0.out _).mono ?_
    rintro e w3 ⟨rfl, rfl⟩
    go_wp2_with fail
    refine (HM.out _).mono ?_
    rintro e w4 ⟨rfl, rfl⟩
    go_wp2_with fail
    go_ret
    exact ⟨ret_bool (by rfl), HB2.out⟩

end Go.Proofs.YtnffjoipinhojaaGreatDoor

