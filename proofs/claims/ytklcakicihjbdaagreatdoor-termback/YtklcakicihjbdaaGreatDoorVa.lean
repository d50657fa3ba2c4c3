import Derived.Shelf.Unicode.ValidAny
import Derived.Test.YtklcakicihjbdaaGreatDoorProg
import Derived.Test.YtklcakicihjbdaaGreatDoorVs
import Derived.Test.YtklcakicihjbdaaGreatDoorUa
import Derived.Test.YtklcakicihjbdaaGreatDoorTl
import Derived.Test.YtklcakicihjbdaaGreatDoorTk
set_option linter.unusedSimpArgs false
set_option linter.unusedVariables false
namespace Go.Proofs
open Go.Shelf
def Tryz.lays196_ren : Go.Shelf.Ren := ⟨fun | 196 => 74 | 259 => 128 | n => n, fun | 9 => 9 | 4 => 4 | 3 => 3 | 5 => 5 | 12 => 12 | 119 => 174 | 0 => 0 | 46 => 178 | 139 => 177 | 138 => 176 | 53 => 241 | n => n, fun | 3 => 1 | 4 => 2 | n => n⟩
theorem Tryz.lays196 : Go.Proofs.Lays.n196 Tryz.prog Tryz.lays196_ren := {
  mixed := by kernel_rfl
  f196 := Tryz.func74.trans (congrArg some (by kernel_rfl))
  f259 := Tryz.func128.trans (congrArg some (by kernel_rfl))
  t0 := Tryz.underlying0
  a0 := Tryz.isAgg0
  z0 := Tryz.sizeOf0
  v0 := Tryz.zeroValue0
  t3 := Tryz.underlying3
  a3 := Tryz.isAgg3
  z3 := Tryz.sizeOf3
  v3 := Tryz.zeroValue3
  t4 := Tryz.underlying4
  a4 := Tryz.isAgg4
  z4 := Tryz.sizeOf4
  v4 := Tryz.zeroValue4
  t5 := Tryz.underlying5
  a5 := Tryz.isAgg5
  z5 := Tryz.sizeOf5
  v5 := Tryz.zeroValue5
  t9 := Tryz.underlying9
  a9 := Tryz.isAgg9
  z9 := Tryz.sizeOf9
  v9 := Tryz.zeroValue9
  t12 := Tryz.underlying12
  a12 := Tryz.isAgg12
  z12 := Tryz.sizeOf12
  v12 := Tryz.zeroValue12
  t46 := Tryz.underlying178
  a46 := Tryz.isAgg178
  z46 := Tryz.sizeOf178
  v46 := Tryz.zeroValue178
  t53 := Tryz.underlying241
  a53 := Tryz.isAgg241
  z53 := Tryz.sizeOf241
  v53 := Tryz.zeroValue241
  t119 := Tryz.underlying174
  a119 := Tryz.isAgg174
  z119 := Tryz.sizeOf174
  t138 := Tryz.underlying176
  a138 := Tryz.isAgg176
  z138 := Tryz.sizeOf176
  v138 := Tryz.zeroValue176
  t139 := Tryz.underlying177
  a139 := Tryz.isAgg177
  z139 := Tryz.sizeOf177
  v139 := Tryz.zeroValue177
  g3 := by kernel_rfl
  g4 := by kernel_rfl }
end Go.Proofs

namespace Go.Proofs.YtklcakicihjbdaaGreatDoor
open Go.RowKit
open Back (vfrom)

theorem valid_any (w : World) (s : ByteArray) (hs : s.size ≤ 9223372036854775807) (hT : Tabs w) :
    Calls Tryz.prog 74 #[.string s] w fun e w' => e = .returned (.bool (vfrom s 0)) ∧ Below w.heap.size w w' := by
  have := Any.utf8_ValidString (ρ := Tryz.lays196_ren) Tryz.lays196 s w hs hT
  rw [Back.valid_from] at this
  exact this

/-- does reading take all of the text and answer it as it is? -/
def isW (s : ByteArray) (r : R (List UInt8)) : Bool := match whole s r with
  | .ok x _ => decide (x = s.data.toList)
  | .bad _ => false

set_option maxHeartbeats 1000000 in
theorem isWhole_any (w : World) (s : ByteArray) (g : Nat) (r : R (List UInt8)) (eg : ∀ args w, (callFunc g args).run Tryz.prog w = .ok (.enter g args) w) (hT : Tabs w) (hG : 8 ≤ w.heap.size) (hsz : s.size ≤ 1099511627776)
    (hr : ∀ w2 b, Rd w2 b s 0 → Tabs w2 → 8 ≤ b → Calls Tryz.prog g #[.pointer (some ⟨b, 0, none⟩)] w2 (Out b w2 str r)) (hj : ∀ x j, r = .ok x j → j ≤ s.size) :
    Calls Tryz.prog 75 #[.string s, fnV g #[]] w fun e w' => e = .returned (.bool (isW s r)) ∧ Below w.heap.size w w' := by
  have hW := wholeS w s g r eg hT hG hsz hr hj
  cases hw : whole s r with
  | bad j =>
    have HV : Hid (isW s r = false) := by unfold Hid isW; rw [hw]
    rw [hw] at hW
    have HW : Hid (Calls Tryz.prog 129 #[.string s, fnV g #[]] w fun e w' => e = .returned (.tuple #[str [], placedV 2 j]) ∧ Below w.heap.size w w') := hW
    rw [HV.out]
    clear hW hw hr hj hT
    go_enter Tryz.func75, Tryz.ntmps75
    go_wp2_with fail
    refine HW.out.mono ?_
    rintro e w2 ⟨rfl, hb⟩
    go_wp2_with fail
    go_ret
    exact ⟨rfl, hb⟩
  | ok x j =>
    obtain ⟨V, hV⟩ : ∃ V : ByteArray, V = ⟨x.toArray⟩ := ⟨_, rfl⟩
    have HV : Hid ((V.toList == s.toList) = isW s r) := by
      unfold Hid isW
      rw [hw, hV, ByteArray.toList_mk, ByteArray.toList_eq, Bool.eq_iff_iff]
      simp
    rw [hw] at hW
    have HW : Hid (Calls Tryz.prog 129 #[.string s, fnV g #[]] w fun e w' => e = .returned (.tuple #[.string V, .nilIface]) ∧ Below w.heap.size w w') := by unfold Hid; rw [hV]; exact hW
    clear hW hw hr hj hT hV
    generalize isW s r = v at *
    go_enter Tryz.func75, Tryz.ntmps75
    go_wp2_with fail
    refine HW.out.mono ?_
    rintro e w2 ⟨rfl, hb⟩
    go_wp2_with fail
    go_ret
    exact ⟨ret_bool HV.out, hb⟩

theorem langR_le {s : ByteArray} {i j : Nat} {x : List UInt8} (h : langR s i = .ok x j) : j ≤ s.size := by
  unfold langR at h
  split at h
  · rename_i k hl
    cases h
    exact (language_asc hl).2.1
  · cases h

theorem isIri_any (w : World) (s : ByteArray) (hT : Tabs w) (hG : 8 ≤ w.heap.size) (hsz : s.size ≤ 1099511627776) :
    Calls Tryz.prog 75 #[.string s, fnV 76 #[]] w fun e w' => e = .returned (.bool (isW s (iri s 0))) ∧ Below w.heap.size w w' :=
  isWhole_any w s 76 (iri s 0) (enters_of Tryz.func76 (by kernel_rfl) rfl) hT hG hsz (fun w2 b h1 h2 h3 => iri_any w2 b 0 s h1 h2 h3 hsz) (fun x j h => (iri_len h).2.2.1)

theorem isLang_any (w : World) (s : ByteArray) (hT : Tabs w) (hG : 8 ≤ w.heap.size) (hsz : s.size ≤ 1099511627776) :
    Calls Tryz.prog 75 #[.string s, fnV 77 #[]] w fun e w' => e = .returned (.bool (isW s (langR s 0))) ∧ Below w.heap.size w w' :=
  isWhole_any w s 77 (langR s 0) (enters_of Tryz.func77 (by kernel_rfl) rfl) hT hG hsz (fun w2 b h1 h2 h3 => language_any w2 b 0 s h1 h2 h3) (fun x j h => langR_le h)

/-- may these be a literal's parts? -/
def fits (t l k : ByteArray) : Bool :=
  vfrom t 0 && (if l.toList.isEmpty then (k.toList.isEmpty || isW k (iri k 0)) else (k.toList.isEmpty && isW l (langR l 0)))

theorem KS.tabs {w w1 : World} {n : Nat} {a b c : ByteArray} (h1 : KS w n a b c w1) (hT : Tabs w) : Tabs w1 :=
  hT.below h1.2.2.2 (World.block_lt_of_cell? w ⟨_, _, none⟩ (hT.1 0 (by omega))) (World.block_lt_of_cell? w ⟨_, _, none⟩ (hT.2 0 (by omega)).1)

set_option maxHeartbeats 2000000 in
set_option maxRecDepth 20000 in
theorem mayBe_any (w : World) (t l k : ByteArray) (hT : Tabs w) (hG : 8 ≤ w.heap.size) (ht : t.size ≤ 1099511627776) (hl : l.size ≤ 1099511627776) (hk : k.size ≤ 1099511627776) :
    Calls Tryz.prog 40 #[tripV t l k] w fun e w' => e = .returned (.bool (fits t l k)) ∧ Below w.heap.size w w' := by
  have HA : Hid (∀ w1, KS w w.heap.size t l k w1 → Calls Tryz.prog 74 #[.string t] w1 fun e w2 => e = .returned (.bool (vfrom t 0)) ∧ KS w w.heap.size t l k w2) := by
    intro w1 h1
    refine (valid_any w1 t (by omega) (h1.tabs hT)).mono ?_
    rintro e w2 ⟨rfl, hb⟩
    exact ⟨rfl, h1.on hb⟩
  have HB : Hid (∀ w1, KS w w.heap.size t l k w1 → Calls Tryz.prog 75 #[.string k, fnV 76 #[]] w1 fun e w2 => e = .returned (.bool (isW k (iri k 0))) ∧ KS w w.heap.size t l k w2) := by
    intro w1 h1
    refine (isIri_any w1 k (h1.tabs hT) (Nat.le_trans hG h1.2.2.2.size) hk).mono ?_
    rintro e w2 ⟨rfl, hb⟩
    exact ⟨rfl, h1.on hb⟩
  have HC : Hid (∀ w1, KS w w.heap.size t l k w1 → Calls Tryz.prog 75 #[.string l, fnV 77 #[]] w1 fun e w2 => e = .returned (.bool (isW l (langR l 0))) ∧ KS w w.heap.size t l k w2) := by
    intro w1 h1
    refine (isLang_any w1 l (h1.tabs hT) (Nat.le_trans hG h1.2.2.2.size) hl).mono ?_
    rintro e w2 ⟨rfl, hb⟩
    exact ⟨rfl, h1.on hb⟩
  have HM : Hid (KS w w.heap.size t l k (w.alloc (.cells #[.string t, .string l, .string k] 79))) := KS.mk w t l k _
  have HF : Hid (fits t l k = (vfrom t 0 && (if l.toList.isEmpty then (k.toList.isEmpty || isW k (iri k 0)) else (k.toList.isEmpty && isW l (langR l 0))))) := rfl
  generalize fits t l k = v at *
  generalize isW k (iri k 0) = vk at *
  generalize isW l (langR l 0) = vl at *
  cases hv : vfrom t 0 with
  | false =>
    rw [hv] at HA HF
    have HF2 : Hid (v = false) := by unfold Hid; rw [HF.out]; rfl
    rw [HF2.out]
    clear hT hG hv HF
    go_enter Tryz.func40, Tryz.ntmps40
    go_wp2_with fail
    have hM := HM.out
    generalize w.alloc (.cells #[.string t, .string l, .string k] 79) = w1 at hM ⊢
    have hMx := hM
    obtain ⟨m0, m1, m2, m3⟩ := hMx
    go_wp2_with fail
    clear m0 m1 m2 m3
    refine (HA.out _ hM).mono ?_
    rintro e w2 ⟨rfl, hM2⟩
    go_wp2_with fail
    go_ret
    exact ⟨rfl, hM2.low⟩
  | true =>
    rw [hv] at HA HF
    cases hle : l.toList.isEmpty with
    | true =>
      rw [hle] at HF
      cases hke : k.toList.isEmpty with
      | true =>
        rw [hke] at HF
        have HF2 : Hid (v = true) := by unfold Hid; rw [HF.out]; rfl
        rw [HF2.out]
        clear hT hG hv HF
        go_enter Tryz.func40, Tryz.ntmps40
        go_wp2_with fail
        have hM := HM.out
        generalize w.alloc (.cells #[.string t, .string l, .string k] 79) = w1 at hM ⊢
        have hMx := hM
        obtain ⟨m0, m1, m2, m3⟩ := hMx
        go_wp2_with fail
        clear m0 m1 m2 m3
        refine (HA.out _ hM).mono ?_
        rintro e w2 ⟨rfl, hM2⟩
        have hMx := hM2
        obtain ⟨m0, m1, m2, m3⟩ := hMx
        go_wp2_with fail
        go_ret
        exact ⟨rfl, hM2.low⟩
      | false =>
        rw [hke] at HF
        have HF2 : Hid (v = vk) := by unfold Hid; rw [HF.out]; rfl
        rw [HF2.out]
        clear hT hG hv HF
        go_enter Tryz.func40, Tryz.ntmps40
        go_wp2_with fail
        have hM := HM.out
        generalize w.alloc (.cells #[.string t, .string l, .string k] 79) = w1 at hM ⊢
        have hMx := hM
        obtain ⟨m0, m1, m2, m3⟩ := hMx
        go_wp2_with fail
        clear m0 m1 m2 m3
        refine (HA.out _ hM).mono ?_
        rintro e w2 ⟨rfl, hM2⟩
        have hMx := hM2
        obtain ⟨m0, m1, m2, m3⟩ := hMx
        go_wp2_with fail
        clear m0 m1 m2 m3
        refine (HB.out _ hM2).mono ?_
        rintro e w3 ⟨rfl, hM3⟩
        go_wp2_with fail
        go_ret
        exact ⟨rfl, hM3.low⟩
    | false =>
      rw [hle] at HF
      cases hke : k.toList.isEmpty with
      | true =>
        rw [hke] at HF
        have HF2 : Hid (v = vl) := by unfold Hid; rw [HF.out]; rfl
        rw [HF2.out]
        clear hT hG hv HF
        go_enter Tryz.func40, Tryz.ntmps40
        go_wp2_with fail
        have hM := HM.out
        generalize w.alloc (.cells #[.string t, .string l, .string k] 79) = w1 at hM ⊢
        have hMx := hM
        obtain ⟨m0, m1, m2, m3⟩ := hMx
        go_wp2_with fail
        clear m0 m1 m2 m3
        refine (HA.out _ hM).mono ?_
        rintro e w2 ⟨rfl, hM2⟩
        have hMx := hM2
        obtain ⟨m0, m1, m2, m3⟩ := hMx
        go_wp2_with fail
        clear m0 m1 m2 m3
        refine (HC.out _ hM2).mono ?_
        rintro e w3 ⟨rfl, hM3⟩
        go_wp2_with fail
        go_ret
        exact ⟨rfl, hM3.low⟩
      | false =>
        rw [hke] at HF
        have HF2 : Hid (v = false) := by unfold Hid; rw [HF.out]; rfl
        rw [HF2.out]
        clear hT hG hv HF
        go_enter Tryz.func40, Tryz.ntmps40
        go_wp2_with fail
        have hM := HM.out
        generalize w.alloc (.cells #[.string t, .string l, .string k] 79) = w1 at hM ⊢
        have hMx := hM
        obtain ⟨m0, m1, m2, m3⟩ := hMx
        go_wp2_with fail
        clear m0 m1 m2 m3
        refine (HA.out _ hM).mono ?_
        rintro e w2 ⟨rfl, hM2⟩
        have hMx := hM2
        obtain ⟨m0, m1, m2, m3⟩ := hMx
        go_wp2_with fail
        go_ret
        exact ⟨rfl, hM2.low⟩

end Go.Proofs.YtklcakicihjbdaaGreatDoor

