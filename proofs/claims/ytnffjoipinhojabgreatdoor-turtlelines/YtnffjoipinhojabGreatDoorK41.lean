import Derived.Test.YtnffjoipinhojabGreatDoorK40
set_option linter.unusedSimpArgs false
set_option linter.unusedVariables false
namespace Go.Proofs.YtnffjoipinhojabGreatDoor
open Go.RowKit
namespace Tu

/-! verb, literal, term. -/
def isNumL (l : List UInt8) : Bool := Lib.trimPrefix l [45] != [] && (Lib.trimPrefix l [45]).all fun c => digit (c.toNat : Int)
def verbN (ns : List Nam2) (t : List UInt8) : List UInt8 := if t = typeI then [97] else iriN ns t
def shortL (p : Bool) (x t : List UInt8) : List UInt8 := if p = true then x else t
def litN (ns : List Nam2) (t : List UInt8) (p : Lit) : List UInt8 :=
  if p.kind = [] then t
  else if p.kind = wholeK then shortL (isNumL p.text) p.text t
  else if p.kind = truthK then shortL (isTruth p.text) p.text t
  else Lib.trimSuffix t p.kind ++ iriN ns p.kind
def termN (ns : List Nam2) (t : List UInt8) : List UInt8 :=
  if kindOf ⟨t.toArray⟩ = 1 then iriN ns t else if kindOf ⟨t.toArray⟩ = 3 then litN ns t (partsOf ⟨t.toArray⟩).1 else t

theorem isNumber_any (w : World) (l : List UInt8) (hl : l.length ≤ 1099511627776) (hT : Tabs w) (hG : 8 ≤ w.heap.size) :
    Calls Tryz.prog 141 #[str l] w fun e w' => e = .returned (.bool (isNumL l)) ∧ Below w.heap.size w w' := by
  have HTp : Hid (Calls Tryz.prog 189 #[str l, .string ⟨#[45]⟩] w fun e w' => e = .returned (str (Lib.trimPrefix l [45])) ∧ w' = w) := Any.strings_TrimPrefix (ρ := Tryz.lays101_ren) Tryz.lays101 ⟨l.toArray⟩ ⟨#[45]⟩ w
  have HD : Hid (Calls Tryz.prog 75 #[str (Lib.trimPrefix l [45])] w fun e w' => e = .returned (.bool (isNumL l)) ∧ Below w.heap.size w w') := isDigits_any w _ (by have := trimPrefix_le l [45]; omega) hT hG
  generalize Lib.trimPrefix l [45] = d at *
  generalize isNumL l = r at *
  clear hT
  go_enter Tryz.func141, Tryz.ntmps141
  go_wp2_with fail
  refine HTp.out.mono ?_
  rintro e w1 ⟨rfl, rfl⟩
  go_wp2_with fail
  refine HD.out.mono ?_
  rintro e w1 ⟨rfl, hB⟩
  go_wp2
  go_ret
  exact ⟨rfl, hB⟩

theorem shortest_any (w : World) (x t : List UInt8) (g : Nat) (r : Bool) (eg : ∀ args w, (callFunc g args).run Tryz.prog w = .ok (.enter g args) w) (h : Calls Tryz.prog g #[str x] w fun e w' => e = .returned (.bool r) ∧ Below w.heap.size w w') :
    Calls Tryz.prog 140 #[str x, str t, fnV g #[]] w fun e w' => e = .returned (str (shortL r x t)) ∧ Below w.heap.size w w' := by
  unfold shortL
  cases r with
  | false =>
    go_enter Tryz.func140, Tryz.ntmps140
    go_wp2_with (go_at_fn g; refine h.mono ?_; rintro e w2 ⟨rfl, hq⟩)
    go_ret
    exact ⟨rfl, hq⟩
  | true =>
    go_enter Tryz.func140, Tryz.ntmps140
    go_wp2_with (go_at_fn g; refine h.mono ?_; rintro e w2 ⟨rfl, hq⟩)
    go_ret
    exact ⟨rfl, hq⟩

/-- what the printer's calls begin with -/
structure Pr0 (B b : Nat) (nv : Value) (ns : List Nam2) (w : World) : Prop where
  low : B ≤ w.heap.size
  cell : w.cell? ⟨b, 2, none⟩ = some nv
  nam : NmL B nv ns w
  bnd : NmB ns
  tab : Tabs w
  glo : 8 ≤ w.heap.size
  bl : b < w.heap.size
theorem Pr0.iri {B b : Nat} {nv : Value} {ns : List Nam2} {w : World} (h : Pr0 B b nv ns w) (t : List UInt8) (ht : t.length ≤ 200) : Calls Tryz.prog 81 #[.pointer (some ⟨b, 0, none⟩), str t] w fun e w' => e = .returned (str (iriN ns t)) ∧ Below w.heap.size w w' := iri_any w B b nv ns t h.low h.cell h.nam h.bnd ht h.tab h.glo
theorem Pr0.below {B b : Nat} {nv : Value} {ns : List Nam2} {w w' : World} (h : Pr0 B b nv ns w) (hb : Below w.heap.size w w') : Pr0 B b nv ns w' :=
  ⟨Nat.le_trans h.low hb.size, (hb.cell (p := ⟨b, 2, none⟩) h.bl).trans h.cell, h.nam.below (hb.mono h.low), h.bnd, h.tab.below hb (by have := h.glo; omega) (by have := h.glo; omega), Nat.le_trans h.glo hb.size, Nat.lt_of_lt_of_le h.bl hb.size⟩

theorem verb_pr (w : World) (B b : Nat) (nv : Value) (ns : List Nam2) (t : List UInt8) (h : Pr0 B b nv ns w) (ht : t.length ≤ 200) :
    Calls Tryz.prog 45 #[.pointer (some ⟨b, 0, none⟩), str t] w fun e w' => e = .returned (str (verbN ns t)) ∧ Below w.heap.size w w' := by
  have HI : Hid (Calls Tryz.prog 81 #[.pointer (some ⟨b, 0, none⟩), str t] w fun e w' => e = .returned (str (iriN ns t)) ∧ Below w.heap.size w w') := h.iri t ht
  unfold verbN
  obtain ⟨V, hV⟩ : ∃ V : ByteArray, V = ⟨t.toArray⟩ := ⟨_, rfl⟩
  have e2 : str t = .string V := by rw [hV]
  by_cases hx : t = typeI
  · have hv : V = ⟨typeI.toArray⟩ := by rw [hV, hx]
    rw [if_pos hx, e2]
    subst hv
    clear HI e2 hV h
    go_enter Tryz.func45, Tryz.ntmps45
    go_wp2
    go_ret
    exact ⟨rfl, Below.refl _ _⟩
  · have hv : (V.toList == typeI) = false := by rw [beq_eq_false_iff_ne, hV, str_toList]; exact hx
    rw [if_neg hx]
    rw [e2] at HI ⊢
    generalize iriN ns t = r at *
    unfold typeI at hv
    clear e2 hV h
    go_enter Tryz.func45, Tryz.ntmps45
    go_wp2_with fail
    refine HI.out.mono ?_
    rintro e w1 ⟨rfl, hB⟩
    go_wp2
    go_ret
    exact ⟨rfl, hB⟩

end Tu
end Go.Proofs.YtnffjoipinhojabGreatDoor

set_option linter.unusedSimpArgs false
set_option linter.unusedVariables false
namespace Go.Proofs.YtnffjoipinhojabGreatDoor
open Go.RowKit
namespace Tu

theorem form_kind_le (t l k : List UInt8) (h : l = [] ∨ k = []) : k.length ≤ (form t l k).length + 41 := by
  unfold form
  split
  · rename_i hl
    rcases h with h | h
    · exact absurd h hl
    · simp [h]
  · split
    · simp; omega
    · rename_i hk
      by_cases h0 : k = []
      · simp [h0]
      · have : k = stringKind := by
          by_cases hs : k = stringKind
          · exact hs
          · exact absurd ⟨h0, hs⟩ hk
        rw [this]
        have : stringKind.length = 41 := by decide
        omega

theorem iriS_len (t : List UInt8) (ht : t.length ≤ 250) (acc : List UInt8 × Nat) (x : Nam2) (h : acc.1.length ≤ 300) (hx : x.1.length ≤ 20) : (iriS t acc x).1.length ≤ 300 := by
  unfold iriS
  split
  · have h1 := trimPrefix_le (trimG t) (trimG x.2)
    have h2 := trimG_le t
    simp only [List.length_append, List.length_cons, List.length_nil]
    unfold restL
    omega
  · exact h
theorem iriN_len (ns : List Nam2) (hs : NmB ns) (t : List UInt8) (ht : t.length ≤ 250) : (iriN ns t).length ≤ 300 := by
  have : ∀ (l : List Nam2) (acc : List UInt8 × Nat), (∀ x ∈ l, x ∈ ns) → acc.1.length ≤ 300 → (l.foldl (iriS t) acc).1.length ≤ 300 := by
    intro l
    induction l with
    | nil => intro acc _ h; exact h
    | cons x l ih =>
      intro acc hm h
      exact ih _ (fun y hy => hm y (List.mem_cons_of_mem _ hy)) (iriS_len t ht acc x h (hs.sz x (hm x (List.mem_cons_self ..))).1)
  exact this ns (t, 0) (fun x h => h) (Nat.le_trans ht (by omega))

theorem partsOf3 {t : List UInt8} (h : kindOf ⟨t.toArray⟩ = 3) : ∃ p, partsOf ⟨t.toArray⟩ = (p, 0) ∧ parts ⟨t.toArray⟩ 0 = .ok p t.length ∧ form p.text p.lang p.kind = t ∧ t.length ≤ 200 := by
  obtain ⟨hs, p, hp, hf⟩ := kind3 h
  have hz : (⟨t.toArray⟩ : ByteArray).size = t.length := arr_size t
  refine ⟨p, ?_, ?_, hf, by omega⟩
  · unfold partsOf
    rw [if_pos h, hp]
  · rw [hp, hz]

theorem parts_kind {t : List UInt8} {p : Lit} (hp : parts ⟨t.toArray⟩ 0 = .ok p t.length) (hf : form p.text p.lang p.kind = t) (ht : t.length ≤ 200) : p.kind.length ≤ 200 ∧ p.text.length ≤ 800 := by
  have hz : (⟨t.toArray⟩ : ByteArray).size = t.length := arr_size t
  have h := parts_facts hp
  have hor : p.lang = [] ∨ p.kind = [] := (Back.parts_place (s := ⟨t.toArray⟩) (p := p) (by rw [hz]; exact hp) [] []).2
  refine ⟨?_, by omega⟩
  by_cases h0 : p.kind = []
  · simp [h0]
  · have hl : p.lang = [] := hor.resolve_right h0
    by_cases hs : p.kind = stringKind
    · rw [hs]; decide
    · have : form p.text p.lang p.kind = [34] ++ escaped p.text ++ [34] ++ [94, 94] ++ p.kind := by
        unfold form
        rw [if_neg (by simp [hl]), if_pos ⟨h0, hs⟩]
      rw [this] at hf
      have := congrArg List.length hf
      simp at this
      omega

set_option maxHeartbeats 2000000 in
set_option maxRecDepth 20000 in
theorem literal_pr (w : World) (B b : Nat) (nv : Value) (ns : List Nam2) (t : List UInt8) (h : Pr0 B b nv ns w) (hk : kindOf ⟨t.toArray⟩ = 3) :
    Calls Tryz.prog 82 #[.pointer (some ⟨b, 0, none⟩), str t] w fun e w' => e = .returned (str (litN ns t (partsOf ⟨t.toArray⟩).1)) ∧ Below w.heap.size w w' := by
  obtain ⟨p, hp, hpp, hf, ht⟩ := partsOf3 hk
  obtain ⟨hkl, htl⟩ := parts_kind hpp hf ht
  have HP := partsP_any w ⟨t.toArray⟩ h.tab h.glo
  rw [hp] at HP ⊢
  have HP : Hid (Calls Tryz.prog 139 #[str t] w fun e w' => e = .returned (.tuple #[str p.text, str p.lang, str p.kind, .int .i64 0]) ∧ Below w.heap.size w w') := HP
  have HPr : Hid (∀ w1, Below w.heap.size w w1 → Pr0 B b nv ns w1) := fun w1 hb => h.below hb
  simp only
  unfold litN
  obtain ⟨K, hK⟩ : ∃ V : ByteArray, V = ⟨p.kind.toArray⟩ := ⟨_, rfl⟩
  have eK : str p.kind = .string K := by rw [hK]
  have eN := enters_of Tryz.func141 (by kernel_rfl) rfl
  have eT := enters_of Tryz.func142 (by kernel_rfl) rfl
  by_cases h0 : p.kind = []
  · have hv : K.toList.isEmpty = true := by rw [hK, str_toList, h0]; rfl
    rw [if_pos h0]
    rw [eK] at HP
    clear eK hK hp hpp hf h eN eT
    go_enter Tryz.func82, Tryz.ntmps82
    go_wp2_with fail
    refine HP.out.mono ?_
    rintro e w1 ⟨rfl, hB⟩
    have HB : Hid (Below w.heap.size w w1) := hB
    clear hB
    go_wp2_with fail
    go_ret
    exact ⟨rfl, HB.out⟩
  · have hv0 : K.toList.isEmpty = false := by rw [hK, str_toList]; cases hq : p.kind with | nil => exact absurd hq h0 | cons a r => rfl
    rw [if_neg h0]
    by_cases h1 : p.kind = wholeK
    · have hv1 : (K.toList == wholeK) = true := by rw [beq_iff_eq, hK, str_toList]; exact h1
      unfold wholeK at hv1
      rw [if_pos h1]
      rw [eK] at HP
      have HS : Hid (∀ w1, Below w.heap.size w w1 → Calls Tryz.prog 140 #[str p.text, str t, fnV 141 #[]] w1 fun e w' => e = .returned (str (shortL (isNumL p.text) p.text t)) ∧ Below w1.heap.size w1 w') := fun w1 hb => shortest_any w1 p.text t _ _ eN (isNumber_any w1 p.text (by omega) (HPr.out w1 hb).tab (HPr.out w1 hb).glo)
      generalize shortL (isNumL p.text) p.text t = r at *
      clear eK hK hp hpp hf h eN eT h0 h1
      go_enter Tryz.func82, Tryz.ntmps82
      go_wp2_with fail
      refine HP.out.mono ?_
      rintro e w1 ⟨rfl, hB⟩
      have HB : Hid (Below w.heap.size w w1) := hB
      clear hB
      go_wp2_with fail
      refine (HS.out _ HB.out).mono ?_
      rintro e w2 ⟨rfl, hB2⟩
      go_wp2_with fail
      go_ret
      exact ⟨rfl, HB.out.trans (hB2.mono HB.out.size)⟩
    · have hv1 : (K.toList == wholeK) = false := by rw [beq_eq_false_iff_ne, hK, str_toList]; exact h1
      unfold wholeK at hv1
      rw [if_neg h1]
      by_cases h2 : p.kind = truthK
      · have hv2 : (K.toList == truthK) = true := by rw [beq_iff_eq, hK, str_toList]; exact h2
        unfold truthK at hv2
        rw [if_pos h2]
        rw [eK] at HP
        have HS : Hid (∀ w1, Below w.heap.size w w1 → Calls Tryz.prog 140 #[str p.text, str t, fnV 142 #[]] w1 fun e w' => e = .returned (str (shortL (isTruth p.text) p.text t)) ∧ Below w1.heap.size w1 w') := fun w1 hb => shortest_any w1 p.text t _ _ eT ((isTruth_any w1 p.text).mono fun e w' k => ⟨k.1, by rw [k.2]; exact Below.refl _ _⟩)
        generalize shortL (isTruth p.text) p.text t = r at *
        clear eK hK hp hpp hf h eN eT h0 h1 h2
        go_enter Tryz.func82, Tryz.ntmps82
        go_wp2_with fail
        refine HP.out.mono ?_
        rintro e w1 ⟨rfl, hB⟩
        have HB : Hid (Below w.heap.size w w1) := hB
        clear hB
        go_wp2_with fail
        refine (HS.out _ HB.out).mono ?_
        rintro e w2 ⟨rfl, hB2⟩
        go_wp2_with fail
        go_ret
        exact ⟨rfl, HB.out.trans (hB2.mono HB.out.size)⟩
      · have hv2 : (K.toList == truthK) = false := by rw [beq_eq_false_iff_ne, hK, str_toList]; exact h2
        unfold truthK at hv2
        rw [if_neg h2]
        have HTs : Hid (∀ w1, Calls Tryz.prog 143 #[str t, str p.kind] w1 fun e w' => e = .returned (str (Lib.trimSuffix t p.kind)) ∧ w' = w1) := fun w1 => Any.strings_TrimSuffix (ρ := Tryz.lays102_ren) Tryz.lays102 ⟨t.toArray⟩ ⟨p.kind.toArray⟩ w1 (by rw [arr_size]; omega)
        have HI : Hid (∀ w1, Below w.heap.size w w1 → Calls Tryz.prog 81 #[.pointer (some ⟨b, 0, none⟩), str p.kind] w1 fun e w' => e = .returned (str (iriN ns p.kind)) ∧ Below w1.heap.size w1 w') := fun w1 hb => (HPr.out w1 hb).iri p.kind hkl
        have hIl := iriN_len ns h.bnd p.kind (by omega)
        have hTl : (Lib.trimSuffix t p.kind).length ≤ 200 := by
          unfold Lib.trimSuffix
          split
          · rw [List.length_take]; omega
          · exact ht
        generalize iriN ns p.kind = r at *
        generalize Lib.trimSuffix t p.kind = q at *
        rw [eK] at HP HTs HI
        obtain ⟨R, hR⟩ : ∃ V : ByteArray, V = ⟨r.toArray⟩ := ⟨_, rfl⟩
        obtain ⟨Q, hQ⟩ : ∃ V : ByteArray, V = ⟨q.toArray⟩ := ⟨_, rfl⟩
        have eR : str r = .string R := by rw [hR]
        have eQ : str q = .string Q := by rw [hQ]
        have sR : R.size ≤ 300 := by rw [hR, arr_size]; exact hIl
        have sQ : Q.size ≤ 200 := by rw [hQ, arr_size]; exact hTl
        have HV : Hid (str (q ++ r) = .string (Q ++ R)) := by unfold Hid; rw [hR, hQ]; congr 1
        rw [eR] at HI
        rw [eQ] at HTs
        rw [HV.out]
        clear eK hK hp hpp hf h eN eT h0 h1 h2 hR hQ eR eQ HV
        go_enter Tryz.func82, Tryz.ntmps82
        go_wp2_with fail
        refine HP.out.mono ?_
        rintro e w1 ⟨rfl, hB⟩
        have HB : Hid (Below w.heap.size w w1) := hB
        clear hB
        go_wp2_with fail
        refine (HTs.out _).mono ?_
        rintro e w2 ⟨rfl, rfl⟩
        go_wp2_with fail
        refine (HI.out _ HB.out).mono ?_
        rintro e w3 ⟨rfl, hB2⟩
        go_wp2_with fail
        go_ret
        exact ⟨rfl, HB.out.trans (hB2.mono HB.out.size)⟩

set_option maxHeartbeats 2000000 in
set_option maxRecDepth 20000 in
theorem term_pr (w : World) (B b : Nat) (nv : Value) (ns : List Nam2) (t : List UInt8) (h : Pr0 B b nv ns w) (hk : kindOf ⟨t.toArray⟩ ≠ 0) :
    Calls Tryz.prog 44 #[.pointer (some ⟨b, 0, none⟩), str t] w fun e w' => e = .returned (str (termN ns t)) ∧ Below w.heap.size w w' := by
  have ht : t.length ≤ 200 := by
    have := kindOf_len hk
    rwa [arr_size] at this
  have HK : Hid (Calls Tryz.prog 80 #[str t] w fun e w' => e = .returned (.int .i64 (kindOf ⟨t.toArray⟩)) ∧ Below w.heap.size w w') := kind_any w ⟨t.toArray⟩ h.tab h.glo
  have HPr : Hid (∀ w1, Below w.heap.size w w1 → Pr0 B b nv ns w1) := fun w1 hb => h.below hb
  unfold termN
  by_cases h1 : kindOf ⟨t.toArray⟩ = 1
  · rw [if_pos h1]
    rw [h1] at HK
    have HI : Hid (∀ w1, Below w.heap.size w w1 → Calls Tryz.prog 81 #[.pointer (some ⟨b, 0, none⟩), str t] w1 fun e w' => e = .returned (str (iriN ns t)) ∧ Below w1.heap.size w1 w') := fun w1 hb => (HPr.out w1 hb).iri t ht
    generalize iriN ns t = r at *
    clear h hk h1
    go_enter Tryz.func44, Tryz.ntmps44
    go_wp2_with fail
    refine HK.out.mono ?_
    rintro e w1 ⟨rfl, hB⟩
    have HB : Hid (Below w.heap.size w w1) := hB
    clear hB
    go_wp2_with fail
    refine (HI.out _ HB.out).mono ?_
    rintro e w2 ⟨rfl, hB2⟩
    go_wp2_with fail
    go_ret
    exact ⟨rfl, HB.out.trans (hB2.mono HB.out.size)⟩
  · rw [if_neg h1]
    by_cases h3 : kindOf ⟨t.toArray⟩ = 3
    · rw [if_pos h3]
      have HI : Hid (∀ w1, Below w.heap.size w w1 → Calls Tryz.prog 82 #[.pointer (some ⟨b, 0, none⟩), str t] w1 fun e w' => e = .returned (str (litN ns t (partsOf ⟨t.toArray⟩).1)) ∧ Below w1.heap.size w1 w') := fun w1 hb => literal_pr w1 B b nv ns t (HPr.out w1 hb) h3
      rw [h3] at HK
      generalize litN ns t (partsOf ⟨t.toArray⟩).1 = r at *
      clear h hk h1 h3
      go_enter Tryz.func44, Tryz.ntmps44
      go_wp2_with fail
      refine HK.out.mono ?_
      rintro e w1 ⟨rfl, hB⟩
      have HB : Hid (Below w.heap.size w w1) := hB
      clear hB
      go_wp2_with fail
      refine (HI.out _ HB.out).mono ?_
      rintro e w2 ⟨rfl, hB2⟩
      go_wp2_with fail
      go_ret
      exact ⟨rfl, HB.out.trans (hB2.mono HB.out.size)⟩
    · rw [if_neg h3]
      have g1 : ((kindOf ⟨t.toArray⟩ : Nat) : Int) ≠ 1 := by omega
      have g3 : ((kindOf ⟨t.toArray⟩ : Nat) : Int) ≠ 3 := by omega
      generalize kindOf ⟨t.toArray⟩ = k at *
      clear h hk h1 h3
      go_enter Tryz.func44, Tryz.ntmps44
      go_wp2_with fail
      refine HK.out.mono ?_
      rintro e w1 ⟨rfl, hB⟩
      have HB : Hid (Below w.heap.size w w1) := hB
      clear hB
      go_wp2_with fail
      go_ret
      exact ⟨rfl, HB.out⟩

end Tu
end Go.Proofs.YtnffjoipinhojabGreatDoor

