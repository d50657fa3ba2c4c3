import Derived.Test.YtnffjoipinhojabGreatDoorK29
set_option linter.unusedSimpArgs false
set_option linter.unusedVariables false
namespace Go.Proofs.YtnffjoipinhojabGreatDoor
open Go.RowKit

/-- the kind of a term in its one form; 0: none -/
def kindOf (s : ByteArray) : Nat :=
  if 200 < s.size then 0 else match whole s (term s 0) with
    | .bad _ => 0
    | .ok p _ => if p.2 = s.data.toList then p.1 else 0

theorem eq_data {V s : ByteArray} {l : List UInt8} (h : V = ⟨l.toArray⟩) : V = s ↔ l = s.data.toList := by
  subst h
  constructor
  · rintro rfl; rfl
  · rintro rfl
    cases s with | mk d => rfl

theorem ne_toList {V s : ByteArray} (h : V ≠ s) : (V.toList == s.toList) = false := by
  rw [beq_eq_false_iff_ne, ByteArray.toList_eq, ByteArray.toList_eq]
  intro e
  apply h
  cases V with | mk d => cases s with | mk d' => exact congrArg ByteArray.mk (Array.toList_inj.1 e)

theorem term_kind {s : ByteArray} {i : Nat} {p : Nat × List UInt8} {j : Nat} (h : term s i = .ok p j) :
    (bt s i = 60 ∧ p.1 = 1) ∨ (bt s i = 95 ∧ p.1 = 2) ∨ (bt s i = 34 ∧ p.1 = 3) := by
  unfold term at h
  split at h
  · rename_i h0
    split at h
    · cases h
    · cases h; exact Or.inl ⟨h0, rfl⟩
  · split at h
    · rename_i h0
      split at h
      · cases h
      · cases h; exact Or.inr (Or.inl ⟨h0, rfl⟩)
    · split at h
      · rename_i h0
        split at h
        · cases h
        · cases h; exact Or.inr (Or.inr ⟨h0, rfl⟩)
      · cases h

set_option maxHeartbeats 2000000 in
theorem kind_any (w : World) (s : ByteArray) (hT : Tabs w) (hG : 8 ≤ w.heap.size) :
    Calls Tryz.prog 80 #[.string s] w fun e w' => e = .returned (.int .i64 (kindOf s)) ∧ Below w.heap.size w w' := by
  by_cases h1 : 200 < s.size
  · have HR : Hid (kindOf s = 0) := by unfold Hid kindOf; rw [if_pos h1]
    rw [HR.out]
    clear hT
    go_enter Tryz.func80, Tryz.ntmps80
    go_wp2
    go_ret
    exact ⟨rfl, Below.refl _ _⟩
  · have HR0 : Hid (kindOf s = match whole s (term s 0) with
      | .bad _ => 0
      | .ok p _ => if p.2 = s.data.toList then p.1 else 0) := by unfold Hid kindOf; rw [if_neg h1]
    have hW := wholeTerm w s hT hG (by omega)
    clear hT
    cases hw : whole s (term s 0) with
    | bad j =>
      rw [hw] at hW HR0
      have HR : Hid (kindOf s = 0) := HR0.out
      have HW : Hid (Calls Tryz.prog 136 #[.string s, fnV 137 #[]] w fun e w' => e = .returned (.tuple #[.agg termZ, placedV 2 j]) ∧ Below w.heap.size w w') := hW
      clear hW hw HR0
      rw [HR.out]
      go_enter Tryz.func80, Tryz.ntmps80
      go_wp2_with fail
      refine HW.out.mono ?_
      rintro e w2 ⟨rfl, hb2⟩
      have HB2 : Hid (Below w.heap.size w w2) := hb2
      clear hb2
      go_wp2_with fail
      go_ret
      exact ⟨rfl, HB2.out.alloc HB2.out.size _⟩
    | ok p j =>
      rw [hw] at hW HR0
      have hR0 : kindOf s = if p.2 = s.data.toList then p.1 else 0 := HR0.out
      obtain ⟨V, hV⟩ : ∃ V : ByteArray, V = ⟨p.2.toArray⟩ := ⟨_, rfl⟩
      obtain ⟨k, hk⟩ : ∃ k : Nat, k = p.1 := ⟨_, rfl⟩
      have he := eq_data (s := s) hV
      have HW : Hid (Calls Tryz.prog 136 #[.string s, fnV 137 #[]] w fun e w' => e = .returned (.tuple #[.agg #[.int .i64 k, .string V], .nilIface]) ∧ Below w.heap.size w w') := by unfold Hid; rw [hV, hk]; exact hW
      by_cases hq : V = s
      · have HR : Hid (kindOf s = k) := by unfold Hid; rw [hR0, if_pos (he.1 hq), hk]
        rw [HR.out]
        clear hW hw HR0 hV he hR0 hk
        subst hq
        go_enter Tryz.func80, Tryz.ntmps80
        go_wp2_with fail
        refine HW.out.mono ?_
        rintro e w2 ⟨rfl, hb2⟩
        have HB2 : Hid (Below w.heap.size w w2) := hb2
        clear hb2
        go_wp2_with fail
        go_ret
        exact ⟨rfl, HB2.out.alloc HB2.out.size _⟩
      · have HR : Hid (kindOf s = 0) := by unfold Hid; rw [hR0, if_neg (fun x => hq (he.2 x))]
        rw [HR.out]
        have hqb := ne_toList hq
        clear hW hw HR0 hV he hR0 hk
        go_enter Tryz.func80, Tryz.ntmps80
        go_wp2_with fail
        refine HW.out.mono ?_
        rintro e w2 ⟨rfl, hb2⟩
        have HB2 : Hid (Below w.heap.size w w2) := hb2
        clear hb2
        go_wp2_with fail
        go_ret
        exact ⟨rfl, HB2.out.alloc HB2.out.size _⟩

end Go.Proofs.YtnffjoipinhojabGreatDoor

set_option linter.unusedSimpArgs false
set_option linter.unusedVariables false
namespace Go.Proofs.YtnffjoipinhojabGreatDoor
open Go.RowKit

def soundT (x : Tri) : Bool := sound3 (kindOf ⟨x.s.toArray⟩) (kindOf ⟨x.p.toArray⟩) (kindOf ⟨x.o.toArray⟩)
/-- the first sentence that is not sound, from place q on -/
def badAt : Nat → List Tri → Option Nat
  | _, [] => none
  | q, x :: r => if soundT x then badAt (q + 1) r else some q

theorem at_any (w : World) (i n : Int) :
    Calls Tryz.prog 40 #[.int .i64 i, .iface 94 (.agg #[.int .i64 n])] w fun e w' => e = .returned (.iface 98 (.agg #[.int .i64 i, .iface 94 (.agg #[.int .i64 n])])) ∧ Below w.heap.size w w' := by
  go_enter Tryz.func40, Tryz.ntmps40
  go_wp2
  go_ret
  first | exact ⟨rfl, Below.refl _ w⟩ | exact ⟨rfl, (Below.refl _ w).alloc (Nat.le_refl _) _⟩

/-- what setOf ends in -/
def SoP (w : World) (l : List Tri) (e : Ending) (w' : World) : Prop := match badAt 0 l with
  | some i => e = .returned (.tuple #[.slice none 0 0, .iface 98 (.agg #[.int .i64 i, .iface 94 (.agg #[.int .i64 4])])]) ∧ Below w.heap.size w w'
  | none => RiP w (rise [] l) e w'

theorem riP_mono {w w1 w' : World} {r : Option (List Tri)} {e : Ending} (h : RiP w1 r e w') (hb : Below w.heap.size w w1) : RiP w r e w' := by
  unfold RiP at h ⊢
  cases r with
  | none => exact ⟨h.1, hb.trans (h.2.mono hb.size)⟩
  | some s =>
    obtain ⟨v, h1, h2, h3⟩ := h
    exact ⟨v, h1, own_mono h2 hb.size, hb.trans (h3.mono hb.size)⟩

set_option maxHeartbeats 4000000 in
set_option maxRecDepth 20000 in
theorem setOf_some (w : World) (g cap : Nat) (l : List Tri) (hg : g < w.heap.size) (hL : Lies w g l) (hn : l.length ≤ maxLen) (hT : Tabs w) (hG : 8 ≤ w.heap.size) :
    Calls Tryz.prog 32 #[.slice (some ⟨g, 0, none⟩) l.length cap] w (SoP w l) := by
  have HRi : Hid (∀ w1, Below w.heap.size w w1 → Calls Tryz.prog 36 #[.slice (some ⟨g, 0, none⟩) l.length cap] w1 (RiP w (rise [] l))) := fun w1 hb => (rising_some w1 g cap l (Nat.lt_of_lt_of_le hg hb.size) (hL.below hg hb) hn).mono fun e w' h => riP_mono h hb
  unfold maxLen at hn
  have HSo : Hid (∀ (w1 : World) (a b c : ByteArray) (w0 : World), Below w.heap.size w w0 → KS w0 w0.heap.size a b c w1 → Calls Tryz.prog 61 #[.agg #[.string a, .string b, .string c]] w1 fun e w' => e = .returned (.bool (sound3 (kindOf a) (kindOf b) (kindOf c))) ∧ KS w0 w0.heap.size a b c w') := by
    intro w1 a b c w0 hb0 hk
    have hb : Below w.heap.size w w1 := hb0.trans (hk.low.mono hb0.size)
    refine (sound_any kindOf w1 a b c (hT.below hb (by omega) (by omega)) (Nat.le_trans hG hb.size) (fun w2 s hT2 hG2 => kind_any w2 s hT2 hG2)).mono ?_
    rintro e w2 ⟨rfl, hb2⟩
    exact ⟨rfl, hk.on hb2⟩
  have HL : Hid (Lies w g l) := hL
  have HB0 : Hid (Below w.heap.size w w) := Below.refl _ w
  clear hL hT
  go_enter Tryz.func32, Tryz.ntmps32
  go_wp2_with fail
  go_loopw [8] (fun t8 wr => ∃ q : Nat, q ≤ l.length ∧ t8 = .int .i64 q ∧ Below w.heap.size w wr ∧ badAt 0 l = badAt q (l.drop q)) (fun t8 wr => l.length - (intOf t8).toNat)
  case atStart => exact ⟨0, Nat.zero_le _, rfl, HB0.out, by simp⟩
  case round =>
    obtain ⟨q, hq, rfl, hb, hbad⟩ := hrel
    have HB : Hid (Below w.heap.size w wr) := hb
    have HI : Hid (badAt 0 l = badAt q (l.drop q)) := hbad
    clear hb hbad
    by_cases hlt : q < l.length
    · obtain ⟨x, hx⟩ : ∃ x, l[q]? = some x := ⟨_, List.getElem?_eq_getElem hlt⟩
      obtain ⟨q0, q1, q2⟩ := (HL.out.below hg HB.out) q x hx
      have hd : l.drop q = x :: l.drop (q + 1) := by
        rw [List.drop_eq_getElem_cons hlt]
        congr 1
        exact (List.getElem?_eq_some_iff.1 hx).2
      have hst : badAt 0 l = if soundT x then badAt (q + 1) (l.drop (q + 1)) else some q := by rw [HI.out, hd, badAt]
      obtain ⟨Y1, k1⟩ : ∃ V : ByteArray, V = ⟨x.s.toArray⟩ := ⟨_, rfl⟩
      obtain ⟨Y2, k2⟩ : ∃ V : ByteArray, V = ⟨x.p.toArray⟩ := ⟨_, rfl⟩
      obtain ⟨Y3, k3⟩ : ∃ V : ByteArray, V = ⟨x.o.toArray⟩ := ⟨_, rfl⟩
      have q0' : wr.cell? ⟨g, q * 3, none⟩ = some (.string Y1) := by rw [k1]; exact q0
      have q1' : wr.cell? ⟨g, q * 3 + 1, none⟩ = some (.string Y2) := by rw [k2]; exact q1
      have q2' : wr.cell? ⟨g, q * 3 + 2, none⟩ = some (.string Y3) := by rw [k3]; exact q2
      obtain ⟨Bb, hBb⟩ : ∃ Bb, Bb = soundT x := ⟨_, rfl⟩
      have hS := HSo.out (wr.alloc (.cells #[.string Y1, .string Y2, .string Y3] 44)) Y1 Y2 Y3 wr HB.out (KS.mk wr Y1 Y2 Y3 _)
      have HS : Hid (Calls Tryz.prog 61 #[.agg #[.string Y1, .string Y2, .string Y3]] (wr.alloc (.cells #[.string Y1, .string Y2, .string Y3] 44)) fun e w' => e = .returned (.bool Bb) ∧ KS wr wr.heap.size Y1 Y2 Y3 w') := by
        refine Calls.mono hS ?_
        rintro e w' ⟨rfl, h2⟩
        exact ⟨by rw [hBb, soundT, k1, k2, k3], h2⟩
      rw [← hBb] at hst
      have HST : Hid (badAt 0 l = if Bb then badAt (q + 1) (l.drop (q + 1)) else some q) := hst
      obtain ⟨e0, e1, e2, e3⟩ := KS.mk wr Y1 Y2 Y3 44
      clear q0 q1 q2 k1 k2 k3 hd hx hst hS hBb HI
      go_wp2_with fail
      refine HS.out.mono ?_
      rintro e w2 ⟨rfl, hK2⟩
      have HB2 : Hid (Below w.heap.size w w2) := HB.out.trans (hK2.low.mono HB.out.size)
      clear hK2 e0 e1 e2 e3 q0' q1' q2' HS HSo
      cases Bb with
      | true =>
        have HI2 : Hid (badAt 0 l = badAt (q + 1) (l.drop (q + 1))) := HST.out
        clear HST
        go_wp2_with fail
        go_roundw
        case rel => exact ⟨q + 1, by omega, by go_num, HB2.out, HI2.out⟩
        case measure => simp [intOf]; omega
      | false =>
        have HI2 : Hid (badAt 0 l = some q) := HST.out
        have HNw : Hid (Calls Tryz.prog 37 #[.int .i64 4] w2 fun e w' => e = .returned (.iface 94 (.agg #[.int .i64 4])) ∧ Below w2.heap.size w2 w') := new_any w2 4
        have HAt : Hid (∀ w3, Calls Tryz.prog 40 #[.int .i64 q, .iface 94 (.agg #[.int .i64 4])] w3 fun e w' => e = .returned (.iface 98 (.agg #[.int .i64 q, .iface 94 (.agg #[.int .i64 4])])) ∧ Below w3.heap.size w3 w') := fun w3 => at_any w3 q 4
        clear HST
        go_wp2_with fail
        refine HNw.out.mono ?_
        rintro e w3 ⟨rfl, hb3⟩
        have HB3 : Hid (Below w.heap.size w w3) := HB2.out.trans (hb3.mono HB2.out.size)
        clear hb3
        go_wp2_with fail
        refine (HAt.out w3).mono ?_
        rintro e w4 ⟨rfl, hb4⟩
        have HB4 : Hid (Below w.heap.size w w4) := HB3.out.trans (hb4.mono HB3.out.size)
        clear hb4
        go_wp2_with fail
        refine bodyPost_ret (v := .tuple #[.slice none 0 0, .iface 98 (.agg #[.int .i64 q, .iface 94 (.agg #[.int .i64 4])])]) (by simp [results, Tryz.results32, go_sem]) rfl ?_
        show SoP w l _ _
        unfold SoP
        rw [HI2.out]
        exact ⟨rfl, HB4.out⟩
    · have HI2 : Hid (badAt 0 l = none) := by unfold Hid; rw [HI.out, List.drop_eq_nil_of_le (by omega)]; rfl
      have HRr : Hid (Calls Tryz.prog 36 #[.slice (some ⟨g, 0, none⟩) l.length cap] wr fun e w' => ∃ v1 v2, e = .returned (.tuple #[v1, v2]) ∧ SoP w l (.returned (.tuple #[v1, v2])) w') := by
        refine (HRi.out wr HB.out).mono ?_
        intro e w' h
        have hs : SoP w l e w' := by unfold SoP; rw [HI2.out]; exact h
        unfold RiP at h
        split at h
        · obtain ⟨v', rfl, _⟩ := h
          exact ⟨_, _, rfl, hs⟩
        · obtain ⟨rfl, _⟩ := h
          exact ⟨_, _, rfl, hs⟩
      clear HRi HI2 HI HSo
      go_wp2_with fail
      refine HRr.out.mono ?_
      rintro e w3 ⟨v1, v2, rfl, hs⟩
      have HSS : Hid (SoP w l (.returned (.tuple #[v1, v2])) w3) := hs
      clear hs
      go_wp2_with fail
      exact bodyPost_ret (v := .tuple #[v1, v2]) (by simp [results, Tryz.results32, go_sem]) rfl HSS.out

end Go.Proofs.YtnffjoipinhojabGreatDoor

