import Derived.Test.YtnffjoipinhojabGreatDoorK42
set_option linter.unusedSimpArgs false
set_option linter.unusedVariables false
namespace Go.Proofs.YtnffjoipinhojabGreatDoor
open Go.RowKit
namespace Tu

/-! prefixes. -/
def preT (x : Nam2) : List UInt8 := [64, 112, 114, 101, 102, 105, 120, 32] ++ x.1 ++ [58, 32] ++ x.2 ++ [32, 46, 10]
def preN (ns : List Nam2) : List UInt8 := ns.flatMap preT
theorem preN_step {ns : List Nam2} {q : Nat} {x : Nam2} (h : ns[q]? = some x) : preN (ns.take (q + 1)) = preN (ns.take q) ++ preT x := by
  rw [List.take_add_one, h]
  simp [preN]
theorem preN_le {ns : List Nam2} (hs : ∀ x ∈ ns, x.1.length ≤ 20 ∧ x.2.length ≤ 200) : (preN ns).length ≤ ns.length * 300 := by
  induction ns with
  | nil => simp [preN]
  | cons x l ih =>
    have h1 := hs x (List.mem_cons_self ..)
    have h2 := ih (fun y hy => hs y (List.mem_cons_of_mem _ hy))
    have e : preN (x :: l) = preT x ++ preN l := rfl
    have h3 : (preT x).length ≤ 300 := by
      unfold preT
      simp only [List.length_append, List.length_cons, List.length_nil]
      omega
    rw [e, List.length_append, List.length_cons]
    omega

set_option maxHeartbeats 4000000 in
set_option maxRecDepth 20000 in
theorem prefixes_any (w : World) (B b : Nat) (nv : Value) (ns : List Nam2) (h : Pb B b nv [] w) (hn : NmL B nv ns w) (hs : NmB ns) (hB : B ≤ w.heap.size) :
    Calls Tryz.prog 22 #[.pointer (some ⟨b, 0, none⟩)] w fun e w' => e = .returned (.tuple #[]) ∧ Pb B b nv (preN ns) w' ∧ Below B w w' := by
  have hc := h.cell2
  have H0 : Hid (Pb B b nv [] w) := h
  clear h
  rcases hn with ⟨rfl, rfl⟩ | ⟨g, cap, rfl, hg, hl⟩
  · clear hs
    go_enter Tryz.func22, Tryz.ntmps22
    go_wp2_with fail
    go_loopw [9] (fun i wr => i = .int .i64 0 ∧ wr = w) (fun i wr => 0)
    case atStart => exact ⟨rfl, rfl⟩
    case round =>
      obtain ⟨rfl, rfl⟩ := hrel
      go_wp2
      go_end0
      exact ⟨rfl, H0.out, Below.refl _ _⟩
  · have HL : Hid (∀ (k : Nat) (x : Nam2), ns[k]? = some x → w.cell? ⟨g, k * 2, none⟩ = some (str x.1) ∧ w.cell? ⟨g, k * 2 + 1, none⟩ = some (str x.2)) := hl
    have HSz : Hid (∀ x ∈ ns, x.1.length ≤ 20 ∧ x.2.length ≤ 200) := hs.sz
    have hle := hs.le
    clear hl hs
    go_enter Tryz.func22, Tryz.ntmps22
    go_wp2_with fail
    go_loopw [9] (fun i wr => ∃ q : Nat, i = .int .i64 q ∧ q ≤ ns.length ∧ Pb B b (.slice (some ⟨g, 0, none⟩) ns.length cap) (preN (ns.take q)) wr ∧ Below B w wr) (fun i wr => ns.length - (intOf i).toNat)
    case atStart => exact ⟨0, rfl, Nat.zero_le _, by simpa [preN] using H0.out, Below.refl _ _⟩
    case round =>
      obtain ⟨q, rfl, hq, hp, hb⟩ := hrel
      have HP : Hid (Pb B b (.slice (some ⟨g, 0, none⟩) ns.length cap) (preN (ns.take q)) wr) := hp
      have HB : Hid (Below B w wr) := hb
      clear hp hb
      by_cases hlt : q < ns.length
      · obtain ⟨x, hx⟩ : ∃ x, ns[q]? = some x := ⟨_, List.getElem?_eq_getElem hlt⟩
        obtain ⟨z1, z2⟩ := HSz.out x (List.mem_of_getElem? hx)
        obtain ⟨c0, c1⟩ := HL.out q x hx
        have d0 : wr.cell? ⟨g, q * 2, none⟩ = some (str x.1) := (HB.out.cell (p := ⟨g, q * 2, none⟩) hg).trans c0
        have d1 : wr.cell? ⟨g, q * 2 + 1, none⟩ = some (str x.2) := (HB.out.cell (p := ⟨g, q * 2 + 1, none⟩) hg).trans c1
        have HPn : Hid (preN (ns.take (q + 1)) = preN (ns.take q) ++ [[64, 112, 114, 101, 102, 105, 120, 32], x.1, [58, 32], x.2, [32, 46, 10]].flatten) := by unfold Hid; rw [preN_step hx]; simp [preT]
        have hpl := preN_le (ns := ns.take q) (fun y hy => HSz.out y (List.mem_of_mem_take hy))
        have hlt2 : (ns.take q).length ≤ 12 := by rw [List.length_take]; omega
        have HLy := (HP.out.below ((Below.refl _ wr).alloc (Nat.le_refl _) (.cells #[str x.1, str x.2] 35))).lay (by have := HB.out.size; simp; omega) [[64, 112, 114, 101, 102, 105, 120, 32], x.1, [58, 32], x.2, [32, 46, 10]] 5 (by simp) (by simp only [List.length_append, List.flatten_cons, List.flatten_nil, List.length_cons, List.length_nil]; omega)
        rw [show (wr.alloc (.cells #[str x.1, str x.2] 35)).heap.size = wr.heap.size + 1 by simp] at HLy
        have HLz : Hid (Calls Tryz.prog 43 #[.pointer (some ⟨b, 0, none⟩), .slice (some ⟨wr.heap.size + 1, 0, none⟩) 5 5] ((wr.alloc (.cells #[str x.1, str x.2] 35)).alloc (.cells #[.string ⟨#[64, 112, 114, 101, 102, 105, 120, 32]⟩, str x.1, .string ⟨#[58, 32]⟩, str x.2, .string ⟨#[32, 46, 10]⟩] 9)) fun e w' => e = .returned (.tuple #[]) ∧ Pb B b (.slice (some ⟨g, 0, none⟩) ns.length cap) (preN (ns.take (q + 1))) w' ∧ Below B w w') := by
          refine HLy.mono ?_
          rintro e w' ⟨rfl, p1, p2⟩
          exact ⟨rfl, by rw [HPn.out]; exact p1, (HB.out.alloc (Nat.le_trans hB HB.out.size) _).trans p2⟩
        clear c0 c1 hx HLy HPn hpl
        go_wp2_with fail
        refine HLz.out.mono ?_
        rintro e w7 ⟨rfl, p7, b7⟩
        have H7 : Hid (Pb B b (.slice (some ⟨g, 0, none⟩) ns.length cap) (preN (ns.take (q + 1))) w7 ∧ Below B w w7) := ⟨p7, b7⟩
        clear p7 b7
        go_wp2_with fail
        go_roundw
        case rel => exact ⟨q + 1, by go_num, by omega, H7.out⟩
        case measure => simp [intOf]; omega
      · have hqe : q = ns.length := by omega
        subst hqe
        have HP2 : Hid (Pb B b (.slice (some ⟨g, 0, none⟩) ns.length cap) (preN ns) wr) := by have := HP.out; rw [List.take_length] at this; exact this
        go_wp2
        go_end0
        exact ⟨rfl, HP2.out, HB.out⟩

end Tu
end Go.Proofs.YtnffjoipinhojabGreatDoor

set_option linter.unusedSimpArgs false
set_option linter.unusedVariables false
namespace Go.Proofs.YtnffjoipinhojabGreatDoor
open Go.RowKit
namespace Tu

/-! unprintable, without names. -/
/-- the first sentence with a blank that turtle refuses, from place q on -/
def madeAt : Nat → List Tri → Option Nat
  | _, [] => none
  | q, x :: r => if madeT x then some q else madeAt (q + 1) r
theorem madeAt_drop {l : List Tri} {q : Nat} {x : Tri} (h : l[q]? = some x) : madeAt q (l.drop q) = if madeT x then some q else madeAt (q + 1) (l.drop (q + 1)) := by
  have hl := (List.getElem?_eq_some_iff.1 h).1
  have : l.drop q = x :: l.drop (q + 1) := by
    rw [List.drop_eq_getElem_cons hl]
    congr 1
    rw [List.getElem?_eq_getElem hl] at h
    exact Option.some.inj h
  rw [this, madeAt]
theorem madeAt_none : ∀ (l : List Tri) (q : Nat), madeAt q l = none ↔ l.any madeT = false
  | [], q => by simp [madeAt]
  | x :: l, q => by
    have ih := madeAt_none l (q + 1)
    unfold madeAt
    cases hm : madeT x with
    | true => simp [hm]
    | false => simpa [hm] using ih

theorem new_b (w : World) (n : Int) :
    Calls Tryz.prog 37 #[.int .i64 n] w fun e w' => e = .returned (.iface 94 (.agg #[.int .i64 n])) ∧ Below w.heap.size w w' := by
  go_enter Tryz.func37, Tryz.ntmps37
  go_wp2
  go_ret
  first | exact ⟨rfl, Below.refl _ w⟩ | exact ⟨rfl, (Below.refl _ w).alloc (Nat.le_refl _) _⟩

def UnV (r : Option Nat) : Value := match r with
  | none => .nilIface
  | some i => .iface 98 (.agg #[.int .i64 i, .iface 94 (.agg #[.int .i64 6])])

set_option maxHeartbeats 4000000 in
set_option maxRecDepth 20000 in
theorem unprintable_nil (w : World) (g cap : Nat) (set : List Tri) (hg : g < w.heap.size) (hL : Lies w g set) (hx : ∀ x ∈ set, soundT x = true) (hlen : set.length ≤ 300) (hT : Tabs w) (hG : 8 ≤ w.heap.size) :
    Calls Tryz.prog 19 #[.slice (some ⟨g, 0, none⟩) set.length cap, .slice none 0 0] w fun e w' => e = .returned (UnV (madeAt 0 set)) ∧ Below w.heap.size w w' := by
  have HL : Hid (Lies w g set) := hL
  have HM : Hid (∀ w1 l, Below w.heap.size w w1 → l.length ≤ 1000 → Calls Tryz.prog 41 #[str l] w1 fun e w' => e = .returned (.bool (isMade l)) ∧ Below w1.heap.size w1 w') := fun w1 l hb hl => isMade_any w1 l (by omega) (hT.below hb (by omega) (by omega)) (Nat.le_trans hG hb.size)
  have HSz : Hid (∀ x ∈ set, x.s.length ≤ 200 ∧ x.o.length ≤ 200) := fun x hm => by
    have k := sound_kinds (hx x hm)
    exact ⟨kind_len (by omega), kind_len k.2.2⟩
  clear hL hT hx
  go_enter Tryz.func19, Tryz.ntmps19
  go_wp2_with fail
  go_loopw [15] (fun i wr => i = .int .i64 0 ∧ wr = w) (fun i wr => 0)
  case atStart => exact ⟨rfl, rfl⟩
  case round =>
    obtain ⟨rfl, hwr⟩ := hrel
    have hwr := hwr.symm
    subst hwr
    go_wp2_with fail
    go_loopw [37] (fun i wr => ∃ q : Nat, i = .int .i64 q ∧ q ≤ set.length ∧ madeAt q (set.drop q) = madeAt 0 set ∧ Below w.heap.size w wr) (fun i wr => set.length - (intOf i).toNat)
    case atStart => exact ⟨0, rfl, Nat.zero_le _, rfl, Below.refl _ _⟩
    case round =>
      obtain ⟨q, rfl, hq, hmd, hb⟩ := hrel
      have HB : Hid (Below w.heap.size w wr) := hb
      clear hb
      by_cases hlt : q < set.length
      · obtain ⟨x, hxq⟩ : ∃ x, set[q]? = some x := ⟨_, List.getElem?_eq_getElem hlt⟩
        obtain ⟨z1, z2⟩ := HSz.out x (List.mem_of_getElem? hxq)
        obtain ⟨c0, c1, c2⟩ := HL.out q x hxq
        have d0 : wr.cell? ⟨g, q * 3, none⟩ = some (str x.s) := (HB.out.cell (p := ⟨g, _, none⟩) hg).trans c0
        have d1 : wr.cell? ⟨g, q * 3 + 1, none⟩ = some (str x.p) := (HB.out.cell (p := ⟨g, _, none⟩) hg).trans c1
        have d2 : wr.cell? ⟨g, q * 3 + 2, none⟩ = some (str x.o) := (HB.out.cell (p := ⟨g, _, none⟩) hg).trans c2
        rw [madeAt_drop hxq] at hmd
        have HMd : Hid ((if madeT x = true then some q else madeAt (q + 1) (set.drop (q + 1))) = madeAt 0 set) := hmd
        clear c0 c1 c2 hxq hmd
        have HMs : Hid (∀ w1, Below w.heap.size w w1 → Calls Tryz.prog 41 #[str x.s] w1 fun e w' => e = .returned (.bool (isMade x.s)) ∧ Below w1.heap.size w1 w') := fun w1 hb => HM.out w1 x.s hb (by omega)
        have HMo : Hid (∀ w1, Below w.heap.size w w1 → Calls Tryz.prog 41 #[str x.o] w1 fun e w' => e = .returned (.bool (isMade x.o)) ∧ Below w1.heap.size w1 w') := fun w1 hb => HM.out w1 x.o hb (by omega)
        unfold madeT at HMd
        cases hms : isMade x.s with
        | true =>
          rw [hms] at HMs HMd
          have HR : Hid (UnV (madeAt 0 set) = .iface 98 (.agg #[.int .i64 q, .iface 94 (.agg #[.int .i64 6])])) := by unfold Hid; rw [← HMd.out]; rfl
          go_wp2_with fail
          refine (HMs.out _ (HB.out.alloc HB.out.size _)).mono ?_
          rintro e w3 ⟨rfl, hb3⟩
          have HB3 : Hid (Below w.heap.size w w3) := (HB.out.alloc HB.out.size _).trans (hb3.mono (by have := HB.out.size; simp; omega))
          clear hb3
          go_wp2_with fail
          refine (new_b _ _).mono ?_
          rintro e w5 ⟨rfl, hb5⟩
          have HB5 : Hid (Below w.heap.size w w5) := HB3.out.trans (hb5.mono HB3.out.size)
          clear hb5
          go_wp2_with fail
          refine (at_any _ _ _).mono ?_
          rintro e w6 ⟨rfl, hb6⟩
          have HB6 : Hid (Below w.heap.size w w6) := HB5.out.trans (hb6.mono HB5.out.size)
          clear hb6
          go_wp2_with fail
          go_ret
          rw [HR.out]
          exact ⟨rfl, HB6.out⟩
        | false =>
          rw [hms] at HMs HMd
          cases hmo : isMade x.o with
          | true =>
            rw [hmo] at HMo HMd
            have HR : Hid (UnV (madeAt 0 set) = .iface 98 (.agg #[.int .i64 q, .iface 94 (.agg #[.int .i64 6])])) := by unfold Hid; rw [← HMd.out]; rfl
            go_wp2_with fail
            refine (HMs.out _ (HB.out.alloc HB.out.size _)).mono ?_
            rintro e w3 ⟨rfl, hb3⟩
            have e2 : w3.cell? ⟨wr.heap.size, 2, none⟩ = some (str x.o) := (hb3.cell (p := ⟨wr.heap.size, 2, none⟩) (by simp)).trans (by rw [World.cell?_alloc_at _ _ _ _ (by simp)]; rfl)
            have HB3 : Hid (Below w.heap.size w w3) := (HB.out.alloc HB.out.size _).trans (hb3.mono (by have := HB.out.size; simp; omega))
            clear hb3
            go_wp2_with fail
            refine (HMo.out _ HB3.out).mono ?_
            rintro e w4 ⟨rfl, hb4⟩
            have HB4 : Hid (Below w.heap.size w w4) := HB3.out.trans (hb4.mono HB3.out.size)
            clear hb4
            go_wp2_with fail
            refine (new_b _ _).mono ?_
            rintro e w5 ⟨rfl, hb5⟩
            have HB5 : Hid (Below w.heap.size w w5) := HB4.out.trans (hb5.mono HB4.out.size)
            clear hb5
            go_wp2_with fail
            refine (at_any _ _ _).mono ?_
            rintro e w6 ⟨rfl, hb6⟩
            have HB6 : Hid (Below w.heap.size w w6) := HB5.out.trans (hb6.mono HB5.out.size)
            clear hb6
            go_wp2_with fail
            go_ret
            rw [HR.out]
            exact ⟨rfl, HB6.out⟩
          | false =>
            rw [hmo] at HMo HMd
            have HMd2 : Hid (madeAt (q + 1) (set.drop (q + 1)) = madeAt 0 set) := HMd.out
            go_wp2_with fail
            refine (HMs.out _ (HB.out.alloc HB.out.size _)).mono ?_
            rintro e w3 ⟨rfl, hb3⟩
            have e2 : w3.cell? ⟨wr.heap.size, 2, none⟩ = some (str x.o) := (hb3.cell (p := ⟨wr.heap.size, 2, none⟩) (by simp)).trans (by rw [World.cell?_alloc_at _ _ _ _ (by simp)]; rfl)
            have HB3 : Hid (Below w.heap.size w w3) := (HB.out.alloc HB.out.size _).trans (hb3.mono (by have := HB.out.size; simp; omega))
            clear hb3
            go_wp2_with fail
            refine (HMo.out _ HB3.out).mono ?_
            rintro e w4 ⟨rfl, hb4⟩
            have HB4 : Hid (Below w.heap.size w w4) := HB3.out.trans (hb4.mono HB3.out.size)
            clear hb4
            go_wp2_with fail
            go_roundw
            case rel => exact ⟨q + 1, by go_num, by omega, HMd2.out, HB4.out⟩
            case measure => simp [intOf]; omega
      · have hqe : q = set.length := by omega
        subst hqe
        have HR : Hid (UnV (madeAt 0 set) = .nilIface) := by unfold Hid; rw [← hmd]; simp [madeAt, UnV]
        go_wp2
        go_ret
        rw [HR.out]
        exact ⟨rfl, HB.out⟩

end Tu
end Go.Proofs.YtnffjoipinhojabGreatDoor

