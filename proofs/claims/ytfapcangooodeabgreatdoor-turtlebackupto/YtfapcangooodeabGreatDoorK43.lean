import Derived.Test.YtfapcangooodeabGreatDoorK42
set_option linter.unusedSimpArgs false
set_option linter.unusedVariables false
namespace Go.Proofs.YtfapcangooodeabGreatDoor
open Go.RowKit
namespace Tu

/-! prefixes. -/
def preT (x : Nam2) : List UInt8 := [64, 112, 114, 101, 102, 105, 120, 32] ++ x.1 ++ [58, 32] ++ x.2 ++ [32, 46, 10]
def preN (ns : List Nam2) : List UInt8 := ns.flatMap preT
theorem preN_step {ns : List Nam2} {q : Nat} {x : Nam2} (h : ns[q]? = some x) : preN (ns.take (q + 1)) = preN (ns.take q) ++ preT x := by
  rw [List.take_add_one, h]
  simp [preN]
theorem preN_le {ns : List Nam2} (hs : ∀ x ∈ ns, x.1.length ≤ 20 ∧ x.2.length ≤ 200) : (preN ns).length ≤ ns.length * 300 := by
  induction ns with
  | nil => simp [preN]
  | cons x l ih =>
    have h1 := hs x (List.mem_cons_self ..)
    have h2 := ih (fun y hy => hs y (List.mem_cons_of_mem _ hy))
    have e : preN (x :: l) = preT x ++ preN l := rfl
    have h3 : (preT x).length ≤ 300 := by
      unfold preT
      simp only [List.length_append, List.length_cons, List.length_nil]
      omega
    rw [e, List.length_append, List.length_cons]
    omega

set_option maxHeartbeats 4000000 in
set_option maxRecDepth 20000 in
theorem prefixes_any (w : World) (B b : Nat) (nv : Value) (ns : List Nam2) (h : Pb B b nv [] w) (hn : NmL B nv ns w) (hs : NmB ns) (hB : B ≤ w.heap.size) :
    Calls Tryz.prog 22 #[.pointer (some ⟨b, 0, none⟩)] w fun e w' => e = .returned (.tuple #[]) ∧ Pb B b nv (preN ns) w' ∧ Below B w w' := by
  have hc := h.cell2
  have H0 : Hid (Pb B b nv [] w) := h
  clear h
  rcases hn with ⟨rfl, rfl⟩ | ⟨g, cap, rfl, hg, hl⟩
  · clear hs
    go_enter Tryz.func22, Tryz.ntmps22
    go_wp2_with fail
    go_loopw [9] (fun i wr => i = .int .i64 0 ∧ wr = w) (fun i wr => 0)
    case atStart => exact ⟨rfl, rfl⟩
    case round =>
      obtain ⟨rfl, rfl⟩ := hrel
      go_wp2
      go_end0
      exact ⟨rfl, H0.out, Below.refl _ _⟩
  · have HL : Hid (∀ (k : Nat) (x : Nam2), ns[k]? = some x → w.cell? ⟨g, k * 2, none⟩ = some (str x.1) ∧ w.cell? ⟨g, k * 2 + 1, none⟩ = some (str x.2)) := hl
    have HSz : Hid (∀ x ∈ ns, x.1.length ≤ 20 ∧ x.2.length ≤ 200) := hs.sz
    have hle := hs.le
    clear hl hs
    go_enter Tryz.func22, Tryz.ntmps22
    go_wp2_with fail
    go_loopw [9] (fun i wr => ∃ q : Nat, i = .int .i64 q ∧ q ≤ ns.length ∧ Pb B b (.slice (some ⟨g, 0, none⟩) ns.length cap) (preN (ns.take q)) wr ∧ Below B w wr) (fun i wr => ns.length - (intOf i).toNat)
    case atStart => exact ⟨0, rfl, Nat.zero_le _, by simpa [preN] using H0.out, Below.refl _ _⟩
    case round =>
      obtain ⟨q, rfl, hq, hp, hb⟩ := hrel
      have HP : Hid (Pb B b (.slice (some ⟨g, 0, none⟩) ns.length cap) (preN (ns.take q)) wr) := hp
      have HB : Hid (Below B w wr) := hb
      clear hp hb
      by_cases hlt : q < ns.length
      · obtain ⟨x, hx⟩ : ∃ x, ns[q]? = some x := ⟨_, List.getElem?_eq_getElem hlt⟩
        obtain ⟨z1, z2⟩ := HSz.out x (List.mem_of_getElem? hx)
        obtain ⟨c0, c1⟩ := HL.out q x hx
        have d0 : wr.cell? ⟨g, q * 2, none⟩ = some (str x.1) := (HB.out.cell (p := ⟨g, q * 2, none⟩) hg).trans c0
        have d1 : wr.cell? ⟨g, q * 2 + 1, none⟩ = some (str x.2) := (HB.out.cell (p := ⟨g, q * 2 + 1, none⟩) hg).trans c1
        have HPn : Hid (preN (ns.take (q + 1)) = preN (ns.take q) ++ [[64, 112, 114, 101, 102, 105, 120, 32], x.1, [58, 32], x.2, [32, 46, 10]].flatten) := by unfold Hid; rw [preN_step hx]; simp [preT]
        have hpl := preN_le (ns := ns.take q) (fun y hy => HSz.out y (List.mem_of_mem_take hy))
        have hlt2 : (ns.take q).length ≤ 12 := by rw [List.length_take]; omega
        have HLy := (HP.out.below ((Below.refl _ wr).alloc (Nat.le_refl _) (.cells #[str x.1, str x.2] 35))).lay (by have := HB.out.size; simp; omega) [[64, 112, 114, 101, 102, 105, 120, 32], x.1, [58, 32], x.2, [32, 46, 10]] 5 (by simp) (by simp only [List.length_append, List.flatten_cons, List.flatten_nil, List.length_cons, List.length_nil]; omega)
        rw [show (wr.alloc (.cells #[str x.1, str x.2] 35)).heap.size = wr.heap.size + 1 by simp] at HLy
        have HLz : Hid (Calls Tryz.prog 43 #[.pointer (some ⟨b, 0, none⟩), .slice (some ⟨wr.heap.size + 1, 0, none⟩) 5 5] ((wr.alloc (.cells #[str x.1, str x.2] 35)).alloc (.cells #[.string ⟨#[64, 112, 114, 101, 102, 105, 120, 32]⟩, str x.1, .string ⟨#[58, 32]⟩, str x.2, .string ⟨#[32, 46, 10]⟩] 9)) fun e w' => e = .returned (.tuple #[]) ∧ Pb B b (.slice (some ⟨g, 0, none⟩) ns.length cap) (preN (ns.take (q + 1))) w' ∧ Below B w w') := by
          refine HLy.mono ?_
          rintro e w' ⟨rfl, p1, p2⟩
          exact ⟨rfl, by rw [HPn.out]; exact p1, (HB.out.alloc (Nat.le_trans hB HB.out.size) _).trans p2⟩
        clear c0 c1 hx HLy HPn hpl
        go_wp2_with fail
        refine HLz.out.mono ?_
        rintro e w7 ⟨rfl, p7, b7⟩
        have H7 : Hid (Pb B b (.slice (some ⟨g, 0, none⟩) ns.length cap) (preN (ns.take (q + 1))) w7 ∧ Below B w w7) := ⟨p7, b7⟩
        clear p7 b7
        go_wp2_with fail
        go_roundw
        case rel => exact ⟨q + 1, by go_num, by omega, H7.out⟩
        case measure => simp [intOf]; omega
      · have hqe : q = ns.length := by omega
        subst hqe
        have HP2 : Hid (Pb B b (.slice (some ⟨g, 0, none⟩) ns.length cap) (preN ns) wr) := by have := HP.out; rw [List.take_length] at this; exact this
        go_wp2
        go_end0
        exact ⟨rfl, HP2.out, HB.out⟩

end Tu
end Go.Proofs.YtfapcangooodeabGreatDoor

set_option linter.unusedSimpArgs false
set_option linter.unusedVariables false
namespace Go.Proofs.YtfapcangooodeabGreatDoor
open Go.RowKit
namespace Tu

/-! unprintable, without names. -/
/-- the first sentence with a blank that turtle refuses, from place q on -/
def madeAt : Nat → List Tri → Option Nat
  | _, [] => none
  | q, x :: r => if madeT x then some q else madeAt (q + 1) r
theorem madeAt_drop {l : List Tri} {q : Nat} {x : Tri} (h : l[q]? = some x) : madeAt q (l.drop q) = if madeT x then some q else madeAt (q + 1) (l.drop (q + 1)) := by
  have hl := (List.getElem?_eq_some_iff.1 h).1
  have : l.drop q = x :: l.drop (q + 1) := by
    rw [List.drop_eq_getElem_cons hl]
    congr 1
    rw [List.getElem?_eq_getElem hl] at h
    exact Option.some.inj h
  rw [this, madeAt]
theorem madeAt_none : ∀ (l : List Tri) (q : Nat), madeAt q l = none ↔ l.any madeT = false
  | [], q => by simp [madeAt]
  | x :: l, q => by
    have ih := madeAt_none l (q + 1)
    unfold madeAt
    cases hm : madeT x with
    | true => simp [hm]
    | false => simpa [hm] using ih

theorem new_b (w : World) (n : Int) :
    Calls Tryz.prog 37 #[.int .i64 n] w fun e w' => e = .returned (.iface 94 (.agg #[.int .i64 n])) ∧ Below w.heap.size w w' := by
  go_enter Tryz.func37, Tryz.ntmps37
  go_wp2
  go_ret
  first | exact ⟨rfl, Below.refl _ w⟩ | exact ⟨rfl, (Below.refl _ w).alloc (Nat.le_refl _) _⟩

end Tu
end Go.Proofs.YtfapcangooodeabGreatDoor

set_option linter.unusedSimpArgs false
set_option linter.unusedVariables false
namespace Go.Proofs.YtfapcangooodeabGreatDoor
open Go.RowKit
namespace Tu

/-! turtle.Print of one sentence, without names. -/
end Tu
end Go.Proofs.YtfapcangooodeabGreatDoor

set_option linter.unusedSimpArgs false
set_option linter.unusedVariables false
namespace Go.Proofs.YtfapcangooodeabGreatDoor
open Go.RowKit
namespace Tu

/-! Names. -/
def isRowL (l : List UInt8) : Bool := match l with
  | [] => false
  | c :: r => decide ((c :: r).length ≤ 20) && (letter (c.toNat : Int) && (c :: r).all fun c => alnum (c.toNat : Int))

theorem letter_any (w : World) (c : Int) (h0 : 0 ≤ c) (h1 : c ≤ 255) : Calls Tryz.prog 114 #[.int .i32 c] w fun e w' => e = .returned (.bool (letter c)) ∧ Below w.heap.size w w' :=
  (set_letter w).at' w (fun _ _ _ => rfl) (Nat.zero_le _) c h0 (by omega)

set_option maxHeartbeats 1000000 in
set_option maxRecDepth 20000 in
theorem isRow_any (w : World) (l : List UInt8) (hT : Tabs w) (hG : 8 ≤ w.heap.size) :
    Calls Tryz.prog 69 #[str l] w fun e w' => e = .returned (.bool (isRowL l)) ∧ Below w.heap.size w w' := by
  cases l with
  | nil =>
    clear hT
    go_enter Tryz.func69, Tryz.ntmps69
    go_wp2
    go_ret
    exact ⟨rfl, Below.refl _ _⟩
  | cons c r =>
    obtain ⟨V, hV⟩ : ∃ V : ByteArray, V = ⟨(c :: r).toArray⟩ := ⟨_, rfl⟩
    have hz : V.size = (c :: r).length := by rw [hV]; exact arr_size _
    have e2 : str (c :: r) = .string V := by rw [hV]
    have hne : V.toList.isEmpty = false := by rw [hV, str_toList]; rfl
    have hlt : 0 < V.size := by rw [hz]; simp
    have hc : V[0] = c := by subst hV; rfl
    unfold isRowL
    simp only
    by_cases h20 : (c :: r).length ≤ 20
    · have hs20 : V.size ≤ 20 := by omega
      rw [decide_eq_true h20, Bool.true_and]
      have HLt : Hid (∀ w1 : World, Calls Tryz.prog 114 #[.int .i32 (V[0].toNat : Int)] w1 fun e w' => e = .returned (.bool (letter (c.toNat : Int))) ∧ Below w1.heap.size w1 w') := fun w1 => by rw [hc]; exact letter_any w1 _ (by omega) (by have := c.toNat_lt; omega)
      have HAl : Hid (∀ w1, Below w.heap.size w w1 → Calls Tryz.prog 115 #[.string V, fnV 116 #[]] w1 fun e w' => e = .returned (.bool ((c :: r).all fun c => alnum (c.toNat : Int))) ∧ Below w1.heap.size w1 w') := fun w1 hb => by rw [← e2]; exact allOf_any w1 (c :: r) (by omega) (hT.below hb (by omega) (by omega)) (Nat.le_trans hG hb.size) _ alnum (fun w2 => setInRow w2) (fun c => alnum_lt)
      generalize ((c :: r).all fun c => alnum (c.toNat : Int)) = ra at *
      have hb255 : (V[0].toNat : Int) < 256 := by have := (V[0]).toNat_lt; omega
      have hw32 : IntKind.i32.wrap (V[0].toNat : Int) = (V[0].toNat : Int) := by rw [IntKind.wrap_i32] <;> omega
      cases hle : letter (c.toNat : Int) with
      | false =>
        rw [hle] at HLt
        rw [e2, Bool.false_and]
        clear hT hV e2 hc HAl hle hz h20
        go_enter Tryz.func69, Tryz.ntmps69
        go_wp2_with fail
        refine (HLt.out _).mono ?_
        rintro e w1 ⟨rfl, hB⟩
        go_wp2
        go_ret
        exact ⟨rfl, hB⟩
      | true =>
        rw [hle] at HLt
        rw [e2, Bool.true_and]
        clear hT hV e2 hc hle hz h20
        go_enter Tryz.func69, Tryz.ntmps69
        go_wp2_with fail
        refine (HLt.out _).mono ?_
        rintro e w1 ⟨rfl, hB⟩
        have HB : Hid (Below w.heap.size w w1) := hB
        clear hB
        go_wp2_with fail
        refine (HAl.out _ HB.out).mono ?_
        rintro e w2 ⟨rfl, hB2⟩
        go_wp2
        go_ret
        exact ⟨rfl, HB.out.trans (hB2.mono HB.out.size)⟩
    · have hs20 : ¬ V.size ≤ 20 := by omega
      rw [decide_eq_false h20, Bool.false_and, e2]
      clear hT hV e2 hc hz h20
      go_enter Tryz.func69, Tryz.ntmps69
      go_wp2_with fail
      go_ret
      exact ⟨rfl, Below.refl _ _⟩

end Tu
end Go.Proofs.YtfapcangooodeabGreatDoor

