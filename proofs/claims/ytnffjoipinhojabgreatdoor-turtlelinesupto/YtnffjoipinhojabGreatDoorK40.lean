import Derived.Test.YtnffjoipinhojabGreatDoorK39
import Derived.BigQuiet
import Derived.Deep.QuietTactic
import Derived.Deep.RegionHeld3
set_option linter.unusedSimpArgs false
set_option linter.unusedVariables false
namespace Go.Proofs.YtnffjoipinhojabGreatDoor
open Go.RowKit
namespace Tu

/-! iri. -/
abbrev Nam2 := List UInt8 × List UInt8

/-- names that lie ahead of block B -/
def NmL (B : Nat) (nv : Value) (ns : List Nam2) (w : World) : Prop := (nv = .slice none 0 0 ∧ ns = []) ∨
  ∃ g cap, nv = .slice (some ⟨g, 0, none⟩) ns.length cap ∧ g < B ∧ ∀ (k : Nat) (x : Nam2), ns[k]? = some x → w.cell? ⟨g, k * 2, none⟩ = some (str x.1) ∧ w.cell? ⟨g, k * 2 + 1, none⟩ = some (str x.2)
theorem NmL.below {B : Nat} {nv : Value} {ns : List Nam2} {w w' : World} (h : NmL B nv ns w) (hb : Below B w w') : NmL B nv ns w' := by
  rcases h with h | ⟨g, cap, h1, h2, h3⟩
  · exact .inl h
  · exact .inr ⟨g, cap, h1, h2, fun k x hk => ⟨(hb.cell (p := ⟨g, _, none⟩) h2).trans (h3 k x hk).1, (hb.cell (p := ⟨g, _, none⟩) h2).trans (h3 k x hk).2⟩⟩

def iriS (t : List UInt8) (acc : List UInt8 × Nat) (x : Nam2) : List UInt8 × Nat := if restOk x.2 t = true ∧ acc.2 < x.2.length then (x.1 ++ [58] ++ restL x.2 t, x.2.length) else acc
/-- an iri, as a named one if a name fits -/
def iriN (ns : List Nam2) (t : List UInt8) : List UInt8 := (ns.foldl (iriS t) (t, 0)).1

theorem fold_take {ns : List Nam2} {q : Nat} {x : Nam2} (t : List UInt8) (h : ns[q]? = some x) : (ns.take (q + 1)).foldl (iriS t) (t, 0) = iriS t ((ns.take q).foldl (iriS t) (t, 0)) x := by
  rw [List.take_add_one, h]
  simp

structure NmB (ns : List Nam2) : Prop where
  le : ns.length ≤ 12
  sz : ∀ x ∈ ns, x.1.length ≤ 20 ∧ x.2.length ≤ 200

set_option maxHeartbeats 4000000 in
set_option maxRecDepth 20000 in
theorem iri_any (w : World) (B b : Nat) (nv : Value) (ns : List Nam2) (t : List UInt8) (hB : B ≤ w.heap.size) (hc : w.cell? ⟨b, 2, none⟩ = some nv) (hn : NmL B nv ns w) (hs : NmB ns) (ht : t.length ≤ 200) (hT : Tabs w) (hG : 8 ≤ w.heap.size) :
    Calls Tryz.prog 81 #[.pointer (some ⟨b, 0, none⟩), str t] w fun e w' => e = .returned (str (iriN ns t)) ∧ Below w.heap.size w w' := by
  rcases hn with ⟨rfl, rfl⟩ | ⟨g, cap, rfl, hg, hl⟩
  · unfold iriN
    simp only [List.foldl_nil]
    clear hT hs
    go_enter Tryz.func81, Tryz.ntmps81
    go_wp2_with fail
    go_loopw [5, 6, 17] (fun tx lg i wr => tx = str t ∧ i = .int .i64 0 ∧ wr = w) (fun tx lg i wr => 0)
    case atStart => exact ⟨rfl, rfl, rfl⟩
    case round =>
      obtain ⟨rfl, rfl, rfl⟩ := hrel
      go_wp2
      go_ret
      exact ⟨rfl, Below.refl _ _⟩
  · have HL : Hid (∀ (k : Nat) (x : Nam2), ns[k]? = some x → w.cell? ⟨g, k * 2, none⟩ = some (str x.1) ∧ w.cell? ⟨g, k * 2 + 1, none⟩ = some (str x.2)) := hl
    have HRb : Hid (∀ w1 x, Below w.heap.size w w1 → x ∈ ns → Calls Tryz.prog 138 #[str x.2, str t] w1 fun e w' => e = .returned (.tuple #[str (restL x.2 t), .bool (restOk x.2 t)]) ∧ Below w1.heap.size w1 w') := fun w1 x hb hx => restBehind_any w1 x.2 t (by have := (hs.sz x hx).2; omega) (by omega) (hT.below hb (by omega) (by omega)) (Nat.le_trans hG hb.size)
    have HSz : Hid (∀ x ∈ ns, x.1.length ≤ 20 ∧ x.2.length ≤ 200) := hs.sz
    have hle := hs.le
    unfold iriN
    clear hl hT hs
    go_enter Tryz.func81, Tryz.ntmps81
    go_wp2_with fail
    go_loopw [5, 6, 17] (fun tx lg i wr => ∃ q : Nat, i = .int .i64 q ∧ q ≤ ns.length ∧ tx = str ((ns.take q).foldl (iriS t) (t, 0)).1 ∧ lg = .int .i64 ((ns.take q).foldl (iriS t) (t, 0)).2 ∧ ((ns.take q).foldl (iriS t) (t, 0)).2 ≤ 200 ∧ Below w.heap.size w wr) (fun tx lg i wr => ns.length - (intOf i).toNat)
    case atStart => exact ⟨0, rfl, Nat.zero_le _, rfl, rfl, by simp, Below.refl _ _⟩
    case round =>
      obtain ⟨q, rfl, hq, rfl, rfl, hacc, hb⟩ := hrel
      have HB : Hid (Below w.heap.size w wr) := hb
      clear hb
      by_cases hlt : q < ns.length
      · obtain ⟨x, hx⟩ : ∃ x, ns[q]? = some x := ⟨_, List.getElem?_eq_getElem hlt⟩
        have hmem : x ∈ ns := List.mem_of_getElem? hx
        obtain ⟨hz1, hz2⟩ := HSz.out x hmem
        obtain ⟨c0, c1⟩ := HL.out q x hx
        have d0 : wr.cell? ⟨g, q * 2, none⟩ = some (str x.1) := (HB.out.cell (p := ⟨g, q * 2, none⟩) (by simp; omega)).trans c0
        have d1 : wr.cell? ⟨g, q * 2 + 1, none⟩ = some (str x.2) := (HB.out.cell (p := ⟨g, q * 2 + 1, none⟩) (by simp; omega)).trans c1
        have HF : Hid ((ns.take (q + 1)).foldl (iriS t) (t, 0) = iriS t ((ns.take q).foldl (iriS t) (t, 0)) x) := fold_take t hx
        obtain ⟨acc, hacc2⟩ : ∃ acc, acc = (ns.take q).foldl (iriS t) (t, 0) := ⟨_, rfl⟩
        rw [← hacc2] at HF hacc ⊢
        clear c0 c1 hx hacc2
        go_wp2_with fail
        refine (HRb.out _ x (HB.out.alloc HB.out.size _) hmem).mono ?_
        rintro e w2 ⟨rfl, hb2⟩
        have hb2' : Below w.heap.size w w2 := (HB.out.alloc HB.out.size _).trans (hb2.mono (by have := HB.out.size; simp; omega))
        have HB2 : Hid (Below w.heap.size w w2) := hb2'
        have e0 : w2.cell? ⟨wr.heap.size, 0, none⟩ = some (str x.1) := (hb2.cell (p := ⟨wr.heap.size, 0, none⟩) (by simp)).trans (by rw [World.cell?_alloc_at _ _ _ _ (by simp)]; rfl)
        have e1 : w2.cell? ⟨wr.heap.size, 1, none⟩ = some (str x.2) := (hb2.cell (p := ⟨wr.heap.size, 1, none⟩) (by simp)).trans (by rw [World.cell?_alloc_at _ _ _ _ (by simp)]; rfl)
        clear hb2 hb2' d0 d1
        have hr : (restL x.2 t).length ≤ 200 := by
          have h1 := trimPrefix_le (trimG t) (trimG x.2)
          have h2 := trimG_le t
          unfold restL
          omega
        obtain ⟨rs, hrs⟩ : ∃ rs, rs = restL x.2 t := ⟨_, rfl⟩
        obtain ⟨X1, hX1⟩ : ∃ V : ByteArray, V = ⟨x.1.toArray⟩ := ⟨_, rfl⟩
        obtain ⟨X2, hX2⟩ : ∃ V : ByteArray, V = ⟨x.2.toArray⟩ := ⟨_, rfl⟩
        obtain ⟨X3, hX3⟩ : ∃ V : ByteArray, V = ⟨rs.toArray⟩ := ⟨_, rfl⟩
        have sx1 : X1.size ≤ 20 := by rw [hX1, arr_size]; omega
        have sx2 : X2.size = x.2.length := by rw [hX2, arr_size]
        have sx3 : X3.size ≤ 200 := by rw [hX3, arr_size, hrs]; omega
        have ea : str x.1 = .string X1 := by rw [hX1]
        have eb : str x.2 = .string X2 := by rw [hX2]
        have ec : str rs = .string X3 := by rw [hX3]
        rw [ea] at e0
        rw [eb] at e1
        rw [← hrs, ec]
        cases hok : restOk x.2 t with
        | false =>
          have HE : Hid (iriS t acc x = acc) := by unfold Hid iriS; rw [if_neg (by rw [hok]; simp)]
          clear hok
          go_wp2_with fail
          go_roundw
          case rel => exact ⟨q + 1, by go_num, by omega, by rw [HF.out, HE.out], by rw [HF.out, HE.out], by rw [HF.out, HE.out]; exact hacc, HB2.out⟩
          case measure => simp [intOf]; omega
        | true =>
          by_cases hlong : acc.2 < x.2.length
          · have HE : Hid (iriS t acc x = (x.1 ++ [58] ++ restL x.2 t, x.2.length)) := by unfold Hid iriS; rw [if_pos ⟨hok, hlong⟩]
            have HV : Hid (str (x.1 ++ [58] ++ restL x.2 t) = .string ((X1 ++ ⟨#[58]⟩) ++ X3)) := by unfold Hid; rw [hX1, hX3, hrs]; congr 1
            clear hok hX1 hX2 hX3 hrs ea eb ec
            go_wp2_with fail
            go_quiet (fail)
            go_wp2_with fail
            exact ⟨⟨q + 1, by go_num, by omega, by rw [HF.out, HE.out]; exact HV.out.symm, by rw [HF.out, HE.out], by rw [HF.out, HE.out]; exact hz2, below_drewN HB2.out _⟩, by simp [intOf]; omega⟩
          · have HE : Hid (iriS t acc x = acc) := by unfold Hid iriS; rw [if_neg (fun h => hlong h.2)]
            clear hok
            go_wp2_with fail
            go_roundw
            case rel => exact ⟨q + 1, by go_num, by omega, by rw [HF.out, HE.out], by rw [HF.out, HE.out], by rw [HF.out, HE.out]; exact hacc, HB2.out⟩
            case measure => simp [intOf]; omega
      · have hqe : q = ns.length := by omega
        subst hqe
        rw [List.take_length]
        go_wp2
        go_ret
        exact ⟨rfl, HB.out⟩

end Tu
end Go.Proofs.YtnffjoipinhojabGreatDoor

set_option linter.unusedSimpArgs false
set_option linter.unusedVariables false
namespace Go.Proofs.YtnffjoipinhojabGreatDoor
open Go.RowKit

theorem set3_heap {w : World} {f : Nat} {T : TypeId} {a c d v0 v1 v2 : Value} (h : w.heap[f]? = some (.cells #[a, c, d] T (0, 0))) : (((w.setCell ⟨f, 0, none⟩ v0).setCell ⟨f, 1, none⟩ v1).setCell ⟨f, 2, none⟩ v2).heap[f]? = some (.cells #[v0, v1, v2] T (0, 0)) := by
  rw [setCell_heap, setCell_heap, setCell_heap]
  simp [h]

abbrev partsZ : Array Value := #[str [], str [], str []]

set_option maxHeartbeats 1000000 in
/-- what Whole[Parts] runs -/
theorem whole1P (w : World) (b f k : Nat) (s : ByteArray) (r : R (Lit)) (g : Nat) (eg : ∀ args w, (callFunc g args).run Tryz.prog w = .ok (.enter g args) w)
    (h : Rd w b s 0) (hk : w.cell? ⟨k, 0, none⟩ = some (fnV g #[])) (hf : w.heap[f]? = some (.cells partsZ 244 (0, 0))) (hbf : b ≠ f)
    (hr : Calls Tryz.prog g #[.pointer (some ⟨b, 0, none⟩)] w (Out b w litV r)) (hj : ∀ x j, r = .ok x j → j ≤ s.size) :
    Calls Tryz.prog 215 #[.pointer (some ⟨k, 0, none⟩), .pointer (some ⟨b, 0, none⟩), .pointer (some ⟨f, 0, none⟩)] w fun e w' =>
      match whole s r with
      | .ok x j => e = .returned (.tuple #[]) ∧ But b f w w' ∧ w'.heap[f]? = some (.cells #[str x.text, str x.lang, str x.kind] 244 (0, 0))
      | .bad j => e = stopE 2 j ∧ But b f w w' := by
  have hfl : f < w.heap.size := (Array.getElem?_eq_some_iff.1 hf).1
  cases r with
  | bad j =>
    simp only [whole]
    go_enter Tryz.func215, Tryz.ntmps215
    go_wp2_with (go_at_fn g; refine hr.mono ?_; rintro e w2 ⟨rfl, m, hA2⟩)
    exact ⟨rfl, rfl, But.of_adv hA2⟩
  | ok x j =>
    obtain ⟨xt, xl, xk⟩ := x
    have hjs := hj _ _ rfl
    have FB : Hid (∀ w2, Adv b j w w2 → w2.heap[f]? = some (.cells partsZ 244 (0, 0))) := fun w2 a => by
      rw [a.other hfl (Ne.symm hbf)]; exact hf
    have HRD : Hid (Rd w b s 0) := h
    clear hj hf h
    by_cases he : j = s.size
    · simp only [whole, if_pos he]
      have HWE : Hid (∀ w2, Adv b j w w2 → ∀ w3, But b f w2 w3 → w3.heap[b]? = w2.heap[b]? → Calls Tryz.prog 65 #[.pointer (some ⟨b, 0, none⟩)] w3 fun e w' => e = .returned (.tuple #[]) ∧ Adv b j w3 w') := fun w2 a w3 bt hb3 => by
        have r2 := HRD.out.adv a hjs
        have r3 : Rd w3 b s j := ⟨(World.cell?_of_block (w := w2) (a := ⟨b, 0, none⟩) hb3).trans r2.c0, (World.cell?_of_block (w := w2) (a := ⟨b, 1, none⟩) hb3).trans r2.c1, (World.frozen?_of_block (w := w2) (a := ⟨b, 1, none⟩) hb3).trans r2.fz, r2.le, r2.ms⟩
        exact wantEnd_ok w3 b j s r3 he
      clear he
      go_enter Tryz.func215, Tryz.ntmps215
      go_wp2_with (go_at_fn g; refine hr.mono ?_; rintro e w2 ⟨rfl, hA2⟩; have hb2 := FB.out w2 hA2; have q0 : w2.cell? ⟨f, 0, none⟩ = some (str []) := (by rw [Lib.cell_of_heap hb2]; rfl); have q1 : w2.cell? ⟨f, 1, none⟩ = some (str []) := (by rw [Lib.cell_of_heap hb2]; rfl); have q2 : w2.cell? ⟨f, 2, none⟩ = some (str []) := (by rw [Lib.cell_of_heap hb2]; rfl); have qf : ∀ o, w2.frozen? ⟨f, o, none⟩ = false := (fun o => Lib.frozen_of_heap hb2 o); have HB2 : Hid (w2.heap[f]? = some (.cells partsZ 244 (0, 0))) := hb2; clear hb2)
      have hbt : But b f w2 (((w2.setCell ⟨f, 0, none⟩ (str xt)).setCell ⟨f, 1, none⟩ (str xl)).setCell ⟨f, 2, none⟩ (str xk)) := (((But.refl b f w2).set _).set _).set _
      have hfb := set3_heap (v0 := str xt) (v1 := str xl) (v2 := str xk) HB2.out
      refine (HWE.out w2 hA2 _ hbt (by rw [Below.heap_setCell _ _ _ _ hbf, Below.heap_setCell _ _ _ _ hbf, Below.heap_setCell _ _ _ _ hbf])).mono ?_
      rintro e w4 ⟨rfl, hA4⟩
      go_wp2_with fail
      go_end0
      refine ⟨rfl, (But.of_adv hA2).trans (hbt.trans (But.of_adv hA4)), ?_⟩
      rw [hA4.other (Array.getElem?_eq_some_iff.1 hfb).1 (Ne.symm hbf)]
      exact hfb
    · simp only [whole, if_neg he]
      have HWE : Hid (∀ w2, Adv b j w w2 → ∀ w3, But b f w2 w3 → w3.heap[b]? = w2.heap[b]? → Calls Tryz.prog 65 #[.pointer (some ⟨b, 0, none⟩)] w3 fun e w' => e = stopE 2 j ∧ Adv b j w3 w') := fun w2 a w3 bt hb3 => by
        have r2 := HRD.out.adv a hjs
        have r3 : Rd w3 b s j := ⟨(World.cell?_of_block (w := w2) (a := ⟨b, 0, none⟩) hb3).trans r2.c0, (World.cell?_of_block (w := w2) (a := ⟨b, 1, none⟩) hb3).trans r2.c1, (World.frozen?_of_block (w := w2) (a := ⟨b, 1, none⟩) hb3).trans r2.fz, r2.le, r2.ms⟩
        exact wantEnd_bad w3 b j s r3 he
      clear he
      go_enter Tryz.func215, Tryz.ntmps215
      go_wp2_with (go_at_fn g; refine hr.mono ?_; rintro e w2 ⟨rfl, hA2⟩; have hb2 := FB.out w2 hA2; have q0 : w2.cell? ⟨f, 0, none⟩ = some (str []) := (by rw [Lib.cell_of_heap hb2]; rfl); have q1 : w2.cell? ⟨f, 1, none⟩ = some (str []) := (by rw [Lib.cell_of_heap hb2]; rfl); have q2 : w2.cell? ⟨f, 2, none⟩ = some (str []) := (by rw [Lib.cell_of_heap hb2]; rfl); have qf : ∀ o, w2.frozen? ⟨f, o, none⟩ = false := (fun o => Lib.frozen_of_heap hb2 o); have HB2 : Hid (w2.heap[f]? = some (.cells partsZ 244 (0, 0))) := hb2; clear hb2)
      have hbt : But b f w2 (((w2.setCell ⟨f, 0, none⟩ (str xt)).setCell ⟨f, 1, none⟩ (str xl)).setCell ⟨f, 2, none⟩ (str xk)) := (((But.refl b f w2).set _).set _).set _
      refine (HWE.out w2 hA2 _ hbt (by rw [Below.heap_setCell _ _ _ _ hbf, Below.heap_setCell _ _ _ _ hbf, Below.heap_setCell _ _ _ _ hbf])).mono ?_
      rintro e w4 ⟨rfl, hA4⟩
      go_wp2_with fail
      exact ⟨rfl, rfl, (But.of_adv hA2).trans (hbt.trans (But.of_adv hA4))⟩

/-- the world that Whole[Parts] hands to Catch -/
def whP (w : World) (s : ByteArray) (g : Nat) : World := (((((w.alloc (.cells #[fnV g #[]] 247)).alloc (.cells partsZ 244)).alloc (.cells partsZ 244)).alloc (.cells partsZ 244)).alloc (.cells #[.string s, .int .i64 0] 74)).alloc (.cells #[.string s, .int .i64 0] 74)

theorem whP_size (w : World) (s : ByteArray) (g : Nat) : (whP w s g).heap.size = w.heap.size + 6 := by simp [whP]
theorem whP_below (w : World) (s : ByteArray) (g : Nat) : Below w.heap.size w (whP w s g) := ((((((Below.refl _ w).alloc (Nat.le_refl _) _).alloc (by simp) _).alloc (by simp; omega) _).alloc (by simp; omega) _).alloc (by simp; omega) _).alloc (by simp; omega) _

set_option maxHeartbeats 1000000 in
theorem wholeP (w : World) (s : ByteArray) (g : Nat) (r : R (Lit)) (eg : ∀ args w, (callFunc g args).run Tryz.prog w = .ok (.enter g args) w) (hT : Tabs w) (hG : 8 ≤ w.heap.size) (hsz : s.size ≤ 1099511627776)
    (hr : ∀ w2 b, Rd w2 b s 0 → Tabs w2 → 8 ≤ b → Calls Tryz.prog g #[.pointer (some ⟨b, 0, none⟩)] w2 (Out b w2 litV r)) (hj : ∀ x j, r = .ok x j → j ≤ s.size) :
    Calls Tryz.prog 187 #[.string s, fnV g #[]] w fun e w' =>
      (match whole s r with
      | .ok x j => e = .returned (.tuple #[litV x, .nilIface])
      | .bad j => e = .returned (.tuple #[.agg partsZ, placedV 2 j])) ∧ Below w.heap.size w w' := by
  have e1 := enters_of Tryz.func215 (by kernel_rfl) rfl
  obtain ⟨u, hu⟩ : ∃ u, u = (whP w s g).alloc (.cells #[.nilIface] 52) := ⟨_, rfl⟩
  have hsu : u.heap.size = w.heap.size + 7 := by rw [hu]; simp [whP]
  have hlow : ∀ k, k < w.heap.size + 6 → u.heap[k]? = (whP w s g).heap[k]? := fun k hk => by rw [hu]; exact Below.heap_alloc _ _ _ (by rw [whP_size]; exact hk)
  have hB : Below w.heap.size w u := by rw [hu]; exact (whP_below w s g).alloc (by rw [whP_size]; omega) _
  have b5 : u.heap[w.heap.size + 5]? = some (.cells #[.string s, .int .i64 0] 74 (0, 0)) := by
    rw [hlow _ (by omega)]
    have := heap_new (((((w.alloc (.cells #[fnV g #[]] 247)).alloc (.cells partsZ 244)).alloc (.cells partsZ 244)).alloc (.cells partsZ 244)).alloc (.cells #[.string s, .int .i64 0] 74)) (.cells #[.string s, .int .i64 0] 74)
    simpa [whP] using this
  have b2 : u.heap[w.heap.size + 2]? = some (.cells partsZ 244 (0, 0)) := by
    rw [hlow _ (by omega), whP, Below.heap_alloc _ _ _ (by simp), Below.heap_alloc _ _ _ (by simp), Below.heap_alloc _ _ _ (by simp)]
    have := heap_new ((w.alloc (.cells #[fnV g #[]] 247)).alloc (.cells partsZ 244)) (.cells partsZ 244)
    simpa using this
  have b1 : u.heap[w.heap.size + 1]? = some (.cells partsZ 244 (0, 0)) := by
    rw [hlow _ (by omega), whP, Below.heap_alloc _ _ _ (by simp), Below.heap_alloc _ _ _ (by simp), Below.heap_alloc _ _ _ (by simp), Below.heap_alloc _ _ _ (by simp)]
    have := heap_new (w.alloc (.cells #[fnV g #[]] 247)) (.cells partsZ 244)
    simpa using this
  have b3 : u.heap[w.heap.size + 3]? = some (.cells partsZ 244 (0, 0)) := by
    rw [hlow _ (by omega), whP, Below.heap_alloc _ _ _ (by simp), Below.heap_alloc _ _ _ (by simp)]
    have := heap_new (((w.alloc (.cells #[fnV g #[]] 247)).alloc (.cells partsZ 244)).alloc (.cells partsZ 244)) (.cells partsZ 244)
    simpa using this
  have b0 : u.heap[w.heap.size]? = some (.cells #[fnV g #[]] 247 (0, 0)) := by
    rw [hlow _ (by omega), whP, Below.heap_alloc _ _ _ (by simp; omega), Below.heap_alloc _ _ _ (by simp; omega), Below.heap_alloc _ _ _ (by simp; omega), Below.heap_alloc _ _ _ (by simp; omega), Below.heap_alloc _ _ _ (by simp)]
    exact heap_new _ _
  have b6 : u.heap[w.heap.size + 6]? = some (.cells #[.nilIface] 52 (0, 0)) := by
    rw [hu]
    have := heap_new (whP w s g) (.cells #[.nilIface] 52)
    rw [whP_size] at this
    exact this
  have hRd : Rd u (w.heap.size + 5) s 0 := ⟨by rw [Lib.cell_of_heap b5]; rfl, by rw [Lib.cell_of_heap b5]; rfl, Lib.frozen_of_heap b5 1, Nat.zero_le _, by omega⟩
  have hTu : Tabs u := hT.below hB (by omega) (by omega)
  have hW1 := whole1P u (w.heap.size + 5) (w.heap.size + 2) w.heap.size s r g eg hRd (by rw [Lib.cell_of_heap b0]; rfl) b2 (by omega) (hr u _ hRd hTu (by omega)) hj
  have CEL : Hid (∀ (w2 : World) (x : Nat) (c : Array Value) (T : TypeId), w2.heap[x]? = some (.cells c T (0, 0)) → (∀ o, w2.cell? ⟨x, o, none⟩ = c[o]?) ∧ ∀ o, w2.frozen? ⟨x, o, none⟩ = false) := fun w2 x c T hx => ⟨fun o => Lib.cell_of_heap hx o, fun o => Lib.frozen_of_heap hx o⟩
  have hmf := mkFunc
  cases hw : whole s r with
  | ok x j =>
    rw [hw] at hW1
    obtain ⟨xt, xl, xk⟩ := x
    have hC := catch_ok (whP w s g) 215 #[.pointer (some ⟨w.heap.size, 0, none⟩), .pointer (some ⟨w.heap.size + 5, 0, none⟩), .pointer (some ⟨w.heap.size + 2, 0, none⟩)]
      (fun w' => But (w.heap.size + 5) (w.heap.size + 2) u w' ∧ w'.heap[w.heap.size + 2]? = some (.cells #[str xt, str xl, str xk] 244 (0, 0))) e1 (by rw [← hu]; exact hW1)
      (fun w' hq => by rw [whP_size, hq.1.2.2 _ (by omega) (by omega) (by omega)]; exact b6)
    rw [whP_size] at hC
    have HC : Hid (Calls Tryz.prog 30 #[fnV 215 #[.pointer (some ⟨w.heap.size, 0, none⟩), .pointer (some ⟨w.heap.size + 5, 0, none⟩), .pointer (some ⟨w.heap.size + 2, 0, none⟩)]] (whP w s g) fun e w' => e = .returned .nilIface ∧ (w'.heap[w.heap.size + 2]? = some (.cells #[str xt, str xl, str xk] 244 (0, 0)) ∧ w'.heap[w.heap.size + 1]? = some (.cells partsZ 244 (0, 0))) ∧ Below w.heap.size w w' ∧ w.heap.size + 7 ≤ w'.heap.size) := hC.mono (by
        rintro e w' ⟨rfl, w2, ⟨q1, q2⟩, rfl⟩
        refine ⟨rfl, ⟨?_, ?_⟩, ?_, by have := q1.1; simp; omega⟩
        · rw [Below.heap_setCell _ _ _ _ (by simp)]; exact q2
        · rw [Below.heap_setCell _ _ _ _ (by simp), q1.2.2 _ (by omega) (by omega) (by omega)]; exact b1
        · refine Below.setCell (hB.trans ⟨q1.2.1.1, q1.2.1.2.1, q1.2.1.2.2, q1.1, fun k hk => q1.2.2 k (by omega) (by omega) (by omega)⟩) (by simp) _)
    clear hC hW1 hr hj hu hlow hB b0 b1 b2 b3 b5 b6 hRd hTu hT hw
    go_enter Tryz.func187, Tryz.ntmps187
    go_wp2_with fail
    refine (over_any _ _).mono ?_
    rintro e w3 ⟨rfl, rfl⟩
    go_wp2_with fail
    refine HC.out.mono ?_
    rintro e w4 ⟨rfl, ⟨c2, c1⟩, hB4, hz4⟩
    have k2 := (CEL.out _ _ _ _ c2).1
    have k20 := k2 0
    have k21 := k2 1
    have k22 := k2 2
    have k1 := (CEL.out _ _ _ _ c1).1
    have k10 := k1 0
    have k11 := k1 1
    have k12 := k1 2
    have kf := (CEL.out _ _ _ _ c1).2
    simp at k20 k21 k22 k10 k11 k12
    clear k2 k1 c1 c2
    go_wp2_with fail
    refine bodyPost_ret (v := .tuple #[.agg #[str xt, str xl, str xk], .nilIface]) (by simp [results, Tryz.results187, go_sem, k10, k11, k12]) rfl ⟨rfl, ?_⟩
    exact ((hB4.setCell (p := ⟨w.heap.size + 1, 0, none⟩) (by simp) _).setCell (p := ⟨w.heap.size + 1, 1, none⟩) (by simp) _).setCell (p := ⟨w.heap.size + 1, 2, none⟩) (by simp) _
  | bad j =>
    rw [hw] at hW1
    have hC := catch_stop (whP w s g) 215 #[.pointer (some ⟨w.heap.size, 0, none⟩), .pointer (some ⟨w.heap.size + 5, 0, none⟩), .pointer (some ⟨w.heap.size + 2, 0, none⟩)]
      (fun w' => But (w.heap.size + 5) (w.heap.size + 2) u w') 2 j e1 (by rw [← hu]; exact hW1)
      (fun w' hq => by rw [whP_size, hq.2.2 _ (by omega) (by omega) (by omega)]; exact b6)
    rw [whP_size] at hC
    have HC : Hid (Calls Tryz.prog 30 #[fnV 215 #[.pointer (some ⟨w.heap.size, 0, none⟩), .pointer (some ⟨w.heap.size + 5, 0, none⟩), .pointer (some ⟨w.heap.size + 2, 0, none⟩)]] (whP w s g) fun e w' => e = .returned (placedV 2 j) ∧ (w'.heap[w.heap.size + 3]? = some (.cells partsZ 244 (0, 0)) ∧ w'.heap[w.heap.size + 1]? = some (.cells partsZ 244 (0, 0))) ∧ Below w.heap.size w w' ∧ w.heap.size + 7 ≤ w'.heap.size) := hC.mono (by
        rintro e w' ⟨rfl, w2, q1, rfl⟩
        have hz2 : w.heap.size + 7 ≤ w2.heap.size := by have := q1.1; omega
        refine ⟨rfl, ⟨?_, ?_⟩, ?_, by simp; omega⟩
        · rw [Below.heap_setCell _ _ _ _ (by simp), Below.heap_alloc _ _ _ (by omega), q1.2.2 _ (by omega) (by omega) (by omega)]; exact b3
        · rw [Below.heap_setCell _ _ _ _ (by simp), Below.heap_alloc _ _ _ (by omega), q1.2.2 _ (by omega) (by omega) (by omega)]; exact b1
        · refine Below.setCell (Below.alloc (hB.trans ⟨q1.2.1.1, q1.2.1.2.1, q1.2.1.2.2, q1.1, fun k hk => q1.2.2 k (by omega) (by omega) (by omega)⟩) (by omega) _) (by simp) _)
    clear hC hW1 hr hj hu hlow hB b0 b1 b2 b3 b5 b6 hRd hTu hT hw
    go_enter Tryz.func187, Tryz.ntmps187
    go_wp2_with fail
    refine (over_any _ _).mono ?_
    rintro e w3 ⟨rfl, rfl⟩
    go_wp2_with fail
    refine HC.out.mono ?_
    rintro e w4 ⟨rfl, ⟨c2, c1⟩, hB4, hz4⟩
    have k2 := (CEL.out _ _ _ _ c2).1
    have k20 := k2 0
    have k21 := k2 1
    have k22 := k2 2
    have k1 := (CEL.out _ _ _ _ c1).1
    have k10 := k1 0
    have k11 := k1 1
    have k12 := k1 2
    have kf := (CEL.out _ _ _ _ c1).2
    simp at k20 k21 k22 k10 k11 k12
    clear k2 k1 c1 c2
    go_wp2_with fail
    refine bodyPost_ret (v := .tuple #[.agg partsZ, placedV 2 j]) (by simp [results, Tryz.results187, go_sem, k10, k11, k12]) rfl ⟨rfl, ?_⟩
    exact ((hB4.setCell (p := ⟨w.heap.size + 1, 0, none⟩) (by simp) _).setCell (p := ⟨w.heap.size + 1, 1, none⟩) (by simp) _).setCell (p := ⟨w.heap.size + 1, 2, none⟩) (by simp) _


theorem parts_le {s : ByteArray} {i : Nat} {x : Lit} {j : Nat} (h : parts s i = .ok x j) : j ≤ s.size := (parts_facts h).2.2.2.2.2.1

/-- scan.Whole of a literal's parts. -/
theorem wholeParts (w : World) (s : ByteArray) (hT : Tabs w) (hG : 8 ≤ w.heap.size) (hsz : s.size ≤ 1099511627776) :
    Calls Tryz.prog 187 #[.string s, fnV 188 #[]] w fun e w' =>
      (match whole s (parts s 0) with
      | .ok x j => e = .returned (.tuple #[litV x, .nilIface])
      | .bad j => e = .returned (.tuple #[.agg partsZ, placedV 2 j])) ∧ Below w.heap.size w w' :=
  wholeP w s 188 (parts s 0) (enters_of Tryz.func188 (by kernel_rfl) rfl) hT hG hsz (fun w2 b h1 h2 h3 => parts_any w2 b 0 s h1 h2 h3 hsz) (fun x j h => parts_le h)
end Go.Proofs.YtnffjoipinhojabGreatDoor

namespace Go.Proofs.YtnffjoipinhojabGreatDoor
open Go.RowKit
open Back (vfrom)

theorem as_nil (v : Value) (w : World) : Calls Tryz.prog 42 #[.nilIface, .iface 96 v] w fun e w' => e = .returned (.bool false) ∧ w' = w := by
  go_enter Tryz.func42, Tryz.ntmps42
  go_wp2
  go_ret
  exact ⟨rfl, rfl⟩

theorem number_nil (w : World) : Calls Tryz.prog 20 #[.nilIface] w fun e w' => e = .returned (.int .i64 0) ∧ Below w.heap.size w w' := by
  go_enter Tryz.func20, Tryz.ntmps20
  go_wp2_with fail
  refine (as_nil _ _).mono ?_
  rintro e w' ⟨rfl, rfl⟩
  go_wp2
  go_ret
  exact ⟨rfl, (Below.refl _ w).alloc (Nat.le_refl _) _⟩

/-- a literal in its one form has parts, of which it is the form -/
theorem kind3 {s : ByteArray} (h : kindOf s = 3) : s.size ≤ 200 ∧ ∃ p, parts s 0 = .ok p s.size ∧ form p.text p.lang p.kind = s.data.toList := by
  unfold kindOf at h
  split at h
  · omega
  · rename_i hs
    refine ⟨by omega, ?_⟩
    split at h
    · omega
    · rename_i p j hw
      obtain ⟨ht, rfl⟩ := Back.whole_ok hw
      split at h
      · rename_i he
        have hk := term_kind ht
        have hb : bt s 0 = 34 := by omega
        unfold term at ht
        rw [if_neg (by omega), if_neg (by omega), if_pos hb] at ht
        split at ht
        · cases ht
        · rename_i x j' hl
          cases ht
          unfold literal at hl
          split at hl
          · cases hl
          · rename_i q j'' hp
            simp only [R.ok.injEq] at hl
            refine ⟨q, by rw [hp, hl.2], ?_⟩
            rw [hl.1]
            exact he
      · omega

def partsOf (s : ByteArray) : Lit × Int := if kindOf s = 3 then (match parts s 0 with
    | .ok p _ => (p, 0)
    | .bad _ => (⟨[], [], []⟩, 2)) else (⟨[], [], []⟩, 4)

set_option maxHeartbeats 2000000 in
set_option maxRecDepth 20000 in
theorem partsP_any (w : World) (s : ByteArray) (hT : Tabs w) (hG : 8 ≤ w.heap.size) :
    Calls Tryz.prog 139 #[.string s] w fun e w' => e = .returned (.tuple #[str (partsOf s).1.text, str (partsOf s).1.lang, str (partsOf s).1.kind, .int .i64 (partsOf s).2]) ∧ Below w.heap.size w w' := by
  have HK : Hid (Calls Tryz.prog 80 #[.string s] w fun e w' => e = .returned (.int .i64 (kindOf s)) ∧ Below w.heap.size w w') := kind_any w s hT hG
  by_cases h3 : kindOf s = 3
  · obtain ⟨hs, p, hp, -⟩ := kind3 h3
    have HP : Hid (partsOf s = (p, 0)) := by unfold Hid partsOf; rw [if_pos h3, hp]
    have hwp : whole s (parts s 0) = .ok p s.size := by rw [hp]; unfold whole; simp
    obtain ⟨T, hTt⟩ : ∃ V : ByteArray, V = ⟨p.text.toArray⟩ := ⟨_, rfl⟩
    obtain ⟨L, hLl⟩ : ∃ V : ByteArray, V = ⟨p.lang.toArray⟩ := ⟨_, rfl⟩
    obtain ⟨K, hKk⟩ : ∃ V : ByteArray, V = ⟨p.kind.toArray⟩ := ⟨_, rfl⟩
    have HW : Hid (∀ w1, Below w.heap.size w w1 → Calls Tryz.prog 187 #[.string s, fnV 188 #[]] w1 fun e w' => e = .returned (.tuple #[tripV T L K, .nilIface]) ∧ Below w.heap.size w w') := by
      intro w1 hb
      have hw2 := wholeParts w1 s (hT.below hb (World.block_lt_of_cell? w ⟨_, _, none⟩ (hT.1 0 (by omega))) (World.block_lt_of_cell? w ⟨_, _, none⟩ (hT.2 0 (by omega)).1)) (Nat.le_trans hG hb.size) (by omega)
      rw [hwp] at hw2
      refine hw2.mono ?_
      rintro e w' ⟨he, hb2⟩
      exact ⟨by rw [hTt, hLl, hKk]; exact he, hb.trans (hb2.mono hb.size)⟩
    have HR : Hid ((.tuple #[str p.text, str p.lang, str p.kind, .int .i64 0] : Value) = .tuple #[.string T, .string L, .string K, .int .i64 0]) := by unfold Hid; rw [hTt, hLl, hKk]
    rw [h3] at HK
    rw [HP.out]
    simp only
    rw [HR.out]
    clear hT hG h3 hs hp HP hwp hTt hLl hKk HR
    have HM : Hid (∀ w2 : World, KS w2 w2.heap.size T L K (w2.alloc (.cells #[.string T, .string L, .string K] 244))) := fun w2 => KS.mk w2 T L K _
    have HN : Hid (∀ w2 n w1, KS w2 n T L K w1 → Calls Tryz.prog 20 #[.nilIface] w1 fun e w3 => e = .returned (.int .i64 0) ∧ KS w2 n T L K w3) := by
      intro w2 n w1 h1
      refine (number_nil w1).mono ?_
      rintro e w3 ⟨rfl, hb⟩
      exact ⟨rfl, h1.on hb⟩
    go_enter Tryz.func139, Tryz.ntmps139
    go_wp2_with fail
    refine HK.out.mono ?_
    rintro e w1 ⟨rfl, hb1⟩
    have HB1 : Hid (Below w.heap.size w w1) := hb1
    clear hb1
    go_wp2_with fail
    refine (HW.out _ HB1.out).mono ?_
    rintro e w2 ⟨rfl, hb2⟩
    have HB2 : Hid (Below w.heap.size w w2) := hb2
    clear hb2
    go_wp2_with fail
    have hM := HM.out w2
    generalize w2.alloc (.cells #[.string T, .string L, .string K] 244) = w3 at hM ⊢
    obtain ⟨m0, m1, m2, m3⟩ := hM
    go_region_held3 (fun w' => w'.cell? ⟨w2.heap.size, 0, none⟩ = some (.string T) ∧ w'.cell? ⟨w2.heap.size, 1, none⟩ = some (.string L) ∧ w'.cell? ⟨w2.heap.size, 2, none⟩ = some (.string K) ∧ Below w2.heap.size w2 w') (first | assumption | exact ⟨m0, m1, m2, m3⟩ | exact ⟨m0, m1, m2, m3.drew⟩) (first | (go_at_call 20; refine (HN.out w2 w2.heap.size _ (by first | assumption | exact ⟨by assumption, by assumption, by assumption, by assumption⟩)).mono ?_; rintro e w4 ⟨rfl, hS⟩))
    all_goals go_wp2_with fail
    all_goals refine bodyPost_ret (v := .tuple #[.string T, .string L, .string K, .int .i64 0]) (by simp [results, Tryz.results139, go_sem]) rfl ⟨rfl, ?_⟩
    all_goals exact HB2.out.trans ((KS.low (n := w2.heap.size) (a := T) (b := L) (c := K) (by assumption)).mono HB2.out.size)
  · have HP : Hid (partsOf s = (⟨[], [], []⟩, 4)) := by unfold Hid partsOf; rw [if_neg h3]
    rw [HP.out]
    simp only
    have hk : ((kindOf s : Int) != 3) = true := by simp; omega
    clear hT hG
    generalize kindOf s = k at *
    go_enter Tryz.func139, Tryz.ntmps139
    go_wp2_with fail
    refine HK.out.mono ?_
    rintro e w1 ⟨rfl, hb1⟩
    go_wp2_with fail
    exact bodyPost_ret (v := .tuple #[str [], str [], str [], .int .i64 4]) (by simp [results, Tryz.results139, go_sem]) rfl ⟨rfl, hb1⟩

end Go.Proofs.YtnffjoipinhojabGreatDoor

