import Derived.Test.YtnffjoipinhojabDoorHc
set_option linter.unusedSimpArgs false
set_option linter.unusedVariables false
namespace Go.Proofs.YtnffjoipinhojabDoor
open Go.RowKit

/-- what the document's own opening ends in -/
def OpP (D : ByteArray) (w : World) (e : Ending) (w' : World) : Prop :=
  ∃ (v : Value) (b : Bool) (l : List (List UInt8)), e = .returned (.tuple #[v, .bool b]) ∧ OwnT w' (w.heap.size + 1) v l ∧ l.length ≤ D.size ∧ (b = true → DictOf D l) ∧ (b = false → ∀ L, ¬ DictOf D L) ∧ (∀ L, DictOf D L → l = L) ∧ Below w.heap.size w w'

theorem own_nilT (w : World) (base : Nat) : OwnT w base (.slice none 0 0) [] := ⟨rfl, .inl ⟨rfl, rfl⟩⟩

theorem after_append {w w2 w5 : World} {c : Obj} {v : Value} {acc : List (List UInt8)} {D : ByteArray} {p : Nat} {bad : Bool} (ho : OwnT w2 (w.heap.size + 1) v acc) (hg : (w2.alloc c).grownBy w5 v.ownBlock) (hb : Below w.heap.size w w2) (hH : Hn w.heap.size D p bad w2) :
    Hn w.heap.size D p bad w5 ∧ Below w.heap.size w w5 := by
  have hrow : ∀ y, v.ownBlock = some y → w.heap.size + 1 ≤ y := fun y hy => by
    rcases ho.2 with ⟨rfl, _⟩ | ⟨g, cap, cur, rfl, e2, _⟩
    · cases hy
    · cases hy
      exact e2
  have hlt := hH.lt
  have hk : ∀ x, x ≤ w.heap.size → w5.heap[x]? = w2.heap[x]? := fun x hx =>
    (hg.block x (by simp; omega) (fun e => by have := hrow x e.symm; omega)).trans (Below.heap_alloc _ _ _ (by omega))
  have hs := hg.size
  simp at hs
  exact ⟨(hk _ (Nat.le_refl _)).trans hH, hg.os.trans hb.os, hg.tape.trans hb.tape, hg.output.trans hb.output, by have := hb.size; omega, fun x hx => (hk x (by omega)).trans (hb.block x hx)⟩

theorem OwnT.fmk {w w' : World} {base r : Nat} {v : Value} {l : List (List UInt8)} (h : OwnT w base v l) (hF : Fm r w w') (hr : r < base) : OwnT w' base v l :=
  row_kept h (fun k h1 h2 => hF.block k h2 (fun e => by cases e; omega))

set_option maxHeartbeats 8000000 in
set_option maxRecDepth 20000 in
theorem openRef_any (w : World) (D : ByteArray) (hD : D.size ≤ 1048576) :
    Calls Tryd.prog 10 #[.string D] w (OpP D w) := by
  have mixed : Tryd.prog.follows Departure.mixedOrders = true := by kernel_rfl
  obtain ⟨r, hr⟩ : ∃ r, w.heap.size = r := ⟨_, rfl⟩
  have HNo : Hid (∀ w', Below w.heap.size w w' → (∀ L, ¬ DictOf D L) → OpP D w (.returned (.tuple #[.slice none 0 0, .bool false])) w') := fun w' hb hn => ⟨_, false, [], rfl, own_nilT _ _, Nat.zero_le _, (fun e => by cases e), fun _ => hn, fun L hL => absurd hL (hn L), hb⟩
  have HNu : Hid (∀ w1 p bad, Hn r D p bad w1 → p ≤ D.size → Calls Tryd.prog 29 #[.pointer (some ⟨r, 0, none⟩)] w1 (NumP r D p bad w1)) := fun w1 p bad h1 h2 => number_h w1 r p D bad h1 h2 (by omega)
  have HTa : Hid (∀ w1 p n bad, Hn r D p bad w1 → p ≤ D.size → n ≤ 9223372036854775807 → Calls Tryd.prog 30 #[.pointer (some ⟨r, 0, none⟩), .int .i64 (n : Nat)] w1 (TakP r D p n bad w1)) := fun w1 p n bad h1 h2 h3 => take_h w1 r p n D bad h1 h2 (by omega) h3
  have hH : Hn r D 0 false (w.alloc (.cells #[.string D, .int .i64 0, .bool false] 69)) := by rw [← hr]; exact World.alloc_heap_new w _
  have HB0 : Hid (Below w.heap.size w (w.alloc (.cells #[.string D, .int .i64 0, .bool false] 69))) := (Below.refl _ w).alloc (Nat.le_refl _) _
  have HC := HNu.out _ 0 false hH (Nat.zero_le _)
  have hsz : (w.alloc (.cells #[.string D, .int .i64 0, .bool false] 69)).heap.size = r + 1 := by simp [hr]
  go_enter Tryd.func10, Tryd.ntmps10
  go_wp2_with fail
  refine HC.mono ?_
  rintro e w1 ⟨n, j, bad, rfl, hH1, hF1, _, hj, hn, hlt, hx⟩
  have HG1 : Hid (Gh D n 0 j bad []) := gh_start hx
  have HB1 : Hid (Below w.heap.size w w1 ∧ r < w1.heap.size) := ⟨HB0.out.trans (hF1.below (by omega) (by simp)), by have := hF1.size; omega⟩
  have HH1 : Hid (Hn r D j bad w1) := hH1
  clear hH1 hF1 hx hlt HC hsz HB0 hH
  go_wp2_with fail
  go_loopw [6, 7] (fun t6 t7 wr => ∃ (i p : Nat) (bad : Bool) (acc : List (List UInt8)), t7 = .int .i64 i ∧ acc.length = i ∧ OwnT wr (w.heap.size + 1) t6 acc ∧ Hn r D p bad wr ∧ Below w.heap.size w wr ∧ p ≤ D.size ∧ i ≤ p + 1 ∧ (bad = false → i ≤ p) ∧ (∀ t ∈ acc, t.length ≤ p) ∧ Gh D n i p bad acc) (fun t6 t7 wr => D.size + 2 - (intOf t7).toNat)
  case atStart => exact ⟨0, j, bad, [], rfl, rfl, own_nilT _ _, HH1.out, HB1.out.1, hj, by omega, fun _ => Nat.zero_le _, (fun t ht => by cases ht), HG1.out⟩
  case round =>
    obtain ⟨i, p, bad, acc, rfl, hil, hown, hH, hb, hp, hip, hip2, hac, hg⟩ := hrel
    obtain ⟨o, cp, rfl⟩ := row_form hown
    rw [hil] at hown
    have HO : Hid (OwnT wr (w.heap.size + 1) (.slice o i cp) acc) := hown
    have HIL : Hid (acc.length = i) := hil
    have HHn : Hid (Hn r D p bad wr) := hH
    have HB : Hid (Below w.heap.size w wr) := hb
    have HAc : Hid (∀ t ∈ acc, t.length ≤ p) := hac
    have HG : Hid (Gh D n i p bad acc) := hg
    have c2 := hH.c2
    clear hown hH hb hac hg HH1 HB1 HG1
    cases bad with
    | true =>
      have HN : Hid (∀ L, ¬ DictOf D L) := gh_bad HG.out
      by_cases hin : i < n
      · have hin' : (i : Int) < (n : Int) := by omega
        go_wp2_with fail
        exact bodyPost_ret (v := .tuple #[.slice none 0 0, .bool false]) (by simp [results, Tryd.results10, go_sem]) rfl (HNo.out _ HB.out HN.out)
      · have hin' : ¬ (i : Int) < (n : Int) := by omega
        go_wp2_with fail
        exact bodyPost_ret (v := .tuple #[.slice none 0 0, .bool false]) (by simp [results, Tryd.results10, go_sem]) rfl (HNo.out _ HB.out HN.out)
    | false =>
      have hip3 : i ≤ p := hip2 rfl
      clear hip2 hip
      by_cases hin : i < n
      · have hin' : (i : Int) < (n : Int) := by omega
        by_cases h4 : i % 4 = 0
        · have hC := HNu.out wr p false HHn.out hp
          go_wp2_with fail
          refine hC.mono ?_
          rintro e w1 ⟨m, j1, b1, rfl, hH1, hF1, hpj, hj1, hm, hlt1, hx1⟩
          have HB1 : Hid (Below w.heap.size w w1) := HB.out.trans (hF1.below (by omega) HB.out.size)
          have HH1 : Hid (Hn r D j1 b1 w1) := hH1
          have HF1 : Hid (Fm r wr w1) := hF1
          have HX1 : Hid (∀ x post, x ≤ 9223372036854775807 → D.data.toList.drop p = Lib.uvarint x ++ post → m = x ∧ j1 = p + (Lib.uvarint x).length ∧ b1 = false) := hx1
          have HL1 : Hid (b1 = false → p < j1) := fun e => (hlt1 e).2
          have hC := HTa.out w1 j1 m b1 hH1 hj1 hm
          clear hH1 hF1 hx1 hlt1
          go_wp2_with fail
          refine hC.mono ?_
          rintro e w2 ⟨t, j2, b2, rfl, hH2, hF2, hjj, hj2, htl, hbb, hx2⟩
          have HG2 : Hid (Gh D n (i + 1) j2 b2 (acc ++ [t])) := gh_zero HG.out hin h4 HX1.out hx2
          have HHw2 : Hid (Hn r D j2 b2 w2) := hH2
          have HOw2 : Hid (OwnT w2 (w.heap.size + 1) (.slice o i cp) acc) := HO.out.fmk (HF1.out.trans hF2) (by omega)
          have HBw2 : Hid (Below w.heap.size w w2) := HB1.out.trans (hF2.below (by omega) HB1.out.size)
          have HP2 : Hid (b2 = false → i + 1 ≤ j2) := fun e => by have := HL1.out (hbb e); omega
          clear hH2 hF2 hx2 hbb hC HX1 HL1 HF1 HH1 HB1
          have hoA : (w2.alloc (.cells #[strT t] 9)).ownsRow (w.heap.size + 1) 9 1 (.slice o i cp) i (acc.map strT) := by
            have := HOw2.out.alloc (.cells #[strT t] 9)
            rw [HIL.out] at this
            exact this
          have hzz : w.heap.size + 1 ≤ w2.heap.size := by have := HHw2.out.lt; omega
          obtain ⟨i0, hi0, hz0, hz1, hz2⟩ := info_parts infoStr
          go_wp2_with (first
            | (at_builtin; refine wpList_append_own _ (by rfl) _ _ _ (by rfl) (w.heap.size + 1) 9 i0 _ 1 16 Tryd.underlying22 hi0 hz0 hz1 hz2 rfl (by decide) (.slice o i cp) i (acc.map strT) (by rfl) hoA ⟨w2.heap.size, 0, none⟩ 1 1 [strT t] (by rfl) (by rfl) (one_new _ _ _) (by simp [Value.oneCell']) (by unfold maxLen; omega) (by omega) (by simp; omega) ?_; intro v5 w5 ho5 hg5 hi5))
          go_roundw
          case rel =>
            have hA := after_append (D := D) (p := j2) (bad := b2) HOw2.out hg5 HBw2.out (by rw [hr]; exact HHw2.out)
            refine ⟨i + 1, j2, b2, acc ++ [t], by go_num, by rw [List.length_append, HIL.out]; rfl, ?_, by rw [← hr]; exact hA.1, hA.2, hj2, by omega, HP2.out, ?_, HG2.out⟩
            · have := ho5
              unfold OwnT
              rw [List.length_append, HIL.out, List.map_append]
              exact this
            · intro y hy
              rcases List.mem_append.1 hy with h1 | h1
              · have := HAc.out y h1; omega
              · rw [List.mem_singleton.1 h1]; omega
          case measure => simp [intOf]; omega
        · obtain ⟨q, rfl⟩ : ∃ q, i = q + 1 := ⟨i - 1, by omega⟩
          obtain ⟨a, ha⟩ : ∃ a, acc[q]? = some a := ⟨_, List.getElem?_eq_getElem (by have := HIL.out; omega)⟩
          have hal : a.length ≤ p := HAc.out a (List.mem_of_getElem? ha)
          obtain ⟨g, rfl, hgb⟩ : ∃ g, o = some ⟨g, 0, none⟩ ∧ w.heap.size + 1 ≤ g := by
            rcases HO.out.2 with ⟨e1, e2⟩ | ⟨g, cap, cur, e1, e2, e3, _⟩
            · cases e1
            · injection e1 with e1 _ _
              exact ⟨g, e1, e2⟩
          have HCe : Hid (∀ w1, OwnT w1 (w.heap.size + 1) (.slice (some ⟨g, 0, none⟩) (q + 1) cp) acc → w1.cell? ⟨g, q, none⟩ = some (strT a)) := fun w1 h1 => by
            have h2 : w1.ownsRow (w.heap.size + 1) 9 1 (.slice (some ⟨g, 0, none⟩) (acc.map strT).length cp) (acc.map strT).length (acc.map strT) := by
              rw [List.length_map, HIL.out]
              have := h1
              unfold OwnT at this
              rw [HIL.out] at this
              exact this
            have hc := h2.cells (g := g) rfl q (strT a) (by rw [List.getElem?_map, ha]; rfl)
            have e : (⟨g, 0, none⟩ : Addr).add q = ⟨g, q, none⟩ := by unfold Addr.add; split <;> simp_all
            rw [e] at hc
            exact hc
          have HAA : Hid (acc[q + 1 - 1]? = some a) := by unfold Hid; simpa using ha
          obtain ⟨A, hA⟩ : ∃ A : ByteArray, A = ⟨a.toArray⟩ := ⟨_, rfl⟩
          rw [show strT a = .string A by rw [hA]] at HCe
          have zA : A.size = a.length := by rw [hA]; exact arrSize a
          have HAd : Hid (A.data.toList = a) := by unfold Hid; rw [hA]
          have h4j : ¬ ((q : Int) + 1) % 4 = 0 := by omega
          have hw1 : IntKind.i64.wrap ((q : Int) + 1 - 1) = q := by rw [IntKind.wrap_i64]; omega
          have hw0 : IntKind.i64.wrap (q : Int) = q := by rw [IntKind.wrap_i64]; omega
          have hi0' : (0 : Int) ≤ q := by omega
          have hi1' : (q : Int) < (q : Int) + 1 := by omega
          have hC := HNu.out wr p false HHn.out hp
          clear hA ha
          go_wp2_with fail
          refine hC.mono ?_
          rintro e w1 ⟨k, p1, b0, rfl, hH1, hF1, hpj, hp1, hk, hlt1, hx1⟩
          have HB1 : Hid (Below w.heap.size w w1) := HB.out.trans (hF1.below (by omega) HB.out.size)
          have HH1 : Hid (Hn r D p1 b0 w1) := hH1
          have HO1 : Hid (OwnT w1 (w.heap.size + 1) (.slice (some ⟨g, 0, none⟩) (q + 1) cp) acc) := HO.out.fmk hF1 (by omega)
          have d1 := HCe.out w1 HO1.out
          have HX1 : Hid (∀ x post, x ≤ 9223372036854775807 → D.data.toList.drop p = Lib.uvarint x ++ post → k = x ∧ p1 = p + (Lib.uvarint x).length ∧ b0 = false) := hx1
          have HL1 : Hid (b0 = false → p < p1) := fun e => (hlt1 e).2
          clear hH1 hF1 hx1 hlt1 hC
          by_cases hka : a.length < k
          · have hka' : (a.length : Int) < (k : Int) := by omega
            have HN : Hid (∀ L, ¬ DictOf D L) := gh_over HG.out hin h4 HAA.out HX1.out hka
            go_wp2_with fail
            exact bodyPost_ret (v := .tuple #[.slice none 0 0, .bool false]) (by simp [results, Tryd.results10, go_sem]) rfl (HNo.out _ HB1.out HN.out)
          · have hka' : ¬ (a.length : Int) < (k : Int) := by omega
            have hC := HNu.out w1 p1 b0 HH1.out hp1
            go_wp2_with fail
            refine hC.mono ?_
            rintro e w2 ⟨m, j1, b1, rfl, hH2, hF2, hpj2, hj1, hm, hlt2, hx2⟩
            have HB2 : Hid (Below w.heap.size w w2) := HB1.out.trans (hF2.below (by omega) HB1.out.size)
            have HH2 : Hid (Hn r D j1 b1 w2) := hH2
            have HO2 : Hid (OwnT w2 (w.heap.size + 1) (.slice (some ⟨g, 0, none⟩) (q + 1) cp) acc) := HO1.out.fmk hF2 (by omega)
            have HX2 : Hid (∀ x post, x ≤ 9223372036854775807 → D.data.toList.drop p1 = Lib.uvarint x ++ post → m = x ∧ j1 = p1 + (Lib.uvarint x).length ∧ b1 = b0) := hx2
            have HL2 : Hid (b1 = false → p < j1) := fun e => by have := HL1.out (hlt2 e).1; omega
            have hC := HTa.out w2 j1 m b1 hH2 hj1 hm
            clear hH2 hF2 hx2 hlt2
            go_wp2_with fail
            refine hC.mono ?_
            rintro e w3 ⟨t, j2, b2, rfl, hH3, hF3, hjj, hj2, htl, hbb, hx3⟩
            have HG2 : Hid (Gh D n (q + 1 + 1) j2 b2 (acc ++ [a.take k ++ t])) := gh_in HG.out hin h4 HAA.out HX1.out HX2.out hx3
            have HHw3 : Hid (Hn r D j2 b2 w3) := hH3
            have HOw3 : Hid (OwnT w3 (w.heap.size + 1) (.slice (some ⟨g, 0, none⟩) (q + 1) cp) acc) := HO2.out.fmk hF3 (by omega)
            have HBw3 : Hid (Below w.heap.size w w3) := HB2.out.trans (hF3.below (by omega) HB2.out.size)
            have HP2 : Hid (b2 = false → q + 1 + 1 ≤ j2) := fun e => by have := HL2.out (hbb e); omega
            have d3 := HCe.out w3 HOw3.out
            obtain ⟨X, hX⟩ : ∃ X : ByteArray, X = ⟨t.toArray⟩ := ⟨_, rfl⟩
            have zX : X.size = t.length := by rw [hX]; exact arrSize t
            have HXd : Hid (X.data.toList = t) := by unfold Hid; rw [hX]
            rw [show strT t = .string X by rw [hX]]
            obtain ⟨Y, hY⟩ : ∃ Y : ByteArray, A.extract 0 k = Y := ⟨_, rfl⟩
            have HYd : Hid (Y.data.toList = a.take k) := by
              unfold Hid
              rw [← hY, ByteArray.data_extract, Array.toList_extract]
              simp only [List.extract, List.drop_zero, Nat.sub_zero]
              rw [HAd.out]
            have zY : Y.size ≤ a.length := by rw [← lenOf, HYd.out, List.length_take]; omega
            obtain ⟨C, hCC⟩ : ∃ C : ByteArray, C = Y ++ X := ⟨_, rfl⟩
            have eC : ∀ w, (Op.stringOp .add Y X).run Tryd.prog w = .ok (.string C) w := fun w => by rw [hCC]; exact run_string_add_sum w Y X (by omega)
            have HCd : Hid (C.data.toList = a.take k ++ t) := by unfold Hid; rw [hCC, catD, HYd.out, HXd.out]
            have hk0 : (0 : Int) ≤ k := by omega
            have hk1 : (k : Int) ≤ (a.length : Int) := by omega
            clear hH3 hF3 hx3 hbb hC HX1 HX2 HL1 HL2 HH1 HB1 HH2 HB2 HO1 HO2 hCC hX d1
            have hoA : (w3.alloc (.cells #[.string C] 9)).ownsRow (w.heap.size + 1) 9 1 (.slice (some ⟨g, 0, none⟩) (q + 1) cp) (q + 1) (acc.map strT) := by
              have := HOw3.out.alloc (.cells #[.string C] 9)
              rw [HIL.out] at this
              exact this
            have hzz : w.heap.size + 1 ≤ w3.heap.size := by have := HHw3.out.lt; omega
            obtain ⟨i0, hi0, hz0, hz1, hz2⟩ := info_parts infoStr
            go_wp2_with (first
              | (at_builtin; refine wpList_append_own _ (by rfl) _ _ _ (by rfl) (w.heap.size + 1) 9 i0 _ 1 16 Tryd.underlying22 hi0 hz0 hz1 hz2 rfl (by decide) (.slice (some ⟨g, 0, none⟩) (q + 1) cp) (q + 1) (acc.map strT) (by rfl) hoA ⟨w3.heap.size, 0, none⟩ 1 1 [.string C] (by rfl) (by rfl) (one_new _ _ _) (by simp [Value.oneCell']) (by unfold maxLen; omega) (by omega) (by simp; omega) ?_; intro v5 w5 ho5 hg5 hi5))
            go_roundw
            case rel =>
              have hA := after_append (D := D) (p := j2) (bad := b2) HOw3.out hg5 HBw3.out (by rw [hr]; exact HHw3.out)
              have hCs : (.string C : Value) = strT (a.take k ++ t) := by
                rw [← HCd.out]
              refine ⟨q + 1 + 1, j2, b2, acc ++ [a.take k ++ t], by go_num, by rw [List.length_append, HIL.out]; rfl, ?_, by rw [← hr]; exact hA.1, hA.2, hj2, by omega, HP2.out, ?_, HG2.out⟩
              · have := ho5
                rw [hCs] at this
                unfold OwnT
                rw [List.length_append, HIL.out, List.map_append]
                exact this
              · intro y hy
                rcases List.mem_append.1 hy with h1 | h1
                · have := HAc.out y h1; omega
                · rw [List.mem_singleton.1 h1, List.length_append, List.length_take]; omega
            case measure => simp [intOf]; omega
      · have hin' : ¬ (i : Int) < (n : Int) := by omega
        have hBd := buildDict_all wr (.slice o i cp) acc (own_texts HO.out) (by omega) (fun t ht => by have := HAc.out t ht; omega)
        obtain ⟨S, k0, k1, hrb, hsay⟩ := rbV_says (D := D) (l := acc) (by omega)
        rw [hrb] at hBd
        have HSy : Hid ((k0 = 0 ∧ S = D) ↔ DictOf D acc) := hsay
        have HNn : Hid (∀ L, DictOf D L → acc = L) := fun L hL => gh_end HG.out (by omega) hL
        have hal : acc.length ≤ D.size := by omega
        clear hsay hrb
        go_wp2_with fail
        refine hBd.mono ?_
        rintro e w2 ⟨rfl, hb2⟩
        have HE : Hid (∀ b : Bool, (b = true ↔ (k0 = 0 ∧ S = D)) → OpP D w (.returned (.tuple #[.slice o i cp, .bool b])) w2) := fun b hbb => by
          refine ⟨.slice o i cp, b, acc, rfl, row_kept HO.out (fun k _ h2 => hb2.block k h2), hal, fun e => HSy.out.1 (hbb.1 e), fun e L hL => ?_, HNn.out, HB.out.trans (hb2.mono HB.out.size)⟩
          have h1 := HNn.out L hL
          subst h1
          rw [hbb.2 (HSy.out.2 hL)] at e
          cases e
        clear hb2 hBd
        by_cases hk0 : k0 = 0
        · subst hk0
          go_wp2_with fail
          exact bodyPost_ret (v := .tuple #[.slice o i cp, .bool (S.toList == D.toList)]) (by simp [results, Tryd.results10, go_sem]) rfl (HE.out _ (by rw [beq_iff_eq, toList_data, toList_data]; exact ⟨fun e => ⟨by trivial, str_eq.1 e⟩, fun e => by rw [e.2]⟩))
        · go_wp2_with fail
          exact bodyPost_ret (v := .tuple #[.slice o i cp, .bool false]) (by simp [results, Tryd.results10, go_sem]) rfl (HE.out _ ⟨(fun e => by cases e), fun e => absurd e.1 hk0⟩)

end Go.Proofs.YtnffjoipinhojabDoor
