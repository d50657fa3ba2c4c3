import Derived.Test.YtnffjoipinhojabDoorGb
set_option linter.unusedSimpArgs false
set_option linter.unusedVariables false
namespace Go.Proofs.YtnffjoipinhojabDoor
open Go.RowKit

theorem blockL_head {l : List (List UInt8)} {q : Nat} {t0 : List UInt8} {r : List (List UInt8)} (h : blockL l q = t0 :: r) : l[4 * q]? = some t0 := by
  have : (blockL l q)[0]? = some t0 := by rw [h]; rfl
  unfold blockL at this
  rw [List.getElem?_take_of_lt (by omega), List.getElem?_drop] at this
  exact this

set_option maxHeartbeats 4000000 in
set_option maxRecDepth 20000 in
theorem head_any (w : World) (base b q : Nat) (l : List (List UInt8)) (t : List UInt8) (h : DictR base b l ((l.length + 3) / 4) w) (hq : 4 * q < l.length) (ht : l[4 * q]? = some t) (hs : ∀ t ∈ l, t.length ≤ 200) (hn : l.length ≤ 1048576) :
    Calls Tryd.prog 34 #[.pointer (some ⟨b, 0, none⟩), .int .i64 q] w fun e w' => e = .returned (strT t) ∧ Below w.heap.size w w' := by
  obtain ⟨hbb, o, c, h2, h3⟩ := h
  obtain ⟨J, hJ⟩ : ∃ J, (l.length + 3) / 4 = J := ⟨_, rfl⟩
  rw [hJ] at h2 h3
  have hqJ : q < J := by omega
  have c1 : w.cell? ⟨b, 1, none⟩ = some (.slice o J c) := by rw [Lib.cell_of_heap h2]; rfl
  have hpl : (packedL l J).length = J := packedL_len l J
  rcases h3.2 with ⟨_, h1⟩ | ⟨g, cap, cur, h1, h4, h5, h6, h7, h8, h9⟩
  · omega
  · rw [hpl] at h1
    cases h1
    have hpq : (packedL l J)[q]? = some (blockE (blockL l q)) := by
      unfold packedL
      rw [List.getElem?_map, List.getElem?_range hqJ]
      rfl
    have c2 : w.cell? ⟨g, q, none⟩ = some (strT (blockE (blockL l q))) := by
      have hc := h3.cells (g := g) (by rw [hpl]; rfl) q (strT (blockE (blockL l q))) (by rw [List.getElem?_map, hpq]; rfl)
      have e : (⟨g, 0, none⟩ : Addr).add q = ⟨g, q, none⟩ := by unfold Addr.add; split <;> simp_all
      rw [e] at hc
      exact hc
    obtain ⟨t0, r, hblk, hrl⟩ := blockL_cons hq
    have htt : t0 = t := by
      have := blockL_head hblk
      rw [ht] at this
      exact (Option.some.inj this).symm
    subst htt
    have hsB : ∀ t ∈ t0 :: r, t.length ≤ 200 := fun t ht => hs t (by rw [← hblk] at ht; exact List.mem_of_mem_drop (List.mem_of_mem_take ht))
    have hbs := blockE_len (t0 :: r) (by simp; omega) hsB
    obtain ⟨X, hX⟩ : ∃ X : ByteArray, X = ⟨(blockE (blockL l q)).toArray⟩ := ⟨_, rfl⟩
    rw [show strT (blockE (blockL l q)) = .string X by rw [hX]] at c2
    have HTx : Hid (∀ w2 rb, Rs rb X 0 w2 → Calls Tryd.prog 53 #[.pointer (some ⟨rb, 0, none⟩)] w2 fun e w' => e = .returned (strT t0) ∧ Fm rb w2 w') := fun w2 rb h2 => by
      have := text_rd w2 rb 0 X t0 (tailE t0 r) h2 (by rw [hX, hblk, List.drop_zero]; rfl) (Nat.zero_le _) (by rw [hX, arrSize, hblk]; omega)
      exact this.mono fun e w' ⟨h1, _, h4⟩ => ⟨h1, h4⟩
    have hi0 : (0 : Int) ≤ q := by omega
    have hi1 : (q : Int) < (J : Int) := by omega
    have HOv : Hid (Calls Tryd.prog 25 #[.string X] w fun e w' => e = .returned (.agg #[.string X, .int .i64 0, .nilIface]) ∧ Below w.heap.size w w') := over_any w X
    clear hX hblk hsB hbs h3 h5 h8 h9 hpq hpl hJ hs hrl ht
    go_enter Tryd.func34, Tryd.ntmps34
    go_wp2_with fail
    refine HOv.out.mono ?_
    rintro e w2 ⟨rfl, hb2⟩
    have hRs : Rs w2.heap.size X 0 (w2.alloc (.cells #[.string X, .int .i64 0, .nilIface] 61)) := World.alloc_heap_new w2 _
    have HB2 : Hid (Below w.heap.size w (w2.alloc (.cells #[.string X, .int .i64 0, .nilIface] 61))) := hb2.alloc hb2.size _
    have hz2 := hb2.size
    have HR := HTx.out _ _ hRs
    clear hb2 hRs HTx HOv
    go_wp2_with fail
    refine HR.mono ?_
    rintro e w3 ⟨rfl, hF3⟩
    have HB3 : Hid (Below w.heap.size w w3) := HB2.out.trans (hF3.below (by omega) (by simp; omega))
    clear hF3 HR
    go_wp2_with fail
    go_ret
    exact ⟨rfl, HB3.out⟩

/-- what Find's closure sees -/
def Se3 (w : World) (kd ks b : Nat) (S : ByteArray) (w' : World) : Prop := w'.cell? ⟨kd, 0, none⟩ = some (.pointer (some ⟨b, 0, none⟩)) ∧ w'.cell? ⟨ks, 0, none⟩ = some (.string S) ∧ Below w.heap.size w w'
theorem Se3.on {w w1 w2 : World} {kd ks b : Nat} {S : ByteArray} (e : Se3 w kd ks b S w1) (hb : Below w1.heap.size w1 w2) : Se3 w kd ks b S w2 :=
  ⟨(hb.cell (p := ⟨kd, 0, none⟩) (World.block_lt_of_cell? w1 ⟨kd, 0, none⟩ e.1)).trans e.1, (hb.cell (p := ⟨ks, 0, none⟩) (World.block_lt_of_cell? w1 ⟨ks, 0, none⟩ e.2.1)).trans e.2.1, e.2.2.trans (hb.mono e.2.2.size)⟩

set_option maxHeartbeats 4000000 in
set_option maxRecDepth 20000 in
theorem clo_any (w w0 : World) (base b q kd ks : Nat) (l : List (List UInt8)) (t : List UInt8) (S : ByteArray) (hw : Se3 w0 kd ks b S w) (h : ∀ w1, Below w0.heap.size w0 w1 → DictR base b l ((l.length + 3) / 4) w1) (hq : 4 * q < l.length) (ht : l[4 * q]? = some t) (hs : ∀ t ∈ l, t.length ≤ 200) (hn : l.length ≤ 1048576) :
    Calls Tryd.prog 33 #[.int .i64 q, .pointer (some ⟨kd, 0, none⟩), .pointer (some ⟨ks, 0, none⟩)] w fun e w' => e = .returned (.bool (Op.bytesLess S.data.toList t)) ∧ Se3 w0 kd ks b S w' := by
  have mixed : Tryd.prog.follows Departure.mixedOrders = true := by kernel_rfl
  obtain ⟨T, hT⟩ : ∃ T : ByteArray, T = ⟨t.toArray⟩ := ⟨_, rfl⟩
  have HHd : Hid (∀ w1, Se3 w0 kd ks b S w1 → Calls Tryd.prog 34 #[.pointer (some ⟨b, 0, none⟩), .int .i64 q] w1 fun e w' => e = .returned (.string T) ∧ Se3 w0 kd ks b S w') := fun w1 h1 => by
    have := head_any w1 base b q l t (h w1 h1.2.2) hq ht hs hn
    rw [show strT t = .string T by rw [hT]] at this
    refine this.mono ?_
    rintro e w2 ⟨rfl, hb2⟩
    exact ⟨rfl, h1.on hb2⟩
  have hTd : T.data.toList = t := by rw [hT]
  have HB : Hid ((!Op.bytesLess T.toList S.toList && !(T.toList == S.toList)) = Op.bytesLess S.data.toList t) := by
    unfold Hid
    rw [← Bool.not_or, toList_data, toList_data, hTd, less_total S.data.toList t]
    simp
  obtain ⟨c1, c2, b3⟩ := hw
  clear hT hTd h ht hs
  go_enter Tryd.func33, Tryd.ntmps33
  go_wp2_with fail
  go_region_held3 (fun w' => w'.cell? ⟨kd, 0, none⟩ = some (.pointer (some ⟨b, 0, none⟩)) ∧ w'.cell? ⟨ks, 0, none⟩ = some (.string S) ∧ Below w0.heap.size w0 w') (first | assumption | exact ⟨c1, c2, b3⟩ | exact ⟨c1, c2, b3.drew⟩) (first | (go_at_call 34; refine (HHd.out _ (by first | assumption | exact ⟨by assumption, by assumption, by first | assumption | exact b3.drew⟩)).mono ?_; rintro e2 w2 ⟨rfl, hS⟩))
  all_goals go_wp2_with fail
  all_goals go_ret
  all_goals exact ⟨by rw [← HB.out]; rfl, by assumption⟩

set_option maxHeartbeats 4000000 in
set_option maxRecDepth 20000 in
theorem search_any (w w0 : World) (base b J kd ks : Nat) (l : List (List UInt8)) (S : ByteArray) (hw : Se3 w0 kd ks b S w) (h : ∀ w1, Below w0.heap.size w0 w1 → DictR base b l ((l.length + 3) / 4) w1) (hJ : J = (l.length + 3) / 4) (hr : Rise2 l) (hs : ∀ t ∈ l, t.length ≤ 200) (hn : l.length ≤ 1048576) :
    Calls Tryd.prog 32 #[.int .i64 J, .func (.func 33) #[] #[.pointer (some ⟨kd, 0, none⟩), .pointer (some ⟨ks, 0, none⟩)]] w fun e w' => (∃ p : Nat, e = .returned (.int .i64 p) ∧ p ≤ J ∧ (∀ k t, k < p → l[4 * k]? = some t → Op.bytesLess S.data.toList t = false) ∧ (∀ k t, p ≤ k → k < J → l[4 * k]? = some t → Op.bytesLess S.data.toList t = true)) ∧ Se3 w0 kd ks b S w' := by
  have HW : Hid (Se3 w0 kd ks b S w) := hw
  have HC : Hid (∀ (w1 : World) (q : Nat) (t : List UInt8), Se3 w0 kd ks b S w1 → 4 * q < l.length → l[4 * q]? = some t → Calls Tryd.prog 33 #[.int .i64 q, .pointer (some ⟨kd, 0, none⟩), .pointer (some ⟨ks, 0, none⟩)] w1 fun e w' => e = .returned (.bool (Op.bytesLess S.data.toList t)) ∧ Se3 w0 kd ks b S w') := fun w1 q t h1 h2 h3 => clo_any w1 w0 base b q kd ks l t S h1 h h2 h3 hs hn
  have HR : Hid (Rise2 l) := hr
  have hJb : J ≤ 1048576 := by omega
  clear hw h hs hr
  go_enter Tryd.func32, Tryd.ntmps32
  go_wp2_with fail
  go_loopw [5, 6] (fun t5 t6 wr => ∃ i j : Nat, i ≤ j ∧ j ≤ J ∧ t5 = .int .i64 i ∧ t6 = .int .i64 j ∧ (∀ k t, k < i → l[4 * k]? = some t → Op.bytesLess S.data.toList t = false) ∧ (∀ k t, j ≤ k → k < J → l[4 * k]? = some t → Op.bytesLess S.data.toList t = true) ∧ Se3 w0 kd ks b S wr) (fun t5 t6 wr => (intOf t6).toNat - (intOf t5).toNat)
  case atStart => exact ⟨0, J, Nat.zero_le _, Nat.le_refl _, rfl, rfl, fun k t h => by omega, fun k t h1 h2 => by omega, HW.out⟩
  case round =>
    obtain ⟨i, j, hij, hjJ, rfl, rfl, hlo, hhi, hse⟩ := hrel
    have HLO : Hid (∀ k t, k < i → l[4 * k]? = some t → Op.bytesLess S.data.toList t = false) := hlo
    have HHI : Hid (∀ k t, j ≤ k → k < J → l[4 * k]? = some t → Op.bytesLess S.data.toList t = true) := hhi
    have HSe : Hid (Se3 w0 kd ks b S wr) := hse
    clear hlo hhi hse
    by_cases hlt : i < j
    · obtain ⟨h, hh⟩ : ∃ h, h = (i + j) / 2 := ⟨_, rfl⟩
      have hh1 : i ≤ h ∧ h < j := by omega
      have h4 : 4 * h < l.length := by omega
      obtain ⟨t, ht⟩ : ∃ t, l[4 * h]? = some t := ⟨_, List.getElem?_eq_getElem h4⟩
      have HLt := HC.out wr h t HSe.out h4 ht
      obtain ⟨x, hx⟩ : ∃ x, x = Op.bytesLess S.data.toList t := ⟨_, rfl⟩
      rw [← hx] at HLt
      have HB : Hid (x = Op.bytesLess S.data.toList t) := hx
      have HT : Hid (l[4 * h]? = some t) := ht
      have e1 : ((i : Int) + j) / 2 = (h : Int) := by omega
      clear hx ht hh hJ h4
      go_wp2_with fail
      refine HLt.mono ?_
      rintro e w2 ⟨rfl, hse2⟩
      have HSe2 : Hid (Se3 w0 kd ks b S w2) := hse2
      clear hse2 HLt
      cases x with
      | true =>
        have HN : Hid (∀ k t, h ≤ k → k < J → l[4 * k]? = some t → Op.bytesLess S.data.toList t = true) := fun k y h1 h2 hk => by
          by_cases hkh : k = h
          · subst hkh
            rw [HT.out] at hk
            cases hk
            exact HB.out.symm
          · exact less_trans HB.out.symm (HR.out.lt' HT.out hk (by omega))
        go_wp2_with fail
        go_roundw
        case rel => exact ⟨i, h, by omega, by omega, rfl, by go_num, HLO.out, HN.out, HSe2.out⟩
        case measure => simp [intOf]; omega
      | false =>
        have HN : Hid (∀ k t, k < h + 1 → l[4 * k]? = some t → Op.bytesLess S.data.toList t = false) := fun k y h1 hk => by
          by_cases hkh : k = h
          · subst hkh
            rw [HT.out] at hk
            cases hk
            exact HB.out.symm
          · have h2 := HR.out.lt' hk HT.out (by omega)
            cases e : Op.bytesLess S.data.toList y with
            | false => rfl
            | true => have h3 := less_trans e h2; rw [← HB.out] at h3; cases h3
        go_wp2_with fail
        go_roundw
        case rel => exact ⟨h + 1, j, by omega, hjJ, by go_num, rfl, HN.out, HHI.out, HSe2.out⟩
        case measure => simp [intOf]; omega
    · obtain rfl : i = j := by omega
      go_wp2_with fail
      go_ret
      exact ⟨⟨i, rfl, hjJ, HLO.out, HHI.out⟩, HSe.out⟩

end Go.Proofs.YtnffjoipinhojabDoor
