import Derived.Test.YtnffjoipinhojabDoorEg
set_option linter.unusedSimpArgs false
set_option linter.unusedVariables false
namespace Go.Proofs.YtnffjoipinhojabDoor
open Go.RowKit

theorem OwnT.mono {w : World} {base base' : Nat} {v : Value} {l : List (List UInt8)} (h : OwnT w base v l) (hb : base' ≤ base) : OwnT w base' v l :=
  ⟨h.1, h.2.elim .inl fun ⟨g, cap, cur, e1, e2, e3⟩ => .inr ⟨g, cap, cur, e1, Nat.le_trans hb e2, e3⟩⟩
theorem DictR.mono {base base' b : Nat} {l : List (List UInt8)} {j : Nat} {w : World} (h : DictR base b l j w) (hb : base' ≤ base) : DictR base' b l j w := by
  obtain ⟨h1, o, c, h2, h3⟩ := h
  exact ⟨Nat.le_trans hb h1, o, c, h2, h3.mono hb⟩
theorem DictR.below {base b : Nat} {l : List (List UInt8)} {j : Nat} {w w' : World} (h : DictR base b l j w) (hb : Below w.heap.size w w') : DictR base b l j w' := h.kept fun k _ hk => hb.block k hk

set_option maxHeartbeats 4000000 in
set_option maxRecDepth 20000 in
/-- dict.Open of what Build answers -/
theorem open_ok (w : World) (D : ByteArray) (l : List (List UInt8)) (hd : D.data.toList = Lib.uvarint l.length ++ dictE l) (hD : D.size ≤ 140737488355328) (hris : Rise2 l) (hs : ∀ t ∈ l, t.length ≤ 200) (hn : l.length ≤ 1048576) :
    Calls Tryd.prog 9 #[.string D] w fun e w' => ∃ b, e = .returned (.tuple #[.pointer (some ⟨b, 0, none⟩), .int .i64 0]) ∧ DictR w.heap.size b l ((l.length + 3) / 4) w' ∧ Below w.heap.size w w' := by
  have HC : Hid (Calls Tryd.prog 26 #[.string D] w fun e w' => e = .returned (.string D) ∧ Below w.heap.size w w') := clone_any D w hD
  have HRd : Hid (∀ w1 rb, Rs rb D 0 w1 → Calls Tryd.prog 27 #[.pointer (some ⟨rb, 0, none⟩)] w1 fun e w' => ∃ b, e = .returned (.pointer (some ⟨b, 0, none⟩)) ∧ DictR w1.heap.size b l ((l.length + 3) / 4) w' ∧ Rs rb D D.size w' ∧ Fm rb w1 w') := fun w1 rb h1 => readDict_any w1 rb D l h1 hd hD hris hs hn
  clear hd hris hs
  go_enter Tryd.func9, Tryd.ntmps9
  go_wp2_with fail
  refine HC.out.mono ?_
  rintro e w1 ⟨rfl, hb1⟩
  have HB1 : Hid (Below w.heap.size w w1) := hb1
  clear hb1
  go_wp2_with fail
  refine (over_any w1 D).mono ?_
  rintro e w2 ⟨rfl, hb2⟩
  have HB2 : Hid (Below w.heap.size w w2) := HB1.out.trans (hb2.mono HB1.out.size)
  clear hb2
  go_wp2_with fail
  have hRs : Rs w2.heap.size D 0 (w2.alloc (.cells #[.string D, .int .i64 0, .nilIface] 61)) := World.alloc_heap_new w2 _
  refine (HRd.out _ _ hRs).mono ?_
  rintro e w3 ⟨b, rfl, hdr, hR3, hF3⟩
  have hbz := HB2.out.size
  have HD3 : Hid (DictR w.heap.size b l ((l.length + 3) / 4) w3) := hdr.mono (by simp; omega)
  have HB3 : Hid (Below w.heap.size w w3) := (HB2.out.alloc HB2.out.size _).trans (hF3.below (by omega) (by simp; omega))
  have HE := err_rd w3 w2.heap.size D.size D hR3
  clear hdr hF3 hRs hR3
  go_wp2_with fail
  refine HE.mono ?_
  rintro e w4 ⟨rfl, rfl⟩
  go_wp2_with fail
  go_ret2
  exact ⟨b, rfl, HD3.out, HB3.out⟩

theorem len_any (w : World) (base b j : Nat) (l : List (List UInt8)) (h : DictR base b l j w) :
    Calls Tryd.prog 11 #[.pointer (some ⟨b, 0, none⟩)] w fun e w' => e = .returned (.int .i64 l.length) ∧ w' = w := by
  obtain ⟨_, o, c, h2, _⟩ := h
  have c0 : w.cell? ⟨b, 0, none⟩ = some (.int .i64 l.length) := by rw [Lib.cell_of_heap h2]; rfl
  go_enter Tryd.func11, Tryd.ntmps11
  go_wp2
  go_ret
  exact ⟨rfl, rfl⟩

set_option maxHeartbeats 4000000 in
set_option maxRecDepth 20000 in
theorem block_any (w : World) (base b q : Nat) (l : List (List UInt8)) (h : DictR base b l ((l.length + 3) / 4) w) (hq : 4 * q < l.length) (hris : Rise2 l) (hs : ∀ t ∈ l, t.length ≤ 200) (hn : l.length ≤ 1048576) :
    Calls Tryd.prog 31 #[.pointer (some ⟨b, 0, none⟩), .int .i64 q] w fun e w' => ∃ g c, e = .returned (.slice (some ⟨g, 0, none⟩) (blockL l q).length c) ∧ w.heap.size ≤ g ∧ (blockL l q).length ≤ c ∧ Strs w' g 0 (blockL l q) ∧ Below w.heap.size w w' := by
  obtain ⟨hbb, o, c, h2, h3⟩ := h
  obtain ⟨J, hJ⟩ : ∃ J, (l.length + 3) / 4 = J := ⟨_, rfl⟩
  rw [hJ] at h2 h3
  have hqJ : q < J := by omega
  have c0 : w.cell? ⟨b, 0, none⟩ = some (.int .i64 l.length) := by rw [Lib.cell_of_heap h2]; rfl
  have c1 : w.cell? ⟨b, 1, none⟩ = some (.slice o J c) := by rw [Lib.cell_of_heap h2]; rfl
  have hpl : (packedL l J).length = J := packedL_len l J
  rcases h3.2 with ⟨_, h1⟩ | ⟨g, cap, cur, h1, h4, h5, h6, h7, h8, h9⟩
  · omega
  · rw [hpl] at h1
    cases h1
    have hpq : (packedL l J)[q]? = some (blockE (blockL l q)) := by
      unfold packedL
      rw [List.getElem?_map, List.getElem?_range hqJ]
      rfl
    have c2 : w.cell? ⟨g, q, none⟩ = some (strT (blockE (blockL l q))) := by
      have hc := h3.cells (g := g) (by rw [hpl]; rfl) q (strT (blockE (blockL l q))) (by rw [List.getElem?_map, hpq]; rfl)
      have e : (⟨g, 0, none⟩ : Addr).add q = ⟨g, q, none⟩ := by unfold Addr.add; split <;> simp_all
      rw [e] at hc
      exact hc
    have hbl : b < w.heap.size := (Array.getElem?_eq_some_iff.1 h2).1
    obtain ⟨t0, r, hblk, hrl⟩ := blockL_cons hq
    have hsB : ∀ t ∈ t0 :: r, t.length ≤ 200 := fun t ht => hs t (by rw [← hblk] at ht; exact List.mem_of_mem_drop (List.mem_of_mem_take ht))
    have hbs := blockE_len (t0 :: r) (by simp; omega) hsB
    obtain ⟨X, hX⟩ : ∃ X : ByteArray, X = ⟨(blockE (blockL l q)).toArray⟩ := ⟨_, rfl⟩
    rw [show strT (blockE (blockL l q)) = .string X by rw [hX]] at c2
    have HRB : Hid (∀ w2 rb, Rs rb X 0 w2 → Calls Tryd.prog 47 #[.pointer (some ⟨rb, 0, none⟩), .int .i64 ((l.length : Int) - q * 4)] w2 fun e w' => ∃ u, e = .returned u ∧ OwnT w' w2.heap.size u (t0 :: r) ∧ Fm rb w2 w') := fun w2 rb h2 => by
      have := readBlock_any w2 rb 0 (l.length - 4 * q) X t0 r [] h2 (by rw [hX, hblk]; simp) (Nat.zero_le _) (by rw [hX, arrSize, hblk]; omega) (by omega) (by rw [← hblk]; exact hris.sub _ _) hsB (by omega)
      rw [show ((l.length - 4 * q : Nat) : Int) = (l.length : Int) - q * 4 by omega] at this
      exact this.mono fun e w' ⟨u, h1, h2, _, h4⟩ => ⟨u, h1, h2, h4⟩
    have HBK : Hid (blockL l q = t0 :: r) := hblk
    have hi0 : (0 : Int) ≤ q := by omega
    have hi1 : (q : Int) < (J : Int) := by omega
    have hwm : IntKind.i64.wrap ((q : Int) * 4) = (q : Int) * 4 := by rw [IntKind.wrap_i64]; omega
    have hws : IntKind.i64.wrap ((l.length : Int) - q * 4) = (l.length : Int) - q * 4 := by rw [IntKind.wrap_i64]; omega
    have HOv : Hid (Calls Tryd.prog 25 #[.string X] w fun e w' => e = .returned (.agg #[.string X, .int .i64 0, .nilIface]) ∧ Below w.heap.size w w') := over_any w X
    clear hX hblk hsB hbs h3 h5 h8 h9 hpq hpl hJ hris hs hrl
    go_enter Tryd.func31, Tryd.ntmps31
    go_wp2_with fail
    refine HOv.out.mono ?_
    rintro e w2 ⟨rfl, hb2⟩
    have d0 : (w2.alloc (.cells #[.string X, .int .i64 0, .nilIface] 61)).cell? ⟨b, 0, none⟩ = some (.int .i64 l.length) := by
      have hb := (hb2.alloc hb2.size (.cells #[.string X, .int .i64 0, .nilIface] 61))
      exact (hb.cell (p := ⟨b, 0, none⟩) hbl).trans c0
    have hRs : Rs w2.heap.size X 0 (w2.alloc (.cells #[.string X, .int .i64 0, .nilIface] 61)) := World.alloc_heap_new w2 _
    have HB2 : Hid (Below w.heap.size w (w2.alloc (.cells #[.string X, .int .i64 0, .nilIface] 61))) := hb2.alloc hb2.size _
    have hz2 := hb2.size
    have HR := HRB.out _ _ hRs
    clear hb2 hRs HRB HOv
    go_wp2_with fail
    refine HR.mono ?_
    rintro e w3 ⟨u, rfl, hou, hF3⟩
    have HB3 : Hid (Below w.heap.size w w3) := HB2.out.trans (hF3.below (by omega) (by simp; omega))
    rcases hou.2 with ⟨_, h1⟩ | ⟨g3, c3, cur3, h1, h4', h5', h6', h7', _⟩
    · simp at h1
    · subst h1
      have HT3 : Hid (Strs w3 g3 0 (t0 :: r)) := fun k t hk => by
        have hc := hou.cells (g := g3) rfl k (strT t) (by rw [List.getElem?_map, hk]; rfl)
        have e : (⟨g3, 0, none⟩ : Addr).add k = ⟨g3, 0 + k, none⟩ := by unfold Addr.add; split <;> simp_all
        rw [e] at hc
        exact hc
      have hgw : w.heap.size ≤ g3 := by simp at h4'; omega
      clear hou hF3 h5' HR
      go_wp2_with fail
      go_ret
      exact ⟨g3, c3, by rw [HBK.out]; rfl, hgw, by rw [HBK.out]; exact h6', by rw [HBK.out]; exact HT3.out, HB3.out⟩

end Go.Proofs.YtnffjoipinhojabDoor
