import Derived.Test.YtnffjoipinhojaaDoorTk
import Derived.Test.YtnffjoipinhojaaDoorN
namespace Go.Proofs.YtnffjoipinhojaaDoor
open Go.RowKit

/-- The numbers that the one number is cut into. -/
def Nums (V d c : Nat) : List Int := (List.range c).map fun i => ((V / 2 ^ (i * d) % 2 ^ d : Nat) : Int)
theorem nums_len (V d c : Nat) : (Nums V d c).length = c := by simp [Nums]
theorem nums_succ (V d c : Nat) : Nums V d (c + 1) = Nums V d c ++ [((V / 2 ^ (c * d) % 2 ^ d : Nat) : Int)] := by simp [Nums, List.range_succ]

/-- A row of ints of the call's own. -/
def Own (w : World) (base : Nat) (v : Value) (xs : List Int) : Prop := w.ownsRow base 3 1 v xs.length (xs.map (Value.int .i64))

theorem own_ints {w : World} {base : Nat} {v : Value} {xs : List Int} (h : Own w base v xs) : Ints w v xs := by
  rcases h.2 with ⟨rfl, h0⟩ | ⟨g, cap, cur, rfl, _⟩
  · exact .inl ⟨none, 0, rfl, List.length_eq_zero_iff.1 h0⟩
  · refine .inr ⟨g, 0, cap, rfl, fun i hi => ?_⟩
    have h1 := World.ownsRow.cellAt h i (by omega)
    rw [Nat.zero_add, h1]
    simp [hi]

theorem own_heap {w w' : World} {b : Nat} {v : Value} {n : Nat} {e : TypeId} {xs : List Value} (h : w.ownsRow (b + 1) e 1 v n xs) (hk : ∀ k, k ≠ b → w'.heap[k]? = w.heap[k]?) : w'.ownsRow (b + 1) e 1 v n xs := by
  refine ⟨h.1, ?_⟩
  rcases h.2 with h0 | ⟨g, cap, cur, rfl, hb, hg, rest⟩
  · exact .inl h0
  · exact .inr ⟨g, cap, cur, rfl, hb, by rw [hk g (by omega)]; exact hg, rest⟩

theorem info3 : (Tryd.prog.info? 3).map (fun i => (i.zero, i.size, i.bytes)) = some (some (.int .i64 0), 1, 8) := by kernel_rfl
theorem make_ints (L : Nat) (h : L ≤ 1000000000000) (u : World) : (Instr.makeSlice 32 (.int .i64 (L : Int)) (.int .i64 (L : Int))).run Tryd.prog u =
      .ok (.slice (some ⟨u.heap.size, 0, none⟩) L L) (u.alloc (.cells (madeCells #[.int .i64 0] L) 3)) := by
  obtain ⟨i0, hi, hz0, hz1, hz2⟩ := info_parts info3
  have h := run_make (P := Tryd.prog) u 32 3 i0 (.int .i64 0) Tryd.underlying32 hi hz0 .i64 .i64 (L : Int) (L : Int) (by omega) (Int.le_refl _) (by rw [hz2]; omega) (by omega)
  simpa [hz1, Value.cells] using h

theorem take_nat (b d T : Nat) (s : ByteArray) (w : World) (hw : Rd w b s T) (hd : d ≤ 62) (hs : s.size ≤ 1000000000000) (hT : T + d ≤ 8 * s.size) :
    Calls Tryd.prog 32 #[.pointer (some ⟨b, 0, none⟩), .int .i64 d] w fun x w' => ∃ N : Nat, x = .returned (.int .u64 (N : Int)) ∧ N < 4611686018427387904 ∧ Hid (N = Plain.val s.data.toList / 2 ^ T % 2 ^ d) ∧ Hid (Rd w' b s (T + d)) ∧ Hid (Below b w w') ∧ Hid (∀ k, k ≠ b → w'.heap[k]? = w.heap[k]?) := by
  refine (take_any b d T s w hw hd hs hT).mono ?_
  rintro e w' ⟨rfl, h1, h2, h3⟩
  refine ⟨_, rfl, ?_, rfl, h1, h2, h3⟩
  exact Nat.lt_of_lt_of_le (Nat.mod_lt _ (Nat.two_pow_pos d)) (Nat.pow_le_pow_right (by decide) hd)

theorem set_snoc (l : List Int) (k c : Nat) (x : Int) (hl : l.length = k) (hk : k < c) : (l ++ List.replicate (c - k) 0).set k x = (l ++ [x]) ++ List.replicate (c - (k + 1)) 0 := by
  rw [List.set_append_right _ _ (by omega), hl, Nat.sub_self]
  obtain ⟨m, hm⟩ : ∃ m, c - k = m + 1 := ⟨c - k - 1, by omega⟩
  rw [hm, List.replicate_succ, List.set_cons_zero, show c - (k + 1) = m by omega]
  simp

theorem own_mono {w : World} {b : Nat} {e : TypeId} {size : Nat} {v : Value} {n : Nat} {xs : List Value} (h : w.ownsRow (b + 1) e size v n xs) : w.ownsRow b e size v n xs :=
  ⟨h.1, h.2.elim Or.inl fun ⟨g, cap, cur, hv, hg, r⟩ => Or.inr ⟨g, cap, cur, hv, Nat.le_of_succ_le hg, r⟩⟩

/-- unpack's row, k numbers in. -/
def Row (w : World) (b c : Nat) (l : List Int) : Prop := w.ownsRow (b + 1) 3 1 (.slice (some ⟨b + 1, 0, none⟩) c c) c ((l ++ List.replicate (c - l.length) 0).map (Value.int .i64))

theorem fit_le {l : List UInt8} {d c : Nat} (h : Fit l d c) (hd : 1 ≤ d) : c ≤ 8 * l.length ∧ c * d ≤ 8 * l.length := by
  have h1 := h.1
  have h2 : c * 1 ≤ c * d := Nat.mul_le_mul_left _ hd
  omega

theorem rd_other {w : World} {b U g k : Nat} {s : ByteArray} (h : Rd w b s U) (u : Value) (_ : k = k) (hg : g ≠ b) : Rd (w.setCell ⟨g, k, none⟩ u) b s U := by
  have hne : ∀ o : Nat, (⟨g, k, none⟩ : Addr) ≠ ⟨b, o, none⟩ := fun o e => hg (congrArg Addr.block e)
  exact ⟨(World.cell?_setCell_other _ _ _ _ (hne 0)).trans h.c0, (World.cell?_setCell_other _ _ _ _ (hne 1)).trans h.c1, (World.cell?_setCell_other _ _ _ _ (hne 2)).trans h.c2, by simpa using h.f1, by simpa using h.f2⟩
theorem rd_new (w : World) (s : ByteArray) (o : Obj) : Rd ((w.alloc (.cells #[.string s, .int .i64 0, .int .i64 0] 68)).alloc o) w.heap.size s 0 := by
  have hlt : w.heap.size < (w.alloc (.cells #[.string s, .int .i64 0, .int .i64 0] 68)).heap.size := by simp
  refine ⟨?_, ?_, ?_, ?_, ?_⟩
  · rw [World.cell?_alloc_lt _ _ _ hlt]; simp
  · rw [World.cell?_alloc_lt _ _ _ hlt]; simp
  · rw [World.cell?_alloc_lt _ _ _ hlt]; simp
  · rw [World.frozen?_alloc_old _ _ _ (Nat.ne_of_lt hlt)]; simp
  · rw [World.frozen?_alloc_old _ _ _ (Nat.ne_of_lt hlt)]; simp
theorem row_new (w : World) (s : ByteArray) (c : Nat) (h : c ≤ 1000000000000) : Row ((w.alloc (.cells #[.string s, .int .i64 0, .int .i64 0] 68)).alloc (.cells (madeCells #[.int .i64 0] c) 3)) w.heap.size c [] := by
  have h1 := World.ownsRow_lit (base := w.heap.size + 1) (e := 3) (size := 1) (w.alloc (.cells #[.string s, .int .i64 0, .int .i64 0] 68)) (madeCells #[.int .i64 0] c) c (by simp) (by unfold maxLen; omega) (by rw [size_madeCells]; omega)
  rw [toList_madeCells_one] at h1
  simpa [Row] using h1
theorem row_cell {w : World} {b c k : Nat} {l : List Int} (h : Row w b c l) (hl : l.length = k) (hk : k < c) : w.cell? ⟨b + 1, k, none⟩ = some (.int .i64 0) := by
  rw [World.ownsRow.cellAt h k (by omega)]
  rw [List.getElem?_map, List.getElem?_append_right (by omega), hl, Nat.sub_self, List.getElem?_replicate]
  simp
  omega
theorem row_own {w : World} {b c : Nat} {l : List Int} (h : Row w b c l) (hl : l.length = c) : Own w b (.slice (some ⟨b + 1, 0, none⟩) c c) l := by
  unfold Row at h
  rw [hl, Nat.sub_self, List.replicate_zero, List.append_nil] at h
  unfold Own
  rw [hl]
  exact own_mono h
theorem row_store {w : World} {b c k : Nat} {l : List Int} (x : Int) (h : Row w b c l) (hl : l.length = k) (hk : k < c) : Row (w.setCell ⟨b + 1, k, none⟩ (.int .i64 x)) b c (l ++ [x]) := by
  have h1 := (World.ownsRow.stored h k (.int .i64 x)).1
  have e : ((l ++ List.replicate (c - l.length) 0).map (Value.int .i64)).set k (.int .i64 x) = ((l ++ [x]) ++ List.replicate (c - (l ++ [x]).length) 0).map (Value.int .i64) := by
    rw [← List.map_set, hl, set_snoc l k c x hl hk, List.length_append, hl]
    rfl
  rw [e] at h1
  exact h1

set_option maxHeartbeats 800000 in
set_option maxRecDepth 20000 in
theorem unpack_ok (s : ByteArray) (d c : Nat) (w : World) (hs : s.size ≤ 1000000000) (h1 : 1 ≤ d) (h2 : d ≤ 62) (hf : Fit s.data.toList d c) :
    Calls Tryd.prog 15 #[.string s, .int .i64 d, .int .i64 c] w fun x w' => (∃ v, x = .returned (.tuple #[v, .int .i64 0]) ∧ Own w' w.heap.size v (Nums (Plain.val s.data.toList) d c)) ∧ Below w.heap.size w w' := by
  have e : s.data.toList.length = s.size := by simp
  have HF : Hid (Fit s.data.toList d c) := hf
  obtain ⟨hc8, hcd⟩ := fit_le hf h1
  rw [e] at hc8 hcd
  have hc : c ≤ 8000000000 := by omega
  have HCD : Hid (c * d ≤ 8 * s.size) := hcd
  have hmk := fun u => make_ints c (by omega) u
  clear hf e hcd hc8
  go_enter Tryd.func15, Tryd.ntmps15
  go_wp2_with fail
  refine (cp_any s d c w (by omega) h1 h2 (by omega)).mono ?_
  rintro e w' ⟨ha, rfl⟩
  rcases ha with ⟨_, rfl⟩ | ⟨hn, _⟩
  · go_wp2_with fail
    clear hmk
    have HR0 : Hid (Rd ((w.alloc (.cells #[.string s, .int .i64 0, .int .i64 0] 68)).alloc (.cells (madeCells #[.int .i64 0] c) 3)) w.heap.size s 0) := rd_new w s _
    have HO0 : Hid (Row ((w.alloc (.cells #[.string s, .int .i64 0, .int .i64 0] 68)).alloc (.cells (madeCells #[.int .i64 0] c) 3)) w.heap.size c []) := row_new w s c (by omega)
    have HB0 : Hid (Below w.heap.size w ((w.alloc (.cells #[.string s, .int .i64 0, .int .i64 0] 68)).alloc (.cells (madeCells #[.int .i64 0] c) 3))) := ((Below.refl _ _).alloc (Nat.le_refl _) _).alloc (by simp) _
    generalize ((w.alloc (.cells #[.string s, .int .i64 0, .int .i64 0] 68)).alloc (.cells (madeCells #[.int .i64 0] c) 3)) = w2 at HR0 HO0 HB0 ⊢
    go_loopw [26] (fun a wr => ∃ k : Nat, k ≤ c ∧ a = .int .i64 k ∧ Rd wr w.heap.size s (k * d) ∧ Row wr w.heap.size c (Nums (Plain.val s.data.toList) d k) ∧ Below w.heap.size w wr) (fun a _ => c - (intOf a).toNat)
    case atStart => exact ⟨0, Nat.zero_le _, rfl, by rw [Nat.zero_mul]; exact HR0.out, HO0.out, HB0.out⟩
    case round =>
      obtain ⟨k, hk, rfl, hrd, hrow, hb⟩ := hrel
      have HR : Hid (Rd wr w.heap.size s (k * d)) := hrd
      have HO : Hid (Row wr w.heap.size c (Nums (Plain.val s.data.toList) d k)) := hrow
      have HB : Hid (Below w.heap.size w wr) := hb
      clear hrd hrow hb
      by_cases hlt : k < c
      · have hkd : k * d + d ≤ 8 * s.size := by
          have h5 : (k + 1) * d ≤ c * d := Nat.mul_le_mul_right _ hlt
          rw [Nat.succ_mul] at h5
          exact Nat.le_trans h5 HCD.out
        have hki : (k : Int) < (c : Int) := by omega
        go_wp2_with fail
        refine (take_nat _ d _ s _ HR.out h2 (by omega) hkd).mono ?_
        rintro e w1 ⟨N, rfl, hN, HN, HR1, HB1, HK1⟩
        have HO1 : Hid (Row w1 w.heap.size c (Nums (Plain.val s.data.toList) d k)) := own_heap HO.out HK1.out
        clear HO HR hkd
        have kc := row_cell HO1.out (k := k) (nums_len _ _ _) hlt
        have kf := HO1.out.frozenAt k
        go_wp2_with fail
        have R1 : Rd (w1.setCell ⟨w.heap.size + 1, k, none⟩ (.int .i64 (N : Int))) w.heap.size s ((k + 1) * d) := by rw [Nat.succ_mul]; exact rd_other HR1.out _ rfl (by omega)
        have R2 : Row (w1.setCell ⟨w.heap.size + 1, k, none⟩ (.int .i64 (N : Int))) w.heap.size c (Nums (Plain.val s.data.toList) d (k + 1)) := by rw [nums_succ, ← HN.out]; exact row_store _ HO1.out (nums_len _ _ _) hlt
        have R3 := (HB.out.trans HB1.out).setCell (p := ⟨w.heap.size + 1, k, none⟩) (by simp) (.int .i64 (N : Int))
        go_roundw
        case rel => exact ⟨k + 1, by omega, by go_num, R1, R2, R3⟩
        case measure => simp [intOf]; omega
      · have hkc : k = c := by omega
        subst hkc
        go_wp2_with fail
        go_ret2
        exact ⟨⟨_, rfl, row_own HO.out (nums_len _ _ _)⟩, HB.out⟩
  · exact absurd HF.out hn

/-- bits.Unpack where it refuses -/
theorem unpack_no (s : ByteArray) (d c : Int) (n : Int) (w : World) (hg : Handle w)
    (h : Calls Tryd.prog 31 #[.string s, .int .i64 d, .int .i64 c] w fun x w' => x = .returned (.iface 82 (.agg #[.int .i64 n])) ∧ w = w') :
    Calls Tryd.prog 15 #[.string s, .int .i64 d, .int .i64 c] w fun x w' => x = .returned (.tuple #[.slice none 0 0, .int .i64 n]) ∧ Below w.heap.size w w' := by
  have HG : Hid (Handle w) := hg
  have HC : Hid (Calls Tryd.prog 31 #[.string s, .int .i64 d, .int .i64 c] w fun x w' => x = .returned (.iface 82 (.agg #[.int .i64 n])) ∧ w = w') := h
  clear hg h
  go_enter Tryd.func15, Tryd.ntmps15
  go_wp2_with fail
  refine HC.out.mono ?_
  rintro e w' ⟨rfl, rfl⟩
  go_wp2_with fail
  refine (number_any n _ HG.out).mono ?_
  rintro e w1 ⟨rfl, hb1⟩
  have HB1 : Hid (Below w.heap.size w w1) := hb1
  clear hb1
  go_wp2_with fail
  go_ret2
  exact ⟨rfl, HB1.out⟩

/-- What bits.Unpack answers. -/
def UnErr (l : List UInt8) (d c : Int) (n : Int) : Prop :=
  ((d < 1 ∨ 62 < d) ∧ n = 3) ∨ (1 ≤ d ∧ d ≤ 62 ∧ c < 0 ∧ n = 3) ∨ (1 ≤ d ∧ d ≤ 62 ∧ 0 ≤ c ∧ ¬ Fit l d.toNat c.toNat ∧ n = 8)
def UnOk (l : List UInt8) (d c : Int) : Prop := 1 ≤ d ∧ d ≤ 62 ∧ 0 ≤ c ∧ Fit l d.toNat c.toNat

theorem un_cases (l : List UInt8) (d c : Int) : UnOk l d c ∨ ∃ n, UnErr l d c n := by
  by_cases h1 : d < 1 ∨ 62 < d
  · exact .inr ⟨3, .inl ⟨h1, rfl⟩⟩
  · by_cases h2 : c < 0
    · exact .inr ⟨3, .inr (.inl ⟨by omega, by omega, h2, rfl⟩)⟩
    · by_cases h3 : Fit l d.toNat c.toNat
      · exact .inl ⟨by omega, by omega, by omega, h3⟩
      · exact .inr ⟨8, .inr (.inr ⟨by omega, by omega, by omega, h3, rfl⟩)⟩

theorem unpack_err (s : ByteArray) (d c n : Int) (w : World) (hg : Handle w) (hs : s.size ≤ 1000000000) (hc : c ≤ 9223372036854775807) (h : UnErr s.data.toList d c n) :
    Calls Tryd.prog 15 #[.string s, .int .i64 d, .int .i64 c] w fun x w' => x = .returned (.tuple #[.slice none 0 0, .int .i64 n]) ∧ Below w.heap.size w w' := by
  refine unpack_no s d c n w hg ?_
  rcases h with ⟨h1, rfl⟩ | ⟨h1, h2, h3, rfl⟩ | ⟨h1, h2, h3, h4, rfl⟩
  · exact cp_width s d c w h1
  · exact cp_neg s d c w h1 h2 h3
  · obtain ⟨dn, rfl⟩ := Int.eq_ofNat_of_zero_le (show 0 ≤ d by omega)
    obtain ⟨cn, rfl⟩ := Int.eq_ofNat_of_zero_le h3
    rw [Int.toNat_natCast, Int.toNat_natCast] at h4
    refine (cp_any s dn cn w (by omega) (by omega) (by omega) (by omega)).mono ?_
    rintro e w' ⟨ha, rfl⟩
    rcases ha with ⟨hk, _⟩ | ⟨_, rfl⟩
    · exact absurd hk h4
    · exact ⟨rfl, rfl⟩

theorem unpack_good (s : ByteArray) (d c : Int) (w : World) (hs : s.size ≤ 1000000000) (h : UnOk s.data.toList d c) :
    Calls Tryd.prog 15 #[.string s, .int .i64 d, .int .i64 c] w fun x w' => (∃ v, x = .returned (.tuple #[v, .int .i64 0]) ∧ Own w' w.heap.size v (Nums (Plain.val s.data.toList) d.toNat c.toNat)) ∧ Below w.heap.size w w' := by
  obtain ⟨h1, h2, h3, h4⟩ := h
  obtain ⟨dn, rfl⟩ := Int.eq_ofNat_of_zero_le (show 0 ≤ d by omega)
  obtain ⟨cn, rfl⟩ := Int.eq_ofNat_of_zero_le h3
  rw [Int.toNat_natCast, Int.toNat_natCast] at *
  exact unpack_ok s dn cn w hs (by omega) (by omega) h4
end Go.Proofs.YtnffjoipinhojaaDoor
