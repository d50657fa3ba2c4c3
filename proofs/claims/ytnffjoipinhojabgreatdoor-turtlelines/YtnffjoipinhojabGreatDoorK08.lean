import Derived.Test.YtnffjoipinhojabGreatDoorK07
set_option linter.unusedSimpArgs false
set_option linter.unusedVariables false
namespace Go.Proofs.YtnffjoipinhojabGreatDoor
open Go.RowKit

theorem wrune_k (w : World) (B b : Nat) (l : List UInt8) (r : Int) (h : Bu B b l w) (h0 : -2147483648 ≤ r) (h1 : r ≤ 2147483647) (hl : l.length + 4 ≤ 140737488355328) (hB : B ≤ w.heap.size) :
    Calls Tryz.prog 128 #[.pointer (some ⟨b, 0, none⟩), .int .i32 r] w fun e w' => (∃ n, e = .returned (.tuple #[.int .i64 n, .nilIface])) ∧ Bu B b (l ++ Lib.encodeRune r) w' ∧ Below B w w' ∧ Lib.OthersKept 5 (some b) w w' := by
  refine (Any.Builder_WriteRune_k (ρ := Tryz.lays159_ren) { Tryz.lays159 with } Tryz.Builder_Extra_159 B b (Lib.byteCells l) r h0 h1 w h (by rw [byteCells_length]; exact hl) hB).mono ?_
  rintro e w' ⟨rfl, h2, h3, h4⟩
  refine ⟨⟨_, rfl⟩, .inr ?_, h3, h4⟩
  rw [byteCells_append, Lib.byteCells_encodeRune]
  exact h2

theorem wstring_k (w : World) (B b : Nat) (l : List UInt8) (s : ByteArray) (h : Bu B b l w) (hl : l.length + s.size ≤ 140737488355328) (hB : B ≤ w.heap.size) :
    Calls Tryz.prog 33 #[.pointer (some ⟨b, 0, none⟩), .string s] w fun e w' => (∃ n, e = .returned (.tuple #[.int .i64 n, .nilIface])) ∧ Bu B b (l ++ s.data.toList) w' ∧ Below B w w' ∧ Lib.OthersKept 5 (some b) w w' := by
  refine (Any.Builder_WriteString_k (ρ := Tryz.lays159_ren) { Tryz.lays159 with } Tryz.Builder_Extra_159 B b (Lib.byteCells l) s w h (by rw [byteCells_length]; exact hl) hB).mono ?_
  rintro e w' ⟨rfl, h2, h3, h4⟩
  refine ⟨⟨_, rfl⟩, .inr ?_, h3, h4⟩
  rw [byteCells_append]
  exact h2

theorem wbyte_k (w : World) (B b : Nat) (l : List UInt8) (c : UInt8) (h : Bu B b l w) (hl : l.length + 1 ≤ 140737488355328) (hB : B ≤ w.heap.size) :
    Calls Tryz.prog 130 #[.pointer (some ⟨b, 0, none⟩), .int .u8 (c.toNat : Int)] w fun e w' => e = .returned .nilIface ∧ Bu B b (l ++ [c]) w' ∧ Below B w w' ∧ Lib.OthersKept 5 (some b) w w' := by
  refine (Any.Builder_WriteByte_k (ρ := Tryz.lays159_ren) { Tryz.lays159 with } Tryz.Builder_Extra_159 B b (Lib.byteCells l) c.toNat w h (by rw [byteCells_length]; exact hl) hB).mono ?_
  rintro e w' ⟨rfl, h2, h3, h4⟩
  refine ⟨rfl, .inr ?_, h3, h4⟩
  rw [byteCells_append]
  exact h2

/-- The builder, the string's iterator behind it, in the world wr. -/
structure Es (w wr : World) (t : List UInt8) (pos : Nat) (acc : List UInt8) : Prop where
  bu : Bu w.heap.size w.heap.size acc wr
  it : wr.heap[w.heap.size + 1]? = some (.stringIter ⟨t.toArray⟩ pos)
  below : Below w.heap.size w wr
  len : acc.length ≤ 2 * pos

theorem Es.next {w wr : World} {t : List UInt8} {pos : Nat} {acc : List UInt8} (v : Es w wr t pos acc) (pos' : Nat) (hp : pos ≤ pos') : Es w (wr.iterAt (w.heap.size + 1) ⟨t.toArray⟩ pos') t pos' acc :=
  ⟨Lib.IsBuilderF.iterAt v.bu v.it pos', Lib.iterAt_heap wr (w.heap.size + 1) ⟨t.toArray⟩ pos pos' v.it, Lib.below_iterAt v.below (k := w.heap.size + 1) (by omega) ⟨t.toArray⟩ pos', by have := v.len; omega⟩

theorem Es.wrote {w wr w2 : World} {t : List UInt8} {pos : Nat} {acc acc' : List UInt8} (v : Es w wr t pos acc) (hb : Bu w.heap.size w.heap.size acc' w2) (h2 : Below w.heap.size wr w2) (hk : Lib.OthersKept 5 (some w.heap.size) wr w2) (hl : acc'.length ≤ 2 * pos) : Es w w2 t pos acc' :=
  ⟨hb, hk.iter v.it (by omega), v.below.trans h2, hl⟩

theorem Es.sz {w wr : World} {t : List UInt8} {pos : Nat} {acc : List UInt8} (v : Es w wr t pos acc) : w.heap.size ≤ wr.heap.size := v.below.size

set_option maxHeartbeats 4000000 in
set_option maxRecDepth 100000 in
theorem escaped_any (w : World) (t : List UInt8) (ht : VU t) (hz : t.length ≤ 4398046511104) :
    Calls Tryz.prog 222 #[str t] w fun e w' => e = .returned (str (escaped t)) ∧ Below w.heap.size w w' := by
  go_enter Tryz.func222, Tryz.ntmps222
  go_wp2
  go_loopw [] (fun wr => ∃ (d r : List UInt8) (acc : List UInt8), t = d ++ r ∧ VU r ∧ Es w wr t d.length acc ∧ acc = escaped d) (fun wr => t.length - wr.iterPos (w.heap.size + 1))
  case atStart =>
    refine ⟨[], t, [], rfl, ht, ⟨?_, ?_, ((Below.refl _ w).alloc (Nat.le_refl _) _).alloc (by simp) _, by simp⟩, rfl⟩
    · exact Lib.IsBuilderF.alloc (Bu.fresh w) _
    · have := World.iter_heap (w.alloc (.cells #[.pointer none, .slice none 0 0] 59)) ⟨t.toArray⟩ 0
      simpa using this
  case round =>
    obtain ⟨d, r, acc, hdr, hr, v, hac⟩ := hrel
    have V : Hid (Es w wr t d.length acc) := v
    have HAC : Hid (acc = escaped d) := hac
    have HDR : Hid (t = d ++ r) := hdr
    have htl : t.length = d.length + r.length := by rw [hdr]; simp
    have hsz : (⟨t.toArray⟩ : ByteArray).size = t.length := by show t.toArray.size = _; simp
    clear hac
    cases hr with
    | nil =>
      have hnx : ∀ ty, (Instr.next (.pointer (some ⟨w.heap.size + 1, 0, none⟩)) true ty).run Tryz.prog wr = _ := fun ty => Lib.run_next_end_at wr (w.heap.size + 1) ⟨t.toArray⟩ d.length ty V.out.it (by rw [hsz, htl]; simp)
      have HE : Hid (acc = escaped t) := by unfold Hid; rw [HAC.out, HDR.out, List.append_nil]
      clear v hdr htl hsz
      go_wp2_with fail
      refine (bstring_any _ w.heap.size w.heap.size acc V.out.bu V.out.sz).mono ?_
      rintro e w2 ⟨rfl, hB2⟩
      go_wp2_with fail
      go_ret
      exact ⟨by rw [← HE.out]; rfl, V.out.below.trans hB2⟩
    | cons c l hv hl =>
      have hde := dec_enc d l c hv
      rw [← hdr] at hde
      have hp := enc_pos c
      have hlt : d.length < (⟨t.toArray⟩ : ByteArray).size := by rw [hsz, htl]; simp; omega
      have hnx0 : ∀ ty, (Instr.next (.pointer (some ⟨w.heap.size + 1, 0, none⟩)) true ty).run Tryz.prog wr = _ := fun ty => Lib.run_next_any_at wr (w.heap.size + 1) ⟨t.toArray⟩ d.length ty V.out.it hlt
      rw [hde] at hnx0
      simp only at hnx0
      have V2 : Hid (Es w (wr.iterAt (w.heap.size + 1) ⟨t.toArray⟩ (d.length + (Lib.encodeRune c).length)) t (d.length + (Lib.encodeRune c).length) acc) := V.out.next _ (by omega)
      have hcm : c ≤ 1114111 := by simp [Lib.validRune] at hv; omega
      have HP : Hid (wr.iterPos (w.heap.size + 1) = d.length) := by unfold Hid World.iterPos; rw [V.out.it]
      have HT2 : Hid (t = d ++ Lib.encodeRune c ++ l) := by unfold Hid; rw [HDR.out]; simp
      have hacl := V.out.len
      have HLL : Hid (t.length = d.length + ((Lib.encodeRune c).length + l.length)) := by unfold Hid; rw [HDR.out]; simp
      have hL4 := encr_len (c : Int)
      obtain ⟨m, hm⟩ : ∃ m, m = (Lib.encodeRune c).length := ⟨_, rfl⟩
      rw [← hm] at hnx0 V2 hp HLL hL4
      have HM : Hid (m = (Lib.encodeRune c).length) := hm
      have hll := HLL.out
      clear v hdr hsz hde hlt htl hm
      have hnx := hnx0
      clear hnx0
      have FIN : Hid (∀ w3, Es w w3 t (d.length + m) (acc ++ escaped (Lib.encodeRune c)) → ∃ (d r : List UInt8) (acc : List UInt8), t = d ++ r ∧ VU r ∧ Es w w3 t d.length acc ∧ acc = escaped d) := by
        intro w3 v3
        refine ⟨d ++ Lib.encodeRune c, l, acc ++ escaped (Lib.encodeRune c), HT2.out, hl, ?_, by rw [HAC.out, escaped_append]⟩
        rw [List.length_append, ← HM.out]
        exact v3
      have MEA : Hid (∀ (w3 : World) (x : List UInt8), Es w w3 t (d.length + m) x → w3.iterPos (w.heap.size + 1) = d.length + m) := by
        intro w3 x v3
        unfold World.iterPos
        rw [v3.it]
      by_cases c92 : c = 92
      · subst c92
        have he : Lib.encodeRune (92 : Nat) = [92] := enc_low (by omega)
        obtain rfl : m = 1 := by rw [HM.out, he]; rfl
        go_wp2_with fail
        refine (wbyte_k _ w.heap.size w.heap.size acc 92 V2.out.bu (by omega) V2.out.sz).mono ?_
        rintro e w2 ⟨rfl, b2, l2, k2⟩
        have v2 := V2.out.wrote b2 l2 k2 (by simp; omega)
        go_wp2_with fail
        refine (wrune_k _ w.heap.size w.heap.size (acc ++ [92]) 92 v2.bu (by omega) (by omega) (by simp only [List.length_append, List.length_cons, List.length_nil]; omega) v2.sz).mono ?_
        rintro e w3 ⟨⟨n3, rfl⟩, b3, l3, k3⟩
        have b3' : Bu w.heap.size w.heap.size (acc ++ [92] ++ [92]) w3 := by
          have e2 : Lib.encodeRune (92 : Int) = [92] := he
          rw [e2] at b3
          exact b3
        have v3 := v2.wrote b3' l3 k3 (by simp only [List.length_append, List.length_cons, List.length_nil]; omega)
        have R3 : Hid (Es w w3 t (d.length + 1) (acc ++ escaped (Lib.encodeRune (92 : Nat)))) := by
          unfold Hid
          rw [he]
          have : acc ++ escaped [92] = acc ++ [92] ++ [92] := by simp [escaped]
          rw [this]
          exact v3
        clear b2 l2 k2 v2 b3 b3' l3 k3 v3
        go_wp2_with fail
        go_roundw
        case rel => exact FIN.out w3 R3.out
        case measure => rw [MEA.out w3 _ R3.out, HP.out]; omega
      by_cases c34 : c = 34
      · subst c34
        have he : Lib.encodeRune (34 : Nat) = [34] := enc_low (by omega)
        obtain rfl : m = 1 := by rw [HM.out, he]; rfl
        go_wp2_with fail
        refine (wbyte_k _ w.heap.size w.heap.size acc 92 V2.out.bu (by omega) V2.out.sz).mono ?_
        rintro e w2 ⟨rfl, b2, l2, k2⟩
        have v2 := V2.out.wrote b2 l2 k2 (by simp; omega)
        go_wp2_with fail
        refine (wrune_k _ w.heap.size w.heap.size (acc ++ [92]) 34 v2.bu (by omega) (by omega) (by simp only [List.length_append, List.length_cons, List.length_nil]; omega) v2.sz).mono ?_
        rintro e w3 ⟨⟨n3, rfl⟩, b3, l3, k3⟩
        have b3' : Bu w.heap.size w.heap.size (acc ++ [92] ++ [34]) w3 := by
          have e2 : Lib.encodeRune (34 : Int) = [34] := he
          rw [e2] at b3
          exact b3
        have v3 := v2.wrote b3' l3 k3 (by simp only [List.length_append, List.length_cons, List.length_nil]; omega)
        have R3 : Hid (Es w w3 t (d.length + 1) (acc ++ escaped (Lib.encodeRune (34 : Nat)))) := by
          unfold Hid
          rw [he]
          have : acc ++ escaped [34] = acc ++ [92] ++ [34] := by simp [escaped]
          rw [this]
          exact v3
        clear b2 l2 k2 v2 b3 b3' l3 k3 v3
        go_wp2_with fail
        go_roundw
        case rel => exact FIN.out w3 R3.out
        case measure => rw [MEA.out w3 _ R3.out, HP.out]; omega
      by_cases c10 : c = 10
      · subst c10
        have he : Lib.encodeRune (10 : Nat) = [10] := enc_low (by omega)
        obtain rfl : m = 1 := by rw [HM.out, he]; rfl
        go_wp2_with fail
        refine (wstring_k _ w.heap.size w.heap.size acc ⟨#[92, 110]⟩ V2.out.bu (by show acc.length + 2 ≤ _; omega) V2.out.sz).mono ?_
        rintro e w3 ⟨⟨n3, rfl⟩, b3, l3, k3⟩
        have v3 := V2.out.wrote b3 l3 k3 (by simp; omega)
        have R3 : Hid (Es w w3 t (d.length + 1) (acc ++ escaped (Lib.encodeRune (10 : Nat)))) := by
          unfold Hid
          rw [he]
          have : acc ++ escaped [10] = acc ++ [92, 110] := by simp [escaped]
          rw [this]
          exact v3
        clear b3 l3 k3 v3
        go_wp2_with fail
        go_roundw
        case rel => exact FIN.out w3 R3.out
        case measure => rw [MEA.out w3 _ R3.out, HP.out]; omega
      by_cases c13 : c = 13
      · subst c13
        have he : Lib.encodeRune (13 : Nat) = [13] := enc_low (by omega)
        obtain rfl : m = 1 := by rw [HM.out, he]; rfl
        go_wp2_with fail
        refine (wstring_k _ w.heap.size w.heap.size acc ⟨#[92, 114]⟩ V2.out.bu (by show acc.length + 2 ≤ _; omega) V2.out.sz).mono ?_
        rintro e w3 ⟨⟨n3, rfl⟩, b3, l3, k3⟩
        have v3 := V2.out.wrote b3 l3 k3 (by simp; omega)
        have R3 : Hid (Es w w3 t (d.length + 1) (acc ++ escaped (Lib.encodeRune (13 : Nat)))) := by
          unfold Hid
          rw [he]
          have : acc ++ escaped [13] = acc ++ [92, 114] := by simp [escaped]
          rw [this]
          exact v3
        clear b3 l3 k3 v3
        go_wp2_with fail
        go_roundw
        case rel => exact FIN.out w3 R3.out
        case measure => rw [MEA.out w3 _ R3.out, HP.out]; omega
      have he := escaped_other c92 c34 c10 c13
      have d1 : ¬ ((c : Int) = 92) := by omega
      have d2 : ¬ ((c : Int) = 34) := by omega
      have d3 : ¬ ((c : Int) = 10) := by omega
      have d4 : ¬ ((c : Int) = 13) := by omega
      have HE : Hid (escaped (Lib.encodeRune c) = Lib.encodeRune c) := he
      have HH : Hid (acc.length ≤ 2 * d.length ∧ c ≤ 1114111 ∧ t.length = d.length + (m + l.length) ∧ 1 ≤ m ∧ m ≤ 4) := ⟨hacl, hcm, hll, hp, hL4⟩
      clear he c92 c34 c10 c13 hacl hcm hll hp hL4 hv
      go_wp2_with fail
      obtain ⟨hacl, hcm, hll, hp, hL4⟩ := HH.out
      refine (wrune_k _ w.heap.size w.heap.size acc (c : Int) V2.out.bu (by omega) (by omega) (by omega) V2.out.sz).mono ?_
      rintro e w3 ⟨⟨n3, rfl⟩, b3, l3, k3⟩
      have v3 := V2.out.wrote b3 l3 k3 (by have := HM.out; simp only [List.length_append]; omega)
      have R3 : Hid (Es w w3 t (d.length + m) (acc ++ escaped (Lib.encodeRune c))) := by
        unfold Hid
        rw [HE.out]
        exact v3
      clear b3 l3 k3 v3
      go_wp2_with fail
      go_roundw
      case rel => exact FIN.out w3 R3.out
      case measure => rw [MEA.out w3 _ R3.out, HP.out]; omega
end Go.Proofs.YtnffjoipinhojabGreatDoor

set_option linter.unusedSimpArgs false
set_option linter.unusedVariables false
namespace Go.Proofs.YtnffjoipinhojabGreatDoor
open Go.RowKit

theorem cat_str (l m : List UInt8) : (⟨l.toArray⟩ : ByteArray) ++ ⟨m.toArray⟩ = ⟨(l ++ m).toArray⟩ := by
  apply ByteArray.ext
  simp

theorem str_inj {l m : List UInt8} (h : (⟨l.toArray⟩ : ByteArray) = ⟨m.toArray⟩) : l = m := by
  have := congrArg (fun x : ByteArray => x.data.toList) h
  simpa using this

theorem arr_size (l : List UInt8) : (⟨l.toArray⟩ : ByteArray).size = l.length := by show l.toArray.size = _; simp

theorem ret_str {a b : ByteArray} (h : a = b) : Ending.returned (.string a) = .returned (.string b) := by rw [h]
theorem cat_size (a b : ByteArray) : (a ++ b).size = a.size + b.size := ByteArray.size_append

set_option maxHeartbeats 4000000 in
theorem form_any (w : World) (t l k : List UInt8) (ht : VU t) (hl : asc l) (hz : t.length ≤ 4398046511104) (hzl : l.length ≤ 4398046511104) (hzk : k.length ≤ 43980465111040) :
    Calls Tryz.prog 203 #[.agg #[str t, str l, str k]] w fun e w' => e = .returned (str (form t l k)) ∧ Below w.heap.size w w' := by
  have he := escaped_len t
  obtain ⟨X, hX⟩ : ∃ X : ByteArray, X = ⟨(escaped t).toArray⟩ := ⟨_, rfl⟩
  have HE : Hid (∀ w2, Calls Tryz.prog 222 #[str t] w2 fun e w' => e = .returned (.string X) ∧ Below w2.heap.size w2 w') := fun w2 => by rw [hX]; exact escaped_any w2 t ht hz
  have hXs : X.size ≤ 8796093022208 := by rw [hX, arr_size]; omega
  obtain ⟨y1, hy1⟩ : ∃ y : ByteArray, (⟨#[34]⟩ : ByteArray) ++ X = y := ⟨_, rfl⟩
  have hs1 : y1.size ≤ 8796093022209 := by rw [← hy1, cat_size]; show 1 + X.size ≤ _; omega
  obtain ⟨y2, hy2⟩ : ∃ y : ByteArray, y1 ++ (⟨#[34]⟩ : ByteArray) = y := ⟨_, rfl⟩
  have hs2 : y2.size ≤ 8796093022210 := by rw [← hy2, cat_size]; show y1.size + 1 ≤ _; omega
  have HY : Hid (y2 = ⟨([34] ++ escaped t ++ [34]).toArray⟩) := by
    unfold Hid
    rw [← hy2, ← hy1, hX]
    rw [show (⟨#[34]⟩ : ByteArray) = ⟨[34].toArray⟩ from rfl, cat_str, cat_str]
  have CELLS : Hid (∀ (c : Array Value) (T : TypeId) (w2 : World), Below (w.alloc (.cells c T)).heap.size (w.alloc (.cells c T)) w2 → (∀ j, w2.cell? ⟨w.heap.size, j, none⟩ = c[j]?) ∧ Below w.heap.size w w2) := by
    intro c T w2 hb
    refine ⟨fun j => ?_, ((Below.refl _ w).alloc (Nat.le_refl _) _).trans (hb.mono (by simp))⟩
    rw [hb.cell (p := ⟨w.heap.size, j, none⟩) (by simp)]
    simp
  clear hX he ht
  by_cases c1 : l = []
  · subst c1
    by_cases c2 : k = []
    · subst c2
      have HF : Hid (form t [] [] = [34] ++ escaped t ++ [34]) := by unfold Hid form; simp
      go_enter Tryz.func203, Tryz.ntmps203
      go_wp2_with fail
      refine (HE.out _).mono ?_
      rintro e w2 ⟨rfl, hB2⟩
      obtain ⟨cl, hB⟩ := CELLS.out _ _ _ hB2
      have g1 := cl 1
      have g2 := cl 2
      simp at g1 g2
      clear cl hB2
      go_wp2_with fail
      go_ret
      exact ⟨ret_str (by rw [HF.out]; exact HY.out), hB⟩
    · by_cases c3 : k = stringKind
      · subst c3
        have HF : Hid (form t [] stringKind = [34] ++ escaped t ++ [34]) := by unfold Hid form; simp
        have e5 : str stringKind = .string ⟨#[60, 104, 116, 116, 112, 58, 47, 47, 119, 119, 119, 46, 119, 51, 46, 111, 114, 103, 47, 50, 48, 48, 49, 47, 88, 77, 76, 83, 99, 104, 101, 109, 97, 35, 115, 116, 114, 105, 110, 103, 62]⟩ := rfl
        rw [e5]
        clear e5
        go_enter Tryz.func203, Tryz.ntmps203
        go_wp2_with fail
        refine (HE.out _).mono ?_
        rintro e w2 ⟨rfl, hB2⟩
        obtain ⟨cl, hB⟩ := CELLS.out _ _ _ hB2
        have g1 := cl 1
        have g2 := cl 2
        simp at g1 g2
        clear cl hB2
        go_wp2_with fail
        go_ret
        exact ⟨ret_str (by rw [HF.out]; exact HY.out), hB⟩
      · have HF : Hid (form t [] k = [34] ++ escaped t ++ [34] ++ [94, 94] ++ k) := by unfold Hid form; rw [if_neg (by simp), if_pos ⟨c2, c3⟩]
        obtain ⟨K, hK⟩ : ∃ K : ByteArray, K = ⟨k.toArray⟩ := ⟨_, rfl⟩
        have hk1 : K.toList.isEmpty = false := by
          rw [ByteArray.toList_eq, hK]
          cases k with
          | nil => exact absurd rfl c2
          | cons => rfl
        have hk2 : (K.toList == [60, 104, 116, 116, 112, 58, 47, 47, 119, 119, 119, 46, 119, 51, 46, 111, 114, 103, 47, 50, 48, 48, 49, 47, 88, 77, 76, 83, 99, 104, 101, 109, 97, 35, 115, 116, 114, 105, 110, 103, 62]) = false := by
          rw [beq_eq_false_iff_ne, ByteArray.toList_eq, hK]
          exact c3
        have hKs : K.size ≤ 43980465111040 := by rw [hK, arr_size]; omega
        obtain ⟨y3, hy3⟩ : ∃ y : ByteArray, y2 ++ (⟨#[94, 94]⟩ : ByteArray) = y := ⟨_, rfl⟩
        have hs3 : y3.size ≤ 8796093022212 := by rw [← hy3, cat_size]; show y2.size + 2 ≤ _; omega
        have HK : Hid (y3 ++ K = ⟨([34] ++ escaped t ++ [34] ++ [94, 94] ++ k).toArray⟩) := by
          unfold Hid
          rw [← hy3, HY.out, hK, show (⟨#[94, 94]⟩ : ByteArray) = ⟨[94, 94].toArray⟩ from rfl, cat_str, cat_str]
        show Calls Tryz.prog 203 #[.agg #[str t, str [], .string ⟨k.toArray⟩]] w _
        rw [← hK]
        clear hK c2 c3
        go_enter Tryz.func203, Tryz.ntmps203
        go_wp2_with fail
        refine (HE.out _).mono ?_
        rintro e w2 ⟨rfl, hB2⟩
        obtain ⟨cl, hB⟩ := CELLS.out _ _ _ hB2
        have g1 := cl 1
        have g2 := cl 2
        simp at g1 g2
        clear cl hB2
        go_wp2_with fail
        go_ret
        exact ⟨ret_str (by rw [HF.out]; exact HK.out), hB⟩
  · have HF : Hid (form t l k = [34] ++ escaped t ++ [34] ++ [64] ++ Lib.toLowerA l) := by unfold Hid form; rw [if_pos c1]
    obtain ⟨L, hL⟩ : ∃ L : ByteArray, L = ⟨l.toArray⟩ := ⟨_, rfl⟩
    have hl1 : L.toList.isEmpty = false := by
      rw [ByteArray.toList_eq, hL]
      cases l with
      | nil => exact absurd rfl c1
      | cons => rfl
    obtain ⟨M, hM⟩ : ∃ M : ByteArray, M = ⟨(Lib.toLowerA l).toArray⟩ := ⟨_, rfl⟩
    have hMs : M.size ≤ 4398046511104 := by rw [hM, arr_size]; unfold Lib.toLowerA; rw [List.length_map]; omega
    have HT : Hid (∀ w2, Calls Tryz.prog 223 #[.string L] w2 fun e w' => e = .returned (.string M) ∧ Below w2.heap.size w2 w') := fun w2 => by
      have := toLower_any w2 ⟨l.toArray⟩ (by rw [arr_size]; omega) (fun j b hj => hl b (List.mem_of_getElem? hj))
      rw [hL, hM]
      exact this
    obtain ⟨y3, hy3⟩ : ∃ y : ByteArray, y2 ++ (⟨#[64]⟩ : ByteArray) = y := ⟨_, rfl⟩
    have hs3 : y3.size ≤ 8796093022212 := by rw [← hy3, cat_size]; show y2.size + 1 ≤ _; omega
    have HK : Hid (y3 ++ M = ⟨([34] ++ escaped t ++ [34] ++ [64] ++ Lib.toLowerA l).toArray⟩) := by
      unfold Hid
      rw [← hy3, HY.out, hM, show (⟨#[64]⟩ : ByteArray) = ⟨[64].toArray⟩ from rfl, cat_str, cat_str]
    show Calls Tryz.prog 203 #[.agg #[str t, .string ⟨l.toArray⟩, str k]] w _
    rw [← hL]
    clear hL c1 hl hM
    go_enter Tryz.func203, Tryz.ntmps203
    go_wp2_with fail
    refine (HE.out _).mono ?_
    rintro e w2 ⟨rfl, hB2⟩
    obtain ⟨cl, hB⟩ := CELLS.out _ _ _ hB2
    have g1 := cl 1
    simp at g1
    clear cl hB2
    go_wp2_with fail
    refine (HT.out _).mono ?_
    rintro e w3 ⟨rfl, hB3⟩
    go_wp2_with fail
    go_ret
    exact ⟨ret_str (by rw [HF.out]; exact HK.out), hB.trans (hB3.mono hB.size)⟩
end Go.Proofs.YtnffjoipinhojabGreatDoor

