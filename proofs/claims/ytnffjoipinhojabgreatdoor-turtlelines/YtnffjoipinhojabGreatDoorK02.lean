import Derived.Test.YtnffjoipinhojabGreatDoorK01
import Derived.Deep.RegionLaw
namespace Go.Proofs.YtnffjoipinhojabGreatDoor
open Go.RowKit

/-- A strings.Builder of the call's own in block b (from B on), holding the bytes l. -/
def Bu (B b : Nat) (l : List UInt8) (w : World) : Prop := Lib.IsBuilderF 59 5 B b (Lib.byteCells l) w

theorem byteCells_append (l m : List UInt8) : Lib.byteCells (l ++ m) = Lib.byteCells l ++ Lib.byteCells m := by simp [Lib.byteCells]
theorem byteCells_length (l : List UInt8) : (Lib.byteCells l).length = l.length := by simp [Lib.byteCells]

theorem wrune_any (w : World) (B b : Nat) (l : List UInt8) (r : Int) (h : Bu B b l w) (h0 : -2147483648 ≤ r) (h1 : r ≤ 2147483647) (hl : l.length + 4 ≤ 140737488355328) (hB : B ≤ w.heap.size) :
    Calls Tryz.prog 128 #[.pointer (some ⟨b, 0, none⟩), .int .i32 r] w fun e w' => (∃ n, e = .returned (.tuple #[.int .i64 n, .nilIface])) ∧ Bu B b (l ++ Lib.encodeRune r) w' ∧ Below B w w' := by
  refine (Any.Builder_WriteRune_k (ρ := Tryz.lays159_ren) { Tryz.lays159 with } Tryz.Builder_Extra_159 B b (Lib.byteCells l) r h0 h1 w h (by rw [byteCells_length]; exact hl) hB).mono ?_
  rintro e w' ⟨rfl, h2, h3, h4⟩
  refine ⟨⟨_, rfl⟩, .inr ?_, h3⟩
  rw [byteCells_append, Lib.byteCells_encodeRune]
  exact h2

theorem wstring_any (w : World) (B b : Nat) (l : List UInt8) (s : ByteArray) (h : Bu B b l w) (hl : l.length + s.size ≤ 140737488355328) (hB : B ≤ w.heap.size) :
    Calls Tryz.prog 33 #[.pointer (some ⟨b, 0, none⟩), .string s] w fun e w' => (∃ n, e = .returned (.tuple #[.int .i64 n, .nilIface])) ∧ Bu B b (l ++ s.data.toList) w' ∧ Below B w w' := by
  refine (Any.Builder_WriteString_k (ρ := Tryz.lays159_ren) { Tryz.lays159 with } Tryz.Builder_Extra_159 B b (Lib.byteCells l) s w h (by rw [byteCells_length]; exact hl) hB).mono ?_
  rintro e w' ⟨rfl, h2, h3, h4⟩
  refine ⟨⟨_, rfl⟩, .inr ?_, h3⟩
  rw [byteCells_append]
  exact h2

theorem wbyte_any (w : World) (B b : Nat) (l : List UInt8) (c : UInt8) (h : Bu B b l w) (hl : l.length + 1 ≤ 140737488355328) (hB : B ≤ w.heap.size) :
    Calls Tryz.prog 130 #[.pointer (some ⟨b, 0, none⟩), .int .u8 (c.toNat : Int)] w fun e w' => e = .returned .nilIface ∧ Bu B b (l ++ [c]) w' ∧ Below B w w' := by
  refine (Any.Builder_WriteByte_k (ρ := Tryz.lays159_ren) { Tryz.lays159 with } Tryz.Builder_Extra_159 B b (Lib.byteCells l) c.toNat w h (by rw [byteCells_length]; exact hl) hB).mono ?_
  rintro e w' ⟨rfl, h2, h3, h4⟩
  refine ⟨rfl, .inr ?_, h3⟩
  rw [byteCells_append]
  exact h2

theorem bstring_any (w : World) (B b : Nat) (l : List UInt8) (h : Bu B b l w) (hB : B ≤ w.heap.size) :
    Calls Tryz.prog 24 #[.pointer (some ⟨b, 0, none⟩)] w fun e w' => e = .returned (.string ⟨l.toArray⟩) ∧ Below B w w' := by
  refine (Any.Builder_String_any_k (ρ := Tryz.lays159_ren) { Tryz.lays159 with } Tryz.Builder_Extra_159 B b l w h hB).mono ?_
  rintro e w' ⟨rfl, h2, h3, h4⟩
  exact ⟨rfl, h3⟩

theorem Bu.fresh (w : World) : Bu w.heap.size w.heap.size [] (w.alloc (.cells #[.pointer none, .slice none 0 0] 59)) :=
  Lib.IsBuilderF.of (Lib.fresh_isBuilder _ _ w)

theorem Bu.lt {B b : Nat} {l : List UInt8} {w : World} (h : Bu B b l w) : b < w.heap.size := h.elim (fun x => x.lt) (fun x => x.lt)

/-- all that lies from B on stands -/
theorem Bu.kept {B b : Nat} {l : List UInt8} {w w' : World} (h : Bu B b l w) (hk : ∀ k, B ≤ k → k < w.heap.size → w'.heap[k]? = w.heap[k]?) : Bu B b l w' := by
  have one : ∀ p, Lib.BuilderAtF 59 5 B b p (Lib.byteCells l) w → Lib.BuilderAtF 59 5 B b p (Lib.byteCells l) w' := by
    intro p x
    have hlt := x.lt
    obtain ⟨hB, v, hb, hown, hne⟩ := x
    refine ⟨hB, v, by rw [hk b hB hlt]; exact hb, ⟨hown.1, ?_⟩, hne⟩
    rcases hown.2 with h1 | ⟨g, cap, cur, fz, h1, h2, h3, h4⟩
    · exact .inl h1
    · refine .inr ⟨g, cap, cur, fz, h1, h2, ?_, h4⟩
      have hg : g < w.heap.size := (Array.getElem?_eq_some_iff.1 h3).1
      rw [hk g h2 hg]
      exact h3
  exact h.elim (fun x => .inl (one _ x)) (fun x => .inr (one _ x))

theorem Bu.adv {B b r j : Nat} {l : List UInt8} {w w' : World} (h : Bu B b l w) (a : Adv r j w w') (hr : r < B) : Bu B b l w' :=
  h.kept fun k h1 h2 => a.other h2 (by omega)

theorem decode_any (w : World) (s : ByteArray) (hT : Lib.Utf8Tabs 2 3 w) :
    Calls Tryz.prog 221 #[.string s] w fun e w' => e = .returned (.tuple #[.int .i32 (Lib.decodeGo s).1, .int .i64 (Lib.decodeGo s).2]) ∧ Below w.heap.size w w' :=
  Any.utf8_DecodeRuneInString (ρ := Tryz.lays159_ren) { Tryz.lays159 with } s w hT

theorem validRune_any (w : World) (r : Int) :
    Calls Tryz.prog 211 #[.int .i32 r] w fun e w' => e = .returned (.bool (Lib.validRune r)) ∧ w' = w :=
  Any.utf8_ValidRune (ρ := Tryz.lays151_ren) { Tryz.lays151 with } r w

theorem toLower_any (w : World) (s : ByteArray) (hs : s.size ≤ 140737488355328) (ha : ∀ (j : Nat) (b : UInt8), s.data.toList[j]? = some b → b.toNat < 128) :
    Calls Tryz.prog 223 #[.string s] w fun e w' => e = .returned (.string ⟨(Lib.toLowerA s.data.toList).toArray⟩) ∧ Below w.heap.size w w' :=
  Any.strings_ToLower_ascii (ρ := Tryz.lays159_ren) Tryz.lays159 Tryz.Builder_Extra_159 s w hs ha

theorem containsRune_ascii (w : World) (s : ByteArray) (r : Int) (h0 : 0 ≤ r) (h1 : r < 128) :
    Calls Tryz.prog 176 #[.string s, .int .i32 r] w fun e w' => e = .returned (.bool (decide (0 ≤ Lib.indexByte s.data.toList r.toNat.toUInt8))) ∧ w' = w :=
  Any.strings_ContainsRune_ascii (ρ := Tryz.lays151_ren) Tryz.lays151 s r w h0 h1

theorem indexRune_ascii (w : World) (s : ByteArray) (r : Int) (h0 : 0 ≤ r) (h1 : r < 128) :
    Calls Tryz.prog 182 #[.string s, .int .i32 r] w fun e w' => e = .returned (.int .i64 (Lib.indexByte s.data.toList r.toNat.toUInt8)) ∧ w' = w :=
  Any.strings_IndexRune_ascii (ρ := Tryz.lays151_ren) { Tryz.lays151 with } s r w h0 h1
end Go.Proofs.YtnffjoipinhojabGreatDoor

namespace Go.Proofs.YtnffjoipinhojabGreatDoor
open Go.RowKit

abbrev Tabs (w : World) : Prop := Lib.Utf8Tabs 2 3 w

theorem chr_of_decode (s : ByteArray) (i : Nat) (h : i ≤ s.size) (c n : Nat) (hd : Lib.decodeGo (s.extract i s.size) = (c, n)) :
    chr s i = if c = 65533 ∧ n = 1 then (65533, 0) else (c, n) := by
  unfold Lib.decodeGo at hd
  rw [extract_size s i h, decode_extract s i h] at hd
  unfold chr
  by_cases hi : i < s.size
  · rw [if_neg (by omega)] at hd
    rw [if_pos hi, hd]
    simp only [Prod.mk.injEq]
  · rw [if_pos (by omega)] at hd
    rw [if_neg hi]
    cases hd
    rw [if_neg (by omega)]

set_option maxHeartbeats 1000000 in
theorem next_any (w : World) (b i : Nat) (s : ByteArray) (h : Rd w b s i) (hT : Tabs w) :
    Calls Tryz.prog 200 #[.pointer (some ⟨b, 0, none⟩)] w fun e w' => e = .returned (.tuple #[.int .i32 (chr s i).1, .int .i64 (chr s i).2]) ∧ Below w.heap.size w w' := by
  obtain ⟨c0, c1, fz, le, hs⟩ := h
  obtain ⟨c, n, hd⟩ : ∃ c n, Lib.decodeGo (s.extract i s.size) = (c, n) := ⟨_, _, rfl⟩
  have hc := chr_of_decode s i le c n hd
  have HC : Hid (chr s i = if c = 65533 ∧ n = 1 then (65533, 0) else (c, n)) := hc
  have HT : Hid (Tabs w) := hT
  have hD : ∀ (w2 : World), Tabs w2 → Calls Tryz.prog 221 #[.string (s.extract i s.size)] w2 fun e w' => e = .returned (.tuple #[.int .i32 c, .int .i64 n]) ∧ Below w2.heap.size w2 w' := by
    intro w2 h2
    have := decode_any w2 (s.extract i s.size) h2
    rw [hd] at this
    exact this
  have HD : Hid (∀ (w2 : World), Tabs w2 → Calls Tryz.prog 221 #[.string (s.extract i s.size)] w2 fun e w' => e = .returned (.tuple #[.int .i32 c, .int .i64 n]) ∧ Below w2.heap.size w2 w') := hD
  clear hc hd hT hD
  by_cases h1 : c = 65533
  · by_cases h2 : n = 1
    · subst h1; subst h2
      go_enter Tryz.func200, Tryz.ntmps200
      go_wp2_with fail
      go_region_law (go_simp; go_at_call 221; refine (HD.out w.drew HT.out).mono ?_; rintro e w' ⟨rfl, hB⟩)
      all_goals
        go_wp2
        go_ret2
        exact ⟨by rw [HC.out]; rfl, (Below.refl _ w).drew.trans hB⟩
    · have h2' : ¬ ((n : Int) = 1) := by omega
      go_enter Tryz.func200, Tryz.ntmps200
      go_wp2_with fail
      go_region_law (go_simp; go_at_call 221; refine (HD.out w.drew HT.out).mono ?_; rintro e w' ⟨rfl, hB⟩)
      all_goals
        subst h1
        go_wp2
        go_ret2
        exact ⟨by rw [HC.out, if_neg (by omega)]; rfl, (Below.refl _ w).drew.trans hB⟩
  · have h1' : ¬ ((c : Int) = 65533) := by omega
    go_enter Tryz.func200, Tryz.ntmps200
    go_wp2_with fail
    go_region_law (go_simp; go_at_call 221; refine (HD.out w.drew HT.out).mono ?_; rintro e w' ⟨rfl, hB⟩)
    all_goals
      go_wp2
      go_ret2
      exact ⟨by rw [HC.out, if_neg (by omega)]; rfl, (Below.refl _ w).drew.trans hB⟩

/-- The function value g with what it captured, lb, tells the set p; what it leans on lies in the blocks from lo up to hi. -/
structure IsSet (g : Nat) (lb : Array Value) (p : Int → Bool) (lo hi : Nat) (W : World) : Prop where
  en : ∀ args w, (callFunc g args).run Tryz.prog w = .ok (.enter g args) w
  le : hi ≤ W.heap.size
  at' : ∀ (w : World), (∀ k, lo ≤ k → k < hi → w.heap[k]? = W.heap[k]?) → hi ≤ w.heap.size → ∀ c : Int, 0 ≤ c → c ≤ 1114111 →
    Calls Tryz.prog g (#[.int .i32 c] ++ lb) w fun e w' => e = .returned (.bool (p c)) ∧ Below w.heap.size w w'

theorem IsSet.later {g : Nat} {lb : Array Value} {p : Int → Bool} {lo hi : Nat} {W w : World} (h : IsSet g lb p lo hi W) (hk : ∀ k, lo ≤ k → k < hi → w.heap[k]? = W.heap[k]?) (hs : hi ≤ w.heap.size) : IsSet g lb p lo hi w :=
  ⟨h.en, hs, fun u hu hus => h.at' u (fun k a b => (hu k a b).trans (hk k a b)) hus⟩

theorem IsSet.below {g : Nat} {lb : Array Value} {p : Int → Bool} {lo hi B : Nat} {W w : World} (h : IsSet g lb p lo hi W) (hb : Below B W w) (hB : hi ≤ B) : IsSet g lb p lo hi w :=
  h.later (fun k _ b => hb.block k (by omega)) (Nat.le_trans h.le hb.size)

theorem IsSet.adv {g : Nat} {lb : Array Value} {p : Int → Bool} {lo hi b j : Nat} {W w : World} (h : IsSet g lb p lo hi W) (ha : Adv b j W w) (hb : b < lo ∨ hi ≤ b) : IsSet g lb p lo hi w :=
  h.later (fun k x y => ha.other (by have := h.le; omega) (by omega)) (Nat.le_trans h.le ha.size)

abbrev fnV (g : Nat) (lb : Array Value) : Value := .func (.func g) #[] lb

theorem Tabs.below {w w' : World} {B : Nat} (h : Tabs w) (hb : Below B w w') (h3 : 2 < B) (h4 : 3 < B) : Tabs w' :=
  ⟨fun c hc => (hb.cell (p := ⟨_, _, none⟩) h3).trans (h.1 c hc), fun i hi => ⟨(hb.cell (p := ⟨_, _, none⟩) h4).trans (h.2 i hi).1, (hb.cell (p := ⟨_, _, none⟩) h4).trans (h.2 i hi).2⟩⟩

set_option maxHeartbeats 1000000 in
theorem seesOf_any (w : World) (b i : Nat) (s : ByteArray) (h : Rd w b s i) (hT : Tabs w) (g : Nat) (lb : Array Value) (p : Int → Bool) (lo hi : Nat) (hp : IsSet g lb p lo hi w) :
    Calls Tryz.prog 158 #[.pointer (some ⟨b, 0, none⟩), fnV g lb] w fun e w' => e = .returned (.bool (decide ((chr s i).2 ≠ 0) && p (chr s i).1)) ∧ Below w.heap.size w w' := by
  have hN := next_any w b i s h hT
  by_cases hz : (chr s i).2 = 0
  · obtain ⟨c, n, e⟩ : ∃ c n, chr s i = (c, n) := ⟨_, _, rfl⟩
    simp only [e] at hz hN ⊢
    subst hz
    have HN : Hid (Calls Tryz.prog 200 #[.pointer (some ⟨b, 0, none⟩)] w fun e w' => e = .returned (.tuple #[.int .i32 c, .int .i64 0]) ∧ Below w.heap.size w w') := hN
    clear hN e hp h hT
    go_enter Tryz.func158, Tryz.ntmps158
    go_wp2_with (first
      | (go_at_call 200; refine HN.out.mono ?_; rintro e w1 ⟨rfl, hB⟩))
    go_ret
    exact ⟨ret_bool (by simp), hB⟩
  · have hcd := chr_code hz
    obtain ⟨c, n, e⟩ : ∃ c n, chr s i = (c, n) := ⟨_, _, rfl⟩
    simp only [e] at *
    have HN : Hid (Calls Tryz.prog 200 #[.pointer (some ⟨b, 0, none⟩)] w fun e w' => e = .returned (.tuple #[.int .i32 c, .int .i64 n]) ∧ Below w.heap.size w w') := hN
    have eg := hp.en
    have HP : Hid (∀ w', Below w.heap.size w w' → Calls Tryz.prog g (#[.int .i32 c] ++ lb) w' fun e w' => e = .returned (.bool (p c)) ∧ Below w.heap.size w w') := by
      intro w' hb
      refine (hp.at' w' (fun k _ x => hb.block k (Nat.lt_of_lt_of_le x hp.le)) (Nat.le_trans hp.le hb.size) c (by omega) (by omega)).mono ?_
      rintro e w'' ⟨rfl, hb2⟩
      exact ⟨rfl, hb.trans (hb2.mono hb.size)⟩
    have hd : decide (n ≠ 0) = true := by simpa using hz
    have HD : Hid (decide (n ≠ 0) = true) := hd
    have h1' : (0 : Int) < (n : Int) := by omega
    generalize p c = v at *
    clear hN hcd hp e h hT hz hd
    go_enter Tryz.func158, Tryz.ntmps158
    go_wp2_with (first
      | (go_at_call 200; refine HN.out.mono ?_; rintro e w1 ⟨rfl, hB⟩)
      | (go_at_fn g; refine (HP.out _ hB).mono ?_; rintro e w2 ⟨rfl, hB2⟩))
    go_ret
    exact ⟨ret_bool (by rw [HD.out]; simp), hB2⟩

set_option maxHeartbeats 1000000 in
theorem takes_yes (w : World) (b i : Nat) (s : ByteArray) (h : Rd w b s i) (hT : Tabs w) (g : Nat) (lb : Array Value) (p : Int → Bool) (lo hi : Nat) (hp : IsSet g lb p lo hi w)
    (h1 : (chr s i).2 ≠ 0) (h2 : p (chr s i).1 = true) :
    Calls Tryz.prog 179 #[.pointer (some ⟨b, 0, none⟩), fnV g lb] w fun e w' => e = .returned (.tuple #[.int .i32 (chr s i).1, .bool true]) ∧ Adv b (i + (chr s i).2) w w' := by
  have hS := seesOf_any w b i s h hT g lb p lo hi hp
  have hg : 2 < w.heap.size := World.block_lt_of_cell? w ⟨_, _, none⟩ (hT.1 0 (by omega))
  have hg' : 3 < w.heap.size := World.block_lt_of_cell? w ⟨_, _, none⟩ (hT.2 0 (by omega)).1
  have hcd := chr_code h1
  have hle := chr_le s i
  rw [h2, decide_eq_true h1] at hS
  have HS : Hid (Calls Tryz.prog 158 #[.pointer (some ⟨b, 0, none⟩), fnV g lb] w fun e w' => e = .returned (.bool true) ∧ Below w.heap.size w w') := hS
  have HN : Hid (∀ w', Below w.heap.size w w' → Calls Tryz.prog 200 #[.pointer (some ⟨b, 0, none⟩)] w' fun e w'' => e = .returned (.tuple #[.int .i32 (chr s i).1, .int .i64 (chr s i).2]) ∧ Below w.heap.size w w'') := by
    intro w' hb
    refine (next_any w' b i s (h.below hb) (hT.below hb hg hg')).mono ?_
    rintro e w'' ⟨rfl, hb2⟩
    exact ⟨rfl, hb.trans (hb2.mono hb.size)⟩
  have H : Hid (Rd w b s i) := h
  obtain ⟨c, n, e⟩ : ∃ c n, chr s i = (c, n) := ⟨_, _, rfl⟩
  simp only [e] at *
  have hms := h.ms
  have h3 : i + n ≤ s.size := by omega
  clear hS h2 hcd hle hp e h hT hg hg'
  go_enter Tryz.func179, Tryz.ntmps179
  go_wp2_with (first
    | (go_at_call 158; refine HS.out.mono ?_; rintro e w1 ⟨rfl, hB⟩)
    | (go_at_call 200; refine (HN.out _ hB).mono ?_; rintro e w2 ⟨rfl, hB2⟩; have H2 := H.out.below hB2; obtain ⟨d0, d1, d2, d3, d4⟩ := H2))
  go_ret2
  exact ⟨rfl, (H.out.stay hB2).trans (Adv.set b (i + n) w2 0)⟩

set_option maxHeartbeats 1000000 in
theorem takes_no (w : World) (b i : Nat) (s : ByteArray) (h : Rd w b s i) (hT : Tabs w) (g : Nat) (lb : Array Value) (p : Int → Bool) (lo hi : Nat) (hp : IsSet g lb p lo hi w)
    (h1 : ¬ ((chr s i).2 ≠ 0 ∧ p (chr s i).1 = true)) :
    Calls Tryz.prog 179 #[.pointer (some ⟨b, 0, none⟩), fnV g lb] w fun e w' => e = .returned (.tuple #[.int .i32 0, .bool false]) ∧ Below w.heap.size w w' := by
  have hS := seesOf_any w b i s h hT g lb p lo hi hp
  have hv : (decide ((chr s i).2 ≠ 0) && p (chr s i).1) = false := by
    rw [Bool.eq_false_iff]
    intro hq
    rw [Bool.and_eq_true, decide_eq_true_iff] at hq
    exact h1 hq
  rw [hv] at hS
  clear h1 hp h hT hv
  go_enter Tryz.func179, Tryz.ntmps179
  go_wp2_with (first
    | (go_at_call 158; refine hS.mono ?_; rintro e w1 ⟨rfl, hB⟩))
  go_ret2
  exact ⟨rfl, hB⟩

theorem wants_yes (w : World) (b i : Nat) (s : ByteArray) (h : Rd w b s i) (hT : Tabs w) (g : Nat) (lb : Array Value) (p : Int → Bool) (lo hi : Nat) (hp : IsSet g lb p lo hi w)
    (h1 : (chr s i).2 ≠ 0) (h2 : p (chr s i).1 = true) :
    Calls Tryz.prog 127 #[.pointer (some ⟨b, 0, none⟩), fnV g lb] w fun e w' => e = .returned (.int .i32 (chr s i).1) ∧ Adv b (i + (chr s i).2) w w' := by
  have HT := takes_yes w b i s h hT g lb p lo hi hp h1 h2
  clear h1 h2 h hT hp
  go_enter Tryz.func127, Tryz.ntmps127
  go_wp2_with (first
    | (go_at_call 179; refine HT.mono ?_; rintro e w1 ⟨rfl, hA⟩))
  go_ret
  exact ⟨rfl, hA⟩

theorem wants_no (w : World) (b i : Nat) (s : ByteArray) (h : Rd w b s i) (hT : Tabs w) (g : Nat) (lb : Array Value) (p : Int → Bool) (lo hi : Nat) (hp : IsSet g lb p lo hi w)
    (h1 : ¬ ((chr s i).2 ≠ 0 ∧ p (chr s i).1 = true)) :
    Calls Tryz.prog 127 #[.pointer (some ⟨b, 0, none⟩), fnV g lb] w fun e w' => e = stopE 2 i ∧ Adv b i w w' := by
  have HT := takes_no w b i s h hT g lb p lo hi hp h1
  clear h1 hT hp
  go_enter Tryz.func127, Tryz.ntmps127
  go_wp2_with (first
    | (go_at_call 179; refine HT.mono ?_; rintro e w1 ⟨rfl, hB⟩)
    | (go_at_call 111; refine (refuse_any _ _ _ _ (h.below hB)).mono ?_; rintro e w' ⟨rfl, rfl⟩))
  exact ⟨rfl, rfl, h.stay hB⟩
end Go.Proofs.YtnffjoipinhojabGreatDoor

