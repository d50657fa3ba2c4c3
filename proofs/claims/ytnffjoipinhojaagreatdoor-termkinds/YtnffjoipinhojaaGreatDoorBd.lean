import Derived.Test.YtnffjoipinhojaaGreatDoorSh
import Derived.Test.YtnffjoipinhojaaGreatDoorFr
namespace Go.Proofs.YtnffjoipinhojaaGreatDoor
open Go.RowKit

/-- A strings.Builder of the call's own in block b (from B on), holding the bytes l. -/
def Bu (B b : Nat) (l : List UInt8) (w : World) : Prop := Lib.IsBuilderF 100 5 B b (Lib.byteCells l) w

theorem byteCells_append (l m : List UInt8) : Lib.byteCells (l ++ m) = Lib.byteCells l ++ Lib.byteCells m := by simp [Lib.byteCells]
theorem byteCells_length (l : List UInt8) : (Lib.byteCells l).length = l.length := by simp [Lib.byteCells]

theorem wrune_any (w : World) (B b : Nat) (l : List UInt8) (r : Int) (h : Bu B b l w) (h0 : -2147483648 ≤ r) (h1 : r ≤ 2147483647) (hl : l.length + 4 ≤ 140737488355328) (hB : B ≤ w.heap.size) :
    Calls Tryz.prog 138 #[.pointer (some ⟨b, 0, none⟩), .int .i32 r] w fun e w' => (∃ n, e = .returned (.tuple #[.int .i64 n, .nilIface])) ∧ Bu B b (l ++ Lib.encodeRune r) w' ∧ Below B w w' := by
  refine (Any.Builder_WriteRune_k (ρ := Tryz.lays159_ren) { Tryz.lays159 with } Tryz.Builder_Extra_159 B b (Lib.byteCells l) r h0 h1 w h (by rw [byteCells_length]; exact hl) hB).mono ?_
  rintro e w' ⟨rfl, h2, h3, h4⟩
  refine ⟨⟨_, rfl⟩, .inr ?_, h3⟩
  rw [byteCells_append, Lib.byteCells_encodeRune]
  exact h2

theorem wstring_any (w : World) (B b : Nat) (l : List UInt8) (s : ByteArray) (h : Bu B b l w) (hl : l.length + s.size ≤ 140737488355328) (hB : B ≤ w.heap.size) :
    Calls Tryz.prog 58 #[.pointer (some ⟨b, 0, none⟩), .string s] w fun e w' => (∃ n, e = .returned (.tuple #[.int .i64 n, .nilIface])) ∧ Bu B b (l ++ s.data.toList) w' ∧ Below B w w' := by
  refine (Any.Builder_WriteString_k (ρ := Tryz.lays159_ren) { Tryz.lays159 with } Tryz.Builder_Extra_159 B b (Lib.byteCells l) s w h (by rw [byteCells_length]; exact hl) hB).mono ?_
  rintro e w' ⟨rfl, h2, h3, h4⟩
  refine ⟨⟨_, rfl⟩, .inr ?_, h3⟩
  rw [byteCells_append]
  exact h2

theorem wbyte_any (w : World) (B b : Nat) (l : List UInt8) (c : UInt8) (h : Bu B b l w) (hl : l.length + 1 ≤ 140737488355328) (hB : B ≤ w.heap.size) :
    Calls Tryz.prog 140 #[.pointer (some ⟨b, 0, none⟩), .int .u8 (c.toNat : Int)] w fun e w' => e = .returned .nilIface ∧ Bu B b (l ++ [c]) w' ∧ Below B w w' := by
  refine (Any.Builder_WriteByte_k (ρ := Tryz.lays159_ren) { Tryz.lays159 with } Tryz.Builder_Extra_159 B b (Lib.byteCells l) c.toNat w h (by rw [byteCells_length]; exact hl) hB).mono ?_
  rintro e w' ⟨rfl, h2, h3, h4⟩
  refine ⟨rfl, .inr ?_, h3⟩
  rw [byteCells_append]
  exact h2

theorem bstring_any (w : World) (B b : Nat) (l : List UInt8) (h : Bu B b l w) (hB : B ≤ w.heap.size) :
    Calls Tryz.prog 59 #[.pointer (some ⟨b, 0, none⟩)] w fun e w' => e = .returned (.string ⟨l.toArray⟩) ∧ Below B w w' := by
  refine (Any.Builder_String_any_k (ρ := Tryz.lays159_ren) { Tryz.lays159 with } Tryz.Builder_Extra_159 B b l w h hB).mono ?_
  rintro e w' ⟨rfl, h2, h3, h4⟩
  exact ⟨rfl, h3⟩

theorem Bu.fresh (w : World) : Bu w.heap.size w.heap.size [] (w.alloc (.cells #[.pointer none, .slice none 0 0] 100)) :=
  Lib.IsBuilderF.of (Lib.fresh_isBuilder _ _ w)

theorem Bu.lt {B b : Nat} {l : List UInt8} {w : World} (h : Bu B b l w) : b < w.heap.size := h.elim (fun x => x.lt) (fun x => x.lt)

/-- all that lies from B on stands -/
theorem Bu.kept {B b : Nat} {l : List UInt8} {w w' : World} (h : Bu B b l w) (hk : ∀ k, B ≤ k → k < w.heap.size → w'.heap[k]? = w.heap[k]?) : Bu B b l w' := by
  have one : ∀ p, Lib.BuilderAtF 100 5 B b p (Lib.byteCells l) w → Lib.BuilderAtF 100 5 B b p (Lib.byteCells l) w' := by
    intro p x
    have hlt := x.lt
    obtain ⟨hB, v, hb, hown, hne⟩ := x
    refine ⟨hB, v, by rw [hk b hB hlt]; exact hb, ⟨hown.1, ?_⟩, hne⟩
    rcases hown.2 with h1 | ⟨g, cap, cur, fz, h1, h2, h3, h4⟩
    · exact .inl h1
    · refine .inr ⟨g, cap, cur, fz, h1, h2, ?_, h4⟩
      have hg : g < w.heap.size := (Array.getElem?_eq_some_iff.1 h3).1
      rw [hk g h2 hg]
      exact h3
  exact h.elim (fun x => .inl (one _ x)) (fun x => .inr (one _ x))

theorem Bu.adv {B b r j : Nat} {l : List UInt8} {w w' : World} (h : Bu B b l w) (a : Adv r j w w') (hr : r < B) : Bu B b l w' :=
  h.kept fun k h1 h2 => a.other h2 (by omega)

theorem decode_any (w : World) (s : ByteArray) (hT : Lib.Utf8Tabs 1 2 w) :
    Calls Tryz.prog 197 #[.string s] w fun e w' => e = .returned (.tuple #[.int .i32 (Lib.decodeGo s).1, .int .i64 (Lib.decodeGo s).2]) ∧ Below w.heap.size w w' :=
  Any.utf8_DecodeRuneInString (ρ := Tryz.lays159_ren) { Tryz.lays159 with } s w hT

theorem validRune_any (w : World) (r : Int) :
    Calls Tryz.prog 226 #[.int .i32 r] w fun e w' => e = .returned (.bool (Lib.validRune r)) ∧ w' = w :=
  Any.utf8_ValidRune (ρ := Tryz.lays151_ren) { Tryz.lays151 with } r w

theorem toLower_any (w : World) (s : ByteArray) (hs : s.size ≤ 140737488355328) (ha : ∀ (j : Nat) (b : UInt8), s.data.toList[j]? = some b → b.toNat < 128) :
    Calls Tryz.prog 79 #[.string s] w fun e w' => e = .returned (.string ⟨(Lib.toLowerA s.data.toList).toArray⟩) ∧ Below w.heap.size w w' :=
  Any.strings_ToLower_ascii (ρ := Tryz.lays159_ren) Tryz.lays159 Tryz.Builder_Extra_159 s w hs ha

theorem containsRune_ascii (w : World) (s : ByteArray) (r : Int) (h0 : 0 ≤ r) (h1 : r < 128) :
    Calls Tryz.prog 189 #[.string s, .int .i32 r] w fun e w' => e = .returned (.bool (decide (0 ≤ Lib.indexByte s.data.toList r.toNat.toUInt8))) ∧ w' = w :=
  Any.strings_ContainsRune_ascii (ρ := Tryz.lays151_ren) Tryz.lays151 s r w h0 h1

theorem indexRune_ascii (w : World) (s : ByteArray) (r : Int) (h0 : 0 ≤ r) (h1 : r < 128) :
    Calls Tryz.prog 195 #[.string s, .int .i32 r] w fun e w' => e = .returned (.int .i64 (Lib.indexByte s.data.toList r.toNat.toUInt8)) ∧ w' = w :=
  Any.strings_IndexRune_ascii (ρ := Tryz.lays151_ren) { Tryz.lays151 with } s r w h0 h1
end Go.Proofs.YtnffjoipinhojaaGreatDoor
