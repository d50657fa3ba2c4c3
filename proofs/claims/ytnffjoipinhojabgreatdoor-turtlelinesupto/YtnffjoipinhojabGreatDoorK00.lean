import Derived.Below
import Derived.WalkKit
import Derived.WalkSmall
import Derived.Lib.DecodeN
import Derived.Lib.RuneBytes
import Derived.Lib.Case
import Derived.Shelf.Small.Utf8
namespace Go.Proofs.YtnffjoipinhojabGreatDoor
open Go.RowKit

theorem setCell_heap (w : World) (a : Addr) (v : Value) (k : Nat) : (w.setCell a v).heap[k]? = if k = a.block then (w.heap[k]?).map (fun x => match x with
        | Go.Obj.cells c elem frozen => Go.Obj.cells (if a.spot.isSome = true then c else c.setIfInBounds a.off v) elem frozen
        | o => o) else w.heap[k]? := by
  simp only [World.setCell, Array.getElem?_modify]
  by_cases h : k = a.block
  · subst h; rw [if_pos rfl, if_pos rfl]; congr 1
  · rw [if_neg (fun e => h e.symm), if_neg h]

theorem setCell_same {w : World} {a : Addr} {v : Value} (h : w.cell? a = some v) (k : Nat) : (w.setCell a v).heap[k]? = w.heap[k]? := by
  rw [setCell_heap]
  split
  · rename_i e
    subst e
    unfold World.cell? at h
    cases hb : w.heap[a.block]? with
    | none => rfl
    | some o =>
      rw [hb] at h
      cases o with
      | cells c t f =>
        simp only at h
        split at h
        · cases h
        · rename_i hs
          simp only [Option.map_some, if_neg hs]
          have hz : c.setIfInBounds a.off v = c := by
            apply Array.ext
            · simp
            · intro i h1 h2
              rw [Array.getElem_setIfInBounds]
              · split
                · rename_i e
                  subst e
                  rw [Array.getElem?_eq_some_iff] at h
                  exact h.2.symm
                · rfl
          rw [hz]
      | _ => rfl
  · rfl

theorem setCell_over (w : World) (b o : Nat) (u v : Value) (k : Nat) : ((w.setCell ⟨b, o, none⟩ u).setCell ⟨b, o, none⟩ v).heap[k]? = (w.setCell ⟨b, o, none⟩ v).heap[k]? := by
  rw [setCell_heap, setCell_heap, setCell_heap]
  simp only [Option.isSome_none]
  by_cases h : k = b
  · simp only [if_pos h]
    cases w.heap[k]? with
    | none => rfl
    | some x => cases x <;> simp
  · simp only [if_neg h]

theorem setCell_cong {w w' : World} {a : Addr} {v : Value} {k : Nat} (h : w'.heap[k]? = w.heap[k]?) : (w'.setCell a v).heap[k]? = (w.setCell a v).heap[k]? := by
  rw [setCell_heap, setCell_heap, h]

/-- The reader in block b stands at j now; nothing else that lay has turned. -/
def Adv (b j : Nat) (w w' : World) : Prop := Below w.heap.size (w.setCell ⟨b, 1, none⟩ (.int .i64 j)) w'

theorem Adv.size {b j : Nat} {w w' : World} (h : Adv b j w w') : w.heap.size ≤ w'.heap.size := by have := Below.size h; simpa using this

theorem Adv.block {b j : Nat} {w w' : World} (h : Adv b j w w') {k : Nat} (hk : k < w.heap.size) : w'.heap[k]? = (w.setCell ⟨b, 1, none⟩ (.int .i64 j)).heap[k]? := Below.block h k hk

theorem Adv.other {b j : Nat} {w w' : World} (h : Adv b j w w') {k : Nat} (hk : k < w.heap.size) (hb : k ≠ b) : w'.heap[k]? = w.heap[k]? := by
  rw [h.block hk, setCell_heap, if_neg hb]

theorem Adv.trans {b i j : Nat} {w w' w'' : World} (h : Adv b i w w') (k : Adv b j w' w'') : Adv b j w w'' := by
  refine ⟨k.os.trans h.os, k.tape.trans h.tape, k.output.trans h.output, ?_, fun x hx => ?_⟩
  · have := h.size; have := k.size; simp; omega
  · rw [k.block (Nat.lt_of_lt_of_le hx h.size), setCell_cong (h.block hx), setCell_over]

theorem Adv.below {b j : Nat} {w w' : World} (h : Adv b j w w') {B : Nat} (hB : B ≤ b) (hw : B ≤ w.heap.size) : Below B w w' :=
  ⟨h.os, h.tape, h.output, h.size, fun k hk => h.other (by omega) (by omega)⟩

/-- From a world as w on: no step. -/
theorem Adv.of_below {b j : Nat} {w w' : World} (hc : w.cell? ⟨b, 1, none⟩ = some (.int .i64 j)) (h : Below w.heap.size w w') : Adv b j w w' :=
  ⟨h.os, h.tape, h.output, by simpa using h.size, fun k hk => by rw [h.block k hk, setCell_same hc]⟩

theorem Adv.then_below {b j : Nat} {w w' w'' : World} (h : Adv b j w w') (k : Below w'.heap.size w' w'') : Adv b j w w'' :=
  Below.trans h (k.mono h.size)

theorem Adv.set (b j : Nat) (w : World) (n : Nat) : Adv b j w ((w.setCell ⟨b, 1, none⟩ (.int .i64 j)).drewN n) := below_drewN (Below.refl _ _) n

theorem Adv.cell {b j : Nat} {w w' : World} (h : Adv b j w w') {c o : Nat} (hc : c < w.heap.size) (hn : ¬ (c = b ∧ o = 1)) : w'.cell? ⟨c, o, none⟩ = w.cell? ⟨c, o, none⟩ := by
  rw [Below.cell h (p := ⟨c, o, none⟩) hc]
  exact World.cell?_setCell_other _ _ _ _ (fun e => hn (by cases e; exact ⟨rfl, rfl⟩))

theorem Adv.frozen {b j : Nat} {w w' : World} (h : Adv b j w w') {c o : Nat} (hc : c < w.heap.size) : w'.frozen? ⟨c, o, none⟩ = w.frozen? ⟨c, o, none⟩ := by
  rw [Below.frozen h (p := ⟨c, o, none⟩) hc]
  exact World.frozen?_setCell _ _ _ _

/-- A scan.Reader lies at the head of block b: over the text s, at place i. -/
structure Rd (w : World) (b : Nat) (s : ByteArray) (i : Nat) : Prop where
  c0 : w.cell? ⟨b, 0, none⟩ = some (.string s)
  c1 : w.cell? ⟨b, 1, none⟩ = some (.int .i64 i)
  fz : w.frozen? ⟨b, 1, none⟩ = false
  le : i ≤ s.size
  ms : s.size ≤ 9223372036854775807

theorem Rd.drewN {w : World} {b i : Nat} {s : ByteArray} (h : Rd w b s i) (n : Nat) : Rd (w.drewN n) b s i := ⟨h.c0, h.c1, h.fz, h.le, h.ms⟩

theorem Rd.lt {w : World} {b i : Nat} {s : ByteArray} (h : Rd w b s i) : b < w.heap.size := World.block_lt_of_cell? w ⟨b, 0, none⟩ h.c0

theorem Rd.adv {w w' : World} {b i j : Nat} {s : ByteArray} (h : Rd w b s i) (a : Adv b j w w') (hj : j ≤ s.size) : Rd w' b s j :=
  ⟨(a.cell h.lt (by simp)).trans h.c0, by rw [Below.cell a (p := ⟨b, 1, none⟩) h.lt]; exact World.cell?_setCell_same _ _ _ h.c1, (a.frozen h.lt).trans h.fz, hj, h.ms⟩

theorem Rd.below {w w' : World} {b i : Nat} {s : ByteArray} (h : Rd w b s i) (a : Below w.heap.size w w') : Rd w' b s i :=
  h.adv (Adv.of_below h.c1 a) h.le

theorem Rd.stay {w w' : World} {b i : Nat} {s : ByteArray} (h : Rd w b s i) (a : Below w.heap.size w w') : Adv b i w w' := Adv.of_below h.c1 a

theorem Rd.stayN {w : World} {b i : Nat} {s : ByteArray} (h : Rd w b s i) (n : Nat) : Adv b i w (w.drewN n) := h.stay (below_drewN (Below.refl _ _) n)

end Go.Proofs.YtnffjoipinhojabGreatDoor

set_option linter.unusedVariables false
set_option linter.unusedSimpArgs false
namespace Go.Proofs.YtnffjoipinhojabGreatDoor

/-- The byte at a place; 256: none. -/
def bt (s : ByteArray) (i : Nat) : Int := if h : i < s.size then (s[i].toNat : Int) else 256
theorem bt_lt {s : ByteArray} {i : Nat} (h : i < s.size) : bt s i = (s[i].toNat : Int) := by unfold bt; rw [dif_pos h]
theorem bt_end {s : ByteArray} {i : Nat} (h : s.size ≤ i) : bt s i = 256 := by unfold bt; rw [dif_neg (by omega)]
theorem bt_range (s : ByteArray) (i : Nat) : 0 ≤ bt s i ∧ bt s i ≤ 256 := by
  unfold bt
  split
  · have := s[i].toNat_lt; omega
  · omega
theorem bt_in {s : ByteArray} {i : Nat} {c : Int} (h : bt s i = c) (hc : c < 256) : i < s.size := by
  rcases Nat.lt_or_ge i s.size with k | k
  · exact k
  · rw [bt_end k] at h; omega
theorem bt_lt_size {s : ByteArray} {i : Nat} (h : bt s i < 256) : i < s.size := bt_in rfl h

/-- The bytes from i up to j. -/
def sub (s : ByteArray) (i j : Nat) : List UInt8 := (s.data.toList.drop i).take (j - i)

/-- The right character at a place and its bytes; no bytes: none. -/
def chr (s : ByteArray) (i : Nat) : Nat × Nat :=
  if i < s.size then (if Utf8.decode s i = (65533, 1) then (65533, 0) else Utf8.decode s i) else (65533, 0)

theorem get!_bt {s : ByteArray} {i : Nat} (h : i < s.size) : ((s.get! i).toNat : Int) = bt s i := by
  rw [bt_lt h]
  simp [ByteArray.get!, getElem!_pos, h]
  rfl

theorem get!_end {s : ByteArray} {i : Nat} (h : s.size ≤ i) : (s.get! i) = 0 := by
  have : ¬ i < s.data.size := by show ¬ i < s.size; omega
  show s.data[i]! = 0
  rw [getElem!_neg s.data i this]
  rfl

theorem extract_size (s : ByteArray) (i : Nat) (h : i ≤ s.size) : (s.extract i s.size).size = s.size - i := by
  simp [ByteArray.size_extract]

theorem extract_get! (s : ByteArray) (i k : Nat) (h : i ≤ s.size) : (s.extract i s.size).get! k = s.get! (i + k) := by
  rcases Nat.lt_or_ge (i + k) s.size with hk | hk
  · have h1 : k < (s.extract i s.size).size := by rw [extract_size s i h]; omega
    have e1 : (s.extract i s.size).get! k = (s.extract i s.size)[k] := by
      show (s.extract i s.size).data[k]! = _
      rw [getElem!_pos (s.extract i s.size).data k h1]; rfl
    have e2 : s.get! (i + k) = s[i + k] := by simp [ByteArray.get!, getElem!_pos, hk]; rfl
    rw [e1, e2, ByteArray.getElem_extract]
  · rw [get!_end hk, get!_end (by rw [extract_size s i h]; omega)]

theorem decode_extract (s : ByteArray) (i : Nat) (h : i ≤ s.size) : Utf8.decode (s.extract i s.size) 0 = Utf8.decode s i := by
  rw [Lib.decode_at, Lib.decode_at, extract_size s i h]
  simp only [extract_get! s i _ h, Nat.sub_zero, Nat.zero_add, Nat.add_zero]

inductive R (α : Type) where
  | ok (a : α) (j : Nat)
  | bad (j : Nat)

def letter (c : Int) : Bool := decide ((65 ≤ c ∧ c ≤ 90) ∨ (97 ≤ c ∧ c ≤ 122))
def digit (c : Int) : Bool := decide (48 ≤ c ∧ c ≤ 57)
def alnum (c : Int) : Bool := letter c || digit c
def inScheme (c : Int) : Bool := letter c || digit c || decide (c = 43 ∨ c = 45 ∨ c = 46)
def control (c : Int) : Bool := decide (c ≤ 32 ∨ c = 127)
def badIri (c : Int) : Bool := decide (c = 60 ∨ c = 62 ∨ c = 34 ∨ c = 123 ∨ c = 125 ∨ c = 124 ∨ c = 94 ∨ c = 96 ∨ c = 92)
def inIri (c : Int) : Bool := !(control c || badIri c)
def plainQ (c : Int) : Bool := !decide (c = 10 ∨ c = 13 ∨ c = 34 ∨ c = 92)
def allc (_ : Int) : Bool := true
def hexv (c : Int) : Int := if 48 ≤ c ∧ c ≤ 57 then c - 48 else if 65 ≤ c ∧ c ≤ 70 then c - 55 else if 97 ≤ c ∧ c ≤ 102 then c - 87 else -1

theorem hexv_lt {c : Int} (h : ¬ hexv c < 0) : 48 ≤ c ∧ c ≤ 102 ∧ hexv c ≤ 15 := by
  unfold hexv at *
  repeat' split at h
  all_goals first | (split <;> omega) | omega
  
def shortOf (c : Int) : Option Nat :=
  if c = 116 then some 9 else if c = 98 then some 8 else if c = 110 then some 10 else if c = 114 then some 13 else if c = 102 then some 12 else if c = 34 then some 34 else if c = 39 then some 39 else if c = 92 then some 92 else none

def hexs (s : ByteArray) : Nat → Nat → Nat → R Nat
  | 0, j, acc => .ok acc j
  | k + 1, j, acc => if hexv (bt s j) < 0 then .bad j else hexs s k (j + 1) (16 * acc + (hexv (bt s j)).toNat)

def num (s : ByteArray) (i j k : Nat) (has : Int → Bool) : R Nat :=
  match hexs s k j 0 with
  | .bad j' => .bad j'
  | .ok n j' => if Lib.validRune n && has n then .ok n j' else .bad i

def esc (s : ByteArray) (i : Nat) (has : Int → Bool) (short : Bool) : R Nat :=
  if bt s (i + 1) = 117 then num s i (i + 2) 4 has
  else if bt s (i + 1) = 85 then num s i (i + 2) 8 has
  else if short then (match shortOf (bt s (i + 1)) with | some c => .ok c (i + 2) | none => .bad (i + 1))
  else .bad (i + 1)

def one (s : ByteArray) (i : Nat) (hasP hasE : Int → Bool) (short : Bool) : R Nat :=
  if bt s i = 92 then esc s i hasE short
  else if (chr s i).2 ≠ 0 ∧ hasP (chr s i).1 = true then .ok (chr s i).1 (i + (chr s i).2) else .bad i

theorem hexs_le (s : ByteArray) : ∀ (k j acc n j' : Nat), hexs s k j acc = .ok n j' → j' = j + k ∧ (0 < k → j' ≤ s.size) := by
  intro k
  induction k with
  | zero => intro j acc n j' h; simp only [hexs] at h; cases h; omega
  | succ k ih =>
    intro j acc n j' h
    simp only [hexs] at h
    split at h
    · cases h
    · rename_i hx
      have hl := hexv_lt hx
      have := ih _ _ _ _ h
      have hj : j < s.size := bt_lt_size (by omega)
      rcases Nat.eq_zero_or_pos k with e | e
      · omega
      · have := this.2 e; omega

theorem chr_le (s : ByteArray) (i : Nat) : i + (chr s i).2 ≤ s.size ∨ (chr s i).2 = 0 := by
  unfold chr
  split
  · split
    · exact .inr rfl
    · rename_i hlt hne
      refine .inl ?_
      rw [Lib.decode_at]
      unfold Lib.decodeN
      repeat' split
      all_goals (simp only; omega)
  · exact .inr rfl

theorem chr_ascii {s : ByteArray} {i : Nat} (h : bt s i < 128) : chr s i = ((bt s i).toNat, 1) := by
  have hi : i < s.size := bt_lt_size (by omega)
  have hb := get!_bt hi
  have e : Utf8.decode s i = ((bt s i).toNat, 1) := by
    rw [Lib.decode_at]
    unfold Lib.decodeN
    rw [if_pos (by omega)]
    congr 1
    omega
  unfold chr
  rw [if_pos hi, e, if_neg]
  intro x
  have := congrArg Prod.fst x
  simp only at this
  omega

/-- What a right character's number is, and that its bytes are its own. -/
theorem chr_code {s : ByteArray} {i : Nat} (h : (chr s i).2 ≠ 0) :
    i < s.size ∧ (chr s i).1 ≤ 1114111 ∧ (128 ≤ bt s i → 128 ≤ (chr s i).1) ∧ Lib.encodeRune (chr s i).1 = sub s i (i + (chr s i).2) := by
  unfold chr at *
  split at h
  · rename_i hi
    simp only [if_pos hi]
    split at h
    · exact absurd rfl h
    · rename_i hne
      simp only [if_neg hne]
      have hb := get!_bt hi
      have hr := bt_range s i
      have l0 := (s.get! i).toNat_lt
      have l1 := (s.get! (i + 1)).toNat_lt
      have l2 := (s.get! (i + 2)).toNat_lt
      have l3 := (s.get! (i + 3)).toNat_lt
      have sb : ∀ n, i + n ≤ s.size → sub s i (i + n) = (List.range n).map fun k => s.get! (i + k) := by
        intro n hn
        apply List.ext_getElem?
        intro k
        unfold sub
        rw [Nat.add_sub_cancel_left, List.getElem?_take]
        rcases Nat.lt_or_ge k n with hk | hk
        · rw [if_pos hk, List.getElem?_drop]
          have hl : i + k < s.size := by omega
          have e2 : s.get! (i + k) = s[i + k] := by simp [ByteArray.get!, getElem!_pos, hl]; rfl
          rw [List.getElem?_map, List.getElem?_range hk]
          simp only [Option.map_some, e2]
          rw [List.getElem?_eq_getElem (by simpa using hl)]
          rfl
        · rw [if_neg (by omega), List.getElem?_eq_none (by simpa using hk)]
      have tob : ∀ (x : Int) (u : UInt8), x = (u.toNat : Int) → x.toNat.toUInt8 = u := by
        intro x u e
        subst e
        simp
      revert hne
      rw [Lib.decode_at]
      generalize g0 : s.get! i = u0 at *
      generalize g1 : s.get! (i + 1) = u1 at *
      generalize g2 : s.get! (i + 2) = u2 at *
      generalize g3 : s.get! (i + 3) = u3 at *
      unfold Lib.decodeN
      split
      · intro _
        refine ⟨hi, by simp only; omega, by simp only; omega, ?_⟩
        simp only
        rw [sb 1 (by omega)]
        simp [List.range_succ, Lib.encodeRune, Lib.encodeRuneZ_one (r := (u0.toNat : Int)) (by omega) (by omega), g0]
      · split
        · split
          · intro _
            refine ⟨hi, by simp only; omega, by simp only; omega, ?_⟩
            simp only
            rw [sb 2 (by omega)]
            simp only [List.range_succ, Lib.encodeRune, List.range_zero, List.nil_append, List.map_append, List.map_cons, List.map_nil, Nat.add_zero, List.singleton_append, List.cons_append, g0, g1]
            rw [Lib.encodeRuneZ_two (by omega) (by omega)]
            simp only [List.map_cons, List.map_nil]
            rw [tob _ u0 (by omega), tob _ u1 (by omega)]
          · intro x; exact absurd rfl x
        · split
          · split
            · intro _
              refine ⟨hi, by simp only; omega, by simp only; omega, ?_⟩
              simp only
              rw [sb 3 (by omega)]
              simp only [List.range_succ, Lib.encodeRune, List.range_zero, List.nil_append, List.map_append, List.map_cons, List.map_nil, Nat.add_zero, List.singleton_append, List.cons_append, g0, g1, g2]
              rw [Lib.encodeRuneZ_three (by omega)]
              simp only [List.map_cons, List.map_nil]
              rw [tob _ u0 (by omega), tob _ u1 (by omega), tob _ u2 (by omega)]
            · intro x; exact absurd rfl x
          · split
            · split
              · intro _
                refine ⟨hi, by simp only; omega, by simp only; omega, ?_⟩
                simp only
                rw [sb 4 (by omega)]
                simp only [List.range_succ, Lib.encodeRune, List.range_zero, List.nil_append, List.map_append, List.map_cons, List.map_nil, Nat.add_zero, List.singleton_append, List.cons_append, g0, g1, g2, g3]
                rw [Lib.encodeRuneZ_four (by omega) (by omega)]
                simp only [List.map_cons, List.map_nil]
                rw [tob _ u0 (by omega), tob _ u1 (by omega), tob _ u2 (by omega), tob _ u3 (by omega)]
              · intro x; exact absurd rfl x
            · intro x; exact absurd rfl x
  · exact absurd rfl h

theorem one_lt {s : ByteArray} {i : Nat} {hasP hasE : Int → Bool} {short : Bool} {c j : Nat} (h : one s i hasP hasE short = .ok c j) : i < j ∧ j ≤ s.size := by
  unfold one at h
  split at h
  · rename_i hb
    have hi := bt_in hb (by omega)
    have hn : ∀ k, 0 < k → num s i (i + 2) k hasE = .ok c j → i < j ∧ j ≤ s.size := by
      intro k hk h
      unfold num at h
      split at h
      · cases h
      · rename_i n j' hh
        split at h
        · cases h
          have := hexs_le _ _ _ _ _ _ hh
          have := this.2 hk
          omega
        · cases h
    unfold esc at h
    split at h
    · exact hn _ (by omega) h
    · split at h
      · exact hn _ (by omega) h
      · split at h
        · split at h
          · rename_i x hx
            cases h
            have : i + 1 < s.size := by
              apply bt_lt_size
              unfold shortOf at hx
              repeat' split at hx
              all_goals first | omega | cases hx
            omega
          · cases h
        · cases h
  · split at h
    · rename_i h2
      cases h
      have := chr_le s i
      omega
    · cases h

def R.pre (l : List UInt8) : R (List UInt8) → R (List UInt8)
  | .ok m j => .ok (l ++ m) j
  | .bad j => .bad j

/-- Characters up to the sign q. -/
def body (s : ByteArray) (q : Int) (hasP hasE : Int → Bool) (short : Bool) (i : Nat) : R (List UInt8) :=
  if bt s i = q then .ok [] (i + 1)
  else match h : one s i hasP hasE short with
    | .bad j => .bad j
    | .ok c j => (body s q hasP hasE short j).pre (Lib.encodeRune c)
termination_by s.size - i
decreasing_by have := one_lt h; omega

def scheme (s : ByteArray) (i : Nat) : R Unit :=
  if bt s i = 58 then .ok () (i + 1)
  else if h : inScheme (bt s i) = true then scheme s (i + 1) else .bad i
termination_by s.size - i
decreasing_by
  have : i < s.size := by
    apply bt_lt_size
    simp [inScheme, letter, digit] at h
    omega
  omega

/-- How many bytes in a row the set has, and no more than k. -/
def run (p : Int → Bool) (s : ByteArray) : Nat → Nat → Nat
  | 0, _ => 0
  | k + 1, i => if p (bt s i) then run p s k (i + 1) + 1 else 0

theorem alnum_lt {c : Int} (h : alnum c = true) : 0 ≤ c ∧ c < 128 := by simp [alnum, letter, digit] at h; omega
theorem letter_lt {c : Int} (h : letter c = true) : 0 ≤ c ∧ c < 128 := by simp [letter] at h; omega

theorem run_le (p : Int → Bool) (hp : ∀ c, p c = true → c < 256) (s : ByteArray) : ∀ k i, run p s k i ≤ k ∧ (run p s k i = 0 ∨ i + run p s k i ≤ s.size) := by
  intro k
  induction k with
  | zero => intro i; simp [run]
  | succ k ih =>
    intro i
    simp only [run]
    split
    · rename_i h
      have := ih (i + 1)
      have hl := bt_lt_size (hp _ h)
      omega
    · simp

def langTail (s : ByteArray) (i : Nat) : R Unit :=
  if h : bt s i = 45 then (if run alnum s 8 (i + 1) = 0 then .bad (i + 1) else langTail s (i + 1 + run alnum s 8 (i + 1))) else .ok () i
termination_by s.size - i
decreasing_by have := bt_in h (by omega); omega

def language (s : ByteArray) (i : Nat) : R Unit :=
  if run letter s 8 i = 0 then .bad i else langTail s (i + run letter s 8 i)

def iri (s : ByteArray) (i : Nat) : R (List UInt8) :=
  if bt s i ≠ 60 then .bad i
  else if letter (bt s (i + 1)) = false then .bad (i + 1)
  else match scheme s (i + 2) with
    | .bad j => .bad j
    | .ok _ j => match body s 62 inIri inIri false j with
      | .bad k => .bad k
      | .ok m k => .ok (sub s i j ++ m ++ [62]) k

def blank (s : ByteArray) (i : Nat) : R (List UInt8) :=
  if bt s i ≠ 95 then .bad i
  else if bt s (i + 1) ≠ 58 then .bad (i + 1)
  else if run alnum s 20 (i + 2) = 0 then .bad (i + 2)
  else .ok (sub s i (i + 2 + run alnum s 20 (i + 2))) (i + 2 + run alnum s 20 (i + 2))

def quoted (s : ByteArray) (i : Nat) : R (List UInt8) :=
  if bt s i ≠ 34 then .bad i else body s 34 plainQ allc true (i + 1)

def escaped : List UInt8 → List UInt8
  | [] => []
  | c :: l => (if c = 92 then [92, 92] else if c = 34 then [92, 34] else if c = 10 then [92, 110] else if c = 13 then [92, 114] else [c]) ++ escaped l

def stringKind : List UInt8 := [60, 104, 116, 116, 112, 58, 47, 47, 119, 119, 119, 46, 119, 51, 46, 111, 114, 103, 47, 50, 48, 48, 49, 47, 88, 77, 76, 83, 99, 104, 101, 109, 97, 35, 115, 116, 114, 105, 110, 103, 62]

/-- A literal's one form: its text, its language in small letters, its kind. -/
def form (t l k : List UInt8) : List UInt8 :=
  if l ≠ [] then [34] ++ escaped t ++ [34] ++ [64] ++ Lib.toLowerA l
  else if k ≠ [] ∧ k ≠ stringKind then [34] ++ escaped t ++ [34] ++ [94, 94] ++ k
  else [34] ++ escaped t ++ [34]

structure Lit where
  text : List UInt8
  lang : List UInt8
  kind : List UInt8

def parts (s : ByteArray) (i : Nat) : R Lit :=
  match quoted s i with
  | .bad j => .bad j
  | .ok t j =>
    if bt s j = 64 then (match language s (j + 1) with
      | .bad k => .bad k
      | .ok _ k => .ok ⟨t, sub s (j + 1) k, []⟩ k)
    else if bt s j = 94 then (if bt s (j + 1) ≠ 94 then .bad (j + 1) else match iri s (j + 2) with
      | .bad k => .bad k
      | .ok m k => .ok ⟨t, [], m⟩ k)
    else .ok ⟨t, [], []⟩ j

def literal (s : ByteArray) (i : Nat) : R (List UInt8) :=
  match parts s i with
  | .bad j => .bad j
  | .ok p j => .ok (form p.text p.lang p.kind) j

/-- A term as far as it goes: its kind and its one form. -/
def term (s : ByteArray) (i : Nat) : R (Nat × List UInt8) :=
  if bt s i = 60 then (match iri s i with | .bad j => .bad j | .ok l j => .ok (1, l) j)
  else if bt s i = 95 then (match blank s i with | .bad j => .bad j | .ok l j => .ok (2, l) j)
  else if bt s i = 34 then (match literal s i with | .bad j => .bad j | .ok l j => .ok (3, l) j)
  else .bad i

def whole {α : Type} (s : ByteArray) : R α → R α
  | .bad j => .bad j
  | .ok a j => if j = s.size then .ok a j else .bad j

end Go.Proofs.YtnffjoipinhojabGreatDoor

