import Derived.Test.YtnffjoipinhojabGreatDoorK16
import Derived.Shelf.Strings.Prefix
import Derived.Shelf.Small.Wraps
import Derived.Shelf.Strconv.Itoa3
import Derived.Test.YtnffjoipinhojabGreatDoorProg
set_option linter.unusedSimpArgs false
set_option linter.unusedVariables false
namespace Go.Proofs.YtnffjoipinhojabGreatDoor
open Go.RowKit
namespace Tu

theorem Pz.cell {w0 w : World} {b m : Nat} {s : ByteArray} {st : St} (h : Pz w0 b m s st w) :
    w.cell? ⟨b, 2, none⟩ = some (tokV st.now st.p) ∧ w.cell? ⟨b, 3, none⟩ = some (.map (some m)) ∧ w.cell? ⟨b, 4, none⟩ = some (.int .i64 st.depth) ∧ w.cell? ⟨b, 5, none⟩ = some (.int .i64 st.made) ∧ ∀ o, w.frozen? ⟨b, o, none⟩ = false := by
  obtain ⟨k, v, hh, hi, ho⟩ := h.blk
  exact ⟨by rw [Lib.cell_of_heap hh]; rfl, by rw [Lib.cell_of_heap hh]; rfl, by rw [Lib.cell_of_heap hh]; rfl, by rw [Lib.cell_of_heap hh]; rfl, fun o => Lib.frozen_of_heap hh o⟩

theorem Pz.alloc {w0 w : World} {b m : Nat} {s : ByteArray} {st : St} (h : Pz w0 b m s st w) (o : Obj) : Pz w0 b m s st (w.alloc o) := h.same ((Below.refl _ w).alloc (Nat.le_refl _) _)

theorem stepK {w0 w w1 : World} {b m : Nat} {s : ByteArray} {st : St} (h1 : PK w0 b m s st w w1) (hT : Tabs w0) (hbk : st.now.isBrk = false) : Calls Tryz.prog 55 #[.pointer (some ⟨b, 0, none⟩)] w1 fun e w' => e = .returned (.tuple #[]) ∧ PK w0 b m s (step s st) w w' :=
  (step_any w0 w1 b m s st h1.1 hT hbk).mono fun e w' k => ⟨k.1, h1.on k.2⟩

theorem one_cases (sg : Sg) : (∃ c, sg = .one c) ∨ Sg.is_one sg = false := by
  cases sg
  case one c => exact Or.inl ⟨c, rfl⟩
  all_goals exact Or.inr rfl
theorem takes_one {c : Nat} {st : St} {d : Nat} (h : st.now = .one d) : Tu.takes c st = decide (d = c) := by unfold Tu.takes; rw [h]
theorem takes_not {c : Nat} {st : St} (h : Sg.is_one st.now = false) : Tu.takes c st = false := by
  unfold Tu.takes
  split
  · rename_i d hd
    rw [hd] at h
    cases h
  · rfl

set_option maxRecDepth 20000 in
set_option maxHeartbeats 1000000 in
theorem take_yes (w0 w : World) (b m : Nat) (s : ByteArray) (st : St) (c : Nat) (h : Pz w0 b m s st w) (hT : Tabs w0) (hc : st.now = .one c) :
    Calls Tryz.prog 97 #[.pointer (some ⟨b, 0, none⟩), .int .u8 c] w fun e w' => e = .returned (.bool true) ∧ PK w0 b m s (step s st) w w' := by
  have c2 := h.cell.1
  have hta := as_one_yes c st.p
  rw [hc] at c2
  have HS : Hid (∀ w1, PK w0 b m s st w w1 → Calls Tryz.prog 55 #[.pointer (some ⟨b, 0, none⟩)] w1 fun e w' => e = .returned (.tuple #[]) ∧ PK w0 b m s (step s st) w w') := fun w1 h1 => stepK h1 hT (by rw [hc]; rfl)
  have HZ : Hid (∀ o, PK w0 b m s st w (w.alloc o)) := fun o => (PK.refl h).alloc o
  have hbw := h.lt
  clear h hT hc
  go_enter Tryz.func97, Tryz.ntmps97
  go_wp2_with fail
  refine (HS.out _ (HZ.out _)).mono ?_
  rintro e w1 ⟨rfl, hP⟩
  go_wp2
  go_ret
  exact ⟨rfl, hP⟩

set_option maxRecDepth 20000 in
set_option maxHeartbeats 1000000 in
theorem take_no (w0 w : World) (b m : Nat) (s : ByteArray) (st : St) (c : Nat) (h : Pz w0 b m s st w) (hc : Tu.takes c st = false) :
    Calls Tryz.prog 97 #[.pointer (some ⟨b, 0, none⟩), .int .u8 c] w fun e w' => e = .returned (.bool false) ∧ PK w0 b m s st w w' := by
  have c2 := h.cell.1
  have hbw := h.lt
  have HZ : Hid (∀ o, PK w0 b m s st w (w.alloc o)) := fun o => (PK.refl h).alloc o
  rcases one_cases st.now with ⟨d, hd⟩ | hn
  · rw [takes_one hd] at hc
    have hne : d ≠ c := by simpa using hc
    have hta := as_one_yes d st.p
    rw [hd] at c2
    clear h hc hd
    go_enter Tryz.func97, Tryz.ntmps97
    go_wp2
    go_ret
    exact ⟨rfl, HZ.out _⟩
  · have hta := as_one_no hn st.p
    clear h hc
    go_enter Tryz.func97, Tryz.ntmps97
    go_wp2
    go_ret
    exact ⟨rfl, HZ.out _⟩

theorem want_one {s : ByteArray} {c : Nat} {st : St} (h : st.now = .one c) : want s c st = .ok () (step s st) := by unfold want; rw [h]; simp
theorem want_not {s : ByteArray} {c : Nat} {st : St} (h : Tu.takes c st = false) : want s c st = refused st := by
  unfold want
  unfold Tu.takes at h
  split
  · rename_i d hd
    rw [hd] at h
    rw [if_neg (by simpa using h)]
  · rfl

/-- a result of the parser's -/
abbrev POk (w0 : World) (b m : Nat) (s : ByteArray) (w : World) (v : Value) (st : St) (e : Ending) (w' : World) : Prop := e = .returned v ∧ PK w0 b m s st w w'
abbrev PBad (w0 : World) (b m : Nat) (n : Int) (j : Nat) (e : Ending) (w' : World) : Prop := e = stopE n j ∧ Fq w0 b m w'

set_option maxRecDepth 20000 in
theorem want_ok (w0 w : World) (b m : Nat) (s : ByteArray) (st : St) (c : Nat) (h : Pz w0 b m s st w) (hT : Tabs w0) (hc : st.now = .one c) :
    Calls Tryz.prog 60 #[.pointer (some ⟨b, 0, none⟩), .int .u8 c] w (POk w0 b m s w (.tuple #[]) (step s st)) := by
  have HT : Hid (Calls Tryz.prog 97 #[.pointer (some ⟨b, 0, none⟩), .int .u8 c] w fun e w' => e = .returned (.bool true) ∧ PK w0 b m s (step s st) w w') := take_yes w0 w b m s st c h hT hc
  clear h hT hc
  go_enter Tryz.func60, Tryz.ntmps60
  go_wp2_with fail
  refine HT.out.mono ?_
  rintro e w1 ⟨rfl, hP⟩
  go_wp2
  go_end0
  exact ⟨rfl, hP⟩

set_option maxRecDepth 20000 in
theorem want_bad (w0 w : World) (b m : Nat) (s : ByteArray) (st : St) (c : Nat) (h : Pz w0 b m s st w) (hn : Sg.isNone st.now = false) (hc : Tu.takes c st = false) :
    Calls Tryz.prog 60 #[.pointer (some ⟨b, 0, none⟩), .int .u8 c] w (PBad w0 b m (refErr st).1 (refErr st).2) := by
  have HT : Hid (Calls Tryz.prog 97 #[.pointer (some ⟨b, 0, none⟩), .int .u8 c] w fun e w' => e = .returned (.bool false) ∧ PK w0 b m s st w w') := take_no w0 w b m s st c h hc
  have HR : Hid (∀ w1, Calls Tryz.prog 93 #[tokV st.now st.p] w1 fun e w' => e = stopE (refErr st).1 (refErr st).2 ∧ Below w1.heap.size w1 w') := fun w1 => refuse_any w1 st.now hn st.p st rfl rfl
  obtain ⟨T, v, htv⟩ := tok_iface hn st.p
  rw [htv] at HR
  have HC : Hid (∀ w1, Pz w0 b m s st w1 → w1.cell? ⟨b, 2, none⟩ = some (.iface T v)) := fun w1 h1 => by rw [h1.cell.1, htv]
  clear h hc hn htv
  generalize (refErr st).1 = n at *
  generalize (refErr st).2 = j at *
  go_enter Tryz.func60, Tryz.ntmps60
  go_wp2_with fail
  refine HT.out.mono ?_
  rintro e w1 ⟨rfl, hP⟩
  have c2 := HC.out w1 hP.1
  go_wp2_with fail
  refine (HR.out _).mono ?_
  rintro e w2 ⟨rfl, hB⟩
  exact ⟨rfl, rfl, hP.1.fq.below hB⟩

theorem sees_ix (l : List UInt8) (c : Nat) (hc : c < 256) : decide (0 ≤ Lib.indexByte l (c : Int).toNat.toUInt8) = (l.map UInt8.toNat).any fun x => decide (x = c) := by
  rw [← Lib.contains_iff_indexByte, List.contains_eq_any_beq, List.any_map]
  congr 1
  funext x
  rw [Bool.eq_iff_iff]
  simp only [beq_iff_eq, Function.comp, decide_eq_true_eq]
  have hx : (c : Int).toNat.toUInt8.toNat = c := by simp; omega
  constructor
  · intro e; rw [← e]; exact hx
  · intro e; apply UInt8.toNat_inj.1; rw [hx]; exact e.symm

set_option maxRecDepth 20000 in
set_option maxHeartbeats 1000000 in
theorem sees_any (w0 w : World) (b m : Nat) (s : ByteArray) (st : St) (l : List UInt8) (h : Pz w0 b m s st w) :
    Calls Tryz.prog 98 #[.pointer (some ⟨b, 0, none⟩), str l] w fun e w' => e = .returned (.bool (seesOf (l.map UInt8.toNat) st)) ∧ PK w0 b m s st w w' := by
  have c2 := h.cell.1
  have hbw := h.lt
  have HZ : Hid (∀ o, PK w0 b m s st w (w.alloc o)) := fun o => (PK.refl h).alloc o
  have hwf := h.wf.tk
  rcases one_cases st.now with ⟨d, hd⟩ | hn
  · rw [hd] at hwf
    have HE : Hid (seesOf (l.map UInt8.toNat) st = decide (0 ≤ Lib.indexByte l (d : Int).toNat.toUInt8)) := by
      unfold Hid seesOf
      rw [hd, sees_ix l d hwf]
    rw [HE.out]
    have HI : Hid (∀ w1, Calls Tryz.prog 166 #[str l, .int .u8 d] w1 fun e w' => e = .returned (.int .i64 (Lib.indexByte l (d : Int).toNat.toUInt8)) ∧ w' = w1) := fun w1 => indexByte_any w1 ⟨l.toArray⟩ d
    have hta := as_one_yes d st.p
    rw [hd] at c2
    generalize Lib.indexByte l (d : Int).toNat.toUInt8 = q at *
    clear h hd hwf HE
    go_enter Tryz.func98, Tryz.ntmps98
    go_wp2_with fail
    refine (HI.out _).mono ?_
    rintro e w1 ⟨rfl, rfl⟩
    go_wp2
    go_ret
    exact ⟨rfl, HZ.out _⟩
  · have HE : Hid (seesOf (l.map UInt8.toNat) st = false) := by
      unfold Hid seesOf
      split
      · rename_i d hd
        rw [hd] at hn
        cases hn
      · rfl
    rw [HE.out]
    have hta := as_one_no hn st.p
    clear h
    go_enter Tryz.func98, Tryz.ntmps98
    go_wp2
    go_ret
    exact ⟨rfl, HZ.out _⟩

end Tu
end Go.Proofs.YtnffjoipinhojabGreatDoor

namespace Go.Proofs
open Go.Shelf
def Tryz.laysM171_ren : Go.Shelf.Ren := ⟨fun | 171 => 205 | 243 => 225 | 246 => 231 | 283 => 236 | 284 => 237 | 285 => 238 | 286 => 239 | 129 => 243 | 317 => 242 | 318 => 244 | 319 => 245 | 320 => 246 | 337 => 249 | 338 => 250 | n => n, fun | 3 => 3 | 9 => 9 | 2 => 2 | 4 => 4 | 171 => 278 | 0 => 0 | 53 => 279 | 37 => 57 | 5 => 5 | 173 => 282 | 212 => 288 | 51 => 260 | 20 => 20 | 213 => 289 | 46 => 173 | 232 => 299 | 233 => 300 | n => n, fun | 17 => 5 | 18 => 6 | 19 => 7 | n => n⟩
theorem Tryz.laysM171 : Go.Proofs.LaysM.n171 Tryz.prog Tryz.laysM171_ren := {
  mixed := by kernel_rfl
  f129 := Tryz.func243.trans (congrArg some (by kernel_rfl))
  f171 := Tryz.func205.trans (congrArg some (by kernel_rfl))
  f243 := Tryz.func225.trans (congrArg some (by kernel_rfl))
  f246 := Tryz.func231.trans (congrArg some (by kernel_rfl))
  f283 := Tryz.func236.trans (congrArg some (by kernel_rfl))
  f284 := Tryz.func237.trans (congrArg some (by kernel_rfl))
  f285 := Tryz.func238.trans (congrArg some (by kernel_rfl))
  f286 := Tryz.func239.trans (congrArg some (by kernel_rfl))
  f317 := Tryz.func242.trans (congrArg some (by kernel_rfl))
  f318 := Tryz.func244.trans (congrArg some (by kernel_rfl))
  f319 := Tryz.func245.trans (congrArg some (by kernel_rfl))
  f320 := Tryz.func246.trans (congrArg some (by kernel_rfl))
  f337 := Tryz.func249.trans (congrArg some (by kernel_rfl))
  f338 := Tryz.func250.trans (congrArg some (by kernel_rfl))
  t0 := Tryz.underlying0
  a0 := Tryz.isAgg0
  z0 := Tryz.sizeOf0
  v0 := Tryz.zeroValue0
  t2 := Tryz.underlying2
  a2 := Tryz.isAgg2
  z2 := Tryz.sizeOf2
  v2 := Tryz.zeroValue2
  t3 := Tryz.underlying3
  a3 := Tryz.isAgg3
  z3 := Tryz.sizeOf3
  v3 := Tryz.zeroValue3
  t4 := Tryz.underlying4
  a4 := Tryz.isAgg4
  z4 := Tryz.sizeOf4
  v4 := Tryz.zeroValue4
  t5 := Tryz.underlying5
  a5 := Tryz.isAgg5
  z5 := Tryz.sizeOf5
  v5 := Tryz.zeroValue5
  t9 := Tryz.underlying9
  a9 := Tryz.isAgg9
  z9 := Tryz.sizeOf9
  v9 := Tryz.zeroValue9
  t20 := Tryz.underlying20
  a20 := Tryz.isAgg20
  z20 := Tryz.sizeOf20
  v20 := Tryz.zeroValue20
  t37 := Tryz.underlying57
  a37 := Tryz.isAgg57
  z37 := Tryz.sizeOf57
  v37 := Tryz.zeroValue57
  t46 := Tryz.underlying173
  a46 := Tryz.isAgg173
  z46 := Tryz.sizeOf173
  v46 := Tryz.zeroValue173
  t51 := Tryz.underlying260
  a51 := Tryz.isAgg260
  z51 := Tryz.sizeOf260
  v51 := Tryz.zeroValue260
  t53 := Tryz.underlying279
  a53 := Tryz.isAgg279
  z53 := Tryz.sizeOf279
  v53 := Tryz.zeroValue279
  t171 := Tryz.underlying278
  a171 := Tryz.isAgg278
  z171 := Tryz.sizeOf278
  v171 := Tryz.zeroValue278
  t173 := Tryz.underlying282
  a173 := Tryz.isAgg282
  z173 := Tryz.sizeOf282
  v173 := Tryz.zeroValue282
  t212 := Tryz.underlying288
  a212 := Tryz.isAgg288
  z212 := Tryz.sizeOf288
  v212 := Tryz.zeroValue288
  t213 := Tryz.underlying289
  a213 := Tryz.isAgg289
  z213 := Tryz.sizeOf289
  t232 := Tryz.underlying299
  a232 := Tryz.isAgg299
  z232 := Tryz.sizeOf299
  v232 := Tryz.zeroValue299
  t233 := Tryz.underlying300
  a233 := Tryz.isAgg300
  z233 := Tryz.sizeOf300
  v233 := Tryz.zeroValue300
  g17 := by kernel_rfl
  g18 := by kernel_rfl
  g19 := by kernel_rfl
  i0 := by kernel_rfl
  i2 := by kernel_rfl
  i3 := by kernel_rfl
  i4 := by kernel_rfl
  i5 := by kernel_rfl
  i9 := by kernel_rfl
  i20 := by kernel_rfl
  i37 := by kernel_rfl
  i46 := by kernel_rfl
  i51 := by kernel_rfl
  i53 := by kernel_rfl
  i171 := by kernel_rfl
  i173 := by kernel_rfl
  i212 := by kernel_rfl
  i232 := by kernel_rfl
  i233 := by kernel_rfl
  m17 := by kernel_rfl
  m18 := by kernel_rfl
  m19 := by kernel_rfl }
def Tryz.lays101_ren : Go.Shelf.Ren := ⟨fun | 101 => 189 | 208 => 216 | 206 => 183 | n => n, fun | 9 => 9 | 4 => 4 | 3 => 3 | n => n, fun | n => n⟩
theorem Tryz.lays101 : Go.Proofs.Lays.n101 Tryz.prog Tryz.lays101_ren := {
  mixed := by kernel_rfl
  f101 := Tryz.func189.trans (congrArg some (by kernel_rfl))
  f206 := Tryz.func183.trans (congrArg some (by kernel_rfl))
  f208 := Tryz.func216.trans (congrArg some (by kernel_rfl))
  t3 := Tryz.underlying3
  a3 := Tryz.isAgg3
  z3 := Tryz.sizeOf3
  v3 := Tryz.zeroValue3
  t4 := Tryz.underlying4
  a4 := Tryz.isAgg4
  z4 := Tryz.sizeOf4
  v4 := Tryz.zeroValue4
  t9 := Tryz.underlying9
  a9 := Tryz.isAgg9
  z9 := Tryz.sizeOf9
  v9 := Tryz.zeroValue9 }
def Tryz.lays102_ren : Go.Shelf.Ren := ⟨fun | 102 => 143 | 209 => 190 | 207 => 217 | n => n, fun | 9 => 9 | 4 => 4 | 3 => 3 | n => n, fun | n => n⟩
theorem Tryz.lays102 : Go.Proofs.Lays.n102 Tryz.prog Tryz.lays102_ren := {
  mixed := by kernel_rfl
  f102 := Tryz.func143.trans (congrArg some (by kernel_rfl))
  f207 := Tryz.func217.trans (congrArg some (by kernel_rfl))
  f209 := Tryz.func190.trans (congrArg some (by kernel_rfl))
  t3 := Tryz.underlying3
  a3 := Tryz.isAgg3
  z3 := Tryz.sizeOf3
  v3 := Tryz.zeroValue3
  t4 := Tryz.underlying4
  a4 := Tryz.isAgg4
  z4 := Tryz.sizeOf4
  v4 := Tryz.zeroValue4
  t9 := Tryz.underlying9
  a9 := Tryz.isAgg9
  z9 := Tryz.sizeOf9
  v9 := Tryz.zeroValue9 }
def Tryz.lays103_ren : Go.Shelf.Ren := ⟨fun | 103 => 74 | 210 => 132 | 206 => 183 | n => n, fun | 9 => 9 | 4 => 4 | 24 => 129 | 3 => 3 | n => n, fun | n => n⟩
theorem Tryz.lays103 : Go.Proofs.Lays.n103 Tryz.prog Tryz.lays103_ren := {
  mixed := by kernel_rfl
  f103 := Tryz.func74.trans (congrArg some (by kernel_rfl))
  f206 := Tryz.func183.trans (congrArg some (by kernel_rfl))
  f210 := Tryz.func132.trans (congrArg some (by kernel_rfl))
  t3 := Tryz.underlying3
  a3 := Tryz.isAgg3
  z3 := Tryz.sizeOf3
  v3 := Tryz.zeroValue3
  t4 := Tryz.underlying4
  a4 := Tryz.isAgg4
  z4 := Tryz.sizeOf4
  v4 := Tryz.zeroValue4
  t9 := Tryz.underlying9
  a9 := Tryz.isAgg9
  z9 := Tryz.sizeOf9
  v9 := Tryz.zeroValue9
  t24 := Tryz.underlying129
  a24 := Tryz.isAgg129
  z24 := Tryz.sizeOf129
  v24 := Tryz.zeroValue129 }
end Go.Proofs

