import Derived.Test.YtnffjoipinhojabGreatDoorK31
set_option linter.unusedSimpArgs false
set_option linter.unusedVariables false
namespace Go.Proofs.YtnffjoipinhojabGreatDoor
open Go.RowKit

theorem kindOf_len {s : ByteArray} (h : kindOf s ≠ 0) : s.size ≤ 200 := by
  unfold kindOf at h
  split at h
  · exact absurd rfl h
  · omega
theorem sound3_all {x y z : Nat} (h : sound3 x y z = true) : x ≠ 0 ∧ y ≠ 0 ∧ z ≠ 0 := by
  unfold sound3 at h
  simp at h
  omega
theorem badAt_none : ∀ {l : List Tri} {q : Nat}, badAt q l = none → ∀ x ∈ l, soundT x = true
  | [], _, _, x, hx => by cases hx
  | y :: r, q, h, x, hx => by
    unfold badAt at h
    split at h
    · rename_i hy
      rcases List.mem_cons.1 hx with rfl | hx
      · exact hy
      · exact badAt_none h x hx
    · cases h
theorem ins_mem {l : List Tri} {t x : Tri} (h : x ∈ ins l t) : x = t ∨ x ∈ l := by
  unfold ins at h
  rcases List.mem_append.1 h with h | h
  · exact .inr (List.mem_of_mem_take h)
  · rcases List.mem_cons.1 h with h | h
    · exact .inl h
    · exact .inr (List.mem_of_mem_drop h)
theorem rise_mem : ∀ {ts acc set : List Tri}, rise acc ts = some set → ∀ x ∈ set, x ∈ acc ∨ x ∈ ts
  | [], acc, set, e, x, hx => by
    rw [rise] at e
    cases e
    exact .inl hx
  | t :: r, acc, set, e, x, hx => by
    rw [rise] at e
    split at e
    · rcases rise_mem e x hx with h | h
      · exact .inl h
      · exact .inr (List.mem_cons_of_mem _ h)
    · split at e
      · cases e
      · rcases rise_mem e x hx with h | h
        · rcases ins_mem h with rfl | h
          · exact .inr (List.mem_cons_self ..)
          · exact .inl h
        · exact .inr (List.mem_cons_of_mem _ h)

/-- a sound sentence's terms are short -/
def ShortT (x : Tri) : Prop := x.s.length ≤ 200 ∧ x.p.length ≤ 200 ∧ x.o.length ≤ 200
theorem short_of {x : Tri} (h : soundT x = true) : ShortT x := by
  obtain ⟨h1, h2, h3⟩ := sound3_all h
  have g1 := kindOf_len h1
  have g2 := kindOf_len h2
  have g3 := kindOf_len h3
  have e : ∀ l : List UInt8, (ByteArray.mk l.toArray).size = l.length := fun l => by simp [ByteArray.size]
  rw [e] at g1 g2 g3
  exact ⟨g1, g2, g3⟩
theorem short_set {l set : List Tri} (hb : badAt 0 l = none) (hr : rise [] l = some set) : ∀ x ∈ set, ShortT x := fun x hx => by
  rcases rise_mem hr x hx with h | h
  · cases h
  · exact short_of (badAt_none hb x h)

theorem catL (a b : ByteArray) : (a ++ b).toList = a.toList ++ b.toList := by
  obtain ⟨⟨x⟩⟩ := a
  obtain ⟨⟨y⟩⟩ := b
  have := cat_str x y
  have e : (⟨⟨x⟩⟩ : ByteArray) ++ ⟨⟨y⟩⟩ = ⟨(x ++ y).toArray⟩ := this
  rw [e, ByteArray.toList_mk, ByteArray.toList_mk, ByteArray.toList_mk]

/-- a sentence's line -/
def lineT (x : Tri) : List UInt8 := x.s ++ [32] ++ x.p ++ [32] ++ x.o ++ [32, 46, 10]
def printT (l : List Tri) : List UInt8 := l.flatMap lineT
theorem printT_step {l : List Tri} {q : Nat} {x : Tri} (h : l[q]? = some x) : printT (l.take (q + 1)) = printT (l.take q) ++ lineT x := by
  rw [List.take_add_one, h]
  simp [printT]

/-- what either printer ends in -/
def PrV (w : World) (l : List Tri) (e : Ending) (w' : World) : Prop := match badAt 0 l with
  | some i => e = .returned (.tuple #[.string ⟨#[]⟩, .int .i64 4, .int .i64 i]) ∧ Below w.heap.size w w'
  | none => match rise [] l with
    | none => e = .returned (.tuple #[.string ⟨#[]⟩, .int .i64 10, .int .i64 0]) ∧ Below w.heap.size w w'
    | some set => (∃ V : ByteArray, V.toList = printT set ∧ e = .returned (.tuple #[.string V, .int .i64 0, .int .i64 0])) ∧ Below w.heap.size w w'

end Go.Proofs.YtnffjoipinhojabGreatDoor

set_option linter.unusedSimpArgs false
set_option linter.unusedVariables false
namespace Go.Proofs.YtnffjoipinhojabGreatDoor
open Go.RowKit

set_option maxHeartbeats 4000000 in
set_option maxRecDepth 20000 in
/-- lines.Print of a set -/
theorem print_some (w : World) (v : Value) (l set : List Tri) (hb : badAt 0 l = none) (hr : rise [] l = some set) (hS : Calls Tryz.prog 32 #[v] w (SoP w l)) :
    Calls Tryz.prog 15 #[v] w (PrV w l) := by
  have hlen := rise_len (by simp) hr
  have HSh : Hid (∀ x ∈ set, ShortT x) := short_set hb hr
  have HS : Hid (Calls Tryz.prog 32 #[v] w fun e w' => ∃ v', e = .returned (.tuple #[v', .nilIface]) ∧ w'.ownsRow w.heap.size 44 3 v' set.length (cellsOf set) ∧ Below w.heap.size w w') := hS.mono fun e w' h => by unfold SoP at h; rw [hb, hr] at h; exact h
  have HE : Hid (∀ (V : ByteArray) w', V.toList = printT set → Below w.heap.size w w' → PrV w l (.returned (.tuple #[.string V, .int .i64 0, .int .i64 0])) w') := fun V w' h1 h2 => by
    unfold PrV
    rw [hb, hr]
    exact ⟨⟨V, h1, rfl⟩, h2⟩
  clear hS hb hr
  go_enter Tryz.func15, Tryz.ntmps15
  go_wp2_with fail
  refine HS.out.mono ?_
  rintro e w2 ⟨v', rfl, ho2, hb2⟩
  have HB2 : Hid (Below w.heap.size w w2) := hb2
  obtain ⟨o, c, rfl⟩ := own_form ho2
  have HO : Hid (w2.ownsRow w.heap.size 44 3 (.slice o set.length c) set.length (cellsOf set)) := ho2
  clear hb2 ho2 HS
  go_wp2_with fail
  have HF0 : Hid (Bu w2.heap.size w2.heap.size [] (w2.alloc (Obj.cells #[Value.pointer none, Value.slice none 0 0] 59))) := Bu.fresh w2
  have HL0 : Hid (Below w2.heap.size w2 (w2.alloc (Obj.cells #[Value.pointer none, Value.slice none 0 0] 59))) := (Below.refl _ w2).alloc (Nat.le_refl _) _
  go_loopw [23] (fun t23 wr => ∃ q : Nat, q ≤ set.length ∧ t23 = .int .i64 q ∧ (printT (set.take q)).length ≤ q * 1000 ∧ Bu w2.heap.size w2.heap.size (printT (set.take q)) wr ∧ Below w2.heap.size w2 wr) (fun t23 wr => set.length - (intOf t23).toNat)
  case atStart => exact ⟨0, Nat.zero_le _, rfl, by simp [printT], HF0.out, HL0.out⟩
  case round =>
    obtain ⟨q, hq, rfl, hpl, hbu, hb⟩ := hrel
    have HB : Hid (Below w2.heap.size w2 wr) := hb
    have HU : Hid (Bu w2.heap.size w2.heap.size (printT (set.take q)) wr) := hbu
    clear hb hbu
    by_cases hlt : q < set.length
    · obtain ⟨g, cap, hv, _, hgl⟩ := HO.out.form (by omega)
      cases hv
      obtain ⟨x, hx⟩ : ∃ x, set[q]? = some x := ⟨_, List.getElem?_eq_getElem hlt⟩
      obtain ⟨q0, q1, q2⟩ := ((own_lies HO.out).below hgl HB.out) q x hx
      have HST : Hid (printT (set.take (q + 1)) = printT (set.take q) ++ lineT x) := printT_step hx
      obtain ⟨Y1, k1⟩ : ∃ V : ByteArray, V = ⟨x.s.toArray⟩ := ⟨_, rfl⟩
      obtain ⟨Y2, k2⟩ : ∃ V : ByteArray, V = ⟨x.p.toArray⟩ := ⟨_, rfl⟩
      obtain ⟨Y3, k3⟩ : ∃ V : ByteArray, V = ⟨x.o.toArray⟩ := ⟨_, rfl⟩
      have q0' : wr.cell? ⟨g, q * 3, none⟩ = some (.string Y1) := by rw [k1]; exact q0
      have q1' : wr.cell? ⟨g, q * 3 + 1, none⟩ = some (.string Y2) := by rw [k2]; exact q1
      have q2' : wr.cell? ⟨g, q * 3 + 2, none⟩ = some (.string Y3) := by rw [k3]; exact q2
      have HK : Hid (lineT x = Y1.toList ++ [32] ++ Y2.toList ++ [32] ++ Y3.toList ++ [32, 46, 10]) := by unfold Hid lineT; rw [k1, k2, k3]; simp only [ByteArray.toList_mk]
      have hsh := HSh.out x (List.mem_of_getElem? hx)
      clear q0 q1 q2 hx
      have y1 : Y1.size ≤ 200 := by rw [k1]; simpa [ByteArray.size] using hsh.1
      have y2 : Y2.size ≤ 200 := by rw [k2]; simpa [ByteArray.size] using hsh.2.1
      have y3 : Y3.size ≤ 200 := by rw [k3]; simpa [ByteArray.size] using hsh.2.2
      clear k1 k2 k3 hsh
      obtain ⟨C2, hC2⟩ : ∃ C : ByteArray, C = Y1 ++ ⟨#[32]⟩ := ⟨_, rfl⟩
      have nC2 : C2.size = Y1.size + (⟨#[32]⟩ : ByteArray).size := by rw [hC2]; exact ByteArray.size_append
      have eC2 : ∀ w, (Op.stringOp .add Y1 ⟨#[32]⟩).run Tryz.prog w = .ok (.string C2) w := fun w => by
        rw [hC2]
        have s32 : (⟨#[32]⟩ : ByteArray).size = 1 := rfl
        have s3 : (⟨#[32, 46, 10]⟩ : ByteArray).size = 3 := rfl
        exact run_string_add w Y1 ⟨#[32]⟩ (by omega) (by omega)
      have sC2 : C2.size ≤ 700 := by
        have s32 : (⟨#[32]⟩ : ByteArray).size = 1 := rfl
        have s3 : (⟨#[32, 46, 10]⟩ : ByteArray).size = 3 := rfl
        omega
      obtain ⟨C3, hC3⟩ : ∃ C : ByteArray, C = C2 ++ Y2 := ⟨_, rfl⟩
      have nC3 : C3.size = C2.size + (Y2 : ByteArray).size := by rw [hC3]; exact ByteArray.size_append
      have eC3 : ∀ w, (Op.stringOp .add C2 Y2).run Tryz.prog w = .ok (.string C3) w := fun w => by
        rw [hC3]
        have s32 : (⟨#[32]⟩ : ByteArray).size = 1 := rfl
        have s3 : (⟨#[32, 46, 10]⟩ : ByteArray).size = 3 := rfl
        exact run_string_add w C2 Y2 (by omega) (by omega)
      have sC3 : C3.size ≤ 700 := by
        have s32 : (⟨#[32]⟩ : ByteArray).size = 1 := rfl
        have s3 : (⟨#[32, 46, 10]⟩ : ByteArray).size = 3 := rfl
        omega
      obtain ⟨C4, hC4⟩ : ∃ C : ByteArray, C = C3 ++ ⟨#[32]⟩ := ⟨_, rfl⟩
      have nC4 : C4.size = C3.size + (⟨#[32]⟩ : ByteArray).size := by rw [hC4]; exact ByteArray.size_append
      have eC4 : ∀ w, (Op.stringOp .add C3 ⟨#[32]⟩).run Tryz.prog w = .ok (.string C4) w := fun w => by
        rw [hC4]
        have s32 : (⟨#[32]⟩ : ByteArray).size = 1 := rfl
        have s3 : (⟨#[32, 46, 10]⟩ : ByteArray).size = 3 := rfl
        exact run_string_add w C3 ⟨#[32]⟩ (by omega) (by omega)
      have sC4 : C4.size ≤ 700 := by
        have s32 : (⟨#[32]⟩ : ByteArray).size = 1 := rfl
        have s3 : (⟨#[32, 46, 10]⟩ : ByteArray).size = 3 := rfl
        omega
      obtain ⟨C5, hC5⟩ : ∃ C : ByteArray, C = C4 ++ Y3 := ⟨_, rfl⟩
      have nC5 : C5.size = C4.size + (Y3 : ByteArray).size := by rw [hC5]; exact ByteArray.size_append
      have eC5 : ∀ w, (Op.stringOp .add C4 Y3).run Tryz.prog w = .ok (.string C5) w := fun w => by
        rw [hC5]
        have s32 : (⟨#[32]⟩ : ByteArray).size = 1 := rfl
        have s3 : (⟨#[32, 46, 10]⟩ : ByteArray).size = 3 := rfl
        exact run_string_add w C4 Y3 (by omega) (by omega)
      have sC5 : C5.size ≤ 700 := by
        have s32 : (⟨#[32]⟩ : ByteArray).size = 1 := rfl
        have s3 : (⟨#[32, 46, 10]⟩ : ByteArray).size = 3 := rfl
        omega
      obtain ⟨C6, hC6⟩ : ∃ C : ByteArray, C = C5 ++ ⟨#[32, 46, 10]⟩ := ⟨_, rfl⟩
      have nC6 : C6.size = C5.size + (⟨#[32, 46, 10]⟩ : ByteArray).size := by rw [hC6]; exact ByteArray.size_append
      have eC6 : ∀ w, (Op.stringOp .add C5 ⟨#[32, 46, 10]⟩).run Tryz.prog w = .ok (.string C6) w := fun w => by
        rw [hC6]
        have s32 : (⟨#[32]⟩ : ByteArray).size = 1 := rfl
        have s3 : (⟨#[32, 46, 10]⟩ : ByteArray).size = 3 := rfl
        exact run_string_add w C5 ⟨#[32, 46, 10]⟩ (by omega) (by omega)
      have sC6 : C6.size ≤ 700 := by
        have s32 : (⟨#[32]⟩ : ByteArray).size = 1 := rfl
        have s3 : (⟨#[32, 46, 10]⟩ : ByteArray).size = 3 := rfl
        omega
      have hcl : C6.toList = lineT x := by
        rw [HK.out, hC6, hC5, hC4, hC3, hC2]
        simp [catL, ByteArray.toList_mk]
      have hcd : C6.data.toList = lineT x := by rw [← hcl]; obtain ⟨a⟩ := C6; rw [ByteArray.toList_mk]
      have hll : (lineT x).length = C6.size := by rw [← hcd]; exact Array.length_toList
      have HC : Hid ((printT (set.take (q + 1))).length ≤ (q + 1) * 1000) := by
        unfold Hid
        rw [HST.out, List.length_append, hll]
        omega
      have HWs : Hid (Calls Tryz.prog 33 #[.pointer (some ⟨w2.heap.size, 0, none⟩), .string C6] (wr.alloc (.cells #[.string Y1, .string Y2, .string Y3] 44)) fun e w' => (∃ n, e = .returned (.tuple #[.int .i64 n, .nilIface])) ∧ Bu w2.heap.size w2.heap.size (printT (set.take (q + 1))) w' ∧ Below w2.heap.size w2 w') := by
        have hba := HB.out.alloc HB.out.size (.cells #[.string Y1, .string Y2, .string Y3] 44)
        refine (wstring_any _ w2.heap.size w2.heap.size (printT (set.take q)) C6 (HU.out.kept fun k _ hlt => Below.heap_alloc _ _ _ hlt) (by omega) hba.size).mono ?_
        rintro e w' ⟨h1, h2, h3⟩
        refine ⟨h1, ?_, hba.trans h3⟩
        rw [HST.out, ← hcd]
        exact h2
      obtain ⟨e0, e1, e2, e3⟩ := KS.mk wr Y1 Y2 Y3 44
      clear hcl hcd hll hC2 hC3 hC4 hC5 hC6 nC2 nC3 nC4 nC5 nC6 sC2 sC3 sC4 sC5 sC6 HST HK y1 y2 y3 hpl HU
      go_wp2_with fail
      refine HWs.out.mono ?_
      rintro e w3 ⟨⟨n, rfl⟩, hu3, hb3⟩
      have HU3 : Hid (Bu w2.heap.size w2.heap.size (printT (set.take (q + 1))) w3) := hu3
      have HB3 : Hid (Below w2.heap.size w2 w3) := hb3
      clear hu3 hb3 e0 e1 e2 e3 q0' q1' q2' HWs eC2 eC3 eC4 eC5 eC6
      go_wp2_with fail
      go_roundw
      case rel => exact ⟨q + 1, by omega, by go_num, HC.out, HU3.out, HB3.out⟩
      case measure => simp [intOf]; omega
    · have HQ : Hid (Bu w2.heap.size w2.heap.size (printT set) wr) := by
        have := HU.out
        rw [List.take_of_length_le (by omega)] at this
        exact this
      have HSt : Hid (Calls Tryz.prog 24 #[.pointer (some ⟨w2.heap.size, 0, none⟩)] wr fun e w' => e = .returned (.string ⟨(printT set).toArray⟩) ∧ Below w2.heap.size wr w') := bstring_any wr _ _ _ HQ.out HB.out.size
      obtain ⟨V, hV⟩ : ∃ V : ByteArray, V = ⟨(printT set).toArray⟩ := ⟨_, rfl⟩
      rw [← hV] at HSt
      have HVl : Hid (V.toList = printT set) := by unfold Hid; rw [hV, ByteArray.toList_mk]
      clear hV HU
      go_wp2_with fail
      refine HSt.out.mono ?_
      rintro e w3 ⟨rfl, hb3⟩
      have HB3 : Hid (Below w2.heap.size w2 w3) := HB.out.trans hb3
      clear hb3 HSt
      go_wp2_with fail
      exact bodyPost_ret (v := .tuple #[.string V, .int .i64 0, .int .i64 0]) (by simp [results, Tryz.results15, go_sem]) rfl (HE.out V w3 HVl.out (HB2.out.trans (HB3.out.mono HB2.out.size)))

end Go.Proofs.YtnffjoipinhojabGreatDoor

