import Derived.Test.YtnffjoipinhojabGreatDoorK22
set_option linter.unusedSimpArgs false
set_option linter.unusedVariables false
namespace Go.Proofs.YtnffjoipinhojabGreatDoor
open Go.RowKit
namespace Tu

theorem resource_any (w0 w : World) (b m : Nat) (s : ByteArray) (st : St) (h : Pz w0 b m s st w) (hT : Tabs w0) (hn : Sg.isNone st.now = false) :
    Calls Tryz.prog 103 #[.pointer (some ⟨b, 0, none⟩)] w (PRes w0 b m s w str (res s st)) := by
  cases hr : res s st with
  | ok l st' => exact res_ok w0 w b m s st st' l h hT hr
  | bad n j => exact res_bad w0 w b m s st n j h hT hn hr

theorem brk_real {sg : Sg} (h : sg.real = true) : sg.isBrk = false := by cases sg <;> first | rfl | cases h

set_option maxHeartbeats 2000000 in
set_option maxRecDepth 20000 in
theorem subj_blk_ok (w0 w : World) (b m : Nat) (s : ByteArray) (st : St) (l : List UInt8) (h : Pz w0 b m s st w) (hT : Tabs w0) (hx : st.now = .blk l) (hm : isMade l = false) :
    Calls Tryz.prog 59 #[.pointer (some ⟨b, 0, none⟩)] w (POk w0 b m s w (str l) (step s st)) := by
  have c2 := h.cell.1
  have hbw := h.lt
  have hsz := h.sz
  have htk := h.wf.tk
  rw [hx] at c2 htk
  have hl : l.length ≤ 1099511627776 := by have : l.length ≤ s.size := htk; omega
  have hta := as_blk_yes l st.p
  have HS : Hid (∀ o, Calls Tryz.prog 55 #[.pointer (some ⟨b, 0, none⟩)] (w.alloc o) fun e w' => e = .returned (.tuple #[]) ∧ PK w0 b m s (step s st) w w' ∧ w'.heap[w.heap.size]? = some o) := fun o => by
    refine (step_any w0 (w.alloc o) b m s st (h.alloc o) hT (by rw [hx]; rfl)).mono ?_
    rintro e w' ⟨rfl, hp2⟩
    refine ⟨rfl, ((PK.refl h).alloc o).on hp2, ?_⟩
    rw [(Loc.of_alloc h o).same hp2.2]
    exact heap_new _ _
  have HLb : Hid (∀ w1, PK w0 b m s (step s st) w w1 → Calls Tryz.prog 99 #[.agg #[.int .i64 st.p, str l]] w1 fun e w' => e = .returned (str l) ∧ PK w0 b m s (step s st) w w') := fun w1 hp =>
    (labelled_ok w1 st.p l hl (hp.1.tabs hT) hp.1.gz hm).mono fun e w' k => ⟨k.1, hp.same k.2⟩
  clear h hT hx hm htk hl
  go_enter Tryz.func59, Tryz.ntmps59
  go_wp2_with fail
  refine (HS.out _).mono ?_
  rintro e w1 ⟨rfl, hp1, hb1⟩
  have d0 : w1.cell? ⟨w.heap.size, 0, none⟩ = some (.int .i64 st.p) := by rw [Lib.cell_of_heap hb1]; rfl
  have d1 : w1.cell? ⟨w.heap.size, 1, none⟩ = some (str l) := by rw [Lib.cell_of_heap hb1]; rfl
  go_wp2_with fail
  refine (HLb.out _ hp1).mono ?_
  rintro e w2 ⟨rfl, hp2⟩
  go_wp2
  go_ret
  exact ⟨rfl, hp2⟩

set_option maxHeartbeats 2000000 in
set_option maxRecDepth 20000 in
theorem subj_blk_bad (w0 w : World) (b m : Nat) (s : ByteArray) (st : St) (l : List UInt8) (h : Pz w0 b m s st w) (hT : Tabs w0) (hx : st.now = .blk l) (hm : isMade l = true) :
    Calls Tryz.prog 59 #[.pointer (some ⟨b, 0, none⟩)] w (PBad w0 b m 6 st.p) := by
  have c2 := h.cell.1
  have hbw := h.lt
  have hsz := h.sz
  have htk := h.wf.tk
  rw [hx] at c2 htk
  have hl : l.length ≤ 1099511627776 := by have : l.length ≤ s.size := htk; omega
  have hta := as_blk_yes l st.p
  have HS : Hid (∀ o, Calls Tryz.prog 55 #[.pointer (some ⟨b, 0, none⟩)] (w.alloc o) fun e w' => e = .returned (.tuple #[]) ∧ PK w0 b m s (step s st) w w' ∧ w'.heap[w.heap.size]? = some o) := fun o => by
    refine (step_any w0 (w.alloc o) b m s st (h.alloc o) hT (by rw [hx]; rfl)).mono ?_
    rintro e w' ⟨rfl, hp2⟩
    refine ⟨rfl, ((PK.refl h).alloc o).on hp2, ?_⟩
    rw [(Loc.of_alloc h o).same hp2.2]
    exact heap_new _ _
  have HLb : Hid (∀ w1, PK w0 b m s (step s st) w w1 → Calls Tryz.prog 99 #[.agg #[.int .i64 st.p, str l]] w1 fun e w' => e = stopE 6 st.p ∧ Fq w0 b m w') := fun w1 hp =>
    (labelled_bad w1 st.p l hl (hp.1.tabs hT) hp.1.gz hm).mono fun e w' k => ⟨k.1, hp.1.fq.below k.2⟩
  clear h hT hx hm htk hl
  go_enter Tryz.func59, Tryz.ntmps59
  go_wp2_with fail
  refine (HS.out _).mono ?_
  rintro e w1 ⟨rfl, hp1, hb1⟩
  have d0 : w1.cell? ⟨w.heap.size, 0, none⟩ = some (.int .i64 st.p) := by rw [Lib.cell_of_heap hb1]; rfl
  have d1 : w1.cell? ⟨w.heap.size, 1, none⟩ = some (str l) := by rw [Lib.cell_of_heap hb1]; rfl
  go_wp2_with fail
  refine (HLb.out _ hp1).mono ?_
  rintro e w2 ⟨rfl, hp2⟩
  exact ⟨rfl, rfl, hp2⟩

set_option maxHeartbeats 2000000 in
set_option maxRecDepth 20000 in
theorem subj_sq_ok (w0 w : World) (b m : Nat) (s : ByteArray) (st : St) (l : List UInt8) (st' : St) (h : Pz w0 b m s st w) (hx : st.now = .one 91)
    (HC : Hid (∀ w1, PK w0 b m s st w w1 → Calls Tryz.prog 100 #[.pointer (some ⟨b, 0, none⟩), .func (.func 101) #[.pointer (some ⟨b, 0, none⟩)] #[]] w1 (fun e w' => e = .returned (str l) ∧ PK w0 b m s st' w w'))) :
    Calls Tryz.prog 59 #[.pointer (some ⟨b, 0, none⟩)] w (POk w0 b m s w (str l) st') := by
  have c2 := h.cell.1
  have hbw := h.lt
  have HZ : Hid (∀ o, PK w0 b m s st w (w.alloc o)) := fun o => (PK.refl h).alloc o
  have HZ0 : Hid (PK w0 b m s st w w) := PK.refl h
  have hmf := mkFunc
  have h1 := as_blk_no (sg := .one 91) rfl st.p
  have h2 := as_one_yes 91 st.p
  rw [hx] at c2
  clear hx
  clear h
  go_enter Tryz.func59, Tryz.ntmps59
  go_wp2_with fail
  refine (HC.out _ (by first | exact HZ0.out | exact HZ.out _ | exact (HZ.out _).alloc _)).mono ?_
  rintro e w1 ⟨rfl, hp1⟩
  go_wp2
  go_ret
  exact ⟨rfl, hp1⟩

set_option maxHeartbeats 2000000 in
set_option maxRecDepth 20000 in
theorem subj_sq_bad (w0 w : World) (b m : Nat) (s : ByteArray) (st : St) (n : Int) (j : Nat) (h : Pz w0 b m s st w) (hx : st.now = .one 91)
    (HC : Hid (∀ w1, PK w0 b m s st w w1 → Calls Tryz.prog 100 #[.pointer (some ⟨b, 0, none⟩), .func (.func 101) #[.pointer (some ⟨b, 0, none⟩)] #[]] w1 (fun e w' => e = stopE n j ∧ Fq w0 b m w'))) :
    Calls Tryz.prog 59 #[.pointer (some ⟨b, 0, none⟩)] w (PBad w0 b m n j) := by
  have c2 := h.cell.1
  have hbw := h.lt
  have HZ : Hid (∀ o, PK w0 b m s st w (w.alloc o)) := fun o => (PK.refl h).alloc o
  have HZ0 : Hid (PK w0 b m s st w w) := PK.refl h
  have hmf := mkFunc
  have h1 := as_blk_no (sg := .one 91) rfl st.p
  have h2 := as_one_yes 91 st.p
  rw [hx] at c2
  clear hx
  clear h
  go_enter Tryz.func59, Tryz.ntmps59
  go_wp2_with fail
  refine (HC.out _ (by first | exact HZ0.out | exact HZ.out _ | exact (HZ.out _).alloc _)).mono ?_
  rintro e w1 ⟨rfl, hf⟩
  exact ⟨rfl, rfl, hf⟩

set_option maxHeartbeats 2000000 in
set_option maxRecDepth 20000 in
theorem subj_rd_ok (w0 w : World) (b m : Nat) (s : ByteArray) (st : St) (l : List UInt8) (st' : St) (h : Pz w0 b m s st w) (hx : st.now = .one 40)
    (HC : Hid (∀ w1, PK w0 b m s st w w1 → Calls Tryz.prog 100 #[.pointer (some ⟨b, 0, none⟩), .func (.func 102) #[.pointer (some ⟨b, 0, none⟩)] #[]] w1 (fun e w' => e = .returned (str l) ∧ PK w0 b m s st' w w'))) :
    Calls Tryz.prog 59 #[.pointer (some ⟨b, 0, none⟩)] w (POk w0 b m s w (str l) st') := by
  have c2 := h.cell.1
  have hbw := h.lt
  have HZ : Hid (∀ o, PK w0 b m s st w (w.alloc o)) := fun o => (PK.refl h).alloc o
  have HZ0 : Hid (PK w0 b m s st w w) := PK.refl h
  have hmf := mkFunc
  have h1 := as_blk_no (sg := .one 40) rfl st.p
  have h2 := as_one_yes 40 st.p
  rw [hx] at c2
  clear hx
  clear h
  go_enter Tryz.func59, Tryz.ntmps59
  go_wp2_with fail
  refine (HC.out _ (by first | exact HZ0.out | exact HZ.out _ | exact (HZ.out _).alloc _)).mono ?_
  rintro e w1 ⟨rfl, hp1⟩
  go_wp2
  go_ret
  exact ⟨rfl, hp1⟩

set_option maxHeartbeats 2000000 in
set_option maxRecDepth 20000 in
theorem subj_rd_bad (w0 w : World) (b m : Nat) (s : ByteArray) (st : St) (n : Int) (j : Nat) (h : Pz w0 b m s st w) (hx : st.now = .one 40)
    (HC : Hid (∀ w1, PK w0 b m s st w w1 → Calls Tryz.prog 100 #[.pointer (some ⟨b, 0, none⟩), .func (.func 102) #[.pointer (some ⟨b, 0, none⟩)] #[]] w1 (fun e w' => e = stopE n j ∧ Fq w0 b m w'))) :
    Calls Tryz.prog 59 #[.pointer (some ⟨b, 0, none⟩)] w (PBad w0 b m n j) := by
  have c2 := h.cell.1
  have hbw := h.lt
  have HZ : Hid (∀ o, PK w0 b m s st w (w.alloc o)) := fun o => (PK.refl h).alloc o
  have HZ0 : Hid (PK w0 b m s st w w) := PK.refl h
  have hmf := mkFunc
  have h1 := as_blk_no (sg := .one 40) rfl st.p
  have h2 := as_one_yes 40 st.p
  rw [hx] at c2
  clear hx
  clear h
  go_enter Tryz.func59, Tryz.ntmps59
  go_wp2_with fail
  refine (HC.out _ (by first | exact HZ0.out | exact HZ.out _ | exact (HZ.out _).alloc _)).mono ?_
  rintro e w1 ⟨rfl, hf⟩
  exact ⟨rfl, rfl, hf⟩

set_option maxHeartbeats 2000000 in
set_option maxRecDepth 20000 in
theorem subj_one_ok (w0 w : World) (b m : Nat) (s : ByteArray) (st : St) (l : List UInt8) (st' : St) (h : Pz w0 b m s st w) (c : Nat) (hx : st.now = .one c) (h91 : c ≠ 91) (h40 : c ≠ 40)
    (HC : Hid (∀ w1, PK w0 b m s st w w1 → Calls Tryz.prog 103 #[.pointer (some ⟨b, 0, none⟩)] w1 (fun e w' => e = .returned (str l) ∧ PK w0 b m s st' w w'))) :
    Calls Tryz.prog 59 #[.pointer (some ⟨b, 0, none⟩)] w (POk w0 b m s w (str l) st') := by
  have c2 := h.cell.1
  have hbw := h.lt
  have HZ : Hid (∀ o, PK w0 b m s st w (w.alloc o)) := fun o => (PK.refl h).alloc o
  have HZ0 : Hid (PK w0 b m s st w w) := PK.refl h
  have hmf := mkFunc
  have h1 := as_blk_no (sg := .one c) rfl st.p
  have h2 := as_one_yes c st.p
  have g91 : ¬ ((c : Int) = 91) := by omega
  have g40 : ¬ ((c : Int) = 40) := by omega
  rw [hx] at c2
  clear hx
  clear h
  go_enter Tryz.func59, Tryz.ntmps59
  go_wp2_with fail
  refine (HC.out _ (by first | exact HZ0.out | exact HZ.out _ | exact (HZ.out _).alloc _)).mono ?_
  rintro e w1 ⟨rfl, hp1⟩
  go_wp2
  go_ret
  exact ⟨rfl, hp1⟩

set_option maxHeartbeats 2000000 in
set_option maxRecDepth 20000 in
theorem subj_one_bad (w0 w : World) (b m : Nat) (s : ByteArray) (st : St) (n : Int) (j : Nat) (h : Pz w0 b m s st w) (c : Nat) (hx : st.now = .one c) (h91 : c ≠ 91) (h40 : c ≠ 40)
    (HC : Hid (∀ w1, PK w0 b m s st w w1 → Calls Tryz.prog 103 #[.pointer (some ⟨b, 0, none⟩)] w1 (fun e w' => e = stopE n j ∧ Fq w0 b m w'))) :
    Calls Tryz.prog 59 #[.pointer (some ⟨b, 0, none⟩)] w (PBad w0 b m n j) := by
  have c2 := h.cell.1
  have hbw := h.lt
  have HZ : Hid (∀ o, PK w0 b m s st w (w.alloc o)) := fun o => (PK.refl h).alloc o
  have HZ0 : Hid (PK w0 b m s st w w) := PK.refl h
  have hmf := mkFunc
  have h1 := as_blk_no (sg := .one c) rfl st.p
  have h2 := as_one_yes c st.p
  have g91 : ¬ ((c : Int) = 91) := by omega
  have g40 : ¬ ((c : Int) = 40) := by omega
  rw [hx] at c2
  clear hx
  clear h
  go_enter Tryz.func59, Tryz.ntmps59
  go_wp2_with fail
  refine (HC.out _ (by first | exact HZ0.out | exact HZ.out _ | exact (HZ.out _).alloc _)).mono ?_
  rintro e w1 ⟨rfl, hf⟩
  exact ⟨rfl, rfl, hf⟩

set_option maxHeartbeats 2000000 in
set_option maxRecDepth 20000 in
theorem subj_res_ok (w0 w : World) (b m : Nat) (s : ByteArray) (st : St) (l : List UInt8) (st' : St) (h : Pz w0 b m s st w) (hx1 : Sg.is_blk st.now = false) (hx2 : Sg.is_one st.now = false)
    (HC : Hid (∀ w1, PK w0 b m s st w w1 → Calls Tryz.prog 103 #[.pointer (some ⟨b, 0, none⟩)] w1 (fun e w' => e = .returned (str l) ∧ PK w0 b m s st' w w'))) :
    Calls Tryz.prog 59 #[.pointer (some ⟨b, 0, none⟩)] w (POk w0 b m s w (str l) st') := by
  have c2 := h.cell.1
  have hbw := h.lt
  have HZ : Hid (∀ o, PK w0 b m s st w (w.alloc o)) := fun o => (PK.refl h).alloc o
  have HZ0 : Hid (PK w0 b m s st w w) := PK.refl h
  have hmf := mkFunc
  have h1 := as_blk_no hx1 st.p
  have h2 := as_one_no hx2 st.p
  clear hx1 hx2
  clear h
  go_enter Tryz.func59, Tryz.ntmps59
  go_wp2_with fail
  refine (HC.out _ (by first | exact HZ0.out | exact HZ.out _ | exact (HZ.out _).alloc _)).mono ?_
  rintro e w1 ⟨rfl, hp1⟩
  go_wp2
  go_ret
  exact ⟨rfl, hp1⟩

set_option maxHeartbeats 2000000 in
set_option maxRecDepth 20000 in
theorem subj_res_bad (w0 w : World) (b m : Nat) (s : ByteArray) (st : St) (n : Int) (j : Nat) (h : Pz w0 b m s st w) (hx1 : Sg.is_blk st.now = false) (hx2 : Sg.is_one st.now = false)
    (HC : Hid (∀ w1, PK w0 b m s st w w1 → Calls Tryz.prog 103 #[.pointer (some ⟨b, 0, none⟩)] w1 (fun e w' => e = stopE n j ∧ Fq w0 b m w'))) :
    Calls Tryz.prog 59 #[.pointer (some ⟨b, 0, none⟩)] w (PBad w0 b m n j) := by
  have c2 := h.cell.1
  have hbw := h.lt
  have HZ : Hid (∀ o, PK w0 b m s st w (w.alloc o)) := fun o => (PK.refl h).alloc o
  have HZ0 : Hid (PK w0 b m s st w w) := PK.refl h
  have hmf := mkFunc
  have h1 := as_blk_no hx1 st.p
  have h2 := as_one_no hx2 st.p
  clear hx1 hx2
  clear h
  go_enter Tryz.func59, Tryz.ntmps59
  go_wp2_with fail
  refine (HC.out _ (by first | exact HZ0.out | exact HZ.out _ | exact (HZ.out _).alloc _)).mono ?_
  rintro e w1 ⟨rfl, hf⟩
  exact ⟨rfl, rfl, hf⟩

theorem blk_cases (sg : Sg) : (∃ l, sg = .blk l) ∨ (∃ c, sg = .one c) ∨ (Sg.is_blk sg = false ∧ Sg.is_one sg = false) := by
  cases sg
  case blk l => exact Or.inl ⟨l, rfl⟩
  case one c => exact Or.inr (Or.inl ⟨c, rfl⟩)
  all_goals exact Or.inr (Or.inr ⟨rfl, rfl⟩)

/-- a subject -/
theorem subject_any (s : ByteArray) (N d : Nat) (HO : ∀ d', d = d' + 1 → ObC s N d') (hN : 2 * s.size + 2 ≤ N) (w0 w : World) (b m : Nat) (st : St) (h : Go0 w0 b m s d st w) :
    Calls Tryz.prog 59 #[.pointer (some ⟨b, 0, none⟩)] w (PRes w0 b m s w str (subj (inn s N d) s N st)) := by
  have hgood := inn_good s N d
  have hdp := h.dp
  have HR : ∀ w1, PK w0 b m s st w w1 → Calls Tryz.prog 103 #[.pointer (some ⟨b, 0, none⟩)] w1 (PRes w0 b m s w1 str (res s st)) := fun w1 hp => resource_any w0 w1 b m s st hp.1 h.tb h.nn
  have hdw : Wf s (deeper st) := ⟨⟨h.wf.le, h.wf.tk, h.wf.nm⟩, h.nn⟩
  rcases blk_cases st.now with ⟨l, hx⟩ | ⟨c, hx⟩ | ⟨hx1, hx2⟩
  · cases hm : isMade l with
    | true =>
      have e : subj (inn s N d) s N st = .bad 6 st.p := by unfold subj; rw [hx]; simp only; rw [if_pos hm]
      rw [e]
      exact subj_blk_bad w0 w b m s st l h.pz h.tb hx hm
    | false =>
      have e : subj (inn s N d) s N st = .ok l (step s st) := by unfold subj; rw [hx]; simp only; rw [if_neg (by rw [hm]; simp)]
      rw [e]
      exact subj_blk_ok w0 w b m s st l h.pz h.tb hx hm
  · have hrl : st.now.real = true := by rw [hx]; rfl
    have hon := On.of_step hdw hrl
    by_cases h91 : c = 91
    · subst h91
      have e : subj (inn s N d) s N st = nest (brack (inn s N d) s N) s st := by unfold subj; rw [hx]; simp
      rw [e]
      have HN : ∀ w1, PK w0 b m s st w w1 → Calls Tryz.prog 100 #[.pointer (some ⟨b, 0, none⟩), .func (.func 101) #[.pointer (some ⟨b, 0, none⟩)] #[]] w1 (PRes w0 b m s w1 str (nest (brack (inn s N d) s N) s st)) := fun w1 hp =>
        nest_any w0 w1 b m 101 s st _ hp.1 h.tb h.nn (by omega) (brk_real hrl) (enters_of Tryz.func101 (by kernel_rfl) rfl)
          (fun h8 w2 hp2 => by
            obtain ⟨d', hd'⟩ : ∃ d', d = d' + 1 := ⟨d - 1, by omega⟩
            have hb := hon.bu
            have hbd : bud s (deeper st) = bud s st := rfl
            have hbu := h.bu
            subst hd'
            exact brack_any s N d' (HO d' rfl) hN w0 w2 b m _ ⟨hp2.1, h.tb, h.tn, hon.wf.nn, by show st.depth + 1 + d' = 8; omega, by omega⟩ (by omega))
          (fun l st2 hr => (brack_br hgood hon.wf hr).dp)
      cases hr : nest (brack (inn s N d) s N) s st with
      | ok l st' =>
        rw [hr] at HN
        exact subj_sq_ok w0 w b m s st l st' h.pz hx fun w1 hp => (HN w1 hp).mono fun e w' k => ⟨k.1, hp.on k.2⟩
      | bad n j =>
        rw [hr] at HN
        exact subj_sq_bad w0 w b m s st n j h.pz hx HN
    · by_cases h40 : c = 40
      · subst h40
        have e : subj (inn s N d) s N st = nest (round (inn s N d) s N) s st := by unfold subj; rw [hx]; simp
        rw [e]
        have HN : ∀ w1, PK w0 b m s st w w1 → Calls Tryz.prog 100 #[.pointer (some ⟨b, 0, none⟩), .func (.func 102) #[.pointer (some ⟨b, 0, none⟩)] #[]] w1 (PRes w0 b m s w1 str (nest (round (inn s N d) s N) s st)) := fun w1 hp =>
          nest_any w0 w1 b m 102 s st _ hp.1 h.tb h.nn (by omega) (brk_real hrl) (enters_of Tryz.func102 (by kernel_rfl) rfl)
            (fun h8 w2 hp2 => by
              obtain ⟨d', hd'⟩ : ∃ d', d = d' + 1 := ⟨d - 1, by omega⟩
              have hb := hon.bu
              have hbd : bud s (deeper st) = bud s st := rfl
              have hbu := h.bu
              subst hd'
              exact round_any s N d' (HO d' rfl) hN w0 w2 b m _ ⟨hp2.1, h.tb, h.tn, hon.wf.nn, by show st.depth + 1 + d' = 8; omega, by omega⟩ (by omega))
            (fun l st2 hr => (round_br hgood hon.wf hr).dp)
        cases hr : nest (round (inn s N d) s N) s st with
        | ok l st' =>
          rw [hr] at HN
          exact subj_rd_ok w0 w b m s st l st' h.pz hx fun w1 hp => (HN w1 hp).mono fun e w' k => ⟨k.1, hp.on k.2⟩
        | bad n j =>
          rw [hr] at HN
          exact subj_rd_bad w0 w b m s st n j h.pz hx HN
      · have e : subj (inn s N d) s N st = res s st := by unfold subj; rw [hx]; simp only; rw [if_neg h91, if_neg h40]
        rw [e]
        cases hr : res s st with
        | ok l st' =>
          rw [hr] at HR
          exact subj_one_ok w0 w b m s st l st' h.pz c hx h91 h40 fun w1 hp => (HR w1 hp).mono fun e w' k => ⟨k.1, hp.on k.2⟩
        | bad n j =>
          rw [hr] at HR
          exact subj_one_bad w0 w b m s st n j h.pz c hx h91 h40 HR
  · have e : subj (inn s N d) s N st = res s st := by
      unfold subj
      split
      · rename_i l hl
        rw [hl] at hx1
        cases hx1
      · rename_i c hc
        rw [hc] at hx2
        cases hx2
      · rfl
    rw [e]
    cases hr : res s st with
    | ok l st' =>
      rw [hr] at HR
      exact subj_res_ok w0 w b m s st l st' h.pz hx1 hx2 fun w1 hp => (HR w1 hp).mono fun e w' k => ⟨k.1, hp.on k.2⟩
    | bad n j =>
      rw [hr] at HR
      exact subj_res_bad w0 w b m s st n j h.pz hx1 hx2 HR

end Tu
end Go.Proofs.YtnffjoipinhojabGreatDoor

set_option linter.unusedSimpArgs false
set_option linter.unusedVariables false
namespace Go.Proofs.YtnffjoipinhojabGreatDoor
open Go.RowKit
namespace Tu

theorem isTruth_any (w : World) (l : List UInt8) : Calls Tryz.prog 142 #[str l] w fun e w' => e = .returned (.bool (isTruth l)) ∧ w' = w := by
  by_cases h1 : l = trueB
  · subst h1
    go_enter Tryz.func142, Tryz.ntmps142
    go_wp2
    go_ret
    exact ⟨rfl, rfl⟩
  · obtain ⟨V, hV⟩ : ∃ V : ByteArray, V = ⟨l.toArray⟩ := ⟨_, rfl⟩
    have e1 : str l = .string V := by rw [hV]
    have n1 : (V.toList == [116, 114, 117, 101]) = false := by rw [beq_eq_false_iff_ne, hV, str_toList]; exact h1
    rw [e1]
    by_cases h2 : l = falseB
    · have n2 : (V.toList == [102, 97, 108, 115, 101]) = true := by rw [beq_iff_eq, hV, str_toList]; exact h2
      have HE : Hid (isTruth l = true) := by unfold Hid isTruth; rw [h2]; rfl
      rw [HE.out]
      clear hV e1 h1 h2
      go_enter Tryz.func142, Tryz.ntmps142
      go_wp2
      go_ret
      exact ⟨rfl, rfl⟩
    · have n2 : (V.toList == [102, 97, 108, 115, 101]) = false := by rw [beq_eq_false_iff_ne, hV, str_toList]; exact h2
      have HE : Hid (isTruth l = false) := by unfold Hid isTruth; simp [h1, h2]
      rw [HE.out]
      clear hV e1 h1 h2
      go_enter Tryz.func142, Tryz.ntmps142
      go_wp2
      go_ret
      exact ⟨rfl, rfl⟩

/-- what object has of a number when it has gone on -/
abbrev NS (w0 w : World) (b m : Nat) (s : ByteArray) (st : St) (p : Nat) (l : List UInt8) (w' : World) : Prop :=
  w'.cell? ⟨w.heap.size, 0, none⟩ = some (.int .i64 p) ∧ w'.cell? ⟨w.heap.size, 1, none⟩ = some (str l) ∧ PK w0 b m s st w w'
theorem NS.keep {w0 w : World} {b m : Nat} {s : ByteArray} {st : St} {p : Nat} {l : List UInt8} {w1 w2 : World} (h : NS w0 w b m s st p l w1) (a : Below w1.heap.size w1 w2) : NS w0 w b m s st p l w2 := by
  obtain ⟨h1, h2, h6⟩ := h
  have l1 := World.block_lt_of_cell? w1 ⟨w.heap.size, 0, none⟩ h1
  exact ⟨(a.cell (p := ⟨w.heap.size, 0, none⟩) l1).trans h1, (a.cell (p := ⟨w.heap.size, 1, none⟩) l1).trans h2, h6.same a⟩

/-- a sign is laid, then it goes on -/
theorem lay_step {w0 w : World} {b m : Nat} {s : ByteArray} {st : St} (h : Pz w0 b m s st w) (hT : Tabs w0) (hb : st.now.isBrk = false) (p : Nat) (l : List UInt8) (T : TypeId) : Calls Tryz.prog 55 #[.pointer (some ⟨b, 0, none⟩)] (w.alloc (.cells #[.int .i64 p, str l] T)) fun e w' => e = .returned (.tuple #[]) ∧ NS w0 w b m s (step s st) p l w' := by
  refine (step_any w0 (w.alloc (.cells #[.int .i64 p, str l] T)) b m s st (h.alloc _) hT hb).mono ?_
  rintro e w' ⟨rfl, hp2⟩
  have hb1 : w'.heap[w.heap.size]? = some (.cells #[.int .i64 p, str l] T) := by
    rw [(Loc.of_alloc h _).same hp2.2]
    exact heap_new _ _
  exact ⟨rfl, by rw [Lib.cell_of_heap hb1]; rfl, by rw [Lib.cell_of_heap hb1]; rfl, ((PK.refl h).alloc _).on hp2⟩

set_option maxHeartbeats 2000000 in
set_option maxRecDepth 20000 in
theorem obj_num_ok (w0 w : World) (b m : Nat) (s : ByteArray) (st : St) (l : List UInt8) (h : Pz w0 b m s st w) (hT : Tabs w0) (hx : st.now = .num l) (h200 : (form l [] wholeK).length ≤ 200) :
    Calls Tryz.prog 165 #[.pointer (some ⟨b, 0, none⟩)] w (POk w0 b m s w (str (form l [] wholeK)) (step s st)) := by
  have c2 := h.cell.1
  have hbw := h.lt
  have hsz := h.sz
  have htk := h.wf.tk
  rw [hx] at c2 htk
  have h1 := as_str_no (sg := .num l) rfl st.p
  have h2 := as_num_yes l st.p
  obtain ⟨l', hl'⟩ : ∃ l', l' = form l [] wholeK := ⟨_, rfl⟩
  have HFm : Hid (∀ w1, Calls Tryz.prog 203 #[.agg #[str l, .string ⟨#[]⟩, .string ⟨#[60, 104, 116, 116, 112, 58, 47, 47, 119, 119, 119, 46, 119, 51, 46, 111, 114, 103, 47, 50, 48, 48, 49, 47, 88, 77, 76, 83, 99, 104, 101, 109, 97, 35, 105, 110, 116, 101, 103, 101, 114, 62]⟩]] w1 fun e w' => e = .returned (str l') ∧ Below w1.heap.size w1 w') := fun w1 => by
    rw [hl']
    exact form_any w1 l [] wholeK (vu_asc htk.1) (fun x hx => by cases hx) (by have := htk.2; omega) (by simp) (by unfold wholeK; simp)
  rw [← hl'] at h200 ⊢
  have HBd : Hid (∀ w1, Calls Tryz.prog 94 #[.iface 256 (.agg #[.int .i64 st.p, str l]), str l'] w1 fun e w' => e = .returned (str l') ∧ w' = w1) := fun w1 => bounded_ok w1 (.num l) st.p _ h200
  have HS : Hid (Calls Tryz.prog 55 #[.pointer (some ⟨b, 0, none⟩)] (w.alloc (.cells #[.int .i64 st.p, str l] 256)) fun e w' => e = .returned (.tuple #[]) ∧ NS w0 w b m s (step s st) st.p l w') := lay_step h hT (by rw [hx]; rfl) st.p l _
  clear h hT hx htk h200 hl'
  go_enter Tryz.func165, Tryz.ntmps165
  go_wp2_with fail
  refine HS.out.mono ?_
  rintro e w1 ⟨rfl, hS1⟩
  go_wp2_with fail
  refine wp_region_held_drew (S := NS w0 w b m s (step s st) st.p l) (by kernel_rfl) (NS.keep hS1 (Below.refl _ w1).drew) (fun hHeld => ?_)
  refine wpAnyH_take (i := 0) (v := .agg #[.int .i64 st.p, str l]) rfl (by kernel_rfl) (by kernel_rfl) (by kernel_rfl) (fun _ _ _ h => h) (Or.inl ⟨by rfl, fun w' hSw => ?_⟩) (by assumption) ?_
  · obtain ⟨g0, g1, g2⟩ := hSw
    go_simp
  refine wpAnyH_take (i := 1) (v := .iface 256 (.agg #[.int .i64 st.p, str l])) rfl (by kernel_rfl) (by kernel_rfl) (by kernel_rfl) (fun _ _ _ h => h) (Or.inl ⟨by rfl, fun w' hSw => ?_⟩) (by assumption) ?_
  · obtain ⟨g0, g1, g2⟩ := hSw
    go_simp
  refine wpAnyH_take (i := 2) (v := .pointer (some ⟨w.heap.size, 1, none⟩)) rfl (by kernel_rfl) (by kernel_rfl) (by kernel_rfl) (fun _ _ _ h => h) (Or.inl ⟨by rfl, fun w' hSw => ?_⟩) (by assumption) ?_
  · obtain ⟨g0, g1, g2⟩ := hSw
    go_simp
  refine wpAnyH_take (i := 3) (v := str l) rfl (by kernel_rfl) (by kernel_rfl) (by kernel_rfl) (fun _ _ _ h => h) (Or.inl ⟨by rfl, fun w' hSw => ?_⟩) (by assumption) ?_
  · obtain ⟨g0, g1, g2⟩ := hSw
    go_simp
  refine wpAnyH_take (i := 4) (v := .agg #[str l, .string ⟨#[]⟩, .string ⟨#[60, 104, 116, 116, 112, 58, 47, 47, 119, 119, 119, 46, 119, 51, 46, 111, 114, 103, 47, 50, 48, 48, 49, 47, 88, 77, 76, 83, 99, 104, 101, 109, 97, 35, 105, 110, 116, 101, 103, 101, 114, 62]⟩]) rfl (by kernel_rfl) (by kernel_rfl) (by kernel_rfl) (fun _ _ _ h => h) (Or.inl ⟨by rfl, fun w' hSw => ?_⟩) (by assumption) ?_
  · obtain ⟨g0, g1, g2⟩ := hSw
    go_simp
  refine wpAnyH_ready (rs := [5]) (by kernel_rfl) (by simp) (AllReadyH.cons rfl (fun K hK => ?_) AllReadyH.nil)
  go_simp
  go_at_call 203
  refine (HFm.out _).mono ?_
  rintro e wf ⟨rfl, hBf⟩
  refine hK.out _ _ (NS.keep hHeld hBf) (fun hHeld2 => ?_)
  refine wpAnyH_ready (rs := [6]) (by kernel_rfl) (by simp) (AllReadyH.cons rfl (fun K hK => ?_) AllReadyH.nil)
  go_simp
  go_at_call 94
  refine (HBd.out _).mono ?_
  rintro e wg ⟨rfl, rfl⟩
  refine hK.out _ _ hHeld2 (fun hHeld3 => ?_)
  refine wpAnyH_take (i := 7) (v := str l') rfl (by kernel_rfl) (by kernel_rfl) (by kernel_rfl) (fun _ _ _ h => h) (Or.inl ⟨by rfl, fun w' hSw => ?_⟩) (by assumption) ?_
  · go_simp
  refine wpAnyH_done (by kernel_rfl) ?_ _
  go_wp2
  go_ret
  exact ⟨rfl, hHeld3.2.2⟩

set_option maxHeartbeats 2000000 in
set_option maxRecDepth 20000 in
theorem obj_num_bad (w0 w : World) (b m : Nat) (s : ByteArray) (st : St) (l : List UInt8) (h : Pz w0 b m s st w) (hT : Tabs w0) (hx : st.now = .num l) (h200 : 200 < (form l [] wholeK).length) :
    Calls Tryz.prog 165 #[.pointer (some ⟨b, 0, none⟩)] w (PBad w0 b m 4 st.p) := by
  have c2 := h.cell.1
  have hbw := h.lt
  have hsz := h.sz
  have htk := h.wf.tk
  rw [hx] at c2 htk
  have h1 := as_str_no (sg := .num l) rfl st.p
  have h2 := as_num_yes l st.p
  obtain ⟨l', hl'⟩ : ∃ l', l' = form l [] wholeK := ⟨_, rfl⟩
  have HFm : Hid (∀ w1, Calls Tryz.prog 203 #[.agg #[str l, .string ⟨#[]⟩, .string ⟨#[60, 104, 116, 116, 112, 58, 47, 47, 119, 119, 119, 46, 119, 51, 46, 111, 114, 103, 47, 50, 48, 48, 49, 47, 88, 77, 76, 83, 99, 104, 101, 109, 97, 35, 105, 110, 116, 101, 103, 101, 114, 62]⟩]] w1 fun e w' => e = .returned (str l') ∧ Below w1.heap.size w1 w') := fun w1 => by
    rw [hl']
    exact form_any w1 l [] wholeK (vu_asc htk.1) (fun x hx => by cases hx) (by have := htk.2; omega) (by simp) (by unfold wholeK; simp)
  rw [← hl'] at h200
  have HBd : Hid (∀ w1, Calls Tryz.prog 94 #[.iface 256 (.agg #[.int .i64 st.p, str l]), str l'] w1 fun e w' => e = stopE 4 st.p ∧ w' = w1) := fun w1 => bounded_bad w1 (.num l) rfl st.p _ h200
  have HS : Hid (Calls Tryz.prog 55 #[.pointer (some ⟨b, 0, none⟩)] (w.alloc (.cells #[.int .i64 st.p, str l] 256)) fun e w' => e = .returned (.tuple #[]) ∧ NS w0 w b m s (step s st) st.p l w') := lay_step h hT (by rw [hx]; rfl) st.p l _
  clear h hT hx htk h200 hl'
  go_enter Tryz.func165, Tryz.ntmps165
  go_wp2_with fail
  refine HS.out.mono ?_
  rintro e w1 ⟨rfl, hS1⟩
  go_wp2_with fail
  refine wp_region_held_drew (S := NS w0 w b m s (step s st) st.p l) (by kernel_rfl) (NS.keep hS1 (Below.refl _ w1).drew) (fun hHeld => ?_)
  refine wpAnyH_take (i := 0) (v := .agg #[.int .i64 st.p, str l]) rfl (by kernel_rfl) (by kernel_rfl) (by kernel_rfl) (fun _ _ _ h => h) (Or.inl ⟨by rfl, fun w' hSw => ?_⟩) (by assumption) ?_
  · obtain ⟨g0, g1, g2⟩ := hSw
    go_simp
  refine wpAnyH_take (i := 1) (v := .iface 256 (.agg #[.int .i64 st.p, str l])) rfl (by kernel_rfl) (by kernel_rfl) (by kernel_rfl) (fun _ _ _ h => h) (Or.inl ⟨by rfl, fun w' hSw => ?_⟩) (by assumption) ?_
  · obtain ⟨g0, g1, g2⟩ := hSw
    go_simp
  refine wpAnyH_take (i := 2) (v := .pointer (some ⟨w.heap.size, 1, none⟩)) rfl (by kernel_rfl) (by kernel_rfl) (by kernel_rfl) (fun _ _ _ h => h) (Or.inl ⟨by rfl, fun w' hSw => ?_⟩) (by assumption) ?_
  · obtain ⟨g0, g1, g2⟩ := hSw
    go_simp
  refine wpAnyH_take (i := 3) (v := str l) rfl (by kernel_rfl) (by kernel_rfl) (by kernel_rfl) (fun _ _ _ h => h) (Or.inl ⟨by rfl, fun w' hSw => ?_⟩) (by assumption) ?_
  · obtain ⟨g0, g1, g2⟩ := hSw
    go_simp
  refine wpAnyH_take (i := 4) (v := .agg #[str l, .string ⟨#[]⟩, .string ⟨#[60, 104, 116, 116, 112, 58, 47, 47, 119, 119, 119, 46, 119, 51, 46, 111, 114, 103, 47, 50, 48, 48, 49, 47, 88, 77, 76, 83, 99, 104, 101, 109, 97, 35, 105, 110, 116, 101, 103, 101, 114, 62]⟩]) rfl (by kernel_rfl) (by kernel_rfl) (by kernel_rfl) (fun _ _ _ h => h) (Or.inl ⟨by rfl, fun w' hSw => ?_⟩) (by assumption) ?_
  · obtain ⟨g0, g1, g2⟩ := hSw
    go_simp
  refine wpAnyH_ready (rs := [5]) (by kernel_rfl) (by simp) (AllReadyH.cons rfl (fun K hK => ?_) AllReadyH.nil)
  go_simp
  go_at_call 203
  refine (HFm.out _).mono ?_
  rintro e wf ⟨rfl, hBf⟩
  refine hK.out _ _ (NS.keep hHeld hBf) (fun hHeld2 => ?_)
  refine wpAnyH_ready (rs := [6]) (by kernel_rfl) (by simp) (AllReadyH.cons rfl (fun K hK => ?_) AllReadyH.nil)
  go_simp
  go_at_call 94
  refine (HBd.out _).mono ?_
  rintro e wg ⟨rfl, rfl⟩
  exact ⟨rfl, rfl, hHeld2.2.2.1.fq⟩

set_option maxHeartbeats 2000000 in
set_option maxRecDepth 20000 in
theorem obj_row (w0 w : World) (b m : Nat) (s : ByteArray) (st : St) (l : List UInt8) (h : Pz w0 b m s st w) (hT : Tabs w0) (hx : st.now = .row l) (ht : isTruth l = true) :
    Calls Tryz.prog 165 #[.pointer (some ⟨b, 0, none⟩)] w (POk w0 b m s w (str (form l [] truthK)) (step s st)) := by
  have c2 := h.cell.1
  have hbw := h.lt
  have hsz := h.sz
  have htk := h.wf.tk
  rw [hx] at c2 htk
  have h1 := as_str_no (sg := .row l) rfl st.p
  have h2 := as_num_no (sg := .row l) rfl st.p
  have h3 := as_row_yes l st.p
  obtain ⟨l', hl'⟩ : ∃ l', l' = form l [] truthK := ⟨_, rfl⟩
  have HFm : Hid (∀ w1, Calls Tryz.prog 203 #[.agg #[str l, .string ⟨#[]⟩, .string ⟨#[60, 104, 116, 116, 112, 58, 47, 47, 119, 119, 119, 46, 119, 51, 46, 111, 114, 103, 47, 50, 48, 48, 49, 47, 88, 77, 76, 83, 99, 104, 101, 109, 97, 35, 98, 111, 111, 108, 101, 97, 110, 62]⟩]] w1 fun e w' => e = .returned (str l') ∧ Below w1.heap.size w1 w') := fun w1 => by
    rw [hl']
    exact form_any w1 l [] truthK (vu_asc htk.1) (fun x hx => by cases hx) (by have := htk.2; omega) (by simp) (by unfold truthK; simp)
  rw [← hl']
  have HTr : Hid (∀ w1, Calls Tryz.prog 142 #[str l] w1 fun e w' => e = .returned (.bool true) ∧ w' = w1) := fun w1 => by rw [← ht]; exact isTruth_any w1 l
  have HS : Hid (Calls Tryz.prog 55 #[.pointer (some ⟨b, 0, none⟩)] (w.alloc (.cells #[.int .i64 st.p, str l] 228)) fun e w' => e = .returned (.tuple #[]) ∧ NS w0 w b m s (step s st) st.p l w') := lay_step h hT (by rw [hx]; rfl) st.p l _
  clear h hT hx htk hl' ht
  go_enter Tryz.func165, Tryz.ntmps165
  go_wp2_with fail
  refine (HTr.out _).mono ?_
  rintro e w1 ⟨rfl, rfl⟩
  go_wp2_with fail
  refine HS.out.mono ?_
  rintro e w1 ⟨rfl, hS1⟩
  obtain ⟨d0, d1, hp1⟩ := hS1
  go_wp2_with fail
  refine (HFm.out _).mono ?_
  rintro e w2 ⟨rfl, hB⟩
  go_wp2
  go_ret
  exact ⟨rfl, hp1.same hB⟩

set_option maxHeartbeats 2000000 in
set_option maxRecDepth 20000 in
theorem obj_str_ok (w0 w : World) (b m : Nat) (s : ByteArray) (st : St) (l : List UInt8) (st' : St) (h : Pz w0 b m s st w) (t : List UInt8) (hx : st.now = .str t)
    (HC : Hid (∀ w1, PK w0 b m s st w w1 → Calls Tryz.prog 202 #[.pointer (some ⟨b, 0, none⟩), .agg #[.int .i64 st.p, str t]] w1 (fun e w' => e = .returned (str l) ∧ PK w0 b m s st' w w'))) :
    Calls Tryz.prog 165 #[.pointer (some ⟨b, 0, none⟩)] w (POk w0 b m s w (str l) st') := by
  have c2 := h.cell.1
  have hbw := h.lt
  have HZ : Hid (∀ o, PK w0 b m s st w (w.alloc o)) := fun o => (PK.refl h).alloc o
  have HZ0 : Hid (PK w0 b m s st w w) := PK.refl h
  have h1 := as_str_yes t st.p
  rw [hx] at c2
  clear hx
  clear h
  go_enter Tryz.func165, Tryz.ntmps165
  go_wp2_with fail
  refine (HC.out _ (by first | exact HZ0.out | exact HZ.out _ | exact (HZ.out _).alloc _)).mono ?_
  rintro e w1 ⟨rfl, hp1⟩
  go_wp2
  go_ret
  exact ⟨rfl, hp1⟩

set_option maxHeartbeats 2000000 in
set_option maxRecDepth 20000 in
theorem obj_str_bad (w0 w : World) (b m : Nat) (s : ByteArray) (st : St) (n : Int) (j : Nat) (h : Pz w0 b m s st w) (t : List UInt8) (hx : st.now = .str t)
    (HC : Hid (∀ w1, PK w0 b m s st w w1 → Calls Tryz.prog 202 #[.pointer (some ⟨b, 0, none⟩), .agg #[.int .i64 st.p, str t]] w1 (fun e w' => e = stopE n j ∧ Fq w0 b m w'))) :
    Calls Tryz.prog 165 #[.pointer (some ⟨b, 0, none⟩)] w (PBad w0 b m n j) := by
  have c2 := h.cell.1
  have hbw := h.lt
  have HZ : Hid (∀ o, PK w0 b m s st w (w.alloc o)) := fun o => (PK.refl h).alloc o
  have HZ0 : Hid (PK w0 b m s st w w) := PK.refl h
  have h1 := as_str_yes t st.p
  rw [hx] at c2
  clear hx
  clear h
  go_enter Tryz.func165, Tryz.ntmps165
  go_wp2_with fail
  refine (HC.out _ (by first | exact HZ0.out | exact HZ.out _ | exact (HZ.out _).alloc _)).mono ?_
  rintro e w1 ⟨rfl, hf⟩
  exact ⟨rfl, rfl, hf⟩

set_option maxHeartbeats 2000000 in
set_option maxRecDepth 20000 in
theorem obj_rowsub_ok (w0 w : World) (b m : Nat) (s : ByteArray) (st : St) (l : List UInt8) (st' : St) (h : Pz w0 b m s st w) (t : List UInt8) (hx : st.now = .row t) (ht : isTruth t = false)
    (HC : Hid (∀ w1, PK w0 b m s st w w1 → Calls Tryz.prog 59 #[.pointer (some ⟨b, 0, none⟩)] w1 (fun e w' => e = .returned (str l) ∧ PK w0 b m s st' w w'))) :
    Calls Tryz.prog 165 #[.pointer (some ⟨b, 0, none⟩)] w (POk w0 b m s w (str l) st') := by
  have c2 := h.cell.1
  have hbw := h.lt
  have HZ : Hid (∀ o, PK w0 b m s st w (w.alloc o)) := fun o => (PK.refl h).alloc o
  have HZ0 : Hid (PK w0 b m s st w w) := PK.refl h
  have h1 := as_str_no (sg := .row t) rfl st.p
  have h2 := as_num_no (sg := .row t) rfl st.p
  have h3 := as_row_yes t st.p
  have HTr : Hid (∀ w1, Calls Tryz.prog 142 #[str t] w1 fun e w' => e = .returned (.bool false) ∧ w' = w1) := fun w1 => by rw [← ht]; exact isTruth_any w1 t
  rw [hx] at c2
  clear hx ht
  clear h
  go_enter Tryz.func165, Tryz.ntmps165
  go_wp2_with fail
  refine (HTr.out _).mono ?_
  rintro e wt ⟨rfl, rfl⟩
  go_wp2_with fail
  refine (HC.out _ (by first | exact HZ0.out | exact HZ.out _ | exact (HZ.out _).alloc _)).mono ?_
  rintro e w1 ⟨rfl, hp1⟩
  go_wp2
  go_ret
  exact ⟨rfl, hp1⟩

set_option maxHeartbeats 2000000 in
set_option maxRecDepth 20000 in
theorem obj_rowsub_bad (w0 w : World) (b m : Nat) (s : ByteArray) (st : St) (n : Int) (j : Nat) (h : Pz w0 b m s st w) (t : List UInt8) (hx : st.now = .row t) (ht : isTruth t = false)
    (HC : Hid (∀ w1, PK w0 b m s st w w1 → Calls Tryz.prog 59 #[.pointer (some ⟨b, 0, none⟩)] w1 (fun e w' => e = stopE n j ∧ Fq w0 b m w'))) :
    Calls Tryz.prog 165 #[.pointer (some ⟨b, 0, none⟩)] w (PBad w0 b m n j) := by
  have c2 := h.cell.1
  have hbw := h.lt
  have HZ : Hid (∀ o, PK w0 b m s st w (w.alloc o)) := fun o => (PK.refl h).alloc o
  have HZ0 : Hid (PK w0 b m s st w w) := PK.refl h
  have h1 := as_str_no (sg := .row t) rfl st.p
  have h2 := as_num_no (sg := .row t) rfl st.p
  have h3 := as_row_yes t st.p
  have HTr : Hid (∀ w1, Calls Tryz.prog 142 #[str t] w1 fun e w' => e = .returned (.bool false) ∧ w' = w1) := fun w1 => by rw [← ht]; exact isTruth_any w1 t
  rw [hx] at c2
  clear hx ht
  clear h
  go_enter Tryz.func165, Tryz.ntmps165
  go_wp2_with fail
  refine (HTr.out _).mono ?_
  rintro e wt ⟨rfl, rfl⟩
  go_wp2_with fail
  refine (HC.out _ (by first | exact HZ0.out | exact HZ.out _ | exact (HZ.out _).alloc _)).mono ?_
  rintro e w1 ⟨rfl, hf⟩
  exact ⟨rfl, rfl, hf⟩

set_option maxHeartbeats 2000000 in
set_option maxRecDepth 20000 in
theorem obj_sub_ok (w0 w : World) (b m : Nat) (s : ByteArray) (st : St) (l : List UInt8) (st' : St) (h : Pz w0 b m s st w) (hx1 : Sg.isStr st.now = false) (hx2 : Sg.is_num st.now = false) (hx3 : Sg.is_row st.now = false)
    (HC : Hid (∀ w1, PK w0 b m s st w w1 → Calls Tryz.prog 59 #[.pointer (some ⟨b, 0, none⟩)] w1 (fun e w' => e = .returned (str l) ∧ PK w0 b m s st' w w'))) :
    Calls Tryz.prog 165 #[.pointer (some ⟨b, 0, none⟩)] w (POk w0 b m s w (str l) st') := by
  have c2 := h.cell.1
  have hbw := h.lt
  have HZ : Hid (∀ o, PK w0 b m s st w (w.alloc o)) := fun o => (PK.refl h).alloc o
  have HZ0 : Hid (PK w0 b m s st w w) := PK.refl h
  have h1 := as_str_no hx1 st.p
  have h2 := as_num_no hx2 st.p
  have h3 := as_row_no hx3 st.p
  clear hx1 hx2 hx3
  clear h
  go_enter Tryz.func165, Tryz.ntmps165
  go_wp2_with fail
  refine (HC.out _ (by first | exact HZ0.out | exact HZ.out _ | exact (HZ.out _).alloc _)).mono ?_
  rintro e w1 ⟨rfl, hp1⟩
  go_wp2
  go_ret
  exact ⟨rfl, hp1⟩

set_option maxHeartbeats 2000000 in
set_option maxRecDepth 20000 in
theorem obj_sub_bad (w0 w : World) (b m : Nat) (s : ByteArray) (st : St) (n : Int) (j : Nat) (h : Pz w0 b m s st w) (hx1 : Sg.isStr st.now = false) (hx2 : Sg.is_num st.now = false) (hx3 : Sg.is_row st.now = false)
    (HC : Hid (∀ w1, PK w0 b m s st w w1 → Calls Tryz.prog 59 #[.pointer (some ⟨b, 0, none⟩)] w1 (fun e w' => e = stopE n j ∧ Fq w0 b m w'))) :
    Calls Tryz.prog 165 #[.pointer (some ⟨b, 0, none⟩)] w (PBad w0 b m n j) := by
  have c2 := h.cell.1
  have hbw := h.lt
  have HZ : Hid (∀ o, PK w0 b m s st w (w.alloc o)) := fun o => (PK.refl h).alloc o
  have HZ0 : Hid (PK w0 b m s st w w) := PK.refl h
  have h1 := as_str_no hx1 st.p
  have h2 := as_num_no hx2 st.p
  have h3 := as_row_no hx3 st.p
  clear hx1 hx2 hx3
  clear h
  go_enter Tryz.func165, Tryz.ntmps165
  go_wp2_with fail
  refine (HC.out _ (by first | exact HZ0.out | exact HZ.out _ | exact (HZ.out _).alloc _)).mono ?_
  rintro e w1 ⟨rfl, hf⟩
  exact ⟨rfl, rfl, hf⟩

theorem obj_cases (sg : Sg) : (∃ t, sg = .str t) ∨ (∃ l, sg = .num l) ∨ (∃ l, sg = .row l) ∨ (Sg.isStr sg = false ∧ Sg.is_num sg = false ∧ Sg.is_row sg = false) := by
  cases sg
  case str l => exact Or.inl ⟨l, rfl⟩
  case num l => exact Or.inr (Or.inl ⟨l, rfl⟩)
  case row l => exact Or.inr (Or.inr (Or.inl ⟨l, rfl⟩))
  all_goals exact Or.inr (Or.inr (Or.inr ⟨rfl, rfl, rfl⟩))

theorem object_any (s : ByteArray) (N d : Nat) (HO : ∀ d', d = d' + 1 → ObC s N d') (hN : 2 * s.size + 2 ≤ N) : ObC s N d := by
  intro w0 w b m st h
  rw [obj_inn]
  have HSb : ∀ w1, PK w0 b m s st w w1 → Calls Tryz.prog 59 #[.pointer (some ⟨b, 0, none⟩)] w1 (PRes w0 b m s w1 str (subj (inn s N d) s N st)) := fun w1 hp => subject_any s N d HO hN w0 w1 b m st ⟨hp.1, h.tb, h.tn, h.nn, h.dp, h.bu⟩
  rcases obj_cases st.now with ⟨t, hx⟩ | ⟨l, hx⟩ | ⟨l, hx⟩ | ⟨hx1, hx2, hx3⟩
  · have e : objG (inn s N d) s N st = lit s t st := by unfold objG; rw [hx]
    rw [e]
    cases hr : lit s t st with
    | ok l st' => exact obj_str_ok w0 w b m s st l st' h.pz t hx fun w1 hp => (lit_ok w0 w1 b m s st st' t l hp.1 h.tb hx hr).mono fun e w' k => ⟨k.1, hp.on k.2⟩
    | bad n j => exact obj_str_bad w0 w b m s st n j h.pz t hx fun w1 hp => lit_bad w0 w1 b m s st t n j hp.1 h.tb hx hr
  · have e : objG (inn s N d) s N st = bnd st.p (form l [] wholeK) (step s st) := by unfold objG; rw [hx]
    rw [e]
    unfold bnd
    by_cases h200 : 200 < (form l [] wholeK).length
    · rw [if_pos h200]
      exact obj_num_bad w0 w b m s st l h.pz h.tb hx h200
    · rw [if_neg h200]
      exact obj_num_ok w0 w b m s st l h.pz h.tb hx (by omega)
  · cases ht : isTruth l with
    | true =>
      have e : objG (inn s N d) s N st = .ok (form l [] truthK) (step s st) := by unfold objG; rw [hx]; simp only; rw [if_pos ht]
      rw [e]
      exact obj_row w0 w b m s st l h.pz h.tb hx ht
    | false =>
      have e : objG (inn s N d) s N st = subj (inn s N d) s N st := by unfold objG; rw [hx]; simp only; rw [if_neg (by rw [ht]; simp)]
      rw [e]
      cases hr : subj (inn s N d) s N st with
      | ok l2 st' =>
        rw [hr] at HSb
        exact obj_rowsub_ok w0 w b m s st l2 st' h.pz l hx ht fun w1 hp => (HSb w1 hp).mono fun e w' k => ⟨k.1, hp.on k.2⟩
      | bad n j =>
        rw [hr] at HSb
        exact obj_rowsub_bad w0 w b m s st n j h.pz l hx ht HSb
  · have e : objG (inn s N d) s N st = subj (inn s N d) s N st := by
      unfold objG
      split
      · rename_i t hq; rw [hq] at hx1; cases hx1
      · rename_i t hq; rw [hq] at hx2; cases hx2
      · rename_i t hq; rw [hq] at hx3; cases hx3
      · rfl
    rw [e]
    cases hr : subj (inn s N d) s N st with
    | ok l2 st' =>
      rw [hr] at HSb
      exact obj_sub_ok w0 w b m s st l2 st' h.pz hx1 hx2 hx3 fun w1 hp => (HSb w1 hp).mono fun e w' k => ⟨k.1, hp.on k.2⟩
    | bad n j =>
      rw [hr] at HSb
      exact obj_sub_bad w0 w b m s st n j h.pz hx1 hx2 hx3 HSb

/-- object, at every depth -/
theorem object_all (s : ByteArray) (N : Nat) (hN : 2 * s.size + 2 ≤ N) : ∀ d, ObC s N d
  | 0 => object_any s N 0 (fun d' h => by omega) hN
  | d + 1 => object_any s N (d + 1) (fun d' h => by
      have : d' = d := by omega
      subst this
      exact object_all s N hN d') hN

end Tu
end Go.Proofs.YtnffjoipinhojabGreatDoor

