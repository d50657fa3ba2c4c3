import Derived.Test.YtnffjoipinhojabGreatDoorK35
set_option linter.unusedSimpArgs false
set_option linter.unusedVariables false
namespace Go.Proofs.YtnffjoipinhojabGreatDoor
open Go.RowKit

theorem toList_inj {V : ByteArray} {l : List UInt8} (h : V.toList = l) : V = ⟨l.toArray⟩ := by
  obtain ⟨⟨x⟩⟩ := V
  rw [ByteArray.toList_mk] at h
  rw [h]

/-- what both Sets and both printers answer of a list -/
theorem set_cases (l : List Tri) : (∃ (n j : Int), (n = 4 ∨ n = 10) ∧ (∀ w T e w', SeV w T l e w' → e = .returned (.tuple #[.slice none 0 0, .int .i64 n, .int .i64 j]) ∧ Below w.heap.size w w') ∧
      (∀ w e w', PrV w l e w' → e = .returned (.tuple #[.string ⟨#[]⟩, .int .i64 n, .int .i64 j]) ∧ Below w.heap.size w w')) ∨
    ∃ set : List Tri, set.length ≤ 300 ∧ Rising set ∧ (∀ x ∈ set, soundT x = true) ∧ (∀ w T e w', SeV w T l e w' → ∃ v, e = .returned (.tuple #[v, .int .i64 0, .int .i64 0]) ∧ w'.ownsRow w.heap.size T 3 v set.length (cellsOf set) ∧ Below w.heap.size w w') ∧
      (∀ w e w', PrV w l e w' → e = .returned (.tuple #[.string ⟨(printT set).toArray⟩, .int .i64 0, .int .i64 0]) ∧ Below w.heap.size w w') := by
  cases hb : badAt 0 l with
  | some i =>
    refine .inl ⟨4, i, .inl rfl, fun w T e w' h => ?_, fun w e w' h => ?_⟩
    · unfold SeV at h; rw [hb] at h; exact h
    · unfold PrV at h; rw [hb] at h; exact h
  | none =>
    cases hr : rise [] l with
    | none =>
      refine .inl ⟨10, 0, .inr rfl, fun w T e w' h => ?_, fun w e w' h => ?_⟩
      · unfold SeV at h; rw [hb, hr] at h; exact h
      · unfold PrV at h; rw [hb, hr] at h; exact h
    | some set =>
      refine .inr ⟨set, rise_len (by simp) hr, rise_rises List.Pairwise.nil hr, fun x hx => ?_, fun w T e w' h => ?_, fun w e w' h => ?_⟩
      · rcases rise_mem hr x hx with h | h
        · cases h
        · exact badAt_none hb x h
      · unfold SeV at h; rw [hb, hr] at h; exact h
      · unfold PrV at h; rw [hb, hr] at h
        obtain ⟨⟨V, h1, h2⟩, h3⟩ := h
        rw [toList_inj h1] at h2
        exact ⟨h2, h3⟩

theorem setOf_own (w : World) (base : Nat) (v : Value) (l : List Tri) (ho : w.ownsRow base 44 3 v l.length (cellsOf l)) (hn : l.length ≤ maxLen) (hT : Tabs w) (hG : 8 ≤ w.heap.size) :
    Calls Tryz.prog 32 #[v] w (SoP w l) := by
  by_cases h0 : ∃ g cap, v = .slice (some ⟨g, 0, none⟩) l.length cap ∧ g < w.heap.size
  · obtain ⟨g, cap, rfl, hg⟩ := h0
    exact setOf_some w g cap l hg (own_lies ho) hn hT hG
  · rcases ho.2 with ⟨rfl, hz⟩ | ⟨g, cap, cur, rfl, _, hg, _⟩
    · have : l = [] := List.length_eq_zero_iff.1 hz
      subst this
      exact setOf_nil w
    · exact absurd ⟨g, cap, rfl, (Array.getElem?_eq_some_iff.1 hg).1⟩ h0

set_option maxHeartbeats 4000000 in
set_option maxRecDepth 20000 in
/-- lists of different lengths are not the same -/
theorem same_not (w : World) (oa ob : Option Addr) (na nb ca cb : Nat) (hne : na ≠ nb) :
    Calls Tryz.prog 10 #[.slice oa na ca, .slice ob nb cb] w fun e w' => e = .returned (.bool false) ∧ w' = w := by
  go_enter Tryz.func10, Tryz.ntmps10
  go_wp2_with fail
  go_ret
  exact ⟨rfl, rfl⟩

end Go.Proofs.YtnffjoipinhojabGreatDoor

namespace Go.Proofs.YtnffjoipinhojabGreatDoor
open Go.RowKit

end Go.Proofs.YtnffjoipinhojabGreatDoor

set_option linter.unusedSimpArgs false
set_option linter.unusedVariables false
namespace Go.Proofs.YtnffjoipinhojabGreatDoor
open Go.RowKit

theorem SeV.mono {w w2 w' : World} {T : TypeId} {l : List Tri} {e : Ending} (hb : Below w.heap.size w w2) (h : SeV w2 T l e w') : SeV w T l e w' := by
  unfold SeV at h ⊢
  split
  · rename_i i hi
    rw [hi] at h
    exact ⟨h.1, hb.trans (h.2.mono hb.size)⟩
  · rename_i hi
    rw [hi] at h
    unfold RisV at h ⊢
    cases hr : rise [] l with
    | some set =>
      rw [hr] at h
      obtain ⟨v', h1, h2, h3⟩ := h
      refine ⟨v', h1, ⟨h2.1, ?_⟩, hb.trans (h3.mono hb.size)⟩
      rcases h2.2 with q | ⟨g, cap, cur, q1, q2, q3⟩
      · exact .inl q
      · exact .inr ⟨g, cap, cur, q1, Nat.le_trans hb.size q2, q3⟩
    | none =>
      rw [hr] at h
      exact ⟨h.1, hb.trans (h.2.mono hb.size)⟩

namespace Tu

/-- what turtle.Parse answers -/
def TpV (w : World) (s : ByteArray) (e : Ending) (w' : World) : Prop :=
  if 20000 < s.size then e = .returned (.tuple #[.slice none 0 0, .int .i64 1, .int .i64 0]) ∧ Below w.heap.size w w'
  else match textP s with
    | .bad n j => e = .returned (.tuple #[.slice none 0 0, .int .i64 n, .int .i64 j]) ∧ Below w.heap.size w w'
    | .ok _ st => SeV w 44 st.said e w'

/-- the parser as Catch hands it on -/
theorem re_base {w w1 : World} {s : ByteArray} (hs : s.size ≤ 20000) (hG : 8 ≤ w.heap.size) (h : PK6 (ovW w) (w.heap.size + 1) w.heap.size s (start s) (ovT w s) w1) (hT : Tabs w) (hN : Tens w) (x : Obj) :
    Go0 (w1.alloc x) (w.heap.size + 1) w.heap.size s 8 (start s) (w1.alloc x) := by
  have hp := h.1.1
  have hc := h.2
  rw [Lib.cell_of_heap (ovT_blk w s)] at hc
  obtain ⟨k, v, hh, hk, ho⟩ := hp.blk
  have hv : v = .slice none 0 0 := by
    rw [Lib.cell_of_heap hh] at hc
    exact Option.some.inj hc
  subst hv
  have hz := h.1.alloc x
  have hlt := hp.lt
  have hml := hp.nm.lt
  have hwf : Wf s (start s) := Wf0.step ⟨Nat.zero_le _, trivial, fun x hx => by cases hx⟩
  have hbB : Below w.heap.size w (ovW w) := ovW_below w
  refine ⟨⟨⟨k, .slice none 0 0, ?_, hk, ⟨rfl, .inl ⟨rfl, rfl⟩⟩⟩, hz.1.nm, ⟨Nat.le_refl _, ⟨rfl, rfl, rfl⟩, fun _ _ _ _ => rfl⟩, by simp; omega, by simp; omega, hp.ne, hp.gb, hp.gm, hp.sz, hp.wf⟩, ?_, ?_, hwf.nn, rfl, ?_⟩
  · rw [Below.heap_alloc _ _ _ hlt]; exact hh
  · exact hz.1.tabs (hT.below hbB (by omega) (by omega))
  · refine hz.1.tens (hN.same (hbB.block _ ?_))
    have : 5 < 8 := by decide
    omega
  · have h1 : (start s).made = 0 := rfl
    have h2 : (start s).said.length = 0 := rfl
    unfold bud meas
    rw [h1, h2]
    split <;> omega

theorem fq_low {w w1 w2 : World} {s : ByteArray} {st : St} {b m : Nat} {x : Obj} (hb : w.heap.size ≤ b) (hm : w.heap.size ≤ m) (h : Pz (ovW w) b m s st w1) (f : Fq (w1.alloc x) b m w2) : Below w.heap.size w w2 := by
  have hf := h.fq
  have hB := ovW_below w
  have hs := hf.size
  rw [ovW_size] at hs
  refine ⟨f.os.1.trans (hf.os.1.trans hB.os), f.os.2.1.trans (hf.os.2.1.trans hB.tape), f.os.2.2.trans (hf.os.2.2.trans hB.output), ?_, fun k hk => ?_⟩
  · have := f.size
    simp at this
    omega
  · rw [f.but k (by simp; omega) (by omega) (by omega), Below.heap_alloc _ _ _ (by omega), hf.but k (by rw [ovW_size]; omega) (by omega) (by omega), hB.block k hk]

theorem seV_own (w : World) (base : Nat) (v : Value) (l : List Tri) (ho : w.ownsRow base 44 3 v l.length (cellsOf l)) (hT : Tabs w) (hG : 8 ≤ w.heap.size) (hH : Handle w) : Calls Tryz.prog 14 #[v] w (SeV w 44 l) := by
  have hn : l.length ≤ maxLen := by
    rcases ho.2 with ⟨_, hz⟩ | ⟨g, cap, cur, _, _, _, h1, h2, _⟩
    · rw [hz]; exact Nat.zero_le _
    · exact Nat.le_trans h1 h2
  exact set_of w v l (setOf_own w base v l ho hn hT hG) hH

set_option maxHeartbeats 4000000 in
set_option maxRecDepth 20000 in
/-- turtle.Parse, of any text -/
theorem parseT_any (w : World) (s : ByteArray) (hT : Tabs w) (hN : Tens w) (hG : 8 ≤ w.heap.size) (hH : Handle w) : Calls Tryz.prog 13 #[.string s] w (TpV w s) := by
  by_cases h1 : 20000 < s.size
  · clear hT hH hN
    go_enter Tryz.func13, Tryz.ntmps13
    go_wp2
    refine bodyPost_ret (v := .tuple #[.slice none 0 0, .int .i64 1, .int .i64 0]) (by simp [results, Tryz.results13, go_sem]) rfl ?_
    unfold TpV
    rw [if_pos h1]
    exact ⟨rfl, Below.refl _ _⟩
  · have hsz : s.size ≤ 20000 := by omega
    have HHd : Hid (∀ w', Below w.heap.size w w' → Handle w') := fun w' hb => hH.below hb
    have HTb : Hid (∀ w', Below w.heap.size w w' → Tabs w') := fun w' hb => hT.below hb (by omega) (by omega)
    have HO : Hid (Calls Tryz.prog 29 #[.string s] w fun e w' => e = .returned (.pointer (some ⟨w.heap.size + 1, 0, none⟩)) ∧ PK6 (ovW w) (w.heap.size + 1) w.heap.size s (start s) (ovT w s) w') := overP w s hsz hT hG
    have eg := enters_of Tryz.func31 (by kernel_rfl) rfl
    have hmf := mkFunc
    have hX : ∀ w1, PK6 (ovW w) (w.heap.size + 1) w.heap.size s (start s) (ovT w s) w1 → Calls Tryz.prog 31 #[.pointer (some ⟨w.heap.size + 1, 0, none⟩)] (w1.alloc (.cells #[.nilIface] 52)) (PRes (w1.alloc (.cells #[.nilIface] 52)) (w.heap.size + 1) w.heap.size s (w1.alloc (.cells #[.nilIface] 52)) (fun _ => .tuple #[]) (textP s)) := fun w1 hp =>
      text_any s (2 * s.size + 2) (Nat.le_refl _) _ _ _ _ (start s) (re_base hsz hG hp hT hN _) (by
        have : (start s).names.length = 0 := rfl
        rw [this]
        unfold meas
        split <;> omega)
    have hsz1 : ∀ w1, PK6 (ovW w) (w.heap.size + 1) w.heap.size s (start s) (ovT w s) w1 → w.heap.size + 2 ≤ w1.heap.size := fun w1 hp => by
      have := hp.1.1.fq.size
      rw [ovW_size] at this
      exact this
    have herr : ∀ w1, PK6 (ovW w) (w.heap.size + 1) w.heap.size s (start s) (ovT w s) w1 → ∀ w', Fq (w1.alloc (.cells #[.nilIface] 52)) (w.heap.size + 1) w.heap.size w' → w'.heap[w1.heap.size]? = some (.cells #[.nilIface] 52 (0, 0)) := fun w1 hp w' hf => by
      have := hsz1 w1 hp
      rw [hf.but _ (by simp) (by omega) (by omega)]
      exact heap_new _ _
    cases hl : textP s with
    | bad n j =>
      rw [hl] at hX
      have HC : Hid (∀ w1, PK6 (ovW w) (w.heap.size + 1) w.heap.size s (start s) (ovT w s) w1 → Calls Tryz.prog 30 #[mV 31 (.pointer (some ⟨w.heap.size + 1, 0, none⟩))] w1 fun e w' => e = .returned (placedV n j) ∧ Below w.heap.size w w') := fun w1 hp =>
        (catchM_stop w1 31 ⟨w.heap.size + 1, 0, none⟩ (fun w' => Fq (w1.alloc (.cells #[.nilIface] 52)) (w.heap.size + 1) w.heap.size w') n j eg (hX w1 hp) (herr w1 hp)).mono (by
          rintro e w' ⟨rfl, w2, q1, rfl⟩
          have hlow := fq_low (by omega) (Nat.le_refl _) hp.1.1 q1
          have := hsz1 w1 hp
          exact ⟨rfl, Below.setCell (Below.alloc hlow hlow.size _) (by show w.heap.size ≤ w1.heap.size; omega) _⟩)
      have HLr : Hid (textP s = .bad n j) := hl
      clear hl hX herr hsz1 hT hH hN
      go_enter Tryz.func13, Tryz.ntmps13
      go_wp2_with fail
      refine HO.out.mono ?_
      rintro e w1 ⟨rfl, hp⟩
      go_wp2_with fail
      refine (HC.out _ hp).mono ?_
      rintro e w2 ⟨rfl, hb2⟩
      have HB2 : Hid (Below w.heap.size w w2) := hb2
      clear hb2 hp
      go_wp2_with fail
      refine (number_placed _ _ _ (HHd.out _ HB2.out)).mono ?_
      rintro e w3 ⟨rfl, hb3⟩
      have HB3 : Hid (Below w.heap.size w w3) := HB2.out.trans (hb3.mono HB2.out.size)
      clear hb3
      go_wp2_with fail
      refine (place_placed _ _ _ (HHd.out _ HB3.out)).mono ?_
      rintro e w4 ⟨rfl, hb4⟩
      have HB4 : Hid (Below w.heap.size w w4) := HB3.out.trans (hb4.mono HB3.out.size)
      clear hb4
      go_wp2_with fail
      refine bodyPost_ret (v := .tuple #[.slice none 0 0, .int .i64 n, .int .i64 j]) (by simp [results, Tryz.results13, go_sem]) rfl ?_
      unfold TpV
      rw [if_neg h1, HLr.out]
      exact ⟨rfl, HB4.out⟩
    | ok u st =>
      rw [hl] at hX
      have HC : Hid (∀ w1, PK6 (ovW w) (w.heap.size + 1) w.heap.size s (start s) (ovT w s) w1 → Calls Tryz.prog 30 #[mV 31 (.pointer (some ⟨w.heap.size + 1, 0, none⟩))] w1 fun e w' => e = .returned .nilIface ∧ Below w.heap.size w w' ∧ ∃ v, w'.cell? ⟨w.heap.size + 1, 6, none⟩ = some v ∧ ∃ bs, w'.ownsRow bs 44 3 v st.said.length (cellsOf st.said)) := fun w1 hp =>
        (catchM_ok w1 31 ⟨w.heap.size + 1, 0, none⟩ (fun w' => PK (w1.alloc (.cells #[.nilIface] 52)) (w.heap.size + 1) w.heap.size s st (w1.alloc (.cells #[.nilIface] 52)) w') eg (hX w1 hp) (fun w' hq => herr w1 hp w' hq.1.fq)).mono (by
          rintro e w' ⟨rfl, w2, q1, rfl⟩
          have hlow := fq_low (by omega) (Nat.le_refl _) hp.1.1 q1.1.fq
          have hs1 := hsz1 w1 hp
          refine ⟨rfl, Below.setCell hlow (by show w.heap.size ≤ w1.heap.size; omega) _, ?_⟩
          obtain ⟨k, v, hh, _, ho⟩ := q1.1.blk
          refine ⟨v, ?_, _, own_same ho fun g hg hlt => Below.heap_setCell _ _ _ _ (by simp at hg; show g ≠ w1.heap.size; omega)⟩
          rw [World.cell?_setCell_other _ _ _ _ (fun e => by have := congrArg Addr.block e; simp at this; omega), Lib.cell_of_heap hh]
          rfl)
      have HLr : Hid (textP s = .ok u st) := hl
      have HSe : Hid (∀ w1 v bs, Below w.heap.size w w1 → w1.ownsRow bs 44 3 v st.said.length (cellsOf st.said) → Calls Tryz.prog 14 #[v] w1 (SeV w 44 st.said)) := fun w1 v bs hb ho => (seV_own w1 bs v st.said ho (HTb.out _ hb) (Nat.le_trans hG hb.size) (HHd.out _ hb)).mono fun e w' h => h.mono hb
      clear hl hX herr hsz1 hT hH hN
      rcases set_cases st.said with ⟨n, j, hn, hc, _⟩ | ⟨set, _, _, _, hc, _⟩
      · have HC1 : Hid (∀ e w', SeV w 44 st.said e w' → e = .returned (.tuple #[.slice none 0 0, .int .i64 n, .int .i64 j])) := fun e w' h => (hc w _ e w' h).1
        clear hc hn
        go_enter Tryz.func13, Tryz.ntmps13
        go_wp2_with fail
        refine HO.out.mono ?_
        rintro e w1 ⟨rfl, hp⟩
        go_wp2_with fail
        refine (HC.out _ hp).mono ?_
        rintro e w2 ⟨rfl, hb2, v, hcv, bs, ho⟩
        have HB2 : Hid (Below w.heap.size w w2) := hb2
        have HOw : Hid (w2.ownsRow bs 44 3 v st.said.length (cellsOf st.said)) := ho
        clear hb2 hp ho
        go_wp2_with fail
        refine (HSe.out _ _ _ HB2.out HOw.out).mono ?_
        intro e w3 hv
        obtain rfl := HC1.out _ _ hv
        have HV : Hid (SeV w 44 st.said (.returned (.tuple #[.slice none 0 0, .int .i64 n, .int .i64 j])) w3) := hv
        clear hv
        go_wp2_with fail
        refine bodyPost_ret (v := .tuple #[.slice none 0 0, .int .i64 n, .int .i64 j]) (by simp [results, Tryz.results13, go_sem]) rfl ?_
        unfold TpV
        rw [if_neg h1, HLr.out]
        exact HV.out
      · have HC1 : Hid (∀ e w', SeV w 44 st.said e w' → ∃ v, e = .returned (.tuple #[v, .int .i64 0, .int .i64 0])) := fun e w' h => (hc w _ e w' h).imp fun v q => q.1
        clear hc
        go_enter Tryz.func13, Tryz.ntmps13
        go_wp2_with fail
        refine HO.out.mono ?_
        rintro e w1 ⟨rfl, hp⟩
        go_wp2_with fail
        refine (HC.out _ hp).mono ?_
        rintro e w2 ⟨rfl, hb2, v, hcv, bs, ho⟩
        have HB2 : Hid (Below w.heap.size w w2) := hb2
        have HOw : Hid (w2.ownsRow bs 44 3 v st.said.length (cellsOf st.said)) := ho
        clear hb2 hp ho
        go_wp2_with fail
        refine (HSe.out _ _ _ HB2.out HOw.out).mono ?_
        intro e w3 hv
        obtain ⟨v', rfl⟩ := HC1.out _ _ hv
        have HV : Hid (SeV w 44 st.said (.returned (.tuple #[v', .int .i64 0, .int .i64 0])) w3) := hv
        clear hv
        go_wp2_with fail
        refine bodyPost_ret (v := .tuple #[v', .int .i64 0, .int .i64 0]) (by simp [results, Tryz.results13, go_sem]) rfl ?_
        unfold TpV
        rw [if_neg h1, HLr.out]
        exact HV.out

end Tu
end Go.Proofs.YtnffjoipinhojabGreatDoor

