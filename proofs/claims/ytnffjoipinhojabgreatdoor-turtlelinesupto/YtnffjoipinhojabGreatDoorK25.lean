import Derived.Test.YtnffjoipinhojabGreatDoorK24
import Derived.Carry
set_option linter.unusedSimpArgs false
set_option linter.unusedVariables false
namespace Go.Proofs.YtnffjoipinhojabGreatDoor
open Go.RowKit
namespace Tu

set_option maxHeartbeats 4000000 in
set_option maxRecDepth 20000 in
/-- all of a text, from its first sign on -/
theorem text_any (s : ByteArray) (N : Nat) (hN : 2 * s.size + 2 ≤ N) (w0 w : World) (b m : Nat) (st : St) (h : Go0 w0 b m s 8 st w) (hnm : st.names.length + meas s st ≤ 100000) :
    Calls Tryz.prog 31 #[.pointer (some ⟨b, 0, none⟩)] w (PRes w0 b m s w (fun _ => .tuple #[]) (textL s N N st)) := by
  have HOa := object_all s N hN
  have H0 : Hid (Go0 w0 b m s 8 st w) := h
  have hd0 : st.depth = 0 := by have := h.dp; omega
  have HSb : Hid (∀ q w1, PK w0 b m s q w w1 → Go0 w0 b m s 8 q w1 → Calls Tryz.prog 59 #[.pointer (some ⟨b, 0, none⟩)] w1 (PRes w0 b m s w1 str (subj (inn s N 8) s N q))) := fun q w1 hp hg => subject_any s N 8 (fun d' _ => HOa d') hN w0 w1 b m q hg
  have HLi : Hid (∀ q w1 (su : List UInt8), PK w0 b m s q w w1 → Go0 w0 b m s 8 q w1 → Calls Tryz.prog 58 #[.pointer (some ⟨b, 0, none⟩), str su] w1 (PRes w0 b m s w1 (fun _ => .tuple #[]) (list (obj s N 8) s N su q))) := fun q w1 su hp hg => list_any s N 8 (HOa 8) hN w0 w1 b m q su hg
  have HPf : Hid (∀ q w1, PK w0 b m s q w w1 → Go0 w0 b m s 8 q w1 → q.names.length ≤ 1000000 → Calls Tryz.prog 57 #[.pointer (some ⟨b, 0, none⟩)] w1 (PRes w0 b m s w1 (fun _ => .tuple #[]) (prefixP s q))) := fun q w1 hp hg hn => prefix_any w0 w1 b m 8 s q hg hn
  have HWt : Hid (∀ q w1, PK w0 b m s q w w1 → Sg.isNone q.now = false → Calls Tryz.prog 60 #[.pointer (some ⟨b, 0, none⟩), .int .u8 46] w1 (PRes w0 b m s w1 (fun _ => .tuple #[]) (want s 46 q))) := fun q w1 hp hn => want_any w0 w1 b m s q 46 hp.1 H0.out.tb hn
  have HSt : Hid (∀ q w1, PK w0 b m s q w w1 → q.now.isBrk = false → Calls Tryz.prog 55 #[.pointer (some ⟨b, 0, none⟩)] w1 fun e w' => e = .returned (.tuple #[]) ∧ PK w0 b m s (step s q) w w') := fun q w1 hp hb => stepK hp H0.out.tb hb
  have HGo : Hid (∀ q w1, PK w0 b m s q w w1 → Wf s q → q.depth = 0 → bud s q ≤ 200000 → Go0 w0 b m s 8 q w1) := fun q w1 hp hw hd hb => ⟨hp.1, H0.out.tb, H0.out.tn, hw.nn, by omega, hb⟩
  have HIn : Hid (Good s (inn s N 8) ∧ Nam (inn s N 8)) := ⟨inn_good s N 8, inn_nm s N 8⟩
  have HOb : Hid (Good s (obj s N 8) ∧ Nam (obj s N 8)) := ⟨obj_good s N 8, obj_nm s N 8⟩
  obtain ⟨R0, hR0⟩ : ∃ R0, R0 = textL s N N st := ⟨_, rfl⟩
  have HR0 : Hid (textL s N N st = R0) := hR0.symm
  have HZ : Hid (PK w0 b m s st w w) := PK.refl h.pz
  have HWf : Hid (Wf s st) := h.wf
  have HBu : Hid (bud s st ≤ 200000) := h.bu
  rw [← hR0]
  clear h HOa hR0
  go_enter Tryz.func31, Tryz.ntmps31
  go_wp2_with fail
  go_loopw [] (fun wr => ∃ n q, PK w0 b m s q w wr ∧ textL s N n q = R0 ∧ meas s q < n ∧ Wf s q ∧ q.depth = 0 ∧ bud s q ≤ 200000 ∧ q.names.length + meas s q ≤ 100000) (fun wr => msW s b wr)
  case atStart => exact ⟨N, st, HZ.out, HR0.out, Nat.lt_of_lt_of_le (meas_lt s _) hN, HWf.out, hd0, HBu.out, hnm⟩
  case round =>
    obtain ⟨n, q, hp, hq, hm, hwf, hdp, hbu, hnq⟩ := hrel
    have HMq : Hid (msW s b wr = Tu.ms s q) := hp.1.ms
    obtain ⟨n', rfl⟩ : ∃ n', n = n' + 1 := ⟨n - 1, by omega⟩
    have c2 := hp.1.cell.1
    have HPq : Hid (PK w0 b m s q w wr) := hp
    have HNx : Hid (∀ q1 q2, Snt s q q1 → want s 46 q1 = .ok () q2 → Tu.ms s q2 < Tu.ms s q ∧ meas s q2 < n' ∧ Wf s q2 ∧ q2.depth = 0 ∧ bud s q2 ≤ 200000 ∧ q2.names.length + meas s q2 ≤ 100000) := fun q1 q2 hs hw => by
      have h2 := hs.on (want_on hs.wf hw) (want_nm hw)
      exact ⟨ms_on h2.rl h2.me, by have := h2.me; omega, h2.wf, h2.dp.trans hdp, Nat.le_trans h2.bu hbu, Nat.le_trans h2.nm hnq⟩
    rcases pre_cases q.now with hx | hx | ⟨hx1, hx2⟩
    · rw [textL_fin hx] at hq
      have HQ : Hid (R0 = .ok () q) := hq.symm
      have h1 := as_fin_yes q.p
      rw [hx] at c2
      clear hp hx hq hm hwf hdp hbu hnq HNx HSb HLi HPf HWt HSt HGo HIn HOb
      go_wp2
      go_end0
      rw [HQ.out]
      exact ⟨rfl, HPq.out⟩
    · have hxf : Sg.is_fin q.now = false := by rw [hx]; rfl
      rw [textL_on hxf, sentL_pre hx] at hq
      have h1 := as_fin_no (sg := .pre) rfl q.p
      have h2 := as_pre_yes q.p
      have hrl : q.now.real = true := by rw [hx]; rfl
      have hon := On.of_step hwf hrl
      have hnl : (step s q).names.length ≤ 1000000 := by show q.names.length ≤ 1000000; omega
      have HS : Hid (Calls Tryz.prog 55 #[.pointer (some ⟨b, 0, none⟩)] wr fun e w' => e = .returned (.tuple #[]) ∧ PK w0 b m s (step s q) w w') := HSt.out q wr hp (brk_real hrl)
      have hF := fun w1 (hp1 : PK w0 b m s (step s q) w w1) => HPf.out (step s q) w1 hp1 (HGo.out _ w1 hp1 hon.wf (hon.dp.trans hdp) (by have := hon.bu; omega)) hnl
      rw [hx] at c2
      cases hpp : prefixP s (step s q) with
      | bad n2 j2 =>
        rw [hpp] at hq hF
        simp only at hq
        have HF : Hid (∀ w1, PK w0 b m s (step s q) w w1 → Calls Tryz.prog 57 #[.pointer (some ⟨b, 0, none⟩)] w1 fun e w' => e = stopE n2 j2 ∧ Fq w0 b m w') := hF
        have HQ : Hid (R0 = .bad n2 j2) := hq.symm
        clear hp hx hq hm hwf hdp hbu hnq HNx HSb HLi HPf HWt HSt HGo HIn HOb hF hpp hxf hrl hon hnl
        go_wp2_with fail
        refine HS.out.mono ?_
        rintro e w1 ⟨rfl, hp1⟩
        go_wp2_with fail
        refine (HF.out _ hp1).mono ?_
        rintro e w2 ⟨rfl, hf⟩
        refine ⟨rfl, ?_⟩
        rw [HQ.out]
        exact ⟨rfl, hf⟩
      | ok u q1 =>
        rw [hpp] at hq hF
        simp only at hq
        have HF : Hid (∀ w1, PK w0 b m s (step s q) w w1 → Calls Tryz.prog 57 #[.pointer (some ⟨b, 0, none⟩)] w1 fun e w' => e = .returned (.tuple #[]) ∧ PK w0 b m s q1 w w') := fun w1 hp1 => (hF w1 hp1).mono fun e w' k => ⟨k.1, hp1.on k.2⟩
        have hsn0 := prefixP_snt hon.wf hpp
        have hsn : Snt s q q1 := ⟨hsn0.wf, hsn0.dp.trans hon.dp, Nat.lt_trans hsn0.me hon.me, by have := hsn0.bu; have := hon.bu; omega, by have h5 := hsn0.nm; have h6 := hon.me; have h7 : (step s q).names.length = q.names.length := rfl; omega, hrl⟩
        have hW := fun w1 (hp1 : PK w0 b m s q1 w w1) => HWt.out q1 w1 hp1 hsn.wf.nn
        cases hw : want s 46 q1 with
        | bad n2 j2 =>
          rw [hw] at hq hW
          simp only at hq
          have HW : Hid (∀ w1, PK w0 b m s q1 w w1 → Calls Tryz.prog 60 #[.pointer (some ⟨b, 0, none⟩), .int .u8 46] w1 fun e w' => e = stopE n2 j2 ∧ Fq w0 b m w') := hW
          have HQ : Hid (R0 = .bad n2 j2) := hq.symm
          clear hp hx hq hm hwf hdp hbu hnq HNx HSb HLi HPf HWt HSt HGo HIn HOb hF hpp hxf hrl hon hnl hsn0 hsn hW hw
          go_wp2_with fail
          refine HS.out.mono ?_
          rintro e w1 ⟨rfl, hp1⟩
          go_wp2_with fail
          refine (HF.out _ hp1).mono ?_
          rintro e w2 ⟨rfl, hp2⟩
          go_wp2_with fail
          refine (HW.out _ hp2).mono ?_
          rintro e w3 ⟨rfl, hf⟩
          refine ⟨rfl, ?_⟩
          rw [HQ.out]
          exact ⟨rfl, hf⟩
        | ok u2 q2 =>
          rw [hw] at hq hW
          simp only at hq
          have HW : Hid (∀ w1, PK w0 b m s q1 w w1 → Calls Tryz.prog 60 #[.pointer (some ⟨b, 0, none⟩), .int .u8 46] w1 fun e w' => e = .returned (.tuple #[]) ∧ PK w0 b m s q2 w w') := fun w1 hp1 => (hW w1 hp1).mono fun e w' k => ⟨k.1, hp1.on k.2⟩
          have HQ : Hid (textL s N n' q2 = R0) := hq
          have HX := HNx.out q1 q2 hsn hw
          have HX2 : Hid (Tu.ms s q2 < Tu.ms s q ∧ meas s q2 < n' ∧ Wf s q2 ∧ q2.depth = 0 ∧ bud s q2 ≤ 200000 ∧ q2.names.length + meas s q2 ≤ 100000) := HX
          clear hp hx hq hm hwf hdp hbu hnq HNx HSb HLi HPf HWt HSt HGo HIn HOb hF hpp hxf hrl hon hnl hsn0 hsn hW hw HX
          go_wp2_with fail
          refine HS.out.mono ?_
          rintro e w1 ⟨rfl, hp1⟩
          go_wp2_with fail
          refine (HF.out _ hp1).mono ?_
          rintro e w2 ⟨rfl, hp2⟩
          go_wp2_with fail
          refine (HW.out _ hp2).mono ?_
          rintro e w3 ⟨rfl, hp3⟩
          go_wp2_with fail
          go_roundw
          case rel => exact ⟨n', q2, hp3, HQ.out, HX2.out.2⟩
          case measure => rw [hp3.1.ms, HMq.out]; exact HX2.out.1
    · rw [textL_on hx1, sentL_sub hx2] at hq
      have h1 := as_fin_no hx1 q.p
      have h2 := as_pre_no hx2 q.p
      have hgo := HGo.out q wr hp hwf hdp hbu
      have hS := HSb.out q wr hp hgo
      cases hsu : subj (inn s N 8) s N q with
      | bad n2 j2 =>
        rw [hsu] at hq hS
        simp only at hq
        have HS : Hid (Calls Tryz.prog 59 #[.pointer (some ⟨b, 0, none⟩)] wr fun e w' => e = stopE n2 j2 ∧ Fq w0 b m w') := hS
        have HQ : Hid (R0 = .bad n2 j2) := hq.symm
        clear hp hx1 hx2 hq hm hwf hdp hbu hnq HNx HSb HLi HPf HWt HSt HGo HIn HOb hS hsu hgo
        go_wp2_with fail
        refine HS.out.mono ?_
        rintro e w1 ⟨rfl, hf⟩
        refine ⟨rfl, ?_⟩
        rw [HQ.out]
        exact ⟨rfl, hf⟩
      | ok su q1 =>
        rw [hsu] at hq hS
        simp only at hq
        have HS : Hid (Calls Tryz.prog 59 #[.pointer (some ⟨b, 0, none⟩)] wr fun e w' => e = .returned (str su) ∧ PK w0 b m s q1 w w') := hS.mono fun e w' k => ⟨k.1, HPq.out.on k.2⟩
        have hon1 := subj_on HIn.out.1 hwf hsu
        have hnm1 := subj_nm HIn.out.2 _ _ _ hsu
        have hL := fun w1 (hp1 : PK w0 b m s q1 w w1) => HLi.out q1 w1 su hp1 (HGo.out _ w1 hp1 hon1.wf (hon1.dp.trans hdp) (by have := hon1.bu; omega))
        cases hli : list (obj s N 8) s N su q1 with
        | bad n2 j2 =>
          rw [hli] at hq hL
          simp only at hq
          have HL : Hid (∀ w1, PK w0 b m s q1 w w1 → Calls Tryz.prog 58 #[.pointer (some ⟨b, 0, none⟩), str su] w1 fun e w' => e = stopE n2 j2 ∧ Fq w0 b m w') := hL
          have HQ : Hid (R0 = .bad n2 j2) := hq.symm
          clear hp hx1 hx2 hq hm hwf hdp hbu hnq HNx HSb HLi HPf HWt HSt HGo HIn HOb hS hsu hgo hon1 hnm1 hL hli
          go_wp2_with fail
          refine HS.out.mono ?_
          rintro e w1 ⟨rfl, hp1⟩
          go_wp2_with fail
          refine (HL.out _ hp1).mono ?_
          rintro e w2 ⟨rfl, hf⟩
          refine ⟨rfl, ?_⟩
          rw [HQ.out]
          exact ⟨rfl, hf⟩
        | ok u q2 =>
          rw [hli] at hq hL
          simp only at hq
          have HL : Hid (∀ w1, PK w0 b m s q1 w w1 → Calls Tryz.prog 58 #[.pointer (some ⟨b, 0, none⟩), str su] w1 fun e w' => e = .returned (.tuple #[]) ∧ PK w0 b m s q2 w w') := fun w1 hp1 => (hL w1 hp1).mono fun e w' k => ⟨k.1, hp1.on k.2⟩
          have hsn := Snt.of_on (hon1.trans (list_on HOb.out.1 hon1.wf hli)) ((list_nm HOb.out.2 hli).trans hnm1)
          have hW := fun w1 (hp1 : PK w0 b m s q2 w w1) => HWt.out q2 w1 hp1 hsn.wf.nn
          cases hw : want s 46 q2 with
          | bad n2 j2 =>
            rw [hw] at hq hW
            simp only at hq
            have HW : Hid (∀ w1, PK w0 b m s q2 w w1 → Calls Tryz.prog 60 #[.pointer (some ⟨b, 0, none⟩), .int .u8 46] w1 fun e w' => e = stopE n2 j2 ∧ Fq w0 b m w') := hW
            have HQ : Hid (R0 = .bad n2 j2) := hq.symm
            clear hp hx1 hx2 hq hm hwf hdp hbu hnq HNx HSb HLi HPf HWt HSt HGo HIn HOb hS hsu hgo hon1 hnm1 hL hli hsn hW hw
            go_wp2_with fail
            refine HS.out.mono ?_
            rintro e w1 ⟨rfl, hp1⟩
            go_wp2_with fail
            refine (HL.out _ hp1).mono ?_
            rintro e w2 ⟨rfl, hp2⟩
            go_wp2_with fail
            refine (HW.out _ hp2).mono ?_
            rintro e w3 ⟨rfl, hf⟩
            refine ⟨rfl, ?_⟩
            rw [HQ.out]
            exact ⟨rfl, hf⟩
          | ok u2 q3 =>
            rw [hw] at hq hW
            simp only at hq
            have HW : Hid (∀ w1, PK w0 b m s q2 w w1 → Calls Tryz.prog 60 #[.pointer (some ⟨b, 0, none⟩), .int .u8 46] w1 fun e w' => e = .returned (.tuple #[]) ∧ PK w0 b m s q3 w w') := fun w1 hp1 => (hW w1 hp1).mono fun e w' k => ⟨k.1, hp1.on k.2⟩
            have HQ : Hid (textL s N n' q3 = R0) := hq
            have HX2 : Hid (Tu.ms s q3 < Tu.ms s q ∧ meas s q3 < n' ∧ Wf s q3 ∧ q3.depth = 0 ∧ bud s q3 ≤ 200000 ∧ q3.names.length + meas s q3 ≤ 100000) := HNx.out q2 q3 hsn hw
            clear hp hx1 hx2 hq hm hwf hdp hbu hnq HNx HSb HLi HPf HWt HSt HGo HIn HOb hS hsu hgo hon1 hnm1 hL hli hsn hW hw
            go_wp2_with fail
            refine HS.out.mono ?_
            rintro e w1 ⟨rfl, hp1⟩
            go_wp2_with fail
            refine (HL.out _ hp1).mono ?_
            rintro e w2 ⟨rfl, hp2⟩
            go_wp2_with fail
            refine (HW.out _ hp2).mono ?_
            rintro e w3 ⟨rfl, hp3⟩
            go_wp2_with fail
            go_roundw
            case rel => exact ⟨n', q3, hp3, HQ.out, HX2.out.2⟩
            case measure => rw [hp3.1.ms, HMq.out]; exact HX2.out.1

end Tu
end Go.Proofs.YtnffjoipinhojabGreatDoor

set_option linter.unusedSimpArgs false
set_option linter.unusedVariables false
namespace Go.Proofs.YtnffjoipinhojabGreatDoor
open Go.RowKit
namespace Tu

/-! A parser over a text, and turtle.Parse. -/

abbrev PK6 (w0 : World) (b m : Nat) (s : ByteArray) (st : St) (w w' : World) : Prop := PK w0 b m s st w w' ∧ w'.cell? ⟨b, 6, none⟩ = w.cell? ⟨b, 6, none⟩

theorem Pz.turn6 {w0 w w' : World} {b m : Nat} {s : ByteArray} {st st' : St} {k k' : Nat} {v : Value} (h : Pz w0 b m s st w) (hh : w.heap[b]? = some (.cells (pcells s k m st v) 81 (0, 0))) (hi' : st'.now.isBrk = false → k' = st'.i) (hsaid : st'.said = st.said) (hnames : st'.names = st.names) (wf : Wf0 s st')
    (ho : w.ownsRow w0.heap.size 44 3 v st.said.length (cellsOf st.said))
    (hb : w'.heap[b]? = some (.cells (pcells s k' m st' v) 81 (0, 0))) (hoth : ∀ g, g < w.heap.size → g ≠ b → w'.heap[g]? = w.heap[g]?) (hos : w'.os = w.os ∧ w'.tape = w.tape ∧ w'.output = w.output) (hsz : w.heap.size ≤ w'.heap.size) :
    PK6 w0 b m s st' w w' := ⟨h.turn hh hi' hsaid hnames wf ho hb hoth hos hsz, by rw [Lib.cell_of_heap hh, Lib.cell_of_heap hb]; rfl⟩

set_option maxHeartbeats 2000000 in
set_option maxRecDepth 20000 in
theorem step_gen6 (w0 w : World) (b m : Nat) (s : ByteArray) (st : St) (h : Pz w0 b m s st w) (hT : Tabs w0) (hbk : st.now.isBrk = false) (pp : Int) (ss : ByteArray) (x : Bool) (hx : st.now.isStr = x)
    (hta : ∀ w1, (Instr.typeAssert (tokV st.now st.p) 76 152 true).run Tryz.prog w1 = .ok (.tuple #[.agg #[.int .i64 pp, .string ss], .bool x]) w1) :
    Calls Tryz.prog 55 #[.pointer (some ⟨b, 0, none⟩)] w fun e w' => e = .returned (.tuple #[]) ∧ PK6 w0 b m s (step s st) w w' := by
  have HZ : Hid (Pz w0 b m s st w) := h
  have hbw := h.lt
  have hle := h.wf.le
  have hsz := h.sz
  have hgb := h.gb
  have hjs := gap_sz hle
  have hge := gap_ge s st.i
  obtain ⟨j, hj⟩ : ∃ j, j = gap s st.i := ⟨_, rfl⟩
  obtain ⟨y, hy⟩ : ∃ y, y = decide (st.i < j) := ⟨_, rfl⟩
  obtain ⟨k, v, hh, hki, hown⟩ := h.blk
  have hki := hki hbk
  subst hki
  have hB1 := sW1_below w b pp ss x
  have hR1 : Rd (sW1 w b pp ss x) b s st.i := (h.rd hbk).below hB1
  have hT1 : Tabs (sW1 w b pp ss x) := (h.tabs hT).below hB1 (by omega) (by omega)
  have hh1 : (sW1 w b pp ss x).heap[b]? = some (.cells (pcells s st.i m st v) 81 (0, 0)) := (hB1.block b hbw).trans hh
  have HG : Hid (Calls Tryz.prog 89 #[.pointer (some ⟨b, 0, none⟩)] (sW1 w b pp ss x) fun e w' => e = .returned (.bool y) ∧ Adv b j (sW1 w b pp ss x) w') := by
    rw [hy, hj]
    exact gap_any _ b st.i s hR1 hT1 hgb
  have HPl : Hid (∀ w2, Adv b j (sW1 w b pp ss x) w2 → Calls Tryz.prog 90 #[.pointer (some ⟨b, 0, none⟩)] (w2.alloc (.cells #[.bool y] 4)) fun e w' => e = .returned (.int .i64 j) ∧ w' = w2.alloc (.cells #[.bool y] 4)) := fun w2 a =>
    place_any _ b j s ((hR1.adv a (by rw [hj]; exact hjs)).below ((Below.refl _ w2).alloc (Nat.le_refl _) _))
  have hxy : (x && !y) = (st.now.isStr && decide (gap s st.i = st.i)) := by
    rw [hx, hy, hj]
    congr 1
    rw [Bool.eq_iff_iff]
    simp
    omega
  have hc0 : w.cell? ⟨b, 2, none⟩ = some (tokV st.now st.p) := by rw [Lib.cell_of_heap hh]; rfl
  have hc1 : ∀ o, (w.alloc o).cell? ⟨b, 2, none⟩ = some (tokV st.now st.p) := fun o => (World.cell?_alloc_lt _ _ ⟨b, 2, none⟩ hbw).trans hc0
  have e1 := enters_of Tryz.func91 (by kernel_rfl) rfl
  have hUfz : ∀ w2, Adv b j (sW1 w b pp ss x) w2 → (sU w2 y j).heap[b]? = some (.cells (pcells s j m st v) 81 (0, 0)) := fun w2 a => by
    have := adv_blk a hh1
    rw [(sU_below w2 y j).block b (Array.getElem?_eq_some_iff.1 this).1]
    exact this
  have hUR : ∀ w2, Adv b j (sW1 w b pp ss x) w2 → Rd (sU w2 y j) b s j := fun w2 a => (hR1.adv a (by rw [hj]; exact hjs)).below (sU_below w2 y j)
  have hUT : ∀ w2, Adv b j (sW1 w b pp ss x) w2 → Tabs (sU w2 y j) := fun w2 a => by
    have hs := a.size
    rw [sW1_size] at hs
    exact (hT1.adv a hgb hR1.lt).below (sU_below w2 y j) (by omega) (by omega)
  have HW1 : Hid (((w.alloc (.cells #[.pointer (some ⟨b, 0, none⟩)] 150)).alloc (.cells #[.int .i64 pp, .string ss] 152)).alloc (.cells #[.bool x] 4) = sW1 w b pp ss x) := rfl
  have HW2 : Hid (∀ w2 : World, (w2.alloc (.cells #[.bool y] 4)).alloc (.cells #[.int .i64 j] 112) = sW2 w2 y j) := fun w2 => rfl
  have hmf := mkFunc
  have HC0 : Hid (∀ w2, Adv b j (sW1 w b pp ss x) w2 → w2.cell? ⟨w.heap.size, 0, none⟩ = some (.pointer (some ⟨b, 0, none⟩)) ∧ w.heap.size + 3 ≤ w2.heap.size) := fun w2 a => ⟨by
    rw [a.cell (by rw [sW1_size]; omega) (by omega)]
    exact sW1_c0 w b pp ss x, by have := a.size; rw [sW1_size] at this; exact this⟩
  cases hb2 : (sign s j (x && !y)).1.isBrk with
  | false =>
    obtain ⟨sg, q, hsg⟩ : ∃ sg q, sign s j (x && !y) = (sg, q) := ⟨_, _, rfl⟩
    rw [hsg] at hb2
    have hst : step s st = { st with now := sg, p := j, i := q } := by
      unfold step
      rw [← hj] at hxy ⊢
      rw [← hxy, hsg]
    have hqs : q ≤ s.size := by
      have := (sign_sn (s := s) (i := j) (by rw [hj]; exact hjs) (x && !y)).sz
      rw [hsg] at this
      exact this
    have hwf := h.wf.step.toWf0
    rw [hst] at hwf
    have HCt : Hid (∀ w2, Adv b j (sW1 w b pp ss x) w2 → Calls Tryz.prog 30 #[fnV 91 #[.pointer (some ⟨w.heap.size, 0, none⟩), .pointer (some ⟨w2.heap.size + 1, 0, none⟩), .pointer (some ⟨w.heap.size + 2, 0, none⟩), .pointer (some ⟨w2.heap.size, 0, none⟩)]] (sW2 w2 y j) fun e w' => e = .returned .nilIface ∧ PK6 w0 b m s (step s st) w w') := fun w2 a => by
      have hs2 := a.size
      rw [sW1_size] at hs2
      have hcp := cp_of (y := y) hbw a
      have hS1 := step1_ok (sU w2 y j) b j w.heap.size (w2.heap.size + 1) (w.heap.size + 2) w2.heap.size s (hUR w2 a) (fun o => Lib.frozen_of_heap (hUfz w2 a) o) (hUT w2 a) hgb (by omega) (tokV st.now st.p) (by rw [Lib.cell_of_heap (hUfz w2 a)]; rfl) x y hcp (by omega) (by omega) (by omega) (by omega) sg q hsg hb2
      refine (catch_ok (sW2 w2 y j) 91 _ (fun w' => ∃ w3, Adv b q (sU w2 y j) w3 ∧ w' = w3.setCell ⟨b, 2, none⟩ (tokV sg j)) e1 hS1 ?_).mono ?_
      · rintro w' ⟨w3, a3, rfl⟩
        rw [Below.heap_setCell _ _ _ _ (by rw [sW2_size]; simp; omega), a3.other (by rw [sW2_size, sU_size]; omega) (by rw [sW2_size]; omega)]
        exact sU_err w2 y j
      · rintro e w' ⟨rfl, w3, ⟨w4, a4, rfl⟩, rfl⟩
        refine ⟨rfl, ?_⟩
        have hb4 := adv_blk a4 (hUfz w2 a)
        have hw4 := a4.size
        rw [sU_size] at hw4
        rw [hst]
        refine HZ.out.turn6 (k := st.i) (k' := q) (v := v) hh (fun _ => rfl) rfl rfl hwf hown ?_ ?_ ?_ ?_
        · rw [Below.heap_setCell _ _ _ _ (by rw [sW2_size]; simp; omega), setCell_blk hb4]
          rfl
        · intro g hg hgb2
          rw [Below.heap_setCell _ _ _ _ (by rw [sW2_size]; simp; omega), Below.heap_setCell _ _ _ _ hgb2, a4.other (by rw [sU_size]; omega) hgb2, (sU_below w2 y j).block g (by omega), a.other (by rw [sW1_size]; omega) hgb2, hB1.block g hg]
        · exact ⟨a4.os.trans ((sU_below w2 y j).os.trans (a.os.trans hB1.os)), a4.tape.trans ((sU_below w2 y j).tape.trans (a.tape.trans hB1.tape)), a4.output.trans ((sU_below w2 y j).output.trans (a.output.trans hB1.output))⟩
        · simp
          omega
    clear hUfz hUR hUT hh hh1 hR1 hT1 hT hown hsg hb2 hst hwf HZ h hB1 hx hy hj hxy hge hjs
    go_enter Tryz.func55, Tryz.ntmps55
    go_wp2_with fail
    rw [HW1.out]
    refine HG.out.mono ?_
    rintro e w2 ⟨rfl, a2⟩
    obtain ⟨d0, hs2⟩ := HC0.out w2 a2
    have d1 : ∀ o, (w2.alloc o).cell? ⟨w.heap.size, 0, none⟩ = some (.pointer (some ⟨b, 0, none⟩)) := fun o => (World.cell?_alloc_lt _ _ ⟨w.heap.size, 0, none⟩ (by simp; omega)).trans d0
    go_wp2_with fail
    refine (HPl.out _ a2).mono ?_
    rintro e w3 ⟨rfl, rfl⟩
    go_wp2_with fail
    rw [HW2.out]
    refine (HCt.out w2 a2).mono ?_
    rintro e w4 ⟨rfl, hP⟩
    go_wp2
    go_end0
    exact ⟨rfl, hP⟩
  | true =>
    obtain ⟨n, j2, q, hsg⟩ : ∃ n j2 q, sign s j (x && !y) = (.brk n j2, q) := by
      cases hr2 : sign s j (x && !y) with
      | mk r1 r2 =>
        rw [hr2] at hb2
        cases r1
        case brk n j2 => exact ⟨n, j2, r2, rfl⟩
        all_goals cases hb2
    have hst : step s st = { st with now := .brk n j2, p := j, i := q } := by
      unfold step
      rw [← hj] at hxy ⊢
      rw [← hxy, hsg]
    have hwf := h.wf.step.toWf0
    rw [hst] at hwf
    have HCt : Hid (∀ w2, Adv b j (sW1 w b pp ss x) w2 → Calls Tryz.prog 30 #[fnV 91 #[.pointer (some ⟨w.heap.size, 0, none⟩), .pointer (some ⟨w2.heap.size + 1, 0, none⟩), .pointer (some ⟨w.heap.size + 2, 0, none⟩), .pointer (some ⟨w2.heap.size, 0, none⟩)]] (sW2 w2 y j) fun e w' => e = .returned (placedV n j2) ∧ w'.cell? ⟨w.heap.size, 0, none⟩ = some (.pointer (some ⟨b, 0, none⟩)) ∧ w'.cell? ⟨w2.heap.size + 1, 0, none⟩ = some (.int .i64 j) ∧ w'.cell? ⟨b, 2, none⟩ = some (tokV st.now st.p) ∧ w'.frozen? ⟨b, 2, none⟩ = false ∧ PK6 w0 b m s (step s st) w (w'.setCell ⟨b, 2, none⟩ (tokV (.brk n j2) j))) := fun w2 a => by
      have hs2 := a.size
      rw [sW1_size] at hs2
      have hcp := cp_of (y := y) hbw a
      have hS1 := step1_bad (sU w2 y j) b j w.heap.size (w2.heap.size + 1) (w.heap.size + 2) w2.heap.size s (hUR w2 a) (fun o => Lib.frozen_of_heap (hUfz w2 a) o) (hUT w2 a) hgb (by omega) x y hcp n j2 q hsg
      refine (catch_stop (sW2 w2 y j) 91 _ (fun w' => ∃ q, Adv b q (sU w2 y j) w') n j2 e1 hS1 ?_).mono ?_
      · rintro w' ⟨q, a3⟩
        rw [a3.other (by rw [sW2_size, sU_size]; omega) (by rw [sW2_size]; omega)]
        exact sU_err w2 y j
      · rintro e w' ⟨rfl, w4, ⟨q4, a4⟩, rfl⟩
        have hb4 := adv_blk a4 (hUfz w2 a)
        have hw4 := a4.size
        rw [sU_size] at hw4
        have hb5 : ((w4.alloc (.cells #[placedV n j2] 111)).setCell ⟨(sW2 w2 y j).heap.size, 0, none⟩ (placedV n j2)).heap[b]? = some (.cells (pcells s q4 m st v) 81 (0, 0)) := by
          rw [Below.heap_setCell _ _ _ _ (by rw [sW2_size]; simp; omega), Below.heap_alloc _ _ _ (Array.getElem?_eq_some_iff.1 hb4).1]
          exact hb4
        have hcp4 := hcp.adv a4 (by omega) (by omega) (by omega) (by omega)
        have hoth : ∀ g, g < w4.heap.size → g ≠ (sW2 w2 y j).heap.size → ((w4.alloc (.cells #[placedV n j2] 111)).setCell ⟨(sW2 w2 y j).heap.size, 0, none⟩ (placedV n j2)).heap[g]? = w4.heap[g]? := fun g hg hne => by
          rw [Below.heap_setCell _ _ _ _ hne, Below.heap_alloc _ _ _ hg]
        refine ⟨rfl, ?_, ?_, ?_, Lib.frozen_of_heap hb5 2, ?_⟩
        · rw [World.cell?_of_block (w := w4) (a := ⟨w.heap.size, 0, none⟩) (hoth _ (by simp; omega) (by rw [sW2_size]; simp; omega))]
          exact hcp4.c0
        · rw [World.cell?_of_block (w := w4) (a := ⟨w2.heap.size + 1, 0, none⟩) (hoth _ (by simp; omega) (by rw [sW2_size]; simp))]
          exact hcp4.c1
        · rw [Lib.cell_of_heap hb5]
          rfl
        · rw [hst]
          refine HZ.out.turn6 (k := st.i) (k' := q4) (v := v) hh (fun h => by cases h) rfl rfl hwf hown ?_ ?_ ?_ ?_
          · rw [setCell_blk hb5]
            rfl
          · intro g hg hgb2
            rw [Below.heap_setCell _ _ _ _ hgb2, hoth g (by omega) (by rw [sW2_size]; omega), a4.other (by rw [sU_size]; omega) hgb2, (sU_below w2 y j).block g (by omega), a.other (by rw [sW1_size]; omega) hgb2, hB1.block g hg]
          · exact ⟨a4.os.trans ((sU_below w2 y j).os.trans (a.os.trans hB1.os)), a4.tape.trans ((sU_below w2 y j).tape.trans (a.tape.trans hB1.tape)), a4.output.trans ((sU_below w2 y j).output.trans (a.output.trans hB1.output))⟩
          · simp
            omega
    clear hUfz hUR hUT hh hh1 hR1 hT1 hT hown hsg hb2 hst hwf HZ h hB1 hx hy hj hxy hge hjs
    go_enter Tryz.func55, Tryz.ntmps55
    go_wp2_with fail
    rw [HW1.out]
    refine HG.out.mono ?_
    rintro e w2 ⟨rfl, a2⟩
    obtain ⟨d0, hs2⟩ := HC0.out w2 a2
    have d1 : ∀ o, (w2.alloc o).cell? ⟨w.heap.size, 0, none⟩ = some (.pointer (some ⟨b, 0, none⟩)) := fun o => (World.cell?_alloc_lt _ _ ⟨w.heap.size, 0, none⟩ (by simp; omega)).trans d0
    go_wp2_with fail
    refine (HPl.out _ a2).mono ?_
    rintro e w3 ⟨rfl, rfl⟩
    go_wp2_with fail
    rw [HW2.out]
    refine (HCt.out w2 a2).mono ?_
    rintro e w4 ⟨rfl, f0, f1, f2, f3, hP⟩
    go_wp2
    go_end0
    exact ⟨rfl, hP⟩


def st0 : St := ⟨.none, 0, 0, [], 0, 0, []⟩
/-- the parser ahead of its text -/
def pcell0 (m : Nat) : Array Value := #[.string ⟨#[]⟩, .int .i64 0, .nilIface, .map (some m), .int .i64 0, .int .i64 0, .slice none 0 0]
def ovW (w : World) : World := (w.alloc (.map #[] 0)).alloc (.cells (pcell0 w.heap.size) 81)
theorem ovW_size (w : World) : (ovW w).heap.size = w.heap.size + 2 := by simp [ovW]
theorem ovW_below (w : World) : Below w.heap.size w (ovW w) := ((Below.refl _ w).alloc (Nat.le_refl _) _).alloc (by simp) _
theorem ovW_b (w : World) : (ovW w).heap[w.heap.size + 1]? = some (.cells (pcell0 w.heap.size) 81 (0, 0)) := by
  have := heap_new (w.alloc (.map #[] 0)) (.cells (pcell0 w.heap.size) 81)
  simpa [ovW] using this
theorem ovW_m (w : World) : Nm (ovW w) w.heap.size [] := by
  refine ⟨.map [], ?_, fun r => ⟨rfl, fun g h => by cases h⟩⟩
  have := World.ownsMap_made w Tryz.prog 9 nameElem
  obtain ⟨es, clock, hm, r⟩ := this
  exact ⟨es, clock, by unfold ovW; rw [Below.heap_alloc _ _ _ (by simp)]; exact hm, r⟩

/-- the parser is handed its text -/
def ovT (w : World) (s : ByteArray) : World := (((ovW w).alloc (.cells #[.string s, .int .i64 0] 74)).setCell ⟨w.heap.size + 1, 0, none⟩ (.string s)).setCell ⟨w.heap.size + 1, 1, none⟩ (.int .i64 0)

theorem ovT_blk (w : World) (s : ByteArray) : (ovT w s).heap[w.heap.size + 1]? = some (.cells (pcells s 0 w.heap.size st0 (.slice none 0 0)) 81 (0, 0)) := by
  unfold ovT
  have h0 : ((ovW w).alloc (.cells #[.string s, .int .i64 0] 74)).heap[w.heap.size + 1]? = some (.cells (pcell0 w.heap.size) 81 (0, 0)) := by
    rw [Below.heap_alloc _ _ _ (by rw [ovW_size]; omega)]
    exact ovW_b w
  have h1 := setCell_blk h0 (o := 0) (.string s)
  rw [setCell_blk h1]
  rfl
theorem ovT_oth (w : World) (s : ByteArray) {g : Nat} (hg : g < w.heap.size + 2) (hne : g ≠ w.heap.size + 1) : (ovT w s).heap[g]? = (ovW w).heap[g]? := by
  unfold ovT
  rw [Below.heap_setCell _ _ _ _ hne, Below.heap_setCell _ _ _ _ hne, Below.heap_alloc _ _ _ (by rw [ovW_size]; omega)]
theorem ovT_size (w : World) (s : ByteArray) : (ovT w s).heap.size = w.heap.size + 3 := by simp [ovT, ovW_size]

theorem ovT_pz (w : World) (s : ByteArray) (hs : s.size ≤ 20000) (hG : 8 ≤ w.heap.size) : Pz (ovW w) (w.heap.size + 1) w.heap.size s st0 (ovT w s) := by
  refine ⟨⟨0, .slice none 0 0, ovT_blk w s, fun _ => rfl, ⟨rfl, .inl ⟨rfl, rfl⟩⟩⟩, (ovW_m w).same (ovT_oth w s (by omega) (by omega)), ⟨?_, ⟨rfl, rfl, rfl⟩, fun k hk hb hm => ovT_oth w s (by rw [ovW_size] at hk; exact hk) hb⟩, ?_, ?_, by omega, by omega, hG, hs, ⟨Nat.zero_le _, ?_, fun x hx => by cases hx⟩⟩
  · rw [ovW_size, ovT_size]; omega
  · rw [ovW_size]; omega
  · rw [ovW_size]; omega
  · trivial

set_option maxHeartbeats 2000000 in
set_option maxRecDepth 20000 in
theorem overP (w : World) (s : ByteArray) (hs : s.size ≤ 20000) (hT : Tabs w) (hG : 8 ≤ w.heap.size) :
    Calls Tryz.prog 29 #[.string s] w fun e w' => e = .returned (.pointer (some ⟨w.heap.size + 1, 0, none⟩)) ∧ PK6 (ovW w) (w.heap.size + 1) w.heap.size s (start s) (ovT w s) w' := by
  have hS := step_gen6 (ovW w) (ovT w s) (w.heap.size + 1) w.heap.size s st0 (ovT_pz w s hs hG) (hT.below (ovW_below w) (by omega) (by omega)) rfl 0 ⟨#[]⟩ false rfl (fun w1 => as_str_no rfl st0.p w1)
  have HS : Hid (Calls Tryz.prog 55 #[.pointer (some ⟨w.heap.size + 1, 0, none⟩)] (ovT w s) fun e w' => e = .returned (.tuple #[]) ∧ PK6 (ovW w) (w.heap.size + 1) w.heap.size s (start s) (ovT w s) w') := hS
  have HO : Hid (∀ w1, Calls Tryz.prog 34 #[.string s] w1 fun e w' => e = .returned (.agg #[.string s, .int .i64 0]) ∧ w' = w1.alloc (.cells #[.string s, .int .i64 0] 74)) := fun w1 => over_any w1 s
  have HW : Hid ((w.alloc (.map #[] 0)).alloc (.cells (pcell0 w.heap.size) 81) = ovW w) := rfl
  have HWT : Hid ((((ovW w).alloc (.cells #[.string s, .int .i64 0] 74)).setCell ⟨w.heap.size + 1, 0, none⟩ (.string s)).setCell ⟨w.heap.size + 1, 1, none⟩ (.int .i64 0) = ovT w s) := rfl
  have hmm := @run_makeMap Tryz.prog
  clear hS hT
  go_enter Tryz.func29, Tryz.ntmps29
  go_wp2_with fail
  refine (HO.out _).mono ?_
  rintro e w1 ⟨rfl, rfl⟩
  have hb0 : ∀ x, ((ovW w).alloc x).heap[w.heap.size + 1]? = some (.cells (pcell0 w.heap.size) 81 (0, 0)) := fun x => by
    rw [Below.heap_alloc _ _ _ (by rw [ovW_size]; omega)]
    exact ovW_b w
  have c00 : ∀ x, ((ovW w).alloc x).cell? ⟨w.heap.size + 1, 0, none⟩ = some (.string ⟨#[]⟩) := fun x => by rw [Lib.cell_of_heap (hb0 x)]; rfl
  have f00 : ∀ x, ((ovW w).alloc x).frozen? ⟨w.heap.size + 1, 0, none⟩ = false := fun x => Lib.frozen_of_heap (hb0 x) 0
  have c01 : ∀ x v, (((ovW w).alloc x).setCell ⟨w.heap.size + 1, 0, none⟩ v).cell? ⟨w.heap.size + 1, 1, none⟩ = some (.int .i64 0) := fun x v => by rw [Lib.cell_of_heap (setCell_blk (hb0 x) v)]; rfl
  have f01 : ∀ x v, (((ovW w).alloc x).setCell ⟨w.heap.size + 1, 0, none⟩ v).frozen? ⟨w.heap.size + 1, 1, none⟩ = false := fun x v => Lib.frozen_of_heap (setCell_blk (hb0 x) v) 1
  clear hb0
  have HWx : Hid (∀ x, ((w.alloc (.map #[] 0)).alloc (.cells #[.string ⟨#[]⟩, .int .i64 0, .nilIface, .map (some w.heap.size), .int .i64 0, .int .i64 0, .slice none 0 0] 81)).alloc x = (ovW w).alloc x) := fun x => rfl
  rw [HWx.out]
  go_wp2_with fail
  rw [HWT.out]
  refine HS.out.mono ?_
  rintro e w2 ⟨rfl, hp⟩
  go_wp2
  go_ret
  exact ⟨rfl, hp⟩

end Tu
end Go.Proofs.YtnffjoipinhojabGreatDoor

