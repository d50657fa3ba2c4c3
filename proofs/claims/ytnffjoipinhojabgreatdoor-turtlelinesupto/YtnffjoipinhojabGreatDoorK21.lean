import Derived.Test.YtnffjoipinhojabGreatDoorK20
set_option linter.unusedSimpArgs false
set_option linter.unusedVariables false
namespace Go.Proofs.YtnffjoipinhojabGreatDoor
open Go.RowKit
namespace Tu

theorem verb_any (w0 w : World) (b m d : Nat) (s : ByteArray) (st : St) (h : Go0 w0 b m s d st w) :
    Calls Tryz.prog 96 #[.pointer (some ⟨b, 0, none⟩)] w (PRes w0 b m s w str (verb s st)) := by
  cases hr : verb s st with
  | ok l st' => exact verb_ok w0 w b m s st st' l h.pz h.tb hr
  | bad n j => exact verb_bad w0 w b m s st n j h.pz h.tb h.nn hr

theorem listL_no {ob : St → PR (List UInt8)} {s : ByteArray} {N : Nat} {su : List UInt8} {n : Nat} {st : St} (h : Tu.takes 59 st = false) : listL ob s N su (n + 1) st = .ok () st := by
  unfold listL
  rw [if_neg (by rw [h]; simp)]
theorem listL_on {ob : St → PR (List UInt8)} {s : ByteArray} {N : Nat} {su : List UInt8} {n : Nat} {st : St} (h : Tu.takes 59 st = true) (h2 : seesOf [59, 46, 93] (step s st) = true) : listL ob s N su (n + 1) st = listL ob s N su n (step s st) := by
  rw [listL, if_pos h, if_pos h2]
theorem listL_v {ob : St → PR (List UInt8)} {s : ByteArray} {N : Nat} {su : List UInt8} {n : Nat} {st : St} (h : Tu.takes 59 st = true) (h2 : seesOf [59, 46, 93] (step s st) = false) : listL ob s N su (n + 1) st = match verb s (step s st) with
    | .bad n j => .bad n j
    | .ok v st1 => match objs ob s N su v st1 with
      | .bad n j => .bad n j
      | .ok _ st2 => listL ob s N su n st2 := by
  rw [listL, if_pos h, if_neg (by rw [h2]; simp)]
  rfl

set_option maxHeartbeats 2000000 in
set_option maxRecDepth 20000 in
/-- what is said of a subject -/
theorem list_any (s : ByteArray) (N d : Nat) (HO : ObC s N d) (hN : 2 * s.size + 2 ≤ N) (w0 w : World) (b m : Nat) (st : St) (su : List UInt8) (h : Go0 w0 b m s d st w) :
    Calls Tryz.prog 58 #[.pointer (some ⟨b, 0, none⟩), str su] w (PRes w0 b m s w (fun _ => .tuple #[]) (list (obj s N d) s N su st)) := by
  have hgood := obj_good s N d
  have H0 : Hid (Go0 w0 b m s d st w) := h
  have hV := verb_any w0 w b m d s st h
  have HVb : Hid (∀ q w1, PK w0 b m s q w w1 → Un s st q → Calls Tryz.prog 96 #[.pointer (some ⟨b, 0, none⟩)] w1 (PRes w0 b m s w1 str (verb s q))) := fun q w1 hp u => verb_any w0 w1 b m d s q (H0.out.un hp u)
  have HOb : Hid (∀ q w1 (ve : List UInt8), PK w0 b m s q w w1 → Un s st q → Calls Tryz.prog 95 #[.pointer (some ⟨b, 0, none⟩), str su, str ve] w1 (PRes w0 b m s w1 (fun _ => .tuple #[]) (objs (obj s N d) s N su ve q))) := fun q w1 ve hp u => objects_any s N d HO hN w0 w1 b m q su ve (H0.out.un hp u)
  cases hv1 : verb s st with
  | bad n j =>
    have HE : Hid (list (obj s N d) s N su st = .bad n j) := by unfold Hid list; rw [hv1]
    rw [hv1] at hV
    have HV : Hid (Calls Tryz.prog 96 #[.pointer (some ⟨b, 0, none⟩)] w fun e w' => e = stopE n j ∧ Fq w0 b m w') := hV
    rw [HE.out]
    clear hV hv1 h HE HO HVb HOb
    go_enter Tryz.func58, Tryz.ntmps58
    go_wp2_with fail
    refine HV.out.mono ?_
    rintro e w1 ⟨rfl, hf⟩
    exact ⟨rfl, rfl, hf⟩
  | ok v st1 =>
    rw [hv1] at hV
    have HV : Hid (Calls Tryz.prog 96 #[.pointer (some ⟨b, 0, none⟩)] w fun e w' => e = .returned (str v) ∧ PK w0 b m s st1 w w') := hV
    have on1 := verb_on h.wf hv1
    have hO := fun w1 (hp : PK w0 b m s st1 w w1) => HOb.out st1 w1 v hp on1.un
    cases ho1 : objs (obj s N d) s N su v st1 with
    | bad n j =>
      have HE : Hid (list (obj s N d) s N su st = .bad n j) := by unfold Hid list; rw [hv1]; simp only; rw [ho1]
      rw [ho1] at hO
      have HO1 : Hid (∀ w1, PK w0 b m s st1 w w1 → Calls Tryz.prog 95 #[.pointer (some ⟨b, 0, none⟩), str su, str v] w1 fun e w' => e = stopE n j ∧ Fq w0 b m w') := hO
      rw [HE.out]
      clear hV hv1 h HE HO HVb HOb hO ho1 on1
      go_enter Tryz.func58, Tryz.ntmps58
      go_wp2_with fail
      refine HV.out.mono ?_
      rintro e w1 ⟨rfl, hp1⟩
      go_wp2_with fail
      refine (HO1.out _ hp1).mono ?_
      rintro e w2 ⟨rfl, hf⟩
      exact ⟨rfl, rfl, hf⟩
    | ok u0 st2 =>
      rw [ho1] at hO
      have HO1 : Hid (∀ w1, PK w0 b m s st1 w w1 → Calls Tryz.prog 95 #[.pointer (some ⟨b, 0, none⟩), str su, str v] w1 fun e w' => e = .returned (.tuple #[]) ∧ PK w0 b m s st2 w w') := fun w1 hp => (hO w1 hp).mono fun e w' k => ⟨k.1, hp.on k.2⟩
      obtain ⟨R0, hR0⟩ : ∃ R0, R0 = listL (obj s N d) s N su N st2 := ⟨_, rfl⟩
      have HE : Hid (list (obj s N d) s N su st = R0) := by unfold Hid list; rw [hv1]; simp only; rw [ho1]; exact hR0.symm
      have HU2 : Hid (Un s st st2) := on1.un.trans (objs_un hgood on1.wf ho1)
      have HTy : Hid (∀ q w1, PK w0 b m s q w w1 → Tu.takes 59 q = true → Calls Tryz.prog 97 #[.pointer (some ⟨b, 0, none⟩), .int .u8 59] w1 fun e w' => e = .returned (.bool true) ∧ PK w0 b m s (step s q) w w') := fun q w1 hp ht =>
        (take_yes w0 w1 b m s q 59 hp.1 H0.out.tb (takes_real ht).2).mono fun e w' k => ⟨k.1, hp.on k.2⟩
      have HTn : Hid (∀ q w1, PK w0 b m s q w w1 → Tu.takes 59 q = false → Calls Tryz.prog 97 #[.pointer (some ⟨b, 0, none⟩), .int .u8 59] w1 fun e w' => e = .returned (.bool false) ∧ PK w0 b m s q w w') := fun q w1 hp ht =>
        (take_no w0 w1 b m s q 59 hp.1 ht).mono fun e w' k => ⟨k.1, hp.on k.2⟩
      have HSe : Hid (∀ q w1, PK w0 b m s q w w1 → Calls Tryz.prog 98 #[.pointer (some ⟨b, 0, none⟩), .string ⟨#[59, 46, 93]⟩] w1 fun e w' => e = .returned (.bool (seesOf [59, 46, 93] q)) ∧ PK w0 b m s q w w') := fun q w1 hp =>
        (sees_any w0 w1 b m s q [59, 46, 93] hp.1).mono fun e w' k => ⟨k.1, hp.on k.2⟩
      have HR0 : Hid (listL (obj s N d) s N su N st2 = R0) := hR0.symm
      have HG : Hid (Good s (obj s N d)) := hgood
      rw [HE.out]
      clear hV hv1 h HE HO hO ho1 on1 hR0 hgood
      go_enter Tryz.func58, Tryz.ntmps58
      go_wp2_with fail
      refine HV.out.mono ?_
      rintro e w1 ⟨rfl, hp1⟩
      go_wp2_with fail
      refine (HO1.out _ hp1).mono ?_
      rintro e w2 ⟨rfl, hp2⟩
      go_wp2_with fail
      go_loopw [] (fun wr => ∃ n q, PK w0 b m s q w wr ∧ listL (obj s N d) s N su n q = R0 ∧ meas s q < n ∧ Un s st q) (fun wr => msW s b wr)
      case atStart => exact ⟨N, _, hp2, HR0.out, Nat.lt_of_lt_of_le (meas_lt s _) hN, HU2.out⟩
      case round =>
        obtain ⟨n, q, hp, hq, hm, hu⟩ := hrel
        have HMq : Hid (msW s b wr = Tu.ms s q) := hp.1.ms
        obtain ⟨n', rfl⟩ : ∃ n', n = n' + 1 := ⟨n - 1, by omega⟩
        cases ht : Tu.takes 59 q with
        | false =>
          rw [listL_no ht] at hq
          have HT : Hid (Calls Tryz.prog 97 #[.pointer (some ⟨b, 0, none⟩), .int .u8 59] wr fun e w' => e = .returned (.bool false) ∧ PK w0 b m s q w w') := HTn.out q wr hp ht
          have HQ : Hid (R0 = .ok () q) := hq.symm
          clear hp hu ht hq hm HTn HOb HTy HVb HSe
          go_wp2_with fail
          refine HT.out.mono ?_
          rintro e w3 ⟨rfl, hp3⟩
          go_wp2
          go_end0
          rw [HQ.out]
          exact ⟨rfl, hp3⟩
        | true =>
          have hrl := (takes_real ht).1
          have hon := On.of_step hu.wf hrl
          have hu2 := hu.trans hon.un
          have HT : Hid (Calls Tryz.prog 97 #[.pointer (some ⟨b, 0, none⟩), .int .u8 59] wr fun e w' => e = .returned (.bool true) ∧ PK w0 b m s (step s q) w w') := HTy.out q wr hp ht
          have hS := HSe.out (step s q)
          cases hse : seesOf [59, 46, 93] (step s q) with
          | true =>
            rw [listL_on ht hse] at hq
            rw [hse] at hS
            have HS : Hid (∀ w1, PK w0 b m s (step s q) w w1 → Calls Tryz.prog 98 #[.pointer (some ⟨b, 0, none⟩), .string ⟨#[59, 46, 93]⟩] w1 fun e w' => e = .returned (.bool true) ∧ PK w0 b m s (step s q) w w') := hS
            have HM3 : Hid (Tu.ms s (step s q) < Tu.ms s q ∧ meas s (step s q) < n') := ⟨ms_on hrl hon.me, by have := hon.me; omega⟩
            have HU3 : Hid (Un s st (step s q)) := hu2
            have HQ : Hid (listL (obj s N d) s N su n' (step s q) = R0) := hq
            clear hp hu ht hq hm HTn HOb HTy HVb HSe hS hse hrl hon hu2
            go_wp2_with fail
            refine HT.out.mono ?_
            rintro e w3 ⟨rfl, hp3⟩
            go_wp2_with fail
            refine (HS.out _ hp3).mono ?_
            rintro e w4 ⟨rfl, hp4⟩
            go_wp2_with fail
            go_roundw
            case rel => exact ⟨n', _, hp4, HQ.out, HM3.out.2, HU3.out⟩
            case measure => rw [hp4.1.ms, HMq.out]; exact HM3.out.1
          | false =>
            rw [listL_v ht hse] at hq
            rw [hse] at hS
            have HS : Hid (∀ w1, PK w0 b m s (step s q) w w1 → Calls Tryz.prog 98 #[.pointer (some ⟨b, 0, none⟩), .string ⟨#[59, 46, 93]⟩] w1 fun e w' => e = .returned (.bool false) ∧ PK w0 b m s (step s q) w w') := hS
            have hV := fun w1 (hp1 : PK w0 b m s (step s q) w w1) => HVb.out (step s q) w1 hp1 hu2
            cases hve : verb s (step s q) with
            | bad n2 j2 =>
              rw [hve] at hq hV
              have HV2 : Hid (∀ w1, PK w0 b m s (step s q) w w1 → Calls Tryz.prog 96 #[.pointer (some ⟨b, 0, none⟩)] w1 fun e w' => e = stopE n2 j2 ∧ Fq w0 b m w') := hV
              have HQ : Hid (R0 = .bad n2 j2) := hq.symm
              clear hp hu ht hq hm HTn HOb HTy HVb HSe hS hse hrl hon hu2 hV hve
              go_wp2_with fail
              refine HT.out.mono ?_
              rintro e w3 ⟨rfl, hp3⟩
              go_wp2_with fail
              refine (HS.out _ hp3).mono ?_
              rintro e w4 ⟨rfl, hp4⟩
              go_wp2_with fail
              refine (HV2.out _ hp4).mono ?_
              rintro e w5 ⟨rfl, hf⟩
              refine ⟨rfl, ?_⟩
              rw [HQ.out]
              exact ⟨rfl, hf⟩
            | ok v2 q2 =>
              rw [hve] at hq hV
              simp only at hq
              have HV2 : Hid (∀ w1, PK w0 b m s (step s q) w w1 → Calls Tryz.prog 96 #[.pointer (some ⟨b, 0, none⟩)] w1 fun e w' => e = .returned (str v2) ∧ PK w0 b m s q2 w w') := fun w1 hp1 => (hV w1 hp1).mono fun e w' k => ⟨k.1, hp1.on k.2⟩
              have hon2 := hon.trans (verb_on hon.wf hve)
              have hu3 := hu.trans hon2.un
              have hO2 := fun w1 (hp1 : PK w0 b m s q2 w w1) => HOb.out q2 w1 v2 hp1 hu3
              cases hoo : objs (obj s N d) s N su v2 q2 with
              | bad n2 j2 =>
                rw [hoo] at hq hO2
                have HO2 : Hid (∀ w1, PK w0 b m s q2 w w1 → Calls Tryz.prog 95 #[.pointer (some ⟨b, 0, none⟩), str su, str v2] w1 fun e w' => e = stopE n2 j2 ∧ Fq w0 b m w') := hO2
                have HQ : Hid (R0 = .bad n2 j2) := hq.symm
                clear hp hu ht hq hm HTn HOb HTy HVb HSe hS hse hrl hon hu2 hV hve hon2 hu3 hO2 hoo
                go_wp2_with fail
                refine HT.out.mono ?_
                rintro e w3 ⟨rfl, hp3⟩
                go_wp2_with fail
                refine (HS.out _ hp3).mono ?_
                rintro e w4 ⟨rfl, hp4⟩
                go_wp2_with fail
                refine (HV2.out _ hp4).mono ?_
                rintro e w5 ⟨rfl, hp5⟩
                go_wp2_with fail
                refine (HO2.out _ hp5).mono ?_
                rintro e w6 ⟨rfl, hf⟩
                refine ⟨rfl, ?_⟩
                rw [HQ.out]
                exact ⟨rfl, hf⟩
              | ok u2 q3 =>
                rw [hoo] at hq hO2
                simp only at hq
                have HO2 : Hid (∀ w1, PK w0 b m s q2 w w1 → Calls Tryz.prog 95 #[.pointer (some ⟨b, 0, none⟩), str su, str v2] w1 fun e w' => e = .returned (.tuple #[]) ∧ PK w0 b m s q3 w w') := fun w1 hp1 => (hO2 w1 hp1).mono fun e w' k => ⟨k.1, hp1.on k.2⟩
                have hun := objs_un HG.out hon2.wf hoo
                have HU3 : Hid (Un s st q3) := hu3.trans hun
                have HM3 : Hid (Tu.ms s q3 < Tu.ms s q ∧ meas s q3 < n') := ⟨ms_on hrl (Nat.lt_of_le_of_lt hun.me hon2.me), by have := hun.me; have := hon2.me; omega⟩
                have HQ : Hid (listL (obj s N d) s N su n' q3 = R0) := hq
                clear hp hu ht hq hm HTn HOb HTy HVb HSe hS hse hrl hon hu2 hV hve hon2 hu3 hO2 hoo hun
                go_wp2_with fail
                refine HT.out.mono ?_
                rintro e w3 ⟨rfl, hp3⟩
                go_wp2_with fail
                refine (HS.out _ hp3).mono ?_
                rintro e w4 ⟨rfl, hp4⟩
                go_wp2_with fail
                refine (HV2.out _ hp4).mono ?_
                rintro e w5 ⟨rfl, hp5⟩
                go_wp2_with fail
                refine (HO2.out _ hp5).mono ?_
                rintro e w6 ⟨rfl, hp6⟩
                go_wp2_with fail
                go_roundw
                case rel => exact ⟨n', _, hp6, HQ.out, HM3.out.2, HU3.out⟩
                case measure => rw [hp6.1.ms, HMq.out]; exact HM3.out.1

end Tu
end Go.Proofs.YtnffjoipinhojabGreatDoor

set_option linter.unusedSimpArgs false
set_option linter.unusedVariables false
namespace Go.Proofs.YtnffjoipinhojabGreatDoor
open Go.RowKit
namespace Tu

theorem want_any (w0 w : World) (b m : Nat) (s : ByteArray) (st : St) (c : Nat) (h : Pz w0 b m s st w) (hT : Tabs w0) (hn : Sg.isNone st.now = false) :
    Calls Tryz.prog 60 #[.pointer (some ⟨b, 0, none⟩), .int .u8 c] w (PRes w0 b m s w (fun _ => .tuple #[]) (want s c st)) := by
  cases ht : Tu.takes c st with
  | true =>
    have hc := (takes_real ht).2
    rw [want_one hc]
    exact want_ok w0 w b m s st c h hT hc
  | false =>
    rw [want_not ht]
    exact want_bad w0 w b m s st c h hn ht

theorem Go0.fresh {w0 w w' wb : World} {b m d : Nat} {s : ByteArray} {st : St} (h : Go0 w0 b m s d st w) (hb : bud s st + 1 ≤ 200000) (hp : PK w0 b m s (fresh st) wb w') : Go0 w0 b m s d (fresh st) w' :=
  ⟨hp.1, h.tb, h.tn, h.nn, h.dp, by rw [(h.wf.fresh).2.2]; exact hb⟩

set_option maxHeartbeats 2000000 in
set_option maxRecDepth 20000 in
/-- behind [ -/
theorem brack_any (s : ByteArray) (N d : Nat) (HO : ObC s N d) (hN : 2 * s.size + 2 ≤ N) (w0 w : World) (b m : Nat) (st : St) (h : Go0 w0 b m s d st w) (hb : bud s st + 1 ≤ 200000) :
    Calls Tryz.prog 101 #[.pointer (some ⟨b, 0, none⟩)] w (PRes w0 b m s w str (brack (obj s N d) s N st)) := by
  have hgood := obj_good s N d
  have H0 : Hid (Go0 w0 b m s d st w) := h
  obtain ⟨F, hF⟩ : ∃ F, F = freshL st := ⟨_, rfl⟩
  have HN : Hid (Calls Tryz.prog 168 #[.pointer (some ⟨b, 0, none⟩)] w fun e w' => e = .returned (str F) ∧ PK w0 b m s (fresh st) w w') := by
    rw [hF]
    exact newBlank_any w0 w b m s st h.pz h.tn (by have := h.said.2; omega)
  have hSe : ∀ w1, PK w0 b m s (fresh st) w w1 → Calls Tryz.prog 98 #[.pointer (some ⟨b, 0, none⟩), .string ⟨#[93]⟩] w1 fun e w' => e = .returned (.bool (seesOf [93] st)) ∧ PK w0 b m s (fresh st) w w' := fun w1 hp =>
    (sees_any w0 w1 b m s (fresh st) [93] hp.1).mono fun e w' k => ⟨k.1, hp.on k.2⟩
  have hL : ∀ w1, PK w0 b m s (fresh st) w w1 → Calls Tryz.prog 58 #[.pointer (some ⟨b, 0, none⟩), str F] w1 (PRes w0 b m s w1 (fun _ => .tuple #[]) (list (obj s N d) s N F (fresh st))) := fun w1 hp => list_any s N d HO hN w0 w1 b m (fresh st) F (H0.out.fresh hb hp)
  have HWt : Hid (∀ q w1, PK w0 b m s q w w1 → Sg.isNone q.now = false → Calls Tryz.prog 60 #[.pointer (some ⟨b, 0, none⟩), .int .u8 93] w1 (PRes w0 b m s w1 (fun _ => .tuple #[]) (want s 93 q))) := fun q w1 hp hn => want_any w0 w1 b m s q 93 hp.1 H0.out.tb hn
  have hfw := (h.wf.fresh).1
  cases hse : seesOf [93] st with
  | true =>
    rw [hse] at hSe
    have HS : Hid (∀ w1, PK w0 b m s (fresh st) w w1 → Calls Tryz.prog 98 #[.pointer (some ⟨b, 0, none⟩), .string ⟨#[93]⟩] w1 fun e w' => e = .returned (.bool true) ∧ PK w0 b m s (fresh st) w w') := hSe
    have hW := fun w1 (hp : PK w0 b m s (fresh st) w w1) => HWt.out (fresh st) w1 hp hfw.nn
    have hE : brack (obj s N d) s N st = match want s 93 (fresh st) with
      | .bad n j => .bad n j
      | .ok _ st' => .ok F st' := by unfold brack; rw [if_pos hse, hF]; rfl
    cases hw : want s 93 (fresh st) with
    | bad n j =>
      rw [hw] at hE hW
      simp only at hE
      have HE : Hid (brack (obj s N d) s N st = .bad n j) := hE
      have HW : Hid (∀ w1, PK w0 b m s (fresh st) w w1 → Calls Tryz.prog 60 #[.pointer (some ⟨b, 0, none⟩), .int .u8 93] w1 fun e w' => e = stopE n j ∧ Fq w0 b m w') := hW
      rw [HE.out]
      clear hSe hL HWt hW hE h hF hw hse hfw HO
      go_enter Tryz.func101, Tryz.ntmps101
      go_wp2_with fail
      refine HN.out.mono ?_
      rintro e w1 ⟨rfl, hp1⟩
      go_wp2_with fail
      refine (HS.out _ hp1).mono ?_
      rintro e w2 ⟨rfl, hp2⟩
      go_wp2_with fail
      refine (HW.out _ hp2).mono ?_
      rintro e w3 ⟨rfl, hf⟩
      exact ⟨rfl, rfl, hf⟩
    | ok u st' =>
      rw [hw] at hE hW
      simp only at hE
      have HE : Hid (brack (obj s N d) s N st = .ok F st') := hE
      have HW : Hid (∀ w1, PK w0 b m s (fresh st) w w1 → Calls Tryz.prog 60 #[.pointer (some ⟨b, 0, none⟩), .int .u8 93] w1 fun e w' => e = .returned (.tuple #[]) ∧ PK w0 b m s st' w w') := fun w1 hp => (hW w1 hp).mono fun e w' k => ⟨k.1, hp.on k.2⟩
      rw [HE.out]
      clear hSe hL HWt hW hE h hF hw hse hfw HO
      go_enter Tryz.func101, Tryz.ntmps101
      go_wp2_with fail
      refine HN.out.mono ?_
      rintro e w1 ⟨rfl, hp1⟩
      go_wp2_with fail
      refine (HS.out _ hp1).mono ?_
      rintro e w2 ⟨rfl, hp2⟩
      go_wp2_with fail
      refine (HW.out _ hp2).mono ?_
      rintro e w3 ⟨rfl, hp3⟩
      go_wp2
      go_ret
      exact ⟨rfl, hp3⟩
  | false =>
    rw [hse] at hSe
    have HS : Hid (∀ w1, PK w0 b m s (fresh st) w w1 → Calls Tryz.prog 98 #[.pointer (some ⟨b, 0, none⟩), .string ⟨#[93]⟩] w1 fun e w' => e = .returned (.bool false) ∧ PK w0 b m s (fresh st) w w') := hSe
    have hE : brack (obj s N d) s N st = match list (obj s N d) s N F (fresh st) with
      | .bad n j => .bad n j
      | .ok _ st1 => match want s 93 st1 with
        | .bad n j => .bad n j
        | .ok _ st' => .ok F st' := by unfold brack; rw [if_neg (by rw [hse]; simp), hF]; rfl
    cases hl : list (obj s N d) s N F (fresh st) with
    | bad n j =>
      rw [hl] at hE hL
      simp only at hE
      have HE : Hid (brack (obj s N d) s N st = .bad n j) := hE
      have HL : Hid (∀ w1, PK w0 b m s (fresh st) w w1 → Calls Tryz.prog 58 #[.pointer (some ⟨b, 0, none⟩), str F] w1 fun e w' => e = stopE n j ∧ Fq w0 b m w') := hL
      rw [HE.out]
      clear hSe hL HWt hE h hF hl hse hfw HO
      go_enter Tryz.func101, Tryz.ntmps101
      go_wp2_with fail
      refine HN.out.mono ?_
      rintro e w1 ⟨rfl, hp1⟩
      go_wp2_with fail
      refine (HS.out _ hp1).mono ?_
      rintro e w2 ⟨rfl, hp2⟩
      go_wp2_with fail
      refine (HL.out _ hp2).mono ?_
      rintro e w3 ⟨rfl, hf⟩
      exact ⟨rfl, rfl, hf⟩
    | ok u st1 =>
      rw [hl] at hE hL
      simp only at hE
      have HL : Hid (∀ w1, PK w0 b m s (fresh st) w w1 → Calls Tryz.prog 58 #[.pointer (some ⟨b, 0, none⟩), str F] w1 fun e w' => e = .returned (.tuple #[]) ∧ PK w0 b m s st1 w w') := fun w1 hp => (hL w1 hp).mono fun e w' k => ⟨k.1, hp.on k.2⟩
      have hon := list_on hgood hfw hl
      have hW := fun w1 (hp : PK w0 b m s st1 w w1) => HWt.out st1 w1 hp hon.wf.nn
      cases hw : want s 93 st1 with
      | bad n j =>
        rw [hw] at hE hW
        simp only at hE
        have HE : Hid (brack (obj s N d) s N st = .bad n j) := hE
        have HW : Hid (∀ w1, PK w0 b m s st1 w w1 → Calls Tryz.prog 60 #[.pointer (some ⟨b, 0, none⟩), .int .u8 93] w1 fun e w' => e = stopE n j ∧ Fq w0 b m w') := hW
        rw [HE.out]
        clear hSe hL HWt hW hE h hF hw hse hfw hl hon HO
        go_enter Tryz.func101, Tryz.ntmps101
        go_wp2_with fail
        refine HN.out.mono ?_
        rintro e w1 ⟨rfl, hp1⟩
        go_wp2_with fail
        refine (HS.out _ hp1).mono ?_
        rintro e w2 ⟨rfl, hp2⟩
        go_wp2_with fail
        refine (HL.out _ hp2).mono ?_
        rintro e w3 ⟨rfl, hp3⟩
        go_wp2_with fail
        refine (HW.out _ hp3).mono ?_
        rintro e w4 ⟨rfl, hf⟩
        exact ⟨rfl, rfl, hf⟩
      | ok u2 st' =>
        rw [hw] at hE hW
        simp only at hE
        have HE : Hid (brack (obj s N d) s N st = .ok F st') := hE
        have HW : Hid (∀ w1, PK w0 b m s st1 w w1 → Calls Tryz.prog 60 #[.pointer (some ⟨b, 0, none⟩), .int .u8 93] w1 fun e w' => e = .returned (.tuple #[]) ∧ PK w0 b m s st' w w') := fun w1 hp => (hW w1 hp).mono fun e w' k => ⟨k.1, hp.on k.2⟩
        rw [HE.out]
        clear hSe hL HWt hW hE h hF hw hse hfw hl hon HO
        go_enter Tryz.func101, Tryz.ntmps101
        go_wp2_with fail
        refine HN.out.mono ?_
        rintro e w1 ⟨rfl, hp1⟩
        go_wp2_with fail
        refine (HS.out _ hp1).mono ?_
        rintro e w2 ⟨rfl, hp2⟩
        go_wp2_with fail
        refine (HL.out _ hp2).mono ?_
        rintro e w3 ⟨rfl, hp3⟩
        go_wp2_with fail
        refine (HW.out _ hp3).mono ?_
        rintro e w4 ⟨rfl, hp4⟩
        go_wp2
        go_ret
        exact ⟨rfl, hp4⟩

end Tu
end Go.Proofs.YtnffjoipinhojabGreatDoor

