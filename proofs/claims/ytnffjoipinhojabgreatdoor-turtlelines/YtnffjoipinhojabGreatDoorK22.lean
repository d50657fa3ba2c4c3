import Derived.Test.YtnffjoipinhojabGreatDoorK21
set_option linter.unusedSimpArgs false
set_option linter.unusedVariables false
namespace Go.Proofs.YtnffjoipinhojabGreatDoor
open Go.RowKit
namespace Tu

/-! Behind ( : the blanks are gathered in a row of the call's own. -/
structure Ns (b base : Nat) (ns : List (List UInt8)) (v : Value) (w : World) : Prop where
  own : w.ownsRow base 9 1 v ns.length (ns.map str)
  nb : ∀ g, v.ownBlock = some g → some g ≠ saidB w b

theorem Ns.on {w0 w w' : World} {b base : Nat} {ns : List (List UInt8)} {v : Value} (h : Ns b base ns v w) (hb : w0.heap.size ≤ base) (a : Kp w0 b w w') : Ns b base ns v w' := by
  obtain ⟨ho, hn⟩ := h
  rcases ho.2 with ⟨rfl, h0⟩ | ⟨g, cap, cur, rfl, hg, hc, r⟩
  · exact ⟨⟨ho.1, Or.inl ⟨rfl, h0⟩⟩, fun g hg => by cases hg⟩
  · have l : Loc w0 b g w := ⟨by omega, (Array.getElem?_eq_some_iff.1 hc).1, hn g rfl⟩
    refine ⟨⟨ho.1, Or.inr ⟨g, cap, cur, rfl, hg, (l.same a).trans hc, r⟩⟩, fun g' hg' => ?_⟩
    simp [Value.ownBlock] at hg'
    subst hg'
    exact (l.on a).ne

theorem Ns.block {w : World} {b base : Nat} {ns : List (List UInt8)} {v : Value} (h : Ns b base ns v w) {g : Nat} (hg : v.ownBlock = some g) : base ≤ g ∧ g < w.heap.size := by
  rcases h.own.2 with ⟨rfl, h0⟩ | ⟨g', cap, cur, rfl, hg', hc, r⟩
  · cases hg
  · simp [Value.ownBlock] at hg
    subst hg
    exact ⟨hg', (Array.getElem?_eq_some_iff.1 hc).1⟩

/-- the row grows -/
theorem Ns.grow {w0 w wr w8 : World} {b m g cap H : Nat} {s : ByteArray} {q : St} {ns : List (List UInt8)} {v : Value} {x : List UInt8} {T : TypeId} (hp : PK w0 b m s q w wr) (hns : Ns b w.heap.size ns v wr) (hw : w0.heap.size ≤ w.heap.size)
    (hown : w8.ownsRow w.heap.size 9 1 (.slice (some ⟨g, 0, none⟩) (ns.length + 1) cap) (ns.length + 1) (ns.map str ++ [str x]))
    (hgr : (wr.alloc (.cells #[str x] T)).grownBy w8 v.ownBlock) (hat : v.ownBlock = some g ∨ g = H) (hH : wr.heap.size ≤ H) :
    PK w0 b m s q w w8 ∧ Ns b w.heap.size (ns ++ [x]) (.slice (some ⟨g, 0, none⟩) (ns.length + 1) cap) w8 := by
  have hbl := hp.1.bl
  have hml := hp.1.ml
  have hlt := hp.1.lt
  have hfs := hp.1.fq.size
  have hsz := hgr.size
  simp at hsz
  have hold : ∀ k, k < wr.heap.size → (∀ g0, v.ownBlock = some g0 → k ≠ g0) → w8.heap[k]? = wr.heap[k]? := fun k hk hne => by
    rw [hgr.block k (by simp; omega) (fun e => hne k e.symm rfl), Below.heap_alloc _ _ _ hk]
  have hlow : ∀ k, k < w.heap.size → w8.heap[k]? = wr.heap[k]? := fun k hk => hold k (Nat.lt_of_lt_of_le hk hp.2.sz) fun g0 hg0 => by have := (hns.block hg0).1; omega
  have hbb := hlow b (by omega)
  have hsb : saidB w8 b = saidB wr b := said_same hbb
  obtain ⟨k, u, hh, hi, ho⟩ := hp.1.blk
  have hu : u.ownBlock = saidB wr b := (saidB_blk hh).symm
  refine ⟨⟨⟨⟨k, u, hbb.trans hh, hi, ?_⟩, hp.1.nm.same (hlow m (by omega)), ⟨by omega, ⟨hgr.os.trans hp.1.fq.os.1, hgr.tape.trans hp.1.fq.os.2.1, hgr.output.trans hp.1.fq.os.2.2⟩, fun g0 hg0 hgb hgm => (hlow g0 (by omega)).trans (hp.1.fq.but g0 hg0 hgb hgm)⟩, hbl, hml, hp.1.ne, hp.1.gb, hp.1.gm, hp.1.sz, hp.1.wf⟩, ?_⟩, ?_⟩
  · rcases ho.2 with ⟨rfl, h0⟩ | ⟨g', cap', cur, rfl, hg', hc, r⟩
    · exact ⟨ho.1, Or.inl ⟨rfl, h0⟩⟩
    · refine ⟨ho.1, Or.inr ⟨g', cap', cur, rfl, hg', ?_, r⟩⟩
      rw [hold g' (Array.getElem?_eq_some_iff.1 hc).1 (fun g0 hg0 e => by
        subst e
        exact hns.nb g' hg0 hu)]
      exact hc
  · refine ⟨fun x0 h0 hx hn => (hlow x0 hx).trans (hp.2.kp x0 h0 hx hn), ?_, by have := hp.2.sz; omega⟩
    rw [hsb]
    exact hp.2.sb
  · refine ⟨by simpa using hown, fun g0 hg0 => ?_⟩
    simp [Value.ownBlock] at hg0
    subst hg0
    rw [hsb]
    rcases hat with e | e
    · exact hns.nb g e
    · intro e2
      have := (hp.1.said_lt e2.symm).1
      omega

theorem infoStr : (Tryz.prog.info? 9).map (fun i => (i.zero, i.size, i.bytes)) = some (some (.string ⟨#[]⟩), 1, 16) := by kernel_rfl

theorem chain_get : ∀ (l : List (List UInt8)) (i : Nat) (a c : List UInt8), l[i]? = some a → l[i + 1]? = some c → (chain l)[i]? = some ⟨a, restI, c⟩
  | [], i, a, c, h, _ => by simp at h
  | [x], 0, a, c, _, h => by simp at h
  | [x], i + 1, a, c, h, _ => by simp at h
  | x :: y :: l, 0, a, c, h1, h2 => by
    simp at h1 h2
    subst h1 h2
    rfl
  | x :: y :: l, i + 1, a, c, h1, h2 => by
    simp only [chain]
    exact chain_get (y :: l) i a c (by simpa using h1) (by simpa using h2)

theorem roundL_yes {ob : St → PR (List UInt8)} {s : ByteArray} {n : Nat} {ns : List (List UInt8)} {st : St} (h : Tu.takes 41 st = true) : roundL ob s (n + 1) ns st = .ok ns (step s st) := by rw [roundL, if_pos h]
theorem roundL_bad {ob : St → PR (List UInt8)} {s : ByteArray} {n : Nat} {ns : List (List UInt8)} {st : St} {e : Int} {j : Nat} (h : Tu.takes 41 st = false) (ho : ob (fresh st) = .bad e j) : roundL ob s (n + 1) ns st = .bad e j := by rw [roundL, if_neg (by rw [h]; simp), ho]
theorem roundL_ok {ob : St → PR (List UInt8)} {s : ByteArray} {n : Nat} {ns : List (List UInt8)} {st st2 : St} {o : List UInt8} (h : Tu.takes 41 st = false) (ho : ob (fresh st) = .ok o st2) : roundL ob s (n + 1) ns st = roundL ob s n (ns ++ [freshL st]) (say st2 (freshL st) firstI o) := by rw [roundL, if_neg (by rw [h]; simp), ho]

/-- a row with its end -/
def roundE : PR (List (List UInt8)) → PR (List UInt8)
  | .bad n j => .bad n j
  | .ok ns st' => .ok (ns.headD nilI) { st' with said := st'.said ++ chain (ns ++ [nilI]) }
theorem round_E (ob : St → PR (List UInt8)) (s : ByteArray) (N : Nat) (st : St) : round ob s N st = roundE (roundL ob s N [] st) := by
  unfold round roundE
  cases roundL ob s N [] st <;> rfl

/-- what is said when i of the blanks are linked -/
abbrev linked (q : St) (l : List (List UInt8)) (i : Nat) : St := { q with said := q.said ++ (chain l).take i }

theorem linked_step {q : St} {l : List (List UInt8)} {i : Nat} {a c : List UInt8} (h1 : l[i]? = some a) (h2 : l[i + 1]? = some c) : say (linked q l i) a restI c = linked q l (i + 1) := by
  unfold say linked
  have e : (chain l).take (i + 1) = (chain l).take i ++ [⟨a, restI, c⟩] := by
    rw [List.take_add_one, chain_get l i a c h1 h2]
    rfl
  rw [e]
  simp
theorem linked_all (q : St) (ns : List (List UInt8)) (x : List UInt8) : linked q (ns ++ [x]) ns.length = { q with said := q.said ++ chain (ns ++ [x]) } := by
  unfold linked
  rw [List.take_of_length_le (by rw [chain_len]; exact Nat.le_refl _)]

/-- the row's cells -/
theorem Ns.cell {w0 w w' : World} {b base g n cap : Nat} {ns : List (List UInt8)} (h : Ns b base ns (.slice (some ⟨g, 0, none⟩) n cap) w) (hb : w0.heap.size ≤ base) (a : Kp w0 b w w') {j : Nat} {x : List UInt8} (hj : ns[j]? = some x) : w'.cell? ⟨g, j, none⟩ = some (str x) := by
  have h2 := (h.on hb a).own
  rcases h2.2 with ⟨e, _⟩ | ⟨g', cap', cur, e, hg', hc, h3, h4, h5, h6⟩
  · cases e
  · cases e
    rw [Lib.cell_of_heap hc, ← Array.getElem?_toList]
    have hjl : j < ns.length := (List.getElem?_eq_some_iff.1 hj).1
    have e2 : cur.toList[j]? = (cur.toList.take (ns.length * 1))[j]? := by rw [List.getElem?_take, if_pos (by omega)]
    rw [e2, h6, List.getElem?_map, hj]
    rfl
theorem Ns.cap {w : World} {b base g n cap : Nat} {ns : List (List UInt8)} (h : Ns b base ns (.slice (some ⟨g, 0, none⟩) n cap) w) : n = ns.length ∧ ns.length ≤ cap := by
  rcases h.own.2 with ⟨e, _⟩ | ⟨g', cap', cur, e, hg', hc, h3, h4, h5, h6⟩
  · cases e
  · cases e
    exact ⟨rfl, h3⟩

set_option maxHeartbeats 4000000 in
set_option maxRecDepth 20000 in
/-- behind ( -/
theorem round_any (s : ByteArray) (N d : Nat) (HO : ObC s N d) (hN : 2 * s.size + 2 ≤ N) (w0 w : World) (b m : Nat) (st : St) (h : Go0 w0 b m s d st w) (hb : bud s st + 1 ≤ 200000) :
    Calls Tryz.prog 102 #[.pointer (some ⟨b, 0, none⟩)] w (PRes w0 b m s w str (round (obj s N d) s N st)) := by
  obtain ⟨i0, hi, hz0, hz1, hz2⟩ := info_parts infoStr
  have hgood := obj_good s N d
  have H0 : Hid (Go0 w0 b m s d st w) := h
  have hw0 : w0.heap.size ≤ w.heap.size := h.pz.fq.size
  have HNb : Hid (∀ q w1, PK w0 b m s q w w1 → q.made ≤ 1000000 → Calls Tryz.prog 168 #[.pointer (some ⟨b, 0, none⟩)] w1 fun e w' => e = .returned (str (freshL q)) ∧ PK w0 b m s (fresh q) w w' ∧ Kp w0 b w1 w') := fun q w1 hp hm =>
    (newBlank_any w0 w1 b m s q hp.1 H0.out.tn hm).mono fun e w' k => ⟨k.1, hp.on k.2, k.2.2⟩
  have HOj : Hid (∀ q w1, PK w0 b m s q w w1 → Go0 w0 b m s d q w1 → Calls Tryz.prog 165 #[.pointer (some ⟨b, 0, none⟩)] w1 (PRes w0 b m s w1 str (obj s N d q))) := fun q w1 hp hg => HO w0 w1 b m q hg
  have HSay : Hid (∀ (q : St) w1 (x y z : List UInt8), PK w0 b m s q w w1 → q.said.length ≤ 1000000 → Calls Tryz.prog 164 #[.pointer (some ⟨b, 0, none⟩), str x, str y, str z] w1 fun e w' => e = .returned (.tuple #[]) ∧ PK w0 b m s (say q x y z) w w' ∧ Kp w0 b w1 w') := fun q w1 x y z hp hl =>
    (say_any w0 w1 b m s q x y z hp.1 hl).mono fun e w' k => ⟨k.1, hp.on k.2, k.2.2⟩
  have HTy : Hid (∀ q w1, PK w0 b m s q w w1 → Tu.takes 41 q = true → Calls Tryz.prog 97 #[.pointer (some ⟨b, 0, none⟩), .int .u8 41] w1 fun e w' => e = .returned (.bool true) ∧ PK w0 b m s (step s q) w w' ∧ Kp w0 b w1 w') := fun q w1 hp ht =>
    (take_yes w0 w1 b m s q 41 hp.1 H0.out.tb (takes_real ht).2).mono fun e w' k => ⟨k.1, hp.on k.2, k.2.2⟩
  have HTn : Hid (∀ q w1, PK w0 b m s q w w1 → Tu.takes 41 q = false → Calls Tryz.prog 97 #[.pointer (some ⟨b, 0, none⟩), .int .u8 41] w1 fun e w' => e = .returned (.bool false) ∧ PK w0 b m s q w w' ∧ Kp w0 b w1 w') := fun q w1 hp ht =>
    (take_no w0 w1 b m s q 41 hp.1 ht).mono fun e w' k => ⟨k.1, hp.on k.2, k.2.2⟩
  obtain ⟨R1, hR1⟩ : ∃ R1, R1 = roundL (obj s N d) s N [] st := ⟨_, rfl⟩
  have HR1 : Hid (roundL (obj s N d) s N [] st = R1) := hR1.symm
  have HE : Hid (round (obj s N d) s N st = roundE R1) := by unfold Hid; rw [round_E, hR1]
  have HG : Hid (Good s (obj s N d)) := hgood
  have HZ : Hid (PK w0 b m s st w w) := PK.refl h.pz
  have HWf : Hid (Wf s st) := h.wf
  have HN0 : Hid (Ns b w.heap.size [] (.slice none 0 0) w) := ⟨⟨rfl, Or.inl ⟨rfl, rfl⟩⟩, fun g hg => by cases hg⟩
  have hmd : ∀ q : St, bud s q ≤ 200000 → q.made ≤ 200000 ∧ q.said.length ≤ 200000 := fun q hq => by unfold bud at hq; omega
  have HMD : Hid (∀ q : St, bud s q ≤ 200000 → q.made ≤ 200000 ∧ q.said.length ≤ 200000) := hmd
  rw [HE.out]
  clear h HO hR1 hgood HE hmd
  go_enter Tryz.func102, Tryz.ntmps102
  go_wp2_with fail
  go_loopw [3] (fun t wr => ∃ n q ns ad ln cp, t = .slice ad ln cp ∧ PK w0 b m s q w wr ∧ Ns b w.heap.size ns (.slice ad ln cp) wr ∧ roundL (obj s N d) s n ns q = R1 ∧ meas s q < n ∧ Wf s q ∧ q.depth = st.depth ∧ bud s q + ns.length ≤ bud s st) (fun _ wr => msW s b wr)
  case atStart => exact ⟨N, st, [], none, 0, 0, rfl, HZ.out, HN0.out, HR1.out, Nat.lt_of_lt_of_le (meas_lt s _) hN, HWf.out, rfl, by simp⟩
  case round =>
    obtain ⟨n, q, ns, ad, ln, cp, rfl, hp, hns, hq, hm, hwf, hdp, hbu⟩ := hrel
    have HMq : Hid (msW s b wr = Tu.ms s q) := hp.1.ms
    obtain ⟨n', rfl⟩ : ∃ n', n = n' + 1 := ⟨n - 1, by omega⟩
    have HNs : Hid (Ns b w.heap.size ns (.slice ad ln cp) wr) := hns
    cases ht : Tu.takes 41 q with
    | false =>
      have HT : Hid (Calls Tryz.prog 97 #[.pointer (some ⟨b, 0, none⟩), .int .u8 41] wr fun e w' => e = .returned (.bool false) ∧ PK w0 b m s q w w' ∧ Kp w0 b wr w') := HTn.out q wr hp ht
      have hJ := HOj.out (fresh q)
      have hfw := hwf.fresh
      cases hob : obj s N d (fresh q) with
      | bad n2 j2 =>
        rw [roundL_bad ht hob] at hq
        rw [hob] at hJ
        have HJ : Hid (∀ w1, PK w0 b m s (fresh q) w w1 → Calls Tryz.prog 165 #[.pointer (some ⟨b, 0, none⟩)] w1 fun e w' => e = stopE n2 j2 ∧ Fq w0 b m w') := fun w1 hp1 => hJ w1 hp1 ⟨hp1.1, H0.out.tb, H0.out.tn, hwf.nn, by show q.depth + d = 8; rw [hdp]; exact H0.out.dp, by rw [hfw.2.2]; omega⟩
        have HQ : Hid (R1 = .bad n2 j2) := hq.symm
        have hmq := (HMD.out q (by omega)).1
        clear hp hns ht hq hm HTn HTy HOj hJ hob hfw hwf hdp hbu
        go_wp2_with fail
        refine HT.out.mono ?_
        rintro e w3 ⟨rfl, hp3, _⟩
        go_wp2_with fail
        refine (HNb.out q w3 hp3 (by omega)).mono ?_
        rintro e w4 ⟨rfl, hp4, _⟩
        go_wp2_with fail
        refine (HJ.out _ hp4).mono ?_
        rintro e w5 ⟨rfl, hf⟩
        refine ⟨rfl, ?_⟩
        rw [HQ.out]
        exact ⟨rfl, hf⟩
      | ok o2 q2 =>
        rw [roundL_ok ht hob] at hq
        rw [hob] at hJ
        have HJ : Hid (∀ w1, PK w0 b m s (fresh q) w w1 → Calls Tryz.prog 165 #[.pointer (some ⟨b, 0, none⟩)] w1 fun e w' => e = .returned (str o2) ∧ PK w0 b m s q2 w w' ∧ Kp w0 b w1 w') := fun w1 hp1 => (hJ w1 hp1 ⟨hp1.1, H0.out.tb, H0.out.tn, hwf.nn, by show q.depth + d = 8; rw [hdp]; exact H0.out.dp, by rw [hfw.2.2]; omega⟩).mono fun e w' k => ⟨k.1, hp1.on k.2, k.2.2⟩
        have hon := HG.out _ _ _ hfw.1 hob
        obtain ⟨F, hF⟩ : ∃ F, F = freshL q := ⟨_, rfl⟩
        obtain ⟨s1, s2, s3, s4⟩ := hon.say F firstI o2
        have HNb2 : Hid (∀ w1, PK w0 b m s q w w1 → q.made ≤ 1000000 → Calls Tryz.prog 168 #[.pointer (some ⟨b, 0, none⟩)] w1 fun e w' => e = .returned (str F) ∧ PK w0 b m s (fresh q) w w' ∧ Kp w0 b w1 w') := fun w1 hp1 hm1 => by rw [hF]; exact HNb.out q w1 hp1 hm1
        have HQ : Hid (roundL (obj s N d) s n' (ns ++ [F]) (say q2 F firstI o2) = R1) := by rw [hF]; exact hq
        have hmq := (HMD.out q (by omega)).1
        have hq2 : q2.said.length ≤ 1000000 := by
          have h1 := hon.bu
          rw [hfw.2.2] at h1
          have := (HMD.out q2 (by omega)).2
          omega
        have HU : Hid (Wf s (say q2 F firstI o2) ∧ (say q2 F firstI o2).depth = st.depth ∧ bud s (say q2 F firstI o2) + (ns ++ [F]).length ≤ bud s st ∧ meas s (say q2 F firstI o2) < n' ∧ (Tu.ms s (say q2 F firstI o2) < Tu.ms s q)) := by
          have hrl : q.now.real = true := hon.rl
          refine ⟨s1, s2.trans (show (fresh q).depth = st.depth from hdp), ?_, ?_, ms_on hrl (by have := hfw.2.1; omega)⟩
          · have := hfw.2.2
            simp
            omega
          · have := hfw.2.1
            omega
        have hnl : ns.length ≤ 200000 := by omega
        clear hp hns ht hq hm HTn HTy HOj hJ hob hfw hwf hdp hbu hon hF s1 s2 s3 s4 HNb
        go_wp2_with fail
        refine HT.out.mono ?_
        rintro e w3 ⟨rfl, hp3, hk3⟩
        go_wp2_with fail
        refine (HNb2.out w3 hp3 (by omega)).mono ?_
        rintro e w4 ⟨rfl, hp4, hk4⟩
        go_wp2_with fail
        refine (HJ.out _ hp4).mono ?_
        rintro e w5 ⟨rfl, hp5, hk5⟩
        go_wp2_with fail
        refine (HSay.out _ _ _ _ _ hp5 hq2).mono ?_
        rintro e w6 ⟨rfl, hp6, hk6⟩
        have HN6 : Hid (Ns b w.heap.size ns (.slice ad ln cp) w6) := HNs.out.on hw0 (hk3.trans (hk4.trans (hk5.trans hk6)))
        have HP6 : Hid (PK w0 b m s (say q2 F firstI o2) w w6) := hp6
        have hownA : (w6.alloc (.cells #[str F] 9)).ownsRow w.heap.size 9 1 (.slice ad ln cp) ns.length (ns.map str) := own_same HN6.out.own fun g hg hlt => Below.heap_alloc _ _ _ hlt
        have hnews : ∀ (j : Nat) (u : Value), [str F][j]? = some u → (w6.alloc (.cells #[str F] 9)).cell? ((⟨w6.heap.size, 0, none⟩ : Addr).add j) = some u := by
          intro j u hj
          have hh : (w6.alloc (.cells #[str F] 9)).heap[w6.heap.size]? = some (.cells #[str F] 9) := heap_new _ _
          rw [show (⟨w6.heap.size, 0, none⟩ : Addr).add j = ⟨w6.heap.size, 0 + j, none⟩ by unfold Addr.add; split <;> simp_all, Lib.cell_of_heap hh, Nat.zero_add]
          simpa using hj
        have hbs : w.heap.size ≤ (w6.alloc (.cells #[str F] 9)).heap.size := by have := hp6.2.sz; simp; omega
        clear hp3 hk3 hp4 hk4 hp5 hk5 hp6 hk6 HT HJ HNb2 HSay
        go_wp2_with (first | (at_builtin; refine wpList_append_lies _ (by rfl) _ _ _ (by rfl) w.heap.size 9 i0 _ 1 16 Tryz.underlying143 hi hz0 hz1 hz2 rfl (by omega) (.slice ad ln cp) ns.length (ns.map str) (by rfl) hownA ⟨w6.heap.size, 0, none⟩ 1 1 [str F] (by rfl) (by rfl) hnews (by simp [Value.oneCell']) (by omega) (by unfold maxLen; omega) (by omega) hbs _ rfl ?_; intro g cap w8 hown8 hgr8 hat8 hlt8; have HG8 : Hid (PK w0 b m s (say q2 F firstI o2) w w8 ∧ Ns b w.heap.size (ns ++ [F]) (.slice (some ⟨g, 0, none⟩) (ns.length + 1) cap) w8) := (Ns.grow HP6.out HN6.out hw0 hown8 hgr8 hat8 (by simp)); clear hown8 hgr8 hat8))
        go_roundw
        case rel => exact ⟨n', _, _, _, _, _, rfl, HG8.out.1, HG8.out.2, HQ.out, HU.out.2.2.2.1, HU.out.1, HU.out.2.1, HU.out.2.2.1⟩
        case measure => rw [HG8.out.1.1.ms, HMq.out]; exact HU.out.2.2.2.2
    | true =>
      have HT : Hid (Calls Tryz.prog 97 #[.pointer (some ⟨b, 0, none⟩), .int .u8 41] wr fun e w' => e = .returned (.bool true) ∧ PK w0 b m s (step s q) w w' ∧ Kp w0 b wr w') := HTy.out q wr hp ht
      rw [roundL_yes ht] at hq
      have HQ : Hid (R1 = .ok ns (step s q)) := hq.symm
      have hnl : ns.length ≤ 200000 := by omega
      have hon := On.of_step hwf (takes_real ht).1
      have hq1 : (step s q).said.length ≤ 200000 := (HMD.out (step s q) (by have := hon.bu; omega)).2
      obtain ⟨q1, hq1e⟩ : ∃ q1, q1 = step s q := ⟨_, rfl⟩
      rw [← hq1e] at HT HQ hq1
      clear hp hns ht hq hm HTn HTy HOj hwf hdp hbu hon hq1e HNb
      go_wp2_with fail
      refine HT.out.mono ?_
      rintro e w3 ⟨rfl, hp3, hk3⟩
      have HN6 : Hid (Ns b w.heap.size ns (.slice ad ln cp) w3) := HNs.out.on hw0 hk3
      have HP6 : Hid (PK w0 b m s q1 w w3) := hp3
      have hownA : (w3.alloc (.cells #[.string ⟨#[60, 104, 116, 116, 112, 58, 47, 47, 119, 119, 119, 46, 119, 51, 46, 111, 114, 103, 47, 49, 57, 57, 57, 47, 48, 50, 47, 50, 50, 45, 114, 100, 102, 45, 115, 121, 110, 116, 97, 120, 45, 110, 115, 35, 110, 105, 108, 62]⟩] 9)).ownsRow w.heap.size 9 1 (.slice ad ln cp) ns.length (ns.map str) := own_same HN6.out.own fun g hg hlt => Below.heap_alloc _ _ _ hlt
      have hnews : ∀ (j : Nat) (u : Value), [.string ⟨#[60, 104, 116, 116, 112, 58, 47, 47, 119, 119, 119, 46, 119, 51, 46, 111, 114, 103, 47, 49, 57, 57, 57, 47, 48, 50, 47, 50, 50, 45, 114, 100, 102, 45, 115, 121, 110, 116, 97, 120, 45, 110, 115, 35, 110, 105, 108, 62]⟩][j]? = some u → (w3.alloc (.cells #[.string ⟨#[60, 104, 116, 116, 112, 58, 47, 47, 119, 119, 119, 46, 119, 51, 46, 111, 114, 103, 47, 49, 57, 57, 57, 47, 48, 50, 47, 50, 50, 45, 114, 100, 102, 45, 115, 121, 110, 116, 97, 120, 45, 110, 115, 35, 110, 105, 108, 62]⟩] 9)).cell? ((⟨w3.heap.size, 0, none⟩ : Addr).add j) = some u := by
        intro j u hj
        have hh : (w3.alloc (.cells #[.string ⟨#[60, 104, 116, 116, 112, 58, 47, 47, 119, 119, 119, 46, 119, 51, 46, 111, 114, 103, 47, 49, 57, 57, 57, 47, 48, 50, 47, 50, 50, 45, 114, 100, 102, 45, 115, 121, 110, 116, 97, 120, 45, 110, 115, 35, 110, 105, 108, 62]⟩] 9)).heap[w3.heap.size]? = some (.cells #[.string ⟨#[60, 104, 116, 116, 112, 58, 47, 47, 119, 119, 119, 46, 119, 51, 46, 111, 114, 103, 47, 49, 57, 57, 57, 47, 48, 50, 47, 50, 50, 45, 114, 100, 102, 45, 115, 121, 110, 116, 97, 120, 45, 110, 115, 35, 110, 105, 108, 62]⟩] 9) := heap_new _ _
        rw [show (⟨w3.heap.size, 0, none⟩ : Addr).add j = ⟨w3.heap.size, 0 + j, none⟩ by unfold Addr.add; split <;> simp_all, Lib.cell_of_heap hh, Nat.zero_add]
        simpa using hj
      have hbs : w.heap.size ≤ (w3.alloc (.cells #[.string ⟨#[60, 104, 116, 116, 112, 58, 47, 47, 119, 119, 119, 46, 119, 51, 46, 111, 114, 103, 47, 49, 57, 57, 57, 47, 48, 50, 47, 50, 50, 45, 114, 100, 102, 45, 115, 121, 110, 116, 97, 120, 45, 110, 115, 35, 110, 105, 108, 62]⟩] 9)).heap.size := by have := hp3.2.sz; simp; omega
      clear hp3 hk3 HT
      go_wp2_with (first | (at_builtin; refine wpList_append_lies _ (by rfl) _ _ _ (by rfl) w.heap.size 9 i0 _ 1 16 Tryz.underlying143 hi hz0 hz1 hz2 rfl (by omega) (.slice ad ln cp) ns.length (ns.map str) (by rfl) hownA ⟨w3.heap.size, 0, none⟩ 1 1 [.string ⟨#[60, 104, 116, 116, 112, 58, 47, 47, 119, 119, 119, 46, 119, 51, 46, 111, 114, 103, 47, 49, 57, 57, 57, 47, 48, 50, 47, 50, 50, 45, 114, 100, 102, 45, 115, 121, 110, 116, 97, 120, 45, 110, 115, 35, 110, 105, 108, 62]⟩] (by rfl) (by rfl) hnews (by simp [Value.oneCell']) (by omega) (by unfold maxLen; omega) (by omega) hbs _ rfl ?_; intro g cap w8 hown8 hgr8 hat8 hlt8; have HG8 : Hid (PK w0 b m s q1 w w8 ∧ Ns b w.heap.size (ns ++ [nilI]) (.slice (some ⟨g, 0, none⟩) (ns.length + 1) cap) w8) := (Ns.grow HP6.out HN6.out hw0 hown8 hgr8 hat8 (by simp)); clear hown8 hgr8 hat8))
      all_goals
        have hcap : ns.length + 1 ≤ cap := by have := HG8.out.2.cap; simpa using this.2
        go_loopw [27] (fun t wr => ∃ i : Nat, i ≤ ns.length ∧ t = .int .i64 i ∧ PK w0 b m s (linked q1 (ns ++ [nilI]) i) w wr ∧ Kp w0 b w8 wr) (fun t _ => ns.length - (intOf t).toNat)
        case atStart => exact ⟨0, Nat.zero_le _, rfl, by have := HG8.out.1; unfold linked; simpa using this, Kp.refl _ _ _⟩
        case round =>
          obtain ⟨i, hil, rfl, hp, hk⟩ := hrel
          have HPi : Hid (PK w0 b m s (linked q1 (ns ++ [nilI]) i) w wr) := hp
          have HKi : Hid (Kp w0 b w8 wr) := hk
          by_cases hlt : i < ns.length
          · first
            | (exfalso; omega)
            | (
              obtain ⟨a, ha⟩ : ∃ a, (ns ++ [nilI])[i]? = some a := ⟨_, List.getElem?_eq_getElem (by simp; omega)⟩
              obtain ⟨c, hc⟩ : ∃ c, (ns ++ [nilI])[i + 1]? = some c := ⟨_, List.getElem?_eq_getElem (by simp; omega)⟩
              have d1 : wr.cell? ⟨g, i, none⟩ = some (str a) := HG8.out.2.cell hw0 hk ha
              have d2 : wr.cell? ⟨g, i + 1, none⟩ = some (str c) := HG8.out.2.cell hw0 hk hc
              have d3 : wr.cell? ⟨g, 1 + i, none⟩ = some (str c) := by rw [Nat.add_comm]; exact d2
              have hls : (linked q1 (ns ++ [nilI]) i).said.length ≤ 1000000 := by
                have : ((chain (ns ++ [nilI])).take i).length ≤ 200000 := by rw [List.length_take, chain_len]; omega
                simp
                simp at this
                omega
              have HS : Hid (Calls Tryz.prog 164 #[.pointer (some ⟨b, 0, none⟩), str a, .string ⟨#[60, 104, 116, 116, 112, 58, 47, 47, 119, 119, 119, 46, 119, 51, 46, 111, 114, 103, 47, 49, 57, 57, 57, 47, 48, 50, 47, 50, 50, 45, 114, 100, 102, 45, 115, 121, 110, 116, 97, 120, 45, 110, 115, 35, 114, 101, 115, 116, 62]⟩, str c] wr fun e w' => e = .returned (.tuple #[]) ∧ PK w0 b m s (linked q1 (ns ++ [nilI]) (i + 1)) w w' ∧ Kp w0 b w8 w') := (HSay.out _ wr a restI c hp hls).mono fun e w' k => ⟨k.1, by rw [← linked_step ha hc]; exact k.2.1, hk.trans k.2.2⟩
              clear hp hk ha hc hls
              go_wp2_with fail
              refine HS.out.mono ?_
              rintro e w9 ⟨rfl, hp9, hk9⟩
              go_wp2_with fail
              go_roundw
              case rel => exact ⟨i + 1, by omega, by go_num, hp9, hk9⟩
              case measure => simp [intOf]; omega)
          · have hie : i = ns.length := by omega
            obtain ⟨Hd, hHd⟩ : ∃ Hd, Hd = ns.headD nilI := ⟨_, rfl⟩
            have d0 : wr.cell? ⟨g, 0, none⟩ = some (str Hd) := HG8.out.2.cell hw0 hk (by rw [hHd]; cases ns <;> rfl)
            have HHd : Hid (roundE (.ok ns q1) = .ok Hd { q1 with said := q1.said ++ chain (ns ++ [nilI]) }) := by unfold Hid; rw [hHd]; rfl
            have HF : Hid (PK w0 b m s { q1 with said := q1.said ++ chain (ns ++ [nilI]) } w wr) := by
              unfold Hid
              rw [← linked_all, ← hie]
              exact hp
            clear hp hk hie hHd
            go_wp2
            go_ret
            rw [HQ.out, HHd.out]
            exact ⟨rfl, HF.out⟩

end Tu
end Go.Proofs.YtnffjoipinhojabGreatDoor

set_option linter.unusedSimpArgs false
set_option linter.unusedVariables false
namespace Go.Proofs.YtnffjoipinhojabGreatDoor
open Go.RowKit
namespace Tu

abbrev deeper (st : St) : St := { st with depth := st.depth + 1 }
abbrev higher (st : St) : St := { st with depth := st.depth - 1 }

theorem Pz.depth {w0 w : World} {b m : Nat} {s : ByteArray} {st : St} (h : Pz w0 b m s st w) (d : Nat) : PK w0 b m s { st with depth := d } w (w.setCell ⟨b, 4, none⟩ (.int .i64 d)) := by
  obtain ⟨k, v, hh, hk, ho⟩ := h.blk
  refine h.turn (k := k) (k' := k) (v := v) hh hk rfl rfl ⟨h.wf.le, h.wf.tk, h.wf.nm⟩ ho ?_ ?_ ⟨rfl, rfl, rfl⟩ (by simp)
  · rw [setCell_blk hh]
    rfl
  · intro g hg hgb
    exact Below.heap_setCell _ _ _ _ hgb

set_option maxHeartbeats 2000000 in
set_option maxRecDepth 20000 in
theorem nest_deep (w0 w : World) (b m g : Nat) (s : ByteArray) (st : St) (h : Pz w0 b m s st w) (hn : Sg.isNone st.now = false) (hd : st.depth = 8) :
    Calls Tryz.prog 100 #[.pointer (some ⟨b, 0, none⟩), .func (.func g) #[.pointer (some ⟨b, 0, none⟩)] #[]] w (PBad w0 b m 11 st.p) := by
  obtain ⟨c2, c3, c4, c5, fz⟩ := h.cell
  obtain ⟨T, v, htv, hme⟩ := meth_start hn st.p
  have e0 := enters_of Tryz.func167 (by kernel_rfl) rfl
  rw [htv] at c2
  rw [hd] at c4
  have HZ : Hid (Pz w0 b m s st w) := h
  clear h hn htv hd
  go_enter Tryz.func100, Tryz.ntmps100
  go_wp2_with fail
  refine (start_any _ _).mono ?_
  rintro e w1 ⟨rfl, rfl⟩
  go_wp2_with fail
  refine (Refuse_any _ _ _).mono ?_
  rintro e w2 ⟨rfl, rfl⟩
  exact ⟨rfl, rfl, HZ.out.fq⟩

set_option maxHeartbeats 2000000 in
set_option maxRecDepth 20000 in
theorem nest_any (w0 w : World) (b m g : Nat) (s : ByteArray) (st : St) (inner : St → PR (List UInt8)) (h : Pz w0 b m s st w) (hT : Tabs w0) (hn : Sg.isNone st.now = false) (hd8 : st.depth ≤ 8) (hbk : st.now.isBrk = false)
    (eg : ∀ args w, (callFunc g args).run Tryz.prog w = .ok (.enter g args) w)
    (hI : st.depth ≠ 8 → ∀ w1, PK w0 b m s (step s (deeper st)) w w1 → Calls Tryz.prog g #[.pointer (some ⟨b, 0, none⟩)] w1 (PRes w0 b m s w1 str (inner (step s (deeper st)))))
    (hdp : ∀ l st2, inner (step s (deeper st)) = .ok l st2 → st2.depth = st.depth + 1) :
    Calls Tryz.prog 100 #[.pointer (some ⟨b, 0, none⟩), .func (.func g) #[.pointer (some ⟨b, 0, none⟩)] #[]] w (PRes w0 b m s w str (nest inner s st)) := by
  by_cases hd : st.depth = 8
  · have e : nest inner s st = .bad 11 st.p := by unfold nest; rw [if_pos hd]
    rw [e]
    exact nest_deep w0 w b m g s st h hn hd
  · have hI := hI hd
    obtain ⟨c2, c3, c4, c5, fz⟩ := h.cell
    have f4 := fz 4
    have HD : Hid (PK w0 b m s (deeper st) w (w.setCell ⟨b, 4, none⟩ (.int .i64 ((st.depth : Int) + 1)))) := h.depth (st.depth + 1)
    have HS : Hid (∀ w1, PK w0 b m s (deeper st) w w1 → Calls Tryz.prog 55 #[.pointer (some ⟨b, 0, none⟩)] w1 fun e w' => e = .returned (.tuple #[]) ∧ PK w0 b m s (step s (deeper st)) w w') := fun w1 h1 => stepK h1 hT hbk
    have hne : ¬ ((st.depth : Int) = 8) := by omega
    cases hin : inner (step s (deeper st)) with
    | bad n j =>
      have HE : Hid (nest inner s st = .bad n j) := by unfold Hid nest; rw [if_neg hd, hin]
      rw [hin] at hI
      have HI : Hid (∀ w1, PK w0 b m s (step s (deeper st)) w w1 → Calls Tryz.prog g #[.pointer (some ⟨b, 0, none⟩)] w1 fun e w' => e = stopE n j ∧ Fq w0 b m w') := hI
      rw [HE.out]
      clear hI hin h hT hn hd hdp HE c2 c3 c5 fz hbk
      go_enter Tryz.func100, Tryz.ntmps100
      go_wp2_with fail
      refine (HS.out _ HD.out).mono ?_
      rintro e w1 ⟨rfl, hp1⟩
      go_wp2_with fail
      refine (HI.out _ hp1).mono ?_
      rintro e w2 ⟨rfl, hf⟩
      exact ⟨rfl, rfl, hf⟩
    | ok l st2 =>
      have HE : Hid (nest inner s st = .ok l (higher st2)) := by unfold Hid nest; rw [if_neg hd, hin]
      have hd2 := hdp l st2 hin
      rw [hin] at hI
      have HI : Hid (∀ w1, PK w0 b m s (step s (deeper st)) w w1 → Calls Tryz.prog g #[.pointer (some ⟨b, 0, none⟩)] w1 fun e w' => e = .returned (str l) ∧ PK w0 b m s st2 w w') := fun w1 h1 => (hI w1 h1).mono fun e w' k => ⟨k.1, h1.on k.2⟩
      have HC : Hid (∀ w1, PK w0 b m s st2 w w1 → w1.cell? ⟨b, 4, none⟩ = some (.int .i64 ((st.depth : Int) + 1)) ∧ w1.frozen? ⟨b, 4, none⟩ = false ∧ PK w0 b m s (higher st2) w (w1.setCell ⟨b, 4, none⟩ (.int .i64 st.depth))) := fun w1 h1 => by
        obtain ⟨_, _, d4, _, dz⟩ := h1.1.cell
        rw [hd2] at d4
        refine ⟨d4, dz 4, ?_⟩
        have := h1.on (h1.1.depth (st2.depth - 1))
        rw [show st2.depth - 1 = st.depth by omega] at this
        unfold higher
        rw [show st2.depth - 1 = st.depth by omega]
        exact this
      rw [HE.out]
      clear hI hin h hT hn hd hdp HE c2 c3 c5 fz hbk hd2
      go_enter Tryz.func100, Tryz.ntmps100
      go_wp2_with fail
      refine (HS.out _ HD.out).mono ?_
      rintro e w1 ⟨rfl, hp1⟩
      go_wp2_with fail
      refine (HI.out _ hp1).mono ?_
      rintro e w2 ⟨rfl, hp2⟩
      obtain ⟨d4, d5, hp3⟩ := HC.out w2 hp2
      go_wp2
      go_ret
      exact ⟨rfl, hp3⟩

end Tu
end Go.Proofs.YtnffjoipinhojabGreatDoor

