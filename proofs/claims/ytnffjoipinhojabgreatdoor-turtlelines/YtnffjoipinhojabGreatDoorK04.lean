import Derived.Test.YtnffjoipinhojabGreatDoorK03
set_option linter.unusedSimpArgs false
set_option linter.unusedVariables false
namespace Go.Proofs.YtnffjoipinhojabGreatDoor
open Go.RowKit

theorem asc_yes {p : Int → Bool} (hp : ∀ c, p c = true → 0 ≤ c ∧ c < 128) {s : ByteArray} {j : Nat} (h : p (bt s j) = true) : chr s j = ((bt s j).toNat, 1) ∧ p ((chr s j).1 : Nat) = true := by
  have := hp _ h
  have e := chr_ascii (s := s) (i := j) (by omega)
  refine ⟨e, ?_⟩
  rw [e]
  simp only
  rw [show (((bt s j).toNat : Nat) : Int) = bt s j by omega]
  exact h

theorem asc_no {p : Int → Bool} (hp : ∀ c, p c = true → 0 ≤ c ∧ c < 128) {s : ByteArray} {j : Nat} (h : p (bt s j) = false) : ¬ ((chr s j).2 ≠ 0 ∧ p ((chr s j).1 : Nat) = true) := by
  rintro ⟨h1, h2⟩
  have hc := chr_code h1
  have hl := hp _ h2
  have hr := bt_range s j
  by_cases hb : bt s j < 128
  · have e := chr_ascii hb
    rw [e] at h2
    simp only at h2
    rw [show (((bt s j).toNat : Nat) : Int) = bt s j by omega] at h2
    rw [h2] at h
    cases h
  · have := hc.2.2.1 (by omega)
    omega

theorem Tabs.adv {w w' : World} {b j : Nat} (h : Tabs w) (ha : Adv b j w w') (hb : 8 ≤ b) (hl : b < w.heap.size) : Tabs w' :=
  h.below (B := b) (ha.below (Nat.le_refl _) (by omega)) (by omega) (by omega)

set_option maxHeartbeats 1000000 in
theorem some_ok (w : World) (b i most : Nat) (s : ByteArray) (h : Rd w b s i) (hT : Tabs w) (g : Nat) (lb : Array Value) (p : Int → Bool) (lo hi : Nat) (hp : IsSet g lb p lo hi w)
    (ha : ∀ c, p c = true → 0 ≤ c ∧ c < 128) (hb4 : 8 ≤ b) (hbl : b < lo ∨ hi ≤ b) (hm0 : 1 ≤ most) (hm : most ≤ 1000) (h1 : p (bt s i) = true) :
    Calls Tryz.prog 196 #[.pointer (some ⟨b, 0, none⟩), fnV g lb, .int .i64 most] w fun e w' => e = .returned (.tuple #[]) ∧ Adv b (i + run p s most i) w w' := by
  obtain ⟨e1, e2⟩ := asc_yes ha h1
  have hW := wants_yes w b i s h hT g lb p lo hi hp (by rw [e1]; exact Nat.one_ne_zero) e2
  rw [e1] at hW
  simp only at hW
  have hi0 : i < s.size := bt_lt_size (by have := ha _ h1; omega)
  have H : Hid (Rd w b s i) := h
  have HT : Hid (Tabs w) := hT
  have HP : Hid (IsSet g lb p lo hi w) := hp
  have HW : Hid (Calls Tryz.prog 127 #[.pointer (some ⟨b, 0, none⟩), fnV g lb] w fun e w' => e = .returned (.int .i32 (((bt s i).toNat : Nat) : Int)) ∧ Adv b (i + 1) w w') := hW
  have HR : Hid (run p s most i = 1 + run p s (most - 1) (i + 1)) := by
    obtain ⟨m, rfl⟩ : ∃ m, most = m + 1 := ⟨most - 1, by omega⟩
    simp only [Hid, run, h1, if_true, Nat.add_sub_cancel]
    omega
  have HA : Hid (∀ c, p c = true → 0 ≤ c ∧ c < 128) := ha
  have hbw := h.lt
  clear hW e1 e2 h1 hp hT h ha
  go_enter Tryz.func196, Tryz.ntmps196
  go_wp2_with (go_at_call 127; refine HW.out.mono ?_; rintro e w1 ⟨rfl, hA1⟩)
  go_loopw [13] (fun t wr => ∃ q : Nat, q + 1 ≤ most ∧ t = .int .i64 q ∧ Adv b (i + 1 + q) w wr ∧ i + 1 + q ≤ s.size ∧ run p s most i = 1 + q + run p s (most - 1 - q) (i + 1 + q)) (fun t _ => most - (intOf t).toNat)
  case atStart => exact ⟨0, by omega, rfl, hA1, by omega, by rw [HR.out]; simp⟩
  case round =>
    obtain ⟨q, hq, rfl, hA, hqs, hr⟩ := hrel
    have HQ : Hid (run p s most i = 1 + q + run p s (most - 1 - q) (i + 1 + q)) := hr
    have hRd := H.out.adv hA hqs
    have hTb := HT.out.adv hA hb4 hbw
    have hSet := HP.out.adv hA hbl
    have HAd : Hid (Adv b (i + 1 + q) w wr) := hA
    clear hr hA
    by_cases hlt : q + 1 < most
    · cases hpb : p (bt s (i + 1 + q)) with
      | true =>
        obtain ⟨e1, e2⟩ := asc_yes HA.out hpb
        have hK := takes_yes wr b (i + 1 + q) s hRd hTb g lb p lo hi hSet (by rw [e1]; exact Nat.one_ne_zero) e2
        rw [e1] at hK
        simp only at hK
        have hi1 : i + 1 + q < s.size := bt_lt_size (by have := HA.out _ hpb; omega)
        have HR1 : Hid (run p s (most - 1 - q) (i + 1 + q) = run p s (most - 1 - (q + 1)) (i + 1 + (q + 1)) + 1) := by
          obtain ⟨m, hm1⟩ : ∃ m, most - 1 - q = m + 1 := ⟨most - 1 - q - 1, by omega⟩
          have hm2 : most - 1 - (q + 1) = m := by omega
          rw [hm1, hm2]
          simp only [Hid, run, hpb, if_true]
          rfl
        have HK : Hid (Calls Tryz.prog 179 #[.pointer (some ⟨b, 0, none⟩), fnV g lb] wr fun e w' => e = .returned (.tuple #[.int .i32 (((bt s (i + 1 + q)).toNat : Nat) : Int), .bool true]) ∧ Adv b (i + 1 + q + 1) wr w') := hK
        clear hK e1 e2 hpb hRd hTb hSet
        go_wp2_with (go_at_call 179; refine HK.out.mono ?_; rintro e w2 ⟨rfl, hA2⟩)
        go_roundw
        case rel => exact ⟨q + 1, by omega, by go_num, HAd.out.trans hA2, by omega, by rw [HQ.out, HR1.out]; omega⟩
        case measure => simp [intOf]; omega
      | false =>
        have hK := takes_no wr b (i + 1 + q) s hRd hTb g lb p lo hi hSet (asc_no HA.out hpb)
        have HR1 : Hid (run p s (most - 1 - q) (i + 1 + q) = 0) := by
          obtain ⟨m, hm1⟩ : ∃ m, most - 1 - q = m + 1 := ⟨most - 1 - q - 1, by omega⟩
          rw [hm1]
          simp [Hid, run, hpb]
        have hAN := HAd.out
        clear hpb hTb hSet
        go_wp2_with (go_at_call 179; refine hK.mono ?_; rintro e w2 ⟨rfl, hB2⟩)
        refine bodyPost_ret (results_none rfl _ _ _) rfl ?_
        refine ⟨rfl, ?_⟩
        rw [HQ.out, HR1.out, show i + (1 + q + 0) = i + 1 + q by omega]
        exact hAN.then_below hB2
    · have HR1 : Hid (run p s (most - 1 - q) (i + 1 + q) = 0) := by
        rw [show most - 1 - q = 0 by omega]
        simp [Hid, run]
      clear hRd hTb hSet
      go_wp2
      go_end0
      refine ⟨rfl, ?_⟩
      rw [HQ.out, HR1.out, show i + (1 + q + 0) = i + 1 + q by omega]
      exact HAd.out

theorem some_bad (w : World) (b i most : Nat) (s : ByteArray) (h : Rd w b s i) (hT : Tabs w) (g : Nat) (lb : Array Value) (p : Int → Bool) (lo hi : Nat) (hp : IsSet g lb p lo hi w)
    (ha : ∀ c, p c = true → 0 ≤ c ∧ c < 128) (h1 : p (bt s i) = false) :
    Calls Tryz.prog 196 #[.pointer (some ⟨b, 0, none⟩), fnV g lb, .int .i64 most] w fun e w' => e = stopE 2 i ∧ Adv b i w w' := by
  have hW := wants_no w b i s h hT g lb p lo hi hp (asc_no ha h1)
  clear h1 hp hT h ha
  go_enter Tryz.func196, Tryz.ntmps196
  go_wp2_with (go_at_call 127; refine hW.mono ?_; rintro e w1 ⟨rfl, hA1⟩)
  exact ⟨rfl, rfl, hA1⟩
end Go.Proofs.YtnffjoipinhojabGreatDoor

set_option linter.unusedSimpArgs false
set_option linter.unusedVariables false
namespace Go.Proofs.YtnffjoipinhojabGreatDoor
open Go.RowKit

abbrev str (l : List UInt8) : Value := .string ⟨l.toArray⟩

def Out {α : Type} (b : Nat) (w : World) (f : α → Value) (r : R α) (e : Ending) (w' : World) : Prop :=
  match r with
  | .ok a j => e = .returned (f a) ∧ Adv b j w w'
  | .bad j => e = stopE 2 j ∧ ∃ k, Adv b k w w'

theorem mkFunc (fn : Fn) (first cap : Array Value) (w : World) : (Instr.makeFunc fn first cap).run Tryz.prog w = .ok (.func fn first cap) w := rfl

theorem str_sub (s : ByteArray) (i j : Nat) : str (sub s i j) = .string (s.extract i j) := by
  unfold str sub
  congr 1
  apply ByteArray.ext
  apply Array.toList_inj.1
  simp [List.extract_eq_take_drop]

theorem mark_any (w : World) (b i : Nat) (s : ByteArray) (h : Rd w b s i) :
    Calls Tryz.prog 125 #[.pointer (some ⟨b, 0, none⟩)] w fun e w' => e = .returned (.func (.func 178) #[] #[.pointer (some ⟨w.heap.size, 0, none⟩), .pointer (some ⟨w.heap.size + 1, 0, none⟩)])
      ∧ w' = (w.alloc (.cells #[.pointer (some ⟨b, 0, none⟩)] 127)).alloc (.cells #[.int .i64 i] 3) := by
  have hbw := h.lt
  obtain ⟨c0, c1, fz, le, hs⟩ := h
  have c1' : (w.alloc (.cells #[.pointer (some ⟨b, 0, none⟩)] 127)).cell? ⟨b, 1, none⟩ = some (.int .i64 i) := by
    rw [World.cell?_alloc_lt _ _ ⟨b, 1, none⟩ hbw]; exact c1
  have hmf := mkFunc
  go_enter Tryz.func125, Tryz.ntmps125
  go_wp2
  go_ret
  exact ⟨rfl, rfl⟩

theorem since_any (w : World) (b i j k0 k1 : Nat) (s : ByteArray) (h : Rd w b s j) (hij : i ≤ j) (h0 : w.cell? ⟨k0, 0, none⟩ = some (.pointer (some ⟨b, 0, none⟩))) (h1 : w.cell? ⟨k1, 0, none⟩ = some (.int .i64 i)) :
    Calls Tryz.prog 178 #[.pointer (some ⟨k0, 0, none⟩), .pointer (some ⟨k1, 0, none⟩)] w fun e w' => e = .returned (str (sub s i j)) ∧ Below w.heap.size w w' := by
  obtain ⟨c0, c1, fz, le, hs⟩ := h
  rw [str_sub]
  go_enter Tryz.func178, Tryz.ntmps178
  go_wp2
  go_quiet (fail)
  go_wp2
  go_ret
  exact ⟨rfl, below_drewN (Below.refl _ _) _⟩

theorem either_any (w : World) (v : Value) (ad : Option Addr) (n c : Nat) (hv : v = .slice ad n c) :
    Calls Tryz.prog 120 #[v] w fun e w' => e = .returned (fnV 174 #[.pointer (some ⟨w.heap.size, 0, none⟩)]) ∧ w' = w.alloc (.cells #[v] 234) := by
  subst hv
  have hmf := mkFunc
  go_enter Tryz.func120, Tryz.ntmps120
  go_wp2
  go_ret
  exact ⟨rfl, rfl⟩

theorem oneOf_any (w : World) (s : ByteArray) :
    Calls Tryz.prog 122 #[.string s] w fun e w' => e = .returned (fnV 175 #[.pointer (some ⟨w.heap.size, 0, none⟩)]) ∧ w' = w.alloc (.cells #[.string s] 9) := by
  have hmf := mkFunc
  go_enter Tryz.func122, Tryz.ntmps122
  go_wp2
  go_ret
  exact ⟨rfl, rfl⟩

theorem not_any (w : World) (g : Nat) (lb : Array Value) :
    Calls Tryz.prog 123 #[fnV g lb] w fun e w' => e = .returned (fnV 177 #[.pointer (some ⟨w.heap.size, 0, none⟩)]) ∧ w' = w.alloc (.cells #[fnV g lb] 182) := by
  have hmf := mkFunc
  go_enter Tryz.func123, Tryz.ntmps123
  go_wp2
  go_ret
  exact ⟨rfl, rfl⟩

/-- either(letter, digit), as it stands behind its making -/
def alW (u : World) : World := (u.alloc (.cells #[fnV 116 #[], fnV 121 #[]] 182)).alloc (.cells #[.slice (some ⟨u.heap.size, 0, none⟩) 2 2] 234)

theorem alW_below (u : World) : Below u.heap.size u (alW u) := ((Below.refl _ u).alloc (Nat.le_refl _) _).alloc (by simp) _

theorem set_alnum (u : World) : IsSet 174 #[.pointer (some ⟨u.heap.size + 1, 0, none⟩)] alnum u.heap.size (u.heap.size + 2) (alW u) := by
  have h := set_either (alW u) (u.heap.size + 1) u.heap.size 2 2 [⟨116, #[], letter⟩, ⟨121, #[], digit⟩] u.heap.size (u.heap.size + 2) rfl (by omega)
    (fun x hx => by
      simp only [List.mem_cons, List.not_mem_nil, or_false] at hx
      rcases hx with rfl | rfl
      · have := set_letter (alW u)
        exact ⟨this.en, by simp [alW], fun w _ _ => this.at' w (fun k a b => by omega) (Nat.zero_le _)⟩
      · have := set_digit (alW u)
        exact ⟨this.en, by simp [alW], fun w _ _ => this.at' w (fun k a b => by omega) (Nat.zero_le _)⟩)
    (by omega) (by omega) (by omega) (by omega) (by simp [alW]) (by rw [alW, World.cell?_alloc_at _ _ _ _ (by simp)]; rfl) (by omega)
    (fun j x hj => by
      rw [alW, World.cell?_alloc_lt _ _ _ (by simp)]
      match j, hj with
      | 0, hj => simp at hj; subst hj; simp
      | 1, hj => simp at hj; subst hj; simp
      | (n + 2), hj => simp at hj)
  refine ⟨h.en, h.le, fun w a b c h0 h1 => ?_⟩
  have := h.at' w a b c h0 h1
  simpa [anyP, alnum] using this

/-- What stands behind r.mark(): the world w1. -/
structure Mk (w w1 : World) (b i : Nat) (s : ByteArray) : Prop where
  call : Calls Tryz.prog 125 #[.pointer (some ⟨b, 0, none⟩)] w fun e w' => e = .returned (.func (.func 178) #[] #[.pointer (some ⟨w.heap.size, 0, none⟩), .pointer (some ⟨w.heap.size + 1, 0, none⟩)]) ∧ w' = w1
  rd : Rd w1 b s i
  tabs : Tabs w1
  adv : Adv b i w w1
  size : w1.heap.size = w.heap.size + 2
  k0 : w1.cell? ⟨w.heap.size, 0, none⟩ = some (.pointer (some ⟨b, 0, none⟩))
  k1 : w1.cell? ⟨w.heap.size + 1, 0, none⟩ = some (.int .i64 i)
  bw : b < w.heap.size
  gb : 8 ≤ b

theorem Mk.of (w : World) (b i : Nat) (s : ByteArray) (h : Rd w b s i) (hT : Tabs w) (hb4 : 8 ≤ b) : ∃ w1, Mk w w1 b i s := by
  have hB : Below w.heap.size w ((w.alloc (.cells #[.pointer (some ⟨b, 0, none⟩)] 127)).alloc (.cells #[.int .i64 i] 3)) := ((Below.refl _ w).alloc (Nat.le_refl _) _).alloc (by simp) _
  have hbw := h.lt
  exact ⟨_, mark_any w b i s h, h.below hB, hT.below hB (by omega) (by omega), h.stay hB, by simp, by rw [World.cell?_alloc_lt _ _ _ (by simp)]; simp, by rw [World.cell?_alloc_at _ _ _ _ (by simp)]; rfl, hbw, hb4⟩

theorem Mk.since {w w1 : World} {b i : Nat} {s : ByteArray} (m : Mk w w1 b i s) {j : Nat} {w' : World} (a : Adv b j w1 w') (hij : i ≤ j) (hj : j ≤ s.size) :
    Calls Tryz.prog 178 #[.pointer (some ⟨w.heap.size, 0, none⟩), .pointer (some ⟨w.heap.size + 1, 0, none⟩)] w' fun e w'' => e = .returned (str (sub s i j)) ∧ Below w'.heap.size w' w'' :=
  since_any w' b i j _ _ s (m.rd.adv a hj) hij ((a.cell (by have := m.size; omega) (by have := m.bw; omega)).trans m.k0) ((a.cell (by have := m.size; omega) (by have := m.bw; omega)).trans m.k1)

theorem run_zero {p : Int → Bool} {s : ByteArray} {k i : Nat} (hk : 0 < k) : run p s k i = 0 ↔ p (bt s i) = false := by
  obtain ⟨m, rfl⟩ : ∃ m, k = m + 1 := ⟨k - 1, by omega⟩
  simp only [run]
  cases p (bt s i) <;> simp

set_option maxHeartbeats 1000000 in
theorem blank_any (w : World) (b i : Nat) (s : ByteArray) (h : Rd w b s i) (hT : Tabs w) (hb4 : 8 ≤ b) :
    Calls Tryz.prog 155 #[.pointer (some ⟨b, 0, none⟩)] w (Out b w str (blank s i)) := by
  obtain ⟨w1, m⟩ := Mk.of w b i s h hT hb4
  have e0 := enters_of Tryz.func178 (by kernel_rfl) rfl
  have M : Hid (Mk w w1 b i s) := m
  clear m h hT
  unfold blank
  by_cases c1 : bt s i = 95
  · have hi1 := bt_in c1 (by omega)
    rw [if_neg (by simp [c1])]
    have HW : Hid (Calls Tryz.prog 126 #[.pointer (some ⟨b, 0, none⟩), .int .u8 95] w1 fun e w' => e = .returned (.tuple #[]) ∧ Adv b (i + 1) w1 w') := want_ok w1 b i s 95 M.out.rd (by omega) (by omega) c1
    clear c1
    by_cases c2 : bt s (i + 1) = 58
    · have hi2 := bt_in c2 (by omega)
      rw [if_neg (by simp [c2])]
      have HW2 : Hid (∀ w2, Adv b (i + 1) w1 w2 → Calls Tryz.prog 126 #[.pointer (some ⟨b, 0, none⟩), .int .u8 58] w2 fun e w' => e = .returned (.tuple #[]) ∧ Adv b (i + 2) w1 w') := fun w2 a =>
        (want_ok w2 b (i + 1) s 58 (M.out.rd.adv a (by omega)) (by omega) (by omega) c2).mono fun e w' k => ⟨k.1, a.trans k.2⟩
      clear c2
      by_cases c3 : run alnum s 20 (i + 2) = 0
      · rw [if_pos c3]
        have HS : Hid (∀ w3, Adv b (i + 2) w1 w3 → Calls Tryz.prog 196 #[.pointer (some ⟨b, 0, none⟩), fnV 174 #[.pointer (some ⟨w3.heap.size + 1, 0, none⟩)], .int .i64 20] (alW w3) fun e w' => e = stopE 2 (i + 2 : Nat) ∧ Adv b (i + 2) w1 w') := fun w3 a => by
          have a2 := a.then_below (alW_below w3)
          exact (some_bad (alW w3) b (i + 2) 20 s (M.out.rd.adv a2 (by omega)) (M.out.tabs.adv a2 M.out.gb M.out.rd.lt) _ _ alnum _ _ (set_alnum w3) (fun c => alnum_lt) ((run_zero (by omega)).1 c3)).mono fun e w' k => ⟨k.1, a2.trans k.2⟩
        clear c3
        go_enter Tryz.func155, Tryz.ntmps155
        go_wp2_with fail
        refine M.out.call.mono ?_
        rintro e w' ⟨rfl, rfl⟩
        go_wp2_with fail
        refine HW.out.mono ?_
        rintro e w2 ⟨rfl, hA2⟩
        go_wp2_with fail
        refine (HW2.out _ hA2).mono ?_
        rintro e w3 ⟨rfl, hA3⟩
        go_wp2_with fail
        refine (either_any _ _ _ _ _ rfl).mono ?_
        rintro e w4 ⟨rfl, rfl⟩
        go_wp2_with fail
        refine (HS.out _ hA3).mono ?_
        rintro e w5 ⟨rfl, hA5⟩
        go_wp2_with fail
        exact ⟨rfl, rfl, _, M.out.adv.trans hA5⟩
      · rw [if_neg c3]
        have hp : alnum (bt s (i + 2)) = true := by
          cases hq : alnum (bt s (i + 2)) with
          | true => rfl
          | false => exact absurd ((run_zero (by omega)).2 hq) c3
        have hle := (run_le alnum (fun c hc => by have := alnum_lt hc; omega) s 20 (i + 2)).2
        obtain ⟨r, hr⟩ : ∃ r, r = run alnum s 20 (i + 2) := ⟨_, rfl⟩
        rw [← hr] at hle c3
        have HS : Hid (∀ w3, Adv b (i + 2) w1 w3 → Calls Tryz.prog 196 #[.pointer (some ⟨b, 0, none⟩), fnV 174 #[.pointer (some ⟨w3.heap.size + 1, 0, none⟩)], .int .i64 20] (alW w3) fun e w' => e = .returned (.tuple #[]) ∧ Adv b (i + 2 + r) w1 w') := fun w3 a => by
          have a2 := a.then_below (alW_below w3)
          have hb := M.out.rd.lt
          have := a.size
          rw [hr]
          exact (some_ok (alW w3) b (i + 2) 20 s (M.out.rd.adv a2 (by omega)) (M.out.tabs.adv a2 M.out.gb M.out.rd.lt) _ _ alnum _ _ (set_alnum w3) (fun c => alnum_lt) M.out.gb (.inl (by omega)) (by omega) (by omega) hp).mono fun e w' k => ⟨k.1, a2.trans k.2⟩
        rw [← hr]
        clear hp hr
        go_enter Tryz.func155, Tryz.ntmps155
        go_wp2_with fail
        refine M.out.call.mono ?_
        rintro e w' ⟨rfl, rfl⟩
        go_wp2_with fail
        refine HW.out.mono ?_
        rintro e w2 ⟨rfl, hA2⟩
        go_wp2_with fail
        refine (HW2.out _ hA2).mono ?_
        rintro e w3 ⟨rfl, hA3⟩
        go_wp2_with fail
        refine (either_any _ _ _ _ _ rfl).mono ?_
        rintro e w4 ⟨rfl, rfl⟩
        go_wp2_with fail
        refine (HS.out _ hA3).mono ?_
        rintro e w5 ⟨rfl, hA5⟩
        go_wp2_with fail
        refine (M.out.since hA5 (by omega) (by omega)).mono ?_
        rintro e w6 ⟨rfl, hB6⟩
        go_wp2_with fail
        go_ret
        exact ⟨rfl, M.out.adv.trans (hA5.then_below hB6)⟩
    · rw [if_pos c2]
      have HW2 : Hid (∀ w2, Adv b (i + 1) w1 w2 → Calls Tryz.prog 126 #[.pointer (some ⟨b, 0, none⟩), .int .u8 58] w2 fun e w' => e = stopE 2 (i + 1 : Nat) ∧ Adv b (i + 1) w1 w') := fun w2 a =>
        (want_bad w2 b (i + 1) s 58 (M.out.rd.adv a (by omega)) (by omega) (by omega) c2).mono fun e w' k => ⟨k.1, a.trans k.2⟩
      clear c2
      go_enter Tryz.func155, Tryz.ntmps155
      go_wp2_with fail
      refine M.out.call.mono ?_
      rintro e w' ⟨rfl, rfl⟩
      go_wp2_with fail
      refine HW.out.mono ?_
      rintro e w2 ⟨rfl, hA2⟩
      go_wp2_with fail
      refine (HW2.out _ hA2).mono ?_
      rintro e w3 ⟨rfl, hA3⟩
      go_wp2_with fail
      exact ⟨rfl, rfl, _, M.out.adv.trans hA3⟩
  · rw [if_pos c1]
    have HW := want_bad w1 b i s 95 M.out.rd (by omega) (by omega) c1
    clear c1
    go_enter Tryz.func155, Tryz.ntmps155
    go_wp2_with fail
    refine M.out.call.mono ?_
    rintro e w' ⟨rfl, rfl⟩
    go_wp2_with fail
    refine HW.mono ?_
    rintro e w2 ⟨rfl, hA2⟩
    go_wp2_with fail
    exact ⟨rfl, rfl, i, M.out.adv.trans hA2⟩
end Go.Proofs.YtnffjoipinhojabGreatDoor

