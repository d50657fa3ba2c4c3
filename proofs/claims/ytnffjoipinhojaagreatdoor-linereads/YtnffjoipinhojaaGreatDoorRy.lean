import Derived.Test.YtnffjoipinhojaaGreatDoorRx
set_option linter.unusedSimpArgs false
set_option linter.unusedVariables false
namespace Go.Proofs.YtnffjoipinhojaaGreatDoor
open Go.RowKit

theorem Rd.belowB {w w' : World} {b i B : Nat} {s : ByteArray} (h : Rd w b s i) (a : Below B w w') (hb : b < B) : Rd w' b s i :=
  ⟨(a.cell (p := ⟨b, 0, none⟩) hb).trans h.c0, (a.cell (p := ⟨b, 1, none⟩) hb).trans h.c1, (a.frozen (p := ⟨b, 1, none⟩) hb).trans h.fz, h.le, h.ms⟩

/-- A reader at j, a builder in block B that holds acc, a set: in the world wr, which goes back to w. -/
structure Inv (w wr : World) (b j B : Nat) (s : ByteArray) (acc : List UInt8) (g : Nat) (lb : Array Value) (p : Int → Bool) (lo hi : Nat) : Prop where
  rd : Rd wr b s j
  adv : Adv b j w wr
  tabs : Tabs wr
  bu : Bu B B acc wr
  set : IsSet g lb p lo hi wr
  gb : 8 ≤ b
  bw : b < w.heap.size
  wlo : w.heap.size ≤ lo
  hiB : hi ≤ B
  wB : w.heap.size ≤ B
  len : acc.length ≤ 4 * j
  sz : s.size ≤ 1099511627776

theorem Inv.BwR {w wr : World} {b j B : Nat} {s : ByteArray} {acc : List UInt8} {g : Nat} {lb : Array Value} {p : Int → Bool} {lo hi : Nat} (v : Inv w wr b j B s acc g lb p lo hi) : B < wr.heap.size := v.bu.lt

theorem Inv.advance {w wr : World} {b j B : Nat} {s : ByteArray} {acc : List UInt8} {g : Nat} {lb : Array Value} {p : Int → Bool} {lo hi : Nat} (v : Inv w wr b j B s acc g lb p lo hi) {k : Nat} {w2 : World} (a : Adv b k wr w2) (hjk : j ≤ k) (hk : k ≤ s.size) :
    Inv w w2 b k B s acc g lb p lo hi :=
  ⟨v.rd.adv a hk, v.adv.trans a, v.tabs.adv a v.gb v.rd.lt, v.bu.adv a (Nat.lt_of_lt_of_le v.bw v.wB), v.set.adv a (.inl (Nat.lt_of_lt_of_le v.bw v.wlo)), v.gb, v.bw, v.wlo, v.hiB, v.wB, by have := v.len; omega, v.sz⟩

theorem Inv.wrote {w wr : World} {b j B : Nat} {s : ByteArray} {acc : List UInt8} {g : Nat} {lb : Array Value} {p : Int → Bool} {lo hi : Nat} (v : Inv w wr b j B s acc g lb p lo hi) {acc' : List UInt8} {w2 : World} (a : Below B wr w2) (hb : Bu B B acc' w2) (hl : acc'.length ≤ 4 * j) :
    Inv w w2 b j B s acc' g lb p lo hi :=
  ⟨v.rd.belowB a (Nat.lt_of_lt_of_le v.bw v.wB), Below.trans v.adv (a.mono v.wB), v.tabs.below a (by have := v.gb; have := v.bw; have := v.wB; omega) (by have := v.gb; have := v.bw; have := v.wB; omega), hb, v.set.below a v.hiB, v.gb, v.bw, v.wlo, v.hiB, v.wB, hl, v.sz⟩

theorem body_q {s : ByteArray} {q : Int} {hasP hasE : Int → Bool} {short : Bool} {j : Nat} (h : bt s j = q) : body s q hasP hasE short j = .ok [] (j + 1) := by
  rw [body, if_pos h]
theorem body_bad {s : ByteArray} {q : Int} {hasP hasE : Int → Bool} {short : Bool} {j k : Nat} (h : bt s j ≠ q) (ho : one s j hasP hasE short = .bad k) : body s q hasP hasE short j = .bad k := by
  rw [body, if_neg h]
  split
  · rename_i x hx; rw [hx] at ho; cases ho; rfl
  · rename_i x y hx; rw [hx] at ho; cases ho
theorem body_ok {s : ByteArray} {q : Int} {hasP hasE : Int → Bool} {short : Bool} {j c k : Nat} (h : bt s j ≠ q) (ho : one s j hasP hasE short = .ok c k) : body s q hasP hasE short j = (body s q hasP hasE short k).pre (Lib.encodeRune c) := by
  rw [body, if_neg h]
  split
  · rename_i x hx; rw [hx] at ho; cases ho
  · rename_i x y hx; rw [hx] at ho; cases ho; rfl
theorem pre_pre (r : R (List UInt8)) (l m : List UInt8) : (r.pre m).pre l = r.pre (l ++ m) := by
  cases r <;> simp [R.pre]

theorem enc_len (r : Int) : (Lib.encodeRune r).length ≤ 4 := by
  unfold Lib.encodeRune
  rw [List.length_map]
  exact (Lib.encodeRuneZ_length r).2

theorem num_max {s : ByteArray} {i j k : Nat} {has : Int → Bool} {c m : Nat} (h : num s i j k has = .ok c m) : c ≤ 1114111 := by
  unfold num at h
  split at h
  · cases h
  · split at h
    · rename_i hv
      cases h
      simp [Lib.validRune] at hv
      omega
    · cases h

theorem esc_max {s : ByteArray} {i : Nat} {has : Int → Bool} {sh : Bool} {c m : Nat} (h : esc s i has sh = .ok c m) : c ≤ 1114111 := by
  unfold esc at h
  split at h
  · exact num_max h
  · split at h
    · exact num_max h
    · split at h
      · split at h
        · rename_i x hx
          cases h
          rcases short_cases (bt s (i + 1)) with ⟨n, h1, _, h3⟩ | ⟨h1, _⟩
          · rw [h1] at hx; cases hx; omega
          · rw [h1] at hx; cases hx
        · cases h
      · cases h

def plainS : List UInt8 := [10, 13, 34, 92]
theorem plainS_asc : asc plainS := by unfold asc plainS; decide
theorem plain_eq (c : Int) : (!oneOfP plainS c) = plainQ c := by
  unfold plainQ oneOfP plainS
  congr 1
  rw [Bool.eq_iff_iff]
  simp
  omega

/-- not(oneOf(l)), as it stands behind its making -/
def noW (u : World) (l : List UInt8) : World := (oW u l).alloc (.cells #[fnV 188 #[.pointer (some ⟨u.heap.size, 0, none⟩)]] 182)
theorem noW_size (u : World) (l : List UInt8) : (noW u l).heap.size = u.heap.size + 2 := by simp [noW, oW]
theorem noW_below (u : World) (l : List UInt8) : Below u.heap.size u (noW u l) := (oW_below u l).alloc (by simp [oW]) _
theorem set_noW (u : World) (l : List UInt8) (hl : asc l) (hz : l.length ≤ 1000) : IsSet 190 #[.pointer (some ⟨u.heap.size + 1, 0, none⟩)] (fun c => !oneOfP l c) u.heap.size (u.heap.size + 2) (noW u l) := by
  have hs := set_oW u l hl hz
  have hs2 : IsSet 188 #[.pointer (some ⟨u.heap.size, 0, none⟩)] (oneOfP l) u.heap.size (u.heap.size + 1) (noW u l) :=
    hs.below (B := u.heap.size + 1) ((Below.refl _ _).alloc (by simp [oW]) _) (Nat.le_refl _)
  refine set_not (noW u l) (u.heap.size + 1) _ _ _ _ _ hs2 (by omega) (by omega) ?_
  unfold noW
  rw [World.cell?_alloc_at _ _ _ _ (by simp [oW])]
  rfl

def qW (w : World) : World := (noW w plainS).alloc (.cells #[.pointer none, .slice none 0 0] 100)

theorem inv_quoted (w : World) (b i : Nat) (s : ByteArray) (h : Rd w b s i) (hT : Tabs w) (hb4 : 8 ≤ b) (hsz : s.size ≤ 1099511627776) :
    Inv w (qW w) b i (w.heap.size + 2) s [] 190 #[.pointer (some ⟨w.heap.size + 1, 0, none⟩)] plainQ w.heap.size (w.heap.size + 2) := by
  have hB : Below w.heap.size w (qW w) := (noW_below w plainS).alloc (by simp [noW, oW]; omega) _
  have hbw := h.lt
  have hbu := Bu.fresh (noW w plainS)
  rw [noW_size] at hbu
  have hs := set_noW w plainS plainS_asc (by decide)
  have hs2 := hs.below (B := w.heap.size + 2) (w := qW w) ((Below.refl _ _).alloc (by simp [noW, oW]) _) (Nat.le_refl _)
  rw [show (fun c => !oneOfP plainS c) = plainQ from funext plain_eq] at hs2
  exact ⟨h.below hB, h.stay hB, hT.below hB (by omega) (by omega), hbu, hs2, hb4, hbw, Nat.le_refl _, Nat.le_refl _, by omega, by simp, hsz⟩

set_option maxHeartbeats 4000000 in
theorem quoted_any (w : World) (b i : Nat) (s : ByteArray) (h : Rd w b s i) (hT : Tabs w) (hb4 : 8 ≤ b) (hsz : s.size ≤ 1099511627776) :
    Calls Tryz.prog 87 #[.pointer (some ⟨b, 0, none⟩)] w (Out b w str (quoted s i)) := by
  have V0 : Hid (Inv w (qW w) b i (w.heap.size + 2) s [] 190 #[.pointer (some ⟨w.heap.size + 1, 0, none⟩)] plainQ w.heap.size (w.heap.size + 2)) := inv_quoted w b i s h hT hb4 hsz
  clear h hT
  unfold quoted
  by_cases c1 : bt s i = 34
  · rw [if_neg (by simp [c1])]
    have hi1 := bt_in c1 (by omega)
    have HW : Hid (Calls Tryz.prog 89 #[.pointer (some ⟨b, 0, none⟩), .int .u8 34] (qW w) fun e w' => e = .returned (.tuple #[]) ∧ Adv b (i + 1) (qW w) w') := want_ok (qW w) b i s 34 V0.out.rd (by omega) (by omega) c1
    clear c1
    go_enter Tryz.func87, Tryz.ntmps87
    go_wp2_with fail
    refine (oneOf_any _ _).mono ?_
    rintro e w1 ⟨rfl, rfl⟩
    go_wp2_with fail
    refine (not_any _ _ _).mono ?_
    rintro e w2 ⟨rfl, rfl⟩
    go_wp2_with fail
    refine HW.out.mono ?_
    rintro e w3 ⟨rfl, hA3⟩
    have V1 : Hid (Inv w w3 b (i + 1) (w.heap.size + 1 + 1) s [] 190 #[.pointer (some ⟨w.heap.size + 1, 0, none⟩)] plainQ w.heap.size (w.heap.size + 2)) := V0.out.advance hA3 (by omega) (by omega)
    clear HW V0 hA3
    go_wp2_with fail
    go_loopw [] (fun wr => ∃ (j : Nat) (acc : List UInt8), Inv w wr b j (w.heap.size + 1 + 1) s acc 190 #[.pointer (some ⟨w.heap.size + 1, 0, none⟩)] plainQ w.heap.size (w.heap.size + 2) ∧ body s 34 plainQ allc true (i + 1) = (body s 34 plainQ allc true j).pre acc) (fun wr => s.size - posOf wr b)
    case atStart => exact ⟨i + 1, [], V1.out, by cases body s 34 plainQ allc true (i + 1) <;> simp [R.pre]⟩
    case round =>
      obtain ⟨j, acc, hv, hbd⟩ := hrel
      have V : Hid (Inv w wr b j (w.heap.size + 1 + 1) s acc 190 #[.pointer (some ⟨w.heap.size + 1, 0, none⟩)] plainQ w.heap.size (w.heap.size + 2)) := hv
      have HB : Hid (body s 34 plainQ allc true (i + 1) = (body s 34 plainQ allc true j).pre acc) := hbd
      have HP : Hid (posOf wr b = j) := hv.rd.pos
      have hjs := hv.rd.le
      have hTk := take_any wr b j s 34 hv.rd (by omega) (by omega)
      clear hv hbd V1
      by_cases c1 : bt s j = 34
      · have hj1 := bt_in c1 (by omega)
        simp only [c1, decide_true, if_true] at hTk
        have HK : Hid (Calls Tryz.prog 88 #[.pointer (some ⟨b, 0, none⟩), .int .u8 34] wr fun e w' => e = .returned (.bool true) ∧ Adv b (j + 1) wr w') := hTk
        have HR : Hid (body s 34 plainQ allc true (i + 1) = .ok acc (j + 1)) := by unfold Hid; rw [HB.out, body_q c1]; simp [R.pre]
        clear hTk c1
        go_wp2_with fail
        refine HK.out.mono ?_
        rintro e w4 ⟨rfl, hA4⟩
        have V4 := V.out.advance hA4 (by omega) (by omega)
        have HV4 : Hid (Inv w w4 b (j + 1) (w.heap.size + 1 + 1) s acc 190 #[.pointer (some ⟨w.heap.size + 1, 0, none⟩)] plainQ w.heap.size (w.heap.size + 2)) := V4
        clear V4 hA4
        go_wp2_with fail
        refine (bstring_any _ (w.heap.size + 1 + 1) (w.heap.size + 1 + 1) acc HV4.out.bu (Nat.le_of_lt HV4.out.BwR)).mono ?_
        rintro e w5 ⟨rfl, hB5⟩
        go_wp2_with fail
        go_ret
        rw [HR.out]
        exact ⟨rfl, Below.trans HV4.out.adv (hB5.mono (by omega))⟩
      · have hd : decide (bt s j = 34) = false := by simpa using c1
        rw [if_neg c1, hd] at hTk
        have HK : Hid (Calls Tryz.prog 88 #[.pointer (some ⟨b, 0, none⟩), .int .u8 34] wr fun e w' => e = .returned (.bool false) ∧ Inv w w' b j (w.heap.size + 1 + 1) s acc 190 #[.pointer (some ⟨w.heap.size + 1, 0, none⟩)] plainQ w.heap.size (w.heap.size + 2)) := hTk.mono fun e w' k => ⟨k.1, V.out.advance k.2 (Nat.le_refl _) hjs⟩
        have HSe : Hid (∀ w', Inv w w' b j (w.heap.size + 1 + 1) s acc 190 #[.pointer (some ⟨w.heap.size + 1, 0, none⟩)] plainQ w.heap.size (w.heap.size + 2) → Calls Tryz.prog 123 #[.pointer (some ⟨b, 0, none⟩), .int .u8 92] w' fun e w'' => e = .returned (.bool (decide (bt s j = 92))) ∧ Inv w w'' b j (w.heap.size + 1 + 1) s acc 190 #[.pointer (some ⟨w.heap.size + 1, 0, none⟩)] plainQ w.heap.size (w.heap.size + 2)) := fun w' v =>
          (sees_any w' b j s 92 v.rd (by omega) (by omega)).mono fun e w'' k => ⟨k.1, by obtain ⟨_, n, rfl⟩ := k; exact v.advance (v.rd.stayN n) (Nat.le_refl _) hjs⟩
        have HWr : Hid (∀ (w' : World) (c k : Nat), Inv w w' b k (w.heap.size + 1 + 1) s acc 190 #[.pointer (some ⟨w.heap.size + 1, 0, none⟩)] plainQ w.heap.size (w.heap.size + 2) → c ≤ 1114111 → j < k → Calls Tryz.prog 138 #[.pointer (some ⟨w.heap.size + 1 + 1, 0, none⟩), .int .i32 c] w' fun e w'' => (∃ n, e = .returned (.tuple #[.int .i64 n, .nilIface])) ∧ Inv w w'' b k (w.heap.size + 1 + 1) s (acc ++ Lib.encodeRune c) 190 #[.pointer (some ⟨w.heap.size + 1, 0, none⟩)] plainQ w.heap.size (w.heap.size + 2)) := fun w' c k v hc hjk => by
          have hl := V.out.len
          have hz := v.sz
          have hk := v.rd.le
          have he := enc_len (c : Int)
          refine (wrune_any w' (w.heap.size + 1 + 1) (w.heap.size + 1 + 1) acc c v.bu (by omega) (by omega) (by omega) (Nat.le_of_lt v.BwR)).mono ?_
          rintro e w'' ⟨h1, h2, h3⟩
          exact ⟨h1, v.wrote h3 h2 (by simp; omega)⟩
        by_cases c2 : bt s j = 92
        · have hone : one s j plainQ allc true = esc s j allc true := by unfold one; rw [if_pos c2]
          have hE : ∀ w', Inv w w' b j (w.heap.size + 1 + 1) s acc 190 #[.pointer (some ⟨w.heap.size + 1, 0, none⟩)] plainQ w.heap.size (w.heap.size + 2) → Calls Tryz.prog 139 #[.pointer (some ⟨b, 0, none⟩), fnV 148 #[], .string ⟨#[116, 98, 110, 114, 102, 34, 39, 92]⟩] w' (Out b w' (fun n : Nat => .int .i32 n) (esc s j allc true)) := fun w' v =>
            escape_any w' b j s v.rd v.tabs v.gb 148 #[] allc 0 0 (set_all w') (.inr (Nat.zero_le _)) true c2
          simp only [c2, decide_true] at HSe
          cases hes : esc s j allc true with
          | bad k =>
            rw [hes] at hE hone
            have HE : Hid (∀ w', Inv w w' b j (w.heap.size + 1 + 1) s acc 190 #[.pointer (some ⟨w.heap.size + 1, 0, none⟩)] plainQ w.heap.size (w.heap.size + 2) → Calls Tryz.prog 139 #[.pointer (some ⟨b, 0, none⟩), fnV 148 #[], .string ⟨#[116, 98, 110, 114, 102, 34, 39, 92]⟩] w' (Out b w' (fun n : Nat => .int .i32 n) (.bad k))) := hE
            have HR : Hid (body s 34 plainQ allc true (i + 1) = .bad k) := by unfold Hid; rw [HB.out, body_bad c1 hone]; rfl
            clear hTk c1 hd c2 hes hE hone HWr
            go_wp2_with fail
            refine HK.out.mono ?_
            rintro e w4 ⟨rfl, v4⟩
            go_wp2_with fail
            refine (HSe.out _ v4).mono ?_
            rintro e w5 ⟨rfl, v5⟩
            go_wp2_with fail
            refine (HE.out _ v5).mono ?_
            rintro e w6 ⟨rfl, m, hA6⟩
            go_wp2_with fail
            refine ⟨rfl, ?_⟩
            rw [HR.out]
            exact ⟨rfl, m, v5.adv.trans hA6⟩
          | ok c k =>
            rw [hes] at hE hone
            have hjk := one_lt hone
            have hcm : c ≤ 1114111 := esc_max hes
            have HE : Hid (∀ w', Inv w w' b j (w.heap.size + 1 + 1) s acc 190 #[.pointer (some ⟨w.heap.size + 1, 0, none⟩)] plainQ w.heap.size (w.heap.size + 2) → Calls Tryz.prog 139 #[.pointer (some ⟨b, 0, none⟩), fnV 148 #[], .string ⟨#[116, 98, 110, 114, 102, 34, 39, 92]⟩] w' (Out b w' (fun n : Nat => .int .i32 n) (.ok c k))) := hE
            have HR : Hid (body s 34 plainQ allc true (i + 1) = (body s 34 plainQ allc true k).pre (acc ++ Lib.encodeRune c)) := by unfold Hid; rw [HB.out, body_ok c1 hone, pre_pre]
            clear hTk c1 hd c2 hes hE hone
            go_wp2_with fail
            refine HK.out.mono ?_
            rintro e w4 ⟨rfl, v4⟩
            go_wp2_with fail
            refine (HSe.out _ v4).mono ?_
            rintro e w5 ⟨rfl, v5⟩
            go_wp2_with fail
            refine (HE.out _ v5).mono ?_
            rintro e w6 ⟨rfl, hA6⟩
            have v6 := v5.advance hA6 (by omega) hjk.2
            go_wp2_with fail
            refine (HWr.out _ c k v6 hcm hjk.1).mono ?_
            rintro e w7 ⟨⟨n, rfl⟩, v7⟩
            go_wp2_with fail
            go_roundw
            case rel => exact ⟨k, _, v7, HR.out⟩
            case measure => rw [v7.rd.pos, HP.out]; omega
        · have hd2 : decide (bt s j = 92) = false := by simpa using c2
          rw [hd2] at HSe
          by_cases c3 : (chr s j).2 ≠ 0 ∧ plainQ (chr s j).1 = true
          · have hone : one s j plainQ allc true = .ok (chr s j).1 (j + (chr s j).2) := by unfold one; rw [if_neg c2, if_pos c3]
            have hjk := one_lt hone
            have hcm := (chr_code c3.1).2.1
            have HE : Hid (∀ w', Inv w w' b j (w.heap.size + 1 + 1) s acc 190 #[.pointer (some ⟨w.heap.size + 1, 0, none⟩)] plainQ w.heap.size (w.heap.size + 2) → Calls Tryz.prog 137 #[.pointer (some ⟨b, 0, none⟩), fnV 190 #[.pointer (some ⟨w.heap.size + 1, 0, none⟩)]] w' fun e w'' => e = .returned (.int .i32 (chr s j).1) ∧ Adv b (j + (chr s j).2) w' w'') := fun w' v =>
              wants_yes w' b j s v.rd v.tabs _ _ _ _ _ v.set c3.1 c3.2
            have HR : Hid (body s 34 plainQ allc true (i + 1) = (body s 34 plainQ allc true (j + (chr s j).2)).pre (acc ++ Lib.encodeRune (chr s j).1)) := by unfold Hid; rw [HB.out, body_ok c1 hone, pre_pre]
            obtain ⟨c, n, ecn⟩ : ∃ c n, chr s j = (c, n) := ⟨_, _, rfl⟩
            simp only [ecn] at *
            clear hTk c1 hd c2 hd2 c3 hone ecn
            go_wp2_with fail
            refine HK.out.mono ?_
            rintro e w4 ⟨rfl, v4⟩
            go_wp2_with fail
            refine (HSe.out _ v4).mono ?_
            rintro e w5 ⟨rfl, v5⟩
            go_wp2_with fail
            refine (HE.out _ v5).mono ?_
            rintro e w6 ⟨rfl, hA6⟩
            have v6 := v5.advance hA6 (by omega) hjk.2
            go_wp2_with fail
            refine (HWr.out _ c (j + n) v6 hcm hjk.1).mono ?_
            rintro e w7 ⟨⟨n7, rfl⟩, v7⟩
            go_wp2_with fail
            go_roundw
            case rel => exact ⟨j + n, _, v7, HR.out⟩
            case measure => rw [v7.rd.pos, HP.out]; omega
          · have hone : one s j plainQ allc true = .bad j := by unfold one; rw [if_neg c2, if_neg c3]
            have HE : Hid (∀ w', Inv w w' b j (w.heap.size + 1 + 1) s acc 190 #[.pointer (some ⟨w.heap.size + 1, 0, none⟩)] plainQ w.heap.size (w.heap.size + 2) → Calls Tryz.prog 137 #[.pointer (some ⟨b, 0, none⟩), fnV 190 #[.pointer (some ⟨w.heap.size + 1, 0, none⟩)]] w' fun e w'' => e = stopE 2 j ∧ Adv b j w' w'') := fun w' v =>
              wants_no w' b j s v.rd v.tabs _ _ _ _ _ v.set c3
            have HR : Hid (body s 34 plainQ allc true (i + 1) = .bad j) := by unfold Hid; rw [HB.out, body_bad c1 hone]; rfl
            clear hTk c1 hd c2 hd2 c3 hone HWr
            go_wp2_with fail
            refine HK.out.mono ?_
            rintro e w4 ⟨rfl, v4⟩
            go_wp2_with fail
            refine (HSe.out _ v4).mono ?_
            rintro e w5 ⟨rfl, v5⟩
            go_wp2_with fail
            refine (HE.out _ v5).mono ?_
            rintro e w6 ⟨rfl, hA6⟩
            go_wp2_with fail
            refine ⟨rfl, ?_⟩
            rw [HR.out]
            exact ⟨rfl, j, v5.adv.trans hA6⟩
  · rw [if_pos c1]
    have HW : Hid (Calls Tryz.prog 89 #[.pointer (some ⟨b, 0, none⟩), .int .u8 34] (qW w) fun e w' => e = stopE 2 i ∧ Adv b i (qW w) w') := want_bad (qW w) b i s 34 V0.out.rd (by omega) (by omega) c1
    clear c1
    go_enter Tryz.func87, Tryz.ntmps87
    go_wp2_with fail
    refine (oneOf_any _ _).mono ?_
    rintro e w1 ⟨rfl, rfl⟩
    go_wp2_with fail
    refine (not_any _ _ _).mono ?_
    rintro e w2 ⟨rfl, rfl⟩
    go_wp2_with fail
    refine HW.out.mono ?_
    rintro e w3 ⟨rfl, hA3⟩
    go_wp2_with fail
    exact ⟨rfl, rfl, i, V0.out.adv.trans hA3⟩
end Go.Proofs.YtnffjoipinhojaaGreatDoor
