import Derived.Test.YtnffjoipinhojaaDoorPut
import Derived.Test.YtnffjoipinhojaaDoorOc
namespace Go.Proofs.YtnffjoipinhojaaDoor.Plain

/-- The words of a number, the lowest first. -/
def word (V j : Nat) : Nat := V / 2 ^ (64 * j) % 2 ^ 64
def Wds (V n : Nat) : List Nat := (List.range n).map (word V)

theorem word_lt (V j : Nat) : word V j < 18446744073709551616 := Nat.mod_lt _ (by decide)
theorem wds_len (V n : Nat) : (Wds V n).length = n := by simp [Wds]
theorem wds_get (V n j : Nat) (h : j < n) : (Wds V n)[j]? = some (word V j) := by simp [Wds, h]
theorem wds_zero (V n : Nat) (h : V < 2 ^ (64 * n)) : Wds V (n + 1) = Wds V n ++ [0] := by
  simp [Wds, List.range_succ, word, Nat.div_eq_of_lt h]

theorem word_last (V k : Nat) (h : V < 2 ^ (8 * k)) : word V (k / 8) < 2 ^ (8 * (k % 8)) := by
  refine Nat.lt_of_le_of_lt (Nat.mod_le _ _) ?_
  rw [Nat.div_lt_iff_lt_mul (Nat.two_pow_pos _), ← Nat.pow_add, show 8 * (k % 8) + 64 * (k / 8) = 8 * k by omega]
  exact h

theorem word_add (V k b j : Nat) (h : V < 2 ^ (8 * k)) (hb : b < 256) (hj : j ≤ k / 8) :
    word (V + b * 2 ^ (8 * k)) j = if j = k / 8 then word V (k / 8) + b * 2 ^ (8 * (k % 8)) else word V j := by
  have e : 2 ^ (8 * k) = 2 ^ (8 * k - 64 * j) * 2 ^ (64 * j) := by rw [← Nat.pow_add]; congr 1; omega
  unfold word
  rw [e, ← Nat.mul_assoc, Nat.add_mul_div_right _ _ (Nat.two_pow_pos _)]
  split
  · rename_i hjk
    subst hjk
    rw [show 8 * k - 64 * (k / 8) = 8 * (k % 8) by omega]
    have h1 : V / 2 ^ (64 * (k / 8)) < 2 ^ (8 * (k % 8)) := by
      rw [Nat.div_lt_iff_lt_mul (Nat.two_pow_pos _), ← Nat.pow_add, show 8 * (k % 8) + 64 * (k / 8) = 8 * k by omega]
      exact h
    have h2 : 2 ^ (8 * (k % 8)) * 256 ≤ 2 ^ 64 := by
      rw [show (256 : Nat) = 2 ^ 8 by decide, ← Nat.pow_add]
      exact Nat.pow_le_pow_right (by decide) (by omega)
    have h3 : b * 2 ^ (8 * (k % 8)) + 2 ^ (8 * (k % 8)) ≤ 2 ^ (8 * (k % 8)) * 256 := by
      rw [← Nat.succ_mul, Nat.mul_comm]
      exact Nat.mul_le_mul_left _ hb
    rw [Nat.mod_eq_of_lt (show V / 2 ^ (64 * (k / 8)) < 2 ^ 64 by omega), Nat.mod_eq_of_lt (by omega)]
  · rename_i hjk
    have e2 : 2 ^ (8 * k - 64 * j) = 2 ^ (8 * k - 64 * j - 64) * 2 ^ 64 := by rw [← Nat.pow_add]; congr 1; omega
    rw [e2, ← Nat.mul_assoc, Nat.add_mul_mod_self_right]

theorem wds_set (V k b : Nat) (h : V < 2 ^ (8 * k)) (hb : b < 256) :
    Wds (V + b * 2 ^ (8 * k)) (k / 8 + 1) = (Wds V (k / 8 + 1)).set (k / 8) (word V (k / 8) + b * 2 ^ (8 * (k % 8))) := by
  apply List.ext_getElem?
  intro j
  rw [List.getElem?_set]
  by_cases hj : j < k / 8 + 1
  · rw [wds_get _ _ _ hj, word_add V k b j h hb (by omega), wds_len]
    split
    · rename_i h1
      rw [if_pos h1.symm, if_pos (by omega)]
    · rename_i h1
      rw [if_neg (fun e => h1 e.symm), wds_get _ _ _ hj]
  · rw [List.getElem?_eq_none (by rw [wds_len]; omega), if_neg (by omega), List.getElem?_eq_none (by rw [wds_len]; omega)]

theorem val_take (l : List UInt8) (k : Nat) (h : k < l.length) : val (l.take (k + 1)) = val (l.take k) + (l.getD k 0).toNat * 2 ^ (8 * k) := by
  have e : l.take (k + 1) = l.take k ++ [l.getD k 0] := by
    rw [List.take_add_one]; simp [h]
  rw [e, val_append, List.length_take, Nat.min_eq_left (by omega), pow256]
  simp [val, Nat.mul_comm]
theorem val_take_lt (l : List UInt8) (k : Nat) : val (l.take k) < 2 ^ (8 * k) := by
  have := val_lt (l.take k)
  rw [pow256] at this
  exact Nat.lt_of_lt_of_le this (Nat.pow_le_pow_right (by decide) (by rw [List.length_take]; omega))
end Go.Proofs.YtnffjoipinhojaaDoor.Plain
namespace Go.Proofs.YtnffjoipinhojaaDoor
open Go.RowKit

theorem info52 : (Tryd.prog.info? 52).map (fun i => (i.zero, i.size, i.bytes)) = some (some (.int .u64 0), 1, 8) := by kernel_rfl
theorem oneWord (k : IntKind) (b : Int) : ∀ u ∈ [Value.int k b], u.oneCell' = true := by
  intro u hu
  simp at hu
  subst hu
  rfl
theorem one_word (w : World) (k : IntKind) (b : Int) (t : TypeId) : ∀ j v, [Value.int k b][j]? = some v → (w.alloc (.cells #[.int k b] t)).cell? ((⟨w.heap.size, 0, none⟩ : Addr).add j) = some v := by
  intro j v hj
  match j, hj with
  | 0, hj => simp at hj; subst hj; simp [Addr.add]
def wordOf (x : Nat) : Value := .int .u64 (x : Int)

/-- A row of words of the call's own. -/
def Ws (w : World) (base : Nat) (v : Value) (xs : List Nat) : Prop := w.ownsRow base 52 1 v xs.length (xs.map wordOf)

theorem or_u64 (u b r : Nat) (hr : r < 8) (hu : u < 2 ^ (8 * r)) (hb : b < 256) : bits .or .u64 (u : Int) ((b * 2 ^ (8 * r) : Nat) : Int) = ((u + b * 2 ^ (8 * r) : Nat) : Int) ∧ u + b * 2 ^ (8 * r) < 18446744073709551616 := by
  have h2 : 2 ^ (8 * r) * 256 ≤ 2 ^ 64 := by
    rw [show (256 : Nat) = 2 ^ 8 by decide, ← Nat.pow_add]
    exact Nat.pow_le_pow_right (by decide) (by omega)
  have h3 : b * 2 ^ (8 * r) + 2 ^ (8 * r) ≤ 2 ^ (8 * r) * 256 := by
    rw [← Nat.succ_mul, Nat.mul_comm]
    exact Nat.mul_le_mul_left _ hb
  have h4 : u + b * 2 ^ (8 * r) < 18446744073709551616 := by omega
  refine ⟨?_, h4⟩
  rw [u64_or_nat u _ (by omega) (by omega), Nat.or_comm, nat_join (8 * r) _ u (Nat.mul_mod_left _ _) hu, Nat.add_comm]

theorem or_val {V k q r u b S : Nat} (hq : q = k / 8 ∧ r = k % 8) (hS : S = 8 * r) (hu : u = Plain.word V q) (hV : V < 2 ^ (8 * k)) (hb : b < 256) :
    bits .or .u64 (u : Int) (IntKind.u64.wrap ((b : Int) * 2 ^ S)) = ((Plain.word V q + b * 2 ^ (8 * r) : Nat) : Int) := by
  have h1 := Plain.word_last V k hV
  rw [← hq.1, ← hq.2] at h1
  obtain ⟨h2, h3⟩ := or_u64 (Plain.word V q) b r (by omega) h1 hb
  have e : IntKind.u64.wrap ((b : Int) * 2 ^ S) = ((b * 2 ^ (8 * r) : Nat) : Int) := by
    rw [hS]
    refine wrapU ?_ (by omega)
    simp
  rw [e, hu, h2]

/-- Behind 'words = append(words, 0)'. -/
theorem ws_zero {wr w1 : World} {base : Nat} {v v' : Value} {V q : Nat} {o : Obj} {b0 : Nat} (hb0 : b0 ≤ base) (hbs : base ≤ wr.heap.size) (h : Ws wr base v (Plain.Wds V q)) (hV : V < 2 ^ (64 * q))
    (hg : (wr.alloc o).grownBy w1 v.ownBlock) (h1 : w1.ownsRow base 52 1 v' (q + 1) ((Plain.Wds V q).map wordOf ++ [.int .u64 0])) : Ws w1 base v' (Plain.Wds V (q + 1)) ∧ Below b0 wr w1 := by
  refine ⟨?_, Below.grown ((Below.refl b0 wr).alloc (by omega) _) hg (by simp; omega) (fun k hk => by have := (World.ownsRow.lt h k hk).1; omega)⟩
  unfold Ws
  rw [Plain.wds_len, Plain.wds_zero V q hV, List.map_append]
  exact h1

theorem le_refl' (n : Nat) : n ≤ n := Nat.le_refl n
theorem ws_form {w : World} {base : Nat} {v : Value} {xs : List Nat} (h : Ws w base v xs) (h0 : 0 < xs.length) : ∃ g cap, v = .slice (some ⟨g, 0, none⟩) xs.length cap ∧ base ≤ g ∧ g < w.heap.size := by
  obtain ⟨g, cap, rfl⟩ := Joins.ownsRow_form h h0
  exact ⟨g, cap, rfl, World.ownsRow.lt h g rfl⟩
theorem ws_cell {w : World} {base : Nat} {v : Value} {xs : List Nat} {g cap : Nat} (h : Ws w base v xs) (hv : v = .slice (some ⟨g, 0, none⟩) xs.length cap) (j : Nat) (x : Nat) (hx : xs[j]? = some x) : w.cell? ⟨g, j, none⟩ = some (.int .u64 (x : Int)) := by
  subst hv
  have h : w.ownsRow base 52 1 (.slice (some ⟨g, 0, none⟩) xs.length cap) xs.length (xs.map wordOf) := h
  have hj : j < xs.length := (List.getElem?_eq_some_iff.1 hx).1
  rw [World.ownsRow.cellAt h j (by omega), List.getElem?_map, hx]
  rfl

/-- What the round reads, and what its store leaves. -/
theorem ws_facts {wr : World} {base : Nat} {v : Value} {k q r : Nat} {s : ByteArray} (h : Ws wr base v (Plain.Wds (Plain.val (s.data.toList.take k)) (q + 1)))
    (he : s.data.toList.length = s.size) (hq : q = k / 8 ∧ r = k % 8) (hk : k < s.size) {b0 : Nat} (hb0 : b0 ≤ base) :
    ∃ g cap, v = .slice (some ⟨g, 0, none⟩) (q + 1 : Nat) cap ∧ wr.cell? ⟨g, q, none⟩ = some (.int .u64 (Plain.word (Plain.val (s.data.toList.take k)) q : Nat)) ∧ wr.frozen? ⟨g, q, none⟩ = false ∧
      Hid (∀ z : Int, z = ((Plain.word (Plain.val (s.data.toList.take k)) q + (s[k]'hk).toNat * 2 ^ (8 * r) : Nat) : Int) → Ws (wr.setCell ⟨g, q, none⟩ (.int .u64 z)).drew base v (Plain.Wds (Plain.val (s.data.toList.take (k + 1))) ((k + 1 + 7) / 8)) ∧ Below b0 wr (wr.setCell ⟨g, q, none⟩ (.int .u64 z)).drew) := by
  obtain ⟨g, cap, hv, hg1, hg2⟩ := ws_form h (by rw [Plain.wds_len]; omega)
  have hcell := ws_cell h hv q _ (Plain.wds_get _ _ _ (by omega))
  rw [Plain.wds_len] at hv
  subst hv
  have h : wr.ownsRow base 52 1 (.slice (some ⟨g, 0, none⟩) (q + 1) cap) (q + 1) ((Plain.Wds (Plain.val (s.data.toList.take k)) (q + 1)).map wordOf) := by
    unfold Ws at h
    rw [Plain.wds_len] at h
    exact h
  refine ⟨g, cap, rfl, hcell, World.ownsRow.frozenAt h q, ?_⟩
  intro z hz
  subst hz
  refine ⟨?_, ((Below.refl _ _).setCell (by simp; omega) _).drew⟩
  have h1 := (World.ownsRow.stored h q (wordOf (Plain.word (Plain.val (s.data.toList.take k)) q + (s[k]'hk).toNat * 2 ^ (8 * r)))).1
  have e1 : (k + 1 + 7) / 8 = k / 8 + 1 := by omega
  have hb : (s.data.toList.getD k 0).toNat = (s[k]'hk).toNat := by rw [byte_at s k hk]
  unfold Ws
  rw [e1, Plain.val_take _ k (by omega), hb, Plain.wds_set _ k _ (Plain.val_take_lt _ _) (s[k]'hk).toNat_lt, ← hq.1, ← hq.2, List.length_set, Plain.wds_len, List.map_set]
  exact h1

set_option maxHeartbeats 800000 in
set_option maxRecDepth 20000 in
/-- bits.wordsOf -/
theorem words_any (s : ByteArray) (w : World) (hs : s.size ≤ 140737488351232) :
    Calls Tryd.prog 33 #[.string s] w fun e w' => (∃ v, e = .returned v ∧ Ws w' w.heap.size v (Plain.Wds (Plain.val s.data.toList) ((s.size + 7) / 8))) ∧ Below w.heap.size w w' := by
  have e : s.data.toList.length = s.size := by simp
  obtain ⟨i0, hi, hz0, hz1, hz2⟩ := info_parts info52
  have HE : Hid (s.data.toList.length = s.size) := e
  clear e
  go_enter Tryd.func33, Tryd.ntmps33
  go_wp2_with fail
  go_loopw [3, 7] (fun v i wr => ∃ k : Nat, k ≤ s.size ∧ i = .int .i64 k ∧ Ws wr w.heap.size v (Plain.Wds (Plain.val (s.data.toList.take k)) ((k + 7) / 8)) ∧ Below w.heap.size w wr) (fun _ i _ => s.size - (intOf i).toNat)
  case atStart => exact ⟨0, Nat.zero_le _, rfl, World.ownsRow_nil _ _ _ _, Below.refl _ _⟩
  case round =>
    obtain ⟨k, hk, rfl, hown, hb⟩ := hrel
    have HO : Hid (Ws wr w.heap.size u3 (Plain.Wds (Plain.val (s.data.toList.take k)) ((k + 7) / 8))) := hown
    have HB : Hid (Below w.heap.size w wr) := hb
    clear hown hb
    by_cases hlt : k < s.size
    · obtain ⟨q, hq⟩ : ∃ q, q = k / 8 := ⟨_, rfl⟩
      obtain ⟨r, hr⟩ : ∃ r, r = k % 8 := ⟨_, rfl⟩
      have hqi : (k : Int) / 8 = (q : Int) := by omega
      have hri : (k : Int) % 8 = (r : Int) := by omega
      have hr8 : r < 8 := by omega
      have hqw : IntKind.i64.wrap (q : Int) = (q : Int) := wraps_i63 _ (by omega) (by omega)
      have hq8 : q ≤ 20000000000000 := by omega
      have HQ : Hid (q = k / 8 ∧ r = k % 8) := ⟨hq, hr⟩
      clear hq hr
      by_cases hr0 : r = 0
      · have hrz : ((r : Int) == 0) = true := by simp; omega
        have hbs : w.heap.size ≤ wr.heap.size := HB.out.size
        have hown : Ws wr w.heap.size u3 (Plain.Wds (Plain.val (s.data.toList.take k)) q) := by
          have h := HO.out
          have e : (k + 7) / 8 = q := by have := HQ.out; omega
          rw [e] at h
          exact h
        have hV : Plain.val (s.data.toList.take k) < 2 ^ (64 * q) := by
          have h := Plain.val_take_lt s.data.toList k
          have e : 8 * k = 64 * q := by have := HQ.out; omega
          rw [e] at h
          exact h
        have hrow : wr.ownsRow w.heap.size 52 1 u3 q ((Plain.Wds (Plain.val (s.data.toList.take k)) q).map wordOf) := by
          have h := hown
          unfold Ws at h
          rw [Plain.wds_len] at h
          exact h
        have HW : Hid (Ws wr w.heap.size u3 (Plain.Wds (Plain.val (s.data.toList.take k)) q)) := hown
        have HV : Hid (Plain.val (s.data.toList.take k) < 2 ^ (64 * q)) := hV
        have HRW : Hid (wr.ownsRow w.heap.size 52 1 u3 q ((Plain.Wds (Plain.val (s.data.toList.take k)) q).map wordOf)) := hrow
        clear HO hown hr0 hV hrow
        have hlti : (k : Int) < (s.size : Int) := by omega
        go_wp2_with (first
          | (at_builtin; refine wpList_append_own _ rfl (.tmp 13) (.tmp 14) 70 rfl w.heap.size 52 i0 (.int .u64 0) 1 8 Tryd.underlying70 hi hz0 hz1 hz2 rfl (by decide) _ _ _ rfl (HRW.out.alloc _) ⟨wr.heap.size, 0, none⟩ 1 1 [.int .u64 0] rfl rfl (one_word _ _ _ _) (oneWord _ _) (by unfold maxLen; omega) (by omega) (by simp; omega) ?_; intro v' w1 hown' hgrow _; obtain ⟨hown, hbl⟩ := ws_zero (le_refl' _) hbs HW.out HV.out hgrow hown'; have HB1 : Hid (Below w.heap.size wr w1) := hbl; clear hown' hgrow hbl))
        obtain ⟨g, cap, e, kc, kf, HS⟩ := ws_facts hown HE.out HQ.out hlt (le_refl' _)
        subst e
        clear hown HW HV HRW
        clear hi hz0 hz1 hz2
        have hki := hlti
        have hk0 : (0 : Int) ≤ (k : Int) := by omega
        obtain ⟨N, hN⟩ : ∃ N, N = q + 1 := ⟨_, rfl⟩
        rw [← hN]
        have hq0 : (0 : Int) ≤ (q : Int) := by omega
        have hq1 : (q : Int) < (N : Int) := by omega
        have hqn : q < N := by omega
        obtain ⟨S, hS⟩ : ∃ S, S = 8 * r := ⟨_, rfl⟩
        have hs2 : IntKind.i64.wrap ((r : Int) * 8) = (S : Int) := by rw [IntKind.wrap_i64]; omega
        have hS0 : (0 : Int) ≤ (S : Int) := by omega
        have hS8 : (S : Int) < 64 := by omega
        have HSS : Hid (S = 8 * r ∧ N = q + 1) := ⟨hS, hN⟩
        obtain ⟨u, hu⟩ : ∃ u, u = Plain.word (Plain.val (s.data.toList.take k)) q := ⟨_, rfl⟩
        rw [← hu] at kc
        have HU : Hid (u = Plain.word (Plain.val (s.data.toList.take k)) q) := hu
        have htm : (k : Int).tmod 8 = (r : Int) := by rw [Int.tmod_eq_emod_of_nonneg hk0]; exact hri
        obtain ⟨b, hb⟩ : ∃ b, b = s[k].toNat := ⟨_, rfl⟩
        have hbw : IntKind.u64.wrap (s[k].toNat : Int) = (b : Int) := by rw [IntKind.wrap_u64]; have := s[k].toNat_lt; omega
        have hb8 : b < 256 := by rw [hb]; exact s[k].toNat_lt
        have HBB : Hid (b = s[k].toNat) := hb
        clear hS hN hu hb
        go_still_tail 15, (by kernel_rfl)
        go_wp2
        have hval := or_val HQ.out HSS.out.1 HU.out (Plain.val_take_lt s.data.toList k) hb8
        rw [HBB.out] at hval
        obtain ⟨R1, R2⟩ := HS.out _ hval
        have eN := HSS.out.2
        rw [← HBB.out, ← eN] at R1
        rw [← HBB.out] at R2
        go_roundw
        case rel => exact ⟨k + 1, by omega, by go_num, R1, (HB.out.trans HB1.out).trans R2⟩
        case measure => simp [intOf]; omega
      · have hrz : ((r : Int) == 0) = false := by simp; omega
        have hown : Ws wr w.heap.size u3 (Plain.Wds (Plain.val (s.data.toList.take k)) (q + 1)) := by
          have h := HO.out
          have e : (k + 7) / 8 = q + 1 := by have := HQ.out; omega
          rw [e] at h
          exact h
        obtain ⟨g, cap, e, kc, kf, HS⟩ := ws_facts hown HE.out HQ.out hlt (le_refl' _)
        subst e
        clear HO hown hr0
        clear hi hz0 hz1 hz2
        have hki : (k : Int) < (s.size : Int) := by omega
        have hk0 : (0 : Int) ≤ (k : Int) := by omega
        obtain ⟨N, hN⟩ : ∃ N, N = q + 1 := ⟨_, rfl⟩
        rw [← hN]
        have hq0 : (0 : Int) ≤ (q : Int) := by omega
        have hq1 : (q : Int) < (N : Int) := by omega
        have hqn : q < N := by omega
        obtain ⟨S, hS⟩ : ∃ S, S = 8 * r := ⟨_, rfl⟩
        have hs2 : IntKind.i64.wrap ((r : Int) * 8) = (S : Int) := by rw [IntKind.wrap_i64]; omega
        have hS0 : (0 : Int) ≤ (S : Int) := by omega
        have hS8 : (S : Int) < 64 := by omega
        have HSS : Hid (S = 8 * r ∧ N = q + 1) := ⟨hS, hN⟩
        obtain ⟨u, hu⟩ : ∃ u, u = Plain.word (Plain.val (s.data.toList.take k)) q := ⟨_, rfl⟩
        rw [← hu] at kc
        have HU : Hid (u = Plain.word (Plain.val (s.data.toList.take k)) q) := hu
        have htm : (k : Int).tmod 8 = (r : Int) := by rw [Int.tmod_eq_emod_of_nonneg hk0]; exact hri
        obtain ⟨b, hb⟩ : ∃ b, b = s[k].toNat := ⟨_, rfl⟩
        have hbw : IntKind.u64.wrap (s[k].toNat : Int) = (b : Int) := by rw [IntKind.wrap_u64]; have := s[k].toNat_lt; omega
        have hb8 : b < 256 := by rw [hb]; exact s[k].toNat_lt
        have HBB : Hid (b = s[k].toNat) := hb
        clear hS hN hu hb
        go_wp2_with fail
        go_still_tail 15, (by kernel_rfl)
        go_wp2
        have hval := or_val HQ.out HSS.out.1 HU.out (Plain.val_take_lt s.data.toList k) hb8
        rw [HBB.out] at hval
        obtain ⟨R1, R2⟩ := HS.out _ hval
        have eN := HSS.out.2
        rw [← HBB.out, ← eN] at R1
        rw [← HBB.out] at R2
        go_roundw
        case rel => exact ⟨k + 1, by omega, by go_num, R1, HB.out.trans R2⟩
        case measure => simp [intOf]; omega
    · have hke : k = s.size := by omega
      subst hke
      clear hi hz0 hz1 hz2
      go_wp2_with fail
      go_ret
      refine ⟨⟨_, rfl, ?_⟩, HB.out⟩
      have h := HO.out
      rw [List.take_of_length_le (by rw [HE.out]; exact Nat.le_refl _)] at h
      exact h
end Go.Proofs.YtnffjoipinhojaaDoor
