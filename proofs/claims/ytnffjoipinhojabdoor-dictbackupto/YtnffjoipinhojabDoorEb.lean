import Derived.Test.YtnffjoipinhojabDoorEa
import Derived.Laws.IdiomStrings
import Derived.OwnWalk
set_option linter.unusedSimpArgs false
set_option linter.unusedVariables false
namespace Go.Proofs.YtnffjoipinhojabDoor
open Go.RowKit

/-- a text as bytes of the call's own -/
def BtA (base : Nat) (w : World) (v : Value) (t : List UInt8) : Prop :=
  ∃ b c, v = .slice (some ⟨b, 0, none⟩) t.length c ∧ base ≤ b ∧ (∃ cs fz, w.heap[b]? = some (.cells cs 5 fz)) ∧ t.length ≤ c ∧ ∀ j x, t[j]? = some x → w.cell? ⟨b, j, none⟩ = some (.int .u8 (x.toNat : Int))

theorem BtA.kept {base : Nat} {w w' : World} {v : Value} {t : List UInt8} (h : BtA base w v t) (hs : w.heap.size ≤ w'.heap.size) (hk : ∀ k, base ≤ k → k < w.heap.size → w'.heap[k]? = w.heap[k]?) : BtA base w' v t := by
  obtain ⟨b, c, h1, h2, ⟨cs, fz, h3⟩, h4, h5⟩ := h
  have hlt := (Array.getElem?_eq_some_iff.1 h3).1
  exact ⟨b, c, h1, h2, ⟨cs, fz, (hk b h2 hlt).trans h3⟩, h4, fun j x hx => (World.cell?_of_block (a := ⟨b, j, none⟩) (hk b h2 hlt)).trans (h5 j x hx)⟩

/-- .. where the rows of other types may turn -/
theorem BtA.keptN {base : Nat} {w w' : World} {v : Value} {t : List UInt8} {e : TypeId} (h : BtA base w v t) (he : e ≠ 5) (hk : ∀ k, base ≤ k → k < w.heap.size → (∀ cs fz, w.heap[k]? ≠ some (.cells cs e fz)) → w'.heap[k]? = w.heap[k]?) : BtA base w' v t := by
  obtain ⟨b, c, h1, h2, ⟨cs, fz, h3⟩, h4, h5⟩ := h
  have hlt := (Array.getElem?_eq_some_iff.1 h3).1
  have hb := hk b h2 hlt (fun cs' fz' e' => by rw [h3] at e'; cases e'; exact he rfl)
  exact ⟨b, c, h1, h2, ⟨cs, fz, hb.trans h3⟩, h4, fun j x hx => (World.cell?_of_block (a := ⟨b, j, none⟩) hb).trans (h5 j x hx)⟩

theorem row_kept {base : Nat} {w w' : World} {v : Value} {e : TypeId} {n : Nat} {xs : List Value} (h : w.ownsRow base e 1 v n xs) (hk : ∀ k, base ≤ k → k < w.heap.size → w'.heap[k]? = w.heap[k]?) : w'.ownsRow base e 1 v n xs := by
  refine ⟨h.1, ?_⟩
  rcases h.2 with h1 | ⟨g, cap, cur, h1, h2, h3, h4⟩
  · exact .inl h1
  · exact .inr ⟨g, cap, cur, h1, h2, by rw [hk g h2 (Array.getElem?_eq_some_iff.1 h3).1]; exact h3, h4⟩

theorem row_form {base : Nat} {w : World} {v : Value} {e : TypeId} {n : Nat} {xs : List Value} (h : w.ownsRow base e 1 v n xs) : ∃ o c, v = .slice o n c := by
  rcases h.2 with ⟨h1, h2⟩ | ⟨g, cap, cur, h1, _⟩
  · exact ⟨none, 0, by rw [h1, h2]⟩
  · exact ⟨_, cap, h1⟩

theorem conv_bt {base : Nat} {w : World} {v : Value} {t : List UInt8} (h : BtA base w v t) : (convert 46 9 v).run Tryd.prog w = .ok (strT t) w := by
  obtain ⟨b, c, rfl, h2, h3, h4, h5⟩ := h
  refine run_convert_bytes_back (P := Tryd.prog) w 46 9 5 ⟨b, 0, none⟩ c t Tryd.underlying46 Tryd.underlying5 Tryd.underlying9 (fun j hj => ?_)
  have e : (⟨b, 0, none⟩ : Addr).add j = ⟨b, j, none⟩ := by unfold Addr.add; split <;> simp_all
  rw [e]
  exact h5 j t[j] (List.getElem?_eq_getElem hj)

theorem one_new (w : World) (u : Value) (T : TypeId) : ∀ j v, [u][j]? = some v → (w.alloc (.cells #[u] T)).cell? ((⟨w.heap.size, 0, none⟩ : Addr).add j) = some v := by
  intro j v hj
  match j, hj with
  | 0, hj => simp at hj; subst hj; simp [Addr.add]

theorem infoBts : (Tryd.prog.info? 46).map (fun i => (i.zero, i.size, i.bytes)) = some (some (.slice none 0 0), 1, 24) := by kernel_rfl

/-- the bytes of texts, a slice each -/
def Bts (base : Nat) (w : World) (vs : List Value) (l : List (List UInt8)) : Prop := vs.length = l.length ∧ ∀ (j : Nat) (u : Value) (t : List UInt8), vs[j]? = some u → l[j]? = some t → BtA base w u t

set_option maxHeartbeats 4000000 in
set_option maxRecDepth 20000 in
theorem asStrings_any (w : World) (base : Nat) (v : Value) (vs : List Value) (l : List (List UInt8)) (ho : w.ownsRow base 46 1 v vs.length vs) (hb : Bts base w vs l) (hn : l.length ≤ 1000) (h0 : 0 < l.length) (hbs : base ≤ w.heap.size) :
    Calls Tryd.prog 64 #[v] w fun e w' => ∃ u, e = .returned u ∧ OwnT w' w.heap.size u l ∧ Below w.heap.size w w' := by
  obtain ⟨i0, hi, hz0, hz1, hz2⟩ := info_parts infoStr
  obtain ⟨g, cap, cur, rfl, hg1, hg2, hg3, hg4, hg5, hg6⟩ : ∃ g cap cur, v = .slice (some ⟨g, 0, none⟩) vs.length cap ∧ base ≤ g ∧ w.heap[g]? = some (.cells cur 46 (0, 0)) ∧ vs.length ≤ cap ∧ cap ≤ maxLen ∧ cur.size = cap * 1 ∧ cur.toList.take (vs.length * 1) = vs := by
    rcases ho.2 with ⟨_, h1⟩ | h
    · have := hb.1
      omega
    · exact h
  have HB : Hid (Bts base w vs l) := hb
  have HC : Hid (∀ (q : Nat) (u : Value), vs[q]? = some u → w.cell? ⟨g, q, none⟩ = some u) := fun q u hq => by
    have := ho.cells (g := g) rfl q u hq
    have e : (⟨g, 0, none⟩ : Addr).add q = ⟨g, q, none⟩ := by unfold Addr.add; split <;> simp_all
    rw [e] at this
    exact this
  have hlv : vs.length = l.length := hb.1
  have hgl : g < w.heap.size := (Array.getElem?_eq_some_iff.1 hg2).1
  have HN0 : Hid (OwnT w w.heap.size (.slice none 0 0) []) := World.ownsRow_nil _ _ _ _
  have HB0 : Hid (Below w.heap.size w w) := Below.refl _ w
  clear ho hb hg2 hg5 hg6
  rw [hlv]
  go_enter Tryd.func64, Tryd.ntmps64
  go_wp2_with fail
  go_loopw [3, 8] (fun t3 t8 wr => ∃ (q : Nat) (o : Option Addr) (c : Nat), q ≤ l.length ∧ t8 = .int .i64 q ∧ t3 = .slice o q c ∧ wr.ownsRow w.heap.size 9 1 (.slice o q c) q ((l.take q).map strT) ∧ Below w.heap.size w wr) (fun t3 t8 wr => l.length - (intOf t8).toNat)
  case atStart => exact ⟨0, none, 0, Nat.zero_le _, rfl, rfl, HN0.out, HB0.out⟩
  case round =>
    obtain ⟨q, o, c, hq, rfl, rfl, hown, hbw⟩ := hrel
    have HO : Hid (wr.ownsRow w.heap.size 9 1 (.slice o q c) q ((l.take q).map strT)) := hown
    have HBw : Hid (Below w.heap.size w wr) := hbw
    clear hown hbw
    by_cases hlt : q < l.length
    · obtain ⟨t, ht⟩ : ∃ t, l[q]? = some t := ⟨_, List.getElem?_eq_getElem hlt⟩
      obtain ⟨u, hu⟩ : ∃ u, vs[q]? = some u := ⟨_, List.getElem?_eq_getElem (by omega)⟩
      have c1 := (HBw.out.cell (p := ⟨g, q, none⟩) hgl).trans (HC.out q u hu)
      have hbt : BtA base wr u t := (HB.out.2 q u t hu ht).kept HBw.out.size (fun k _ hk => HBw.out.block k hk)
      have hcv := conv_bt hbt
      obtain ⟨b, cc, hu1, _⟩ := hbt
      have HT2 : Hid ((l.take (q + 1)).map strT = (l.take q).map strT ++ [strT t]) := by
        unfold Hid
        rw [List.take_add_one, ht]
        simp
      have hoA := HO.out.alloc (.cells #[strT t] 9)
      have hws : w.heap.size ≤ wr.heap.size := HBw.out.size
      subst hu1
      clear ht hu HB HC
      go_wp2_with (first
        | (at_builtin; refine wpList_append_own _ (by rfl) _ _ _ (by rfl) w.heap.size 9 i0 _ 1 16 Tryd.underlying22 hi hz0 hz1 hz2 rfl (by decide) (.slice o q c) q ((l.take q).map strT) (by rfl) hoA ⟨wr.heap.size, 0, none⟩ 1 1 [strT t] (by rfl) (by rfl) (one_new _ _ _) (by simp [Value.oneCell']) (by unfold maxLen; omega) (by omega) (by simp; omega) ?_; intro v3 w3 ho3 hg3 hi3; have HB3 : Hid (Below w.heap.size w w3) := Below.grown (HBw.out.alloc hws _) hg3 (by simp; omega) (fun k hk => (HO.out.lt k hk).1); have HO3 : Hid (w3.ownsRow w.heap.size 9 1 v3 (q + 1) ((l.take (q + 1)).map strT)) := (by unfold Hid; rw [HT2.out]; exact ho3); clear ho3 hg3 hi3 hoA))
      obtain ⟨o3, c3, hv3⟩ := row_form HO3.out
      subst hv3
      go_roundw
      case rel => exact ⟨q + 1, o3, c3, by omega, by go_num, rfl, HO3.out, HB3.out⟩
      case measure => simp [intOf]; omega
    · obtain rfl : q = l.length := by omega
      rw [List.take_length] at HO
      go_wp2_with fail
      go_ret
      exact ⟨_, rfl, HO.out, HBw.out⟩

end Go.Proofs.YtnffjoipinhojabDoor
