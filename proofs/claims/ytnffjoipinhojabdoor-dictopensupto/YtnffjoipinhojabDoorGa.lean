import Derived.Test.YtnffjoipinhojabDoorEi
set_option linter.unusedSimpArgs false
set_option linter.unusedVariables false
namespace Go.Proofs.YtnffjoipinhojabDoor
open Go.RowKit

/-! The order of texts. -/

theorem less_irr : ∀ a : List UInt8, Op.bytesLess a a = false
  | [] => rfl
  | x :: a => by
    have h : ¬ x < x := fun e => Nat.lt_irrefl _ e
    simp [Op.bytesLess, h, less_irr a]
theorem less_trans : ∀ {a b c : List UInt8}, Op.bytesLess a b = true → Op.bytesLess b c = true → Op.bytesLess a c = true
  | _, [], _, h, _ => by simp [Op.bytesLess] at h
  | [], y :: b, [], _, h => by simp [Op.bytesLess] at h
  | [], y :: b, z :: c, _, _ => rfl
  | x :: a, y :: b, [], _, h => by simp [Op.bytesLess] at h
  | x :: a, y :: b, z :: c, h, k => by
    simp only [Op.bytesLess, Bool.or_eq_true, decide_eq_true_eq, Bool.and_eq_true, beq_iff_eq] at h k ⊢
    rcases h with h | ⟨rfl, h⟩
    · rcases k with k | ⟨rfl, _⟩
      · exact .inl (Nat.lt_trans (m := y.toNat) h k)
      · exact .inl h
    · rcases k with k | ⟨rfl, k⟩
      · exact .inl k
      · exact .inr ⟨rfl, less_trans h k⟩
theorem less_ne {a b : List UInt8} (h : Op.bytesLess a b = true) : a ≠ b := fun e => by rw [e, less_irr] at h; cases h
theorem less_asymm {a b : List UInt8} (h : Op.bytesLess a b = true) : Op.bytesLess b a = false := by
  cases e : Op.bytesLess b a with
  | false => rfl
  | true => have := less_trans h e; rw [less_irr] at this; cases this
theorem less_tri (a b : List UInt8) : Op.bytesLess a b = true ∨ a = b ∨ Op.bytesLess b a = true := by
  have h := less_total a b
  cases e : Op.bytesLess a b with
  | true => exact .inl rfl
  | false =>
    rw [e] at h
    simp at h
    rcases h with h | h
    · exact .inr (.inr h)
    · exact .inr (.inl h.symm)

theorem Rise2.lt {l : List (List UInt8)} (h : Rise2 l) : ∀ {d k : Nat} {a b : List UInt8}, l[k]? = some a → l[k + d + 1]? = some b → Op.bytesLess a b = true
  | 0, k, a, b, ha, hb => h.at ha hb
  | d + 1, k, a, b, ha, hb => by
    obtain ⟨c, hc⟩ : ∃ c, l[k + d + 1]? = some c := ⟨_, List.getElem?_eq_getElem (by have := (List.getElem?_eq_some_iff.1 hb).1; omega)⟩
    exact less_trans (Rise2.lt h (d := d) ha hc) (h.at hc hb)
theorem Rise2.lt' {l : List (List UInt8)} (h : Rise2 l) {k m : Nat} {a b : List UInt8} (ha : l[k]? = some a) (hb : l[m]? = some b) (hk : k < m) : Op.bytesLess a b = true :=
  h.lt (d := m - k - 1) ha (by rw [show k + (m - k - 1) + 1 = m by omega]; exact hb)

/-- the number of a text in a list -/
def whereAt : Nat → List (List UInt8) → List UInt8 → Int
  | _, [], _ => -1
  | q, t :: r, s => if t = s then q else whereAt (q + 1) r s
theorem where_step {l : List (List UInt8)} {q : Nat} {t s : List UInt8} (h : l[q]? = some t) : whereAt q (l.drop q) s = if t = s then (q : Int) else whereAt (q + 1) (l.drop (q + 1)) s := by
  rw [drop_cons h, whereAt]
theorem where_miss : ∀ {l : List (List UInt8)} {q : Nat} {s : List UInt8}, (∀ t ∈ l, t ≠ s) → whereAt q l s = -1
  | [], _, _, _ => rfl
  | t :: r, q, s, h => by
    unfold whereAt
    rw [if_neg (h t (List.mem_cons_self ..))]
    exact where_miss fun x hx => h x (List.mem_cons_of_mem _ hx)
theorem where_go : ∀ {l : List (List UInt8)} {q k : Nat} {s : List UInt8}, l[k]? = some s → (∀ (i : Nat) (t : List UInt8), i < k → l[i]? = some t → t ≠ s) → whereAt q l s = ((q + k : Nat) : Int)
  | [], q, k, s, h, _ => by simp at h
  | t :: r, q, 0, s, h, _ => by
    simp at h
    subst h
    simp [whereAt]
  | t :: r, q, k + 1, s, h, hb => by
    have h0 := hb 0 t (by omega) rfl
    unfold whereAt
    rw [if_neg h0, where_go (k := k) (by simpa using h) (fun i x hi hx => hb (i + 1) x (by omega) (by simpa using hx))]
    omega
theorem where_hit {l : List (List UInt8)} {k : Nat} {s : List UInt8} (h : Rise2 l) (hk : l[k]? = some s) : whereAt 0 l s = (k : Int) := by
  rw [where_go hk (fun i t hi ht => less_ne (h.lt' ht hk hi))]
  simp

theorem str_eq {T S : ByteArray} : T.data.toList = S.data.toList ↔ T = S := by
  constructor
  · intro e
    obtain ⟨⟨t⟩⟩ := T
    obtain ⟨⟨s⟩⟩ := S
    have e' : t = s := e
    rw [e']
  · rintro rfl; rfl
theorem toList_data (S : ByteArray) : S.toList = S.data.toList := ByteArray.toList_eq S

set_option maxHeartbeats 4000000 in
set_option maxRecDepth 20000 in
theorem where_any (w : World) (v : Value) (l : List (List UInt8)) (S : ByteArray) (hv : Texts w v l) (hn : l.length ≤ 1048576) :
    Calls Tryd.prog 14 #[v, .string S] w fun e w' => e = .returned (.int .i64 (whereAt 0 l S.data.toList)) ∧ w = w' := by
  obtain ⟨vo, vc, rfl⟩ := hv.form
  have HV : Hid (Texts w (.slice vo l.length vc) l) := hv
  clear hv
  go_enter Tryd.func14, Tryd.ntmps14
  go_wp2_with fail
  go_loopw [5] (fun t5 wr => ∃ q : Nat, q ≤ l.length ∧ t5 = .int .i64 q ∧ whereAt 0 l S.data.toList = whereAt q (l.drop q) S.data.toList ∧ w = wr) (fun t5 wr => l.length - (intOf t5).toNat)
  case atStart => exact ⟨0, Nat.zero_le _, rfl, by simp, rfl⟩
  case round =>
    obtain ⟨q, hq, rfl, hw, rfl⟩ := hrel
    have HW : Hid (whereAt 0 l S.data.toList = whereAt q (l.drop q) S.data.toList) := hw
    clear hw
    by_cases hlt : q < l.length
    · obtain ⟨t, ht⟩ : ∃ t, l[q]? = some t := ⟨_, List.getElem?_eq_getElem hlt⟩
      rcases HV.out with ⟨_, _, _, _, rfl⟩ | ⟨g, off, cap, hv1, hv2, _, _, hv5⟩
      · simp at hlt
      · cases hv1
        have c1 := hv5 q t ht
        have hst := where_step (s := S.data.toList) ht
        obtain ⟨T, hT⟩ : ∃ T : ByteArray, T = ⟨t.toArray⟩ := ⟨_, rfl⟩
        rw [show strT t = .string T by rw [hT]] at c1
        have hTd : T.data.toList = t := by rw [hT]
        rw [← HW.out] at hst
        clear hT ht hv5 HW
        by_cases hs : t = S.data.toList
        · have hTS : T = S := str_eq.1 (hTd.trans hs)
          have HW2 : Hid (whereAt 0 l S.data.toList = q) := by unfold Hid; rw [hst, if_pos hs]
          subst hTS
          clear hst hs hTd
          go_wp2_with fail
          go_ret
          exact ⟨by rw [HW2.out]; rfl, rfl⟩
        · have HW2 : Hid (whereAt 0 l S.data.toList = whereAt (q + 1) (l.drop (q + 1)) S.data.toList) := by unfold Hid; rw [hst, if_neg hs]
          have hne : (T.toList == S.toList) = false := by
            rw [beq_eq_false_iff_ne, toList_data, toList_data, hTd]
            exact hs
          clear hst hs hTd
          go_wp2_with fail
          go_roundw
          case rel => exact ⟨q + 1, by omega, by go_num, HW2.out, trivial⟩
          case measure => simp [intOf]; omega
    · have HW2 : Hid (whereAt 0 l S.data.toList = -1) := by
        unfold Hid
        rw [HW.out, List.drop_eq_nil_of_le (by omega)]
        rfl
      go_wp2_with fail
      go_ret
      exact ⟨by rw [HW2.out]; rfl, rfl⟩

end Go.Proofs.YtnffjoipinhojabDoor
