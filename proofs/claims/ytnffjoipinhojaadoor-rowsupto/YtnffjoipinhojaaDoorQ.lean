import Derived.Laws.BitsAllLaws
import Derived.Laws.Bits64
import Derived.Laws.Bits64b
namespace Go.Proofs.YtnffjoipinhojaaDoor.Plain

/-- How many of the lowest k bits of n are 1. -/
def pop : Nat → Nat → Nat
  | _, 0 => 0
  | n, k + 1 => n % 2 + pop (n / 2) k

theorem pop_le : ∀ (k n : Nat), pop n k ≤ k
  | 0, n => by simp [pop]
  | k + 1, n => by have := pop_le k (n / 2); rw [pop]; omega

theorem pop_split : ∀ (a b n : Nat), pop n (a + b) = pop n a + pop (n / 2 ^ a) b
  | 0, b, n => by simp [pop]
  | a + 1, b, n => by
    rw [show a + 1 + b = (a + b) + 1 by omega, pop, pop, pop_split a b (n / 2), Nat.div_div_eq_div_mul, Nat.pow_succ, Nat.mul_comm 2, Nat.add_assoc]

theorem pop_mod : ∀ (a n : Nat), pop (n % 2 ^ a) a = pop n a
  | 0, n => by simp [pop]
  | a + 1, n => by
    have e1 : n % 2 ^ (a + 1) % 2 = n % 2 := Nat.mod_mod_of_dvd _ ⟨2 ^ a, by rw [Nat.pow_succ, Nat.mul_comm]⟩
    have e2 : n % 2 ^ (a + 1) / 2 = n / 2 % 2 ^ a := by rw [Nat.pow_succ, Nat.mul_comm, Nat.mod_mul_right_div_self]
    rw [pop, pop, e1, e2, pop_mod a (n / 2)]

theorem pop_succ (n k : Nat) : pop n (k + 1) = pop n k + n / 2 ^ k % 2 := by
  rw [pop_split k 1 n]
  simp [pop]

theorem pop_zero (k : Nat) : pop 0 k = 0 := by
  induction k with
  | zero => rfl
  | succ k ih => rw [pop]; simpa using ih

theorem pop_mono (n a b : Nat) (h : a ≤ b) : pop n a ≤ pop n b := by
  obtain ⟨d, rfl⟩ : ∃ d, b = a + d := ⟨b - a, by omega⟩
  rw [pop_split]
  omega

theorem and_split (a b : Nat) : a &&& b = (a % 256 &&& b % 256) + 256 * (a / 256 &&& b / 256) := by
  have h1 : (a &&& b) % 2 ^ 8 = a % 2 ^ 8 &&& b % 2 ^ 8 := Nat.and_mod_two_pow
  have h2 : (a &&& b) / 2 ^ 8 = a / 2 ^ 8 &&& b / 2 ^ 8 := Nat.and_div_two_pow
  have h3 : (2 : Nat) ^ 8 = 256 := by decide
  rw [h3] at h1 h2
  rw [← h1, ← h2]
  omega

/-- digits of base 256 -/
def dig : List Nat → Nat
  | [] => 0
  | c :: r => c + 256 * dig r

theorem and_low (x m j : Nat) (hm : m < 2 ^ j) (hj : j ≤ 8) : x % 256 &&& m = x % 2 ^ j &&& m := by
  have h1 : (x % 256 &&& m) % 2 ^ j = x % 256 % 2 ^ j &&& m % 2 ^ j := Nat.and_mod_two_pow
  have h2 : x % 256 &&& m ≤ m := Nat.and_le_right
  have h3 : (256 : Nat) = 2 ^ j * 2 ^ (8 - j) := by rw [← Nat.pow_add, show j + (8 - j) = 8 by omega]
  rw [Nat.mod_eq_of_lt (by omega), Nat.mod_eq_of_lt hm, h3, Nat.mod_mul_right_mod] at h1
  rw [h3]
  exact h1

/-- 'x >> k & m', digit by digit, where what is shifted in from the next digit is masked out. -/
theorem shift_mask (k m : Nat) (hk : k ≤ 8) (hm : m < 2 ^ (8 - k)) : ∀ l : List Nat, (∀ c ∈ l, c < 256) → dig l / 2 ^ k &&& dig (List.replicate l.length m) = dig (l.map fun c => c / 2 ^ k &&& m)
  | [], _ => by simp [dig]
  | c :: r, h => by
    have hc := h c (by simp)
    have ih := shift_mask k m hk hm r (fun y hy => h y (by simp [hy]))
    have hp : (256 : Nat) = 2 ^ k * 2 ^ (8 - k) := by rw [← Nat.pow_add, show k + (8 - k) = 8 by omega]
    have hm2 : m < 256 := Nat.lt_of_lt_of_le hm (Nat.pow_le_pow_right (n := 2) (by decide) (show 8 - k ≤ 8 by omega))
    simp only [List.length_cons, List.replicate_succ, List.map_cons, dig]
    rw [and_split]
    have e1 : (m + 256 * dig (List.replicate r.length m)) % 256 = m := by omega
    have e2 : (m + 256 * dig (List.replicate r.length m)) / 256 = dig (List.replicate r.length m) := by omega
    have e3 : (c + 256 * dig r) / 2 ^ k / 256 = dig r / 2 ^ k := by
      rw [Nat.div_div_eq_div_mul, Nat.mul_comm (2 ^ k) 256, ← Nat.div_div_eq_div_mul, show (c + 256 * dig r) / 256 = dig r by omega]
    have e4 : (c + 256 * dig r) / 2 ^ k = c / 2 ^ k + 2 ^ (8 - k) * dig r := by
      rw [hp, Nat.mul_assoc, Nat.add_mul_div_left _ _ (Nat.two_pow_pos k)]
    have e5 : c / 2 ^ k < 2 ^ (8 - k) := by
      rw [Nat.div_lt_iff_lt_mul (Nat.two_pow_pos k), Nat.mul_comm, ← hp]
      exact hc
    have e6 : (c + 256 * dig r) / 2 ^ k % 256 &&& m = c / 2 ^ k &&& m := by
      rw [and_low _ m (8 - k) hm (by omega), e4, Nat.add_mul_mod_self_left, Nat.mod_eq_of_lt e5]
    rw [e1, e2, e3, e6, ih]

theorem dig_add (f g : Nat → Nat) : ∀ l : List Nat, dig (l.map f) + dig (l.map g) = dig (l.map fun c => f c + g c)
  | [] => rfl
  | c :: r => by
    have ih := dig_add f g r
    simp only [List.map_cons, dig]
    omega

/-- '(x >> 4 + x) & 0x0f', digit by digit -/
theorem fold_mask : ∀ l : List Nat, (∀ c ∈ l, c % 16 ≤ 4 ∧ c / 16 ≤ 4) → (dig l / 16 + dig l) &&& dig (List.replicate l.length 15) = dig (l.map fun c => c / 16 + c % 16)
  | [], _ => by simp [dig]
  | c :: r, h => by
    have hc := h c (by simp)
    have ih := fold_mask r (fun y hy => h y (by simp [hy]))
    have hr : dig r % 16 ≤ 4 := by
      cases r with
      | nil => simp [dig]
      | cons a t => have := h a (by simp); simp only [dig]; omega
    simp only [List.length_cons, List.replicate_succ, List.map_cons, dig]
    rw [and_split]
    have e1 : (15 + 256 * dig (List.replicate r.length 15)) % 256 = 15 := by omega
    have e2 : (15 + 256 * dig (List.replicate r.length 15)) / 256 = dig (List.replicate r.length 15) := by omega
    have e3 : ((c + 256 * dig r) / 16 + (c + 256 * dig r)) / 256 = dig r / 16 + dig r := by omega
    have e4 : ((c + 256 * dig r) / 16 + (c + 256 * dig r)) % 256 &&& 15 = c / 16 + c % 16 := by
      have h15 : (15 : Nat) = 2 ^ 4 - 1 := by decide
      rw [h15, Nat.and_two_pow_sub_one_eq_mod]
      omega
    rw [e1, e2, e3, e4, ih]

def s1 (c : Nat) : Nat := (c / 2 &&& 85) + (c &&& 85)
def s2 (c : Nat) : Nat := (c / 4 &&& 51) + (c &&& 51)
def s3 (c : Nat) : Nat := c / 16 + c % 16
set_option maxRecDepth 100000 in
theorem byte_pop : ∀ c : Fin 256, s3 (s2 (s1 c.val)) = pop c.val 8 ∧ s1 c.val < 256 ∧ s2 (s1 c.val) % 16 ≤ 4 ∧ s2 (s1 c.val) / 16 ≤ 4 := by decide

theorem dig_byte (x : Nat) : dig [x % 256, x / 256 % 256, x / 65536 % 256, x / 16777216 % 256, x / 4294967296 % 256, x / 1099511627776 % 256, x / 281474976710656 % 256, x / 72057594037927936] = x := by
  simp only [dig]
  omega

theorem pop_bytes (x : Nat) : pop x 64 = pop (x % 256) 8 + pop (x / 256 % 256) 8 + pop (x / 65536 % 256) 8 + pop (x / 16777216 % 256) 8 + pop (x / 4294967296 % 256) 8 + pop (x / 1099511627776 % 256) 8 + pop (x / 281474976710656 % 256) 8 + pop (x / 72057594037927936) 8 := by
  have st : ∀ n k, pop n (8 + k) = pop (n % 256) 8 + pop (n / 256) k := by
    intro n k
    rw [pop_split 8 k n]
    have := pop_mod 8 n
    rw [show (2 : Nat) ^ 8 = 256 by decide] at this ⊢
    rw [this]
  rw [show 64 = 8 + 56 by rfl, st, show 56 = 8 + 48 by rfl, st, show 48 = 8 + 40 by rfl, st, show 40 = 8 + 32 by rfl, st, show 32 = 8 + 24 by rfl, st, show 24 = 8 + 16 by rfl, st, show 16 = 8 + 8 by rfl, st]
  simp only [Nat.div_div_eq_div_mul, Nat.reduceMul]
  omega

theorem lists (l : List Nat) (h : ∀ c ∈ l, c < 256) (h8 : l.length = 8) (x y1 y2 y3 : Nat) (hx : x = dig l) (h1 : y1 = (x / 2 &&& 6148914691236517205) + (x &&& 6148914691236517205)) (h2 : y2 = (y1 / 4 &&& 3689348814741910323) + (y1 &&& 3689348814741910323)) (h3 : y3 = (y2 / 16 + y2) &&& 1085102592571150095) :
    y1 = dig (l.map s1) ∧ y2 = dig ((l.map s1).map s2) ∧ y3 = dig (l.map fun c => pop c 8) := by
  have m1 : dig (List.replicate l.length 85) = 6148914691236517205 := by rw [h8]; decide
  have m2 : dig (List.replicate l.length 51) = 3689348814741910323 := by rw [h8]; decide
  have m3 : dig (List.replicate l.length 15) = 1085102592571150095 := by rw [h8]; decide
  have a1 : y1 = dig (l.map s1) := by
    have p := shift_mask 1 85 (by decide) (by decide) l h
    have q := shift_mask 0 85 (by decide) (by decide) l h
    simp only [Nat.pow_zero, Nat.div_one, Nat.pow_one] at p q
    rw [m1] at p q
    rw [h1, hx, p, q, dig_add]
    rfl
  have b1 : ∀ c ∈ l.map s1, c < 256 := by
    intro c hc
    obtain ⟨y, hy, rfl⟩ := List.mem_map.1 hc
    exact (byte_pop ⟨y, h y hy⟩).2.1
  have a2 : y2 = dig ((l.map s1).map s2) := by
    have p := shift_mask 2 51 (by decide) (by decide) (l.map s1) b1
    have q := shift_mask 0 51 (by decide) (by decide) (l.map s1) b1
    simp only [Nat.pow_zero, Nat.div_one] at q
    rw [show (2 : Nat) ^ 2 = 4 by decide] at p
    rw [List.length_map, m2] at p q
    rw [h2, a1, p, q, dig_add]
    rfl
  refine ⟨a1, a2, ?_⟩
  have b2 : ∀ c ∈ (l.map s1).map s2, c % 16 ≤ 4 ∧ c / 16 ≤ 4 := by
    intro c hc
    obtain ⟨z, hz, rfl⟩ := List.mem_map.1 hc
    obtain ⟨y, hy, rfl⟩ := List.mem_map.1 hz
    exact (byte_pop ⟨y, h y hy⟩).2.2
  have p := fold_mask ((l.map s1).map s2) b2
  rw [List.length_map, List.length_map, m3] at p
  rw [h3, a2, p, List.map_map, List.map_map]
  congr 1
  apply List.map_congr_left
  intro c hc
  exact (byte_pop ⟨c, h c hc⟩).1

theorem dig_lt (B : Nat) (hB : B ≤ 255) : ∀ l : List Nat, (∀ c ∈ l, c ≤ B) → dig l ≤ dig (List.replicate l.length B)
  | [], _ => by simp [dig]
  | c :: r, h => by
    have := dig_lt B hB r (fun y hy => h y (by simp [hy]))
    have := h c (by simp)
    simp only [List.length_cons, List.replicate_succ, dig]
    omega

/-- the whole count, in Nat -/
theorem count64 (x : Nat) (hx : x < 18446744073709551616) (y1 y2 y3 : Nat) (h1 : y1 = (x / 2 &&& 6148914691236517205) + (x &&& 6148914691236517205)) (h2 : y2 = (y1 / 4 &&& 3689348814741910323) + (y1 &&& 3689348814741910323)) (h3 : y3 = (y2 / 16 + y2) &&& 1085102592571150095) :
    y1 < 18446744073709551616 ∧ y2 < 9223372036854775808 ∧ y3 < 1085102592571150096 ∧ ((y3 + y3 / 256) + (y3 + y3 / 256) / 65536 + ((y3 + y3 / 256) + (y3 + y3 / 256) / 65536) / 4294967296) % 128 = pop x 64 := by
  have hl : ∀ c ∈ [x % 256, x / 256 % 256, x / 65536 % 256, x / 16777216 % 256, x / 4294967296 % 256, x / 1099511627776 % 256, x / 281474976710656 % 256, x / 72057594037927936], c < 256 := by
    intro c hc
    simp only [List.mem_cons, List.not_mem_nil, or_false] at hc
    omega
  obtain ⟨a1, a2, a3⟩ := lists _ hl rfl x y1 y2 y3 (dig_byte x).symm h1 h2 h3
  have hp := pop_bytes x
  have g : ∀ n, pop n 8 ≤ 8 := fun n => pop_le 8 n
  refine ⟨?_, ?_, ?_, ?_⟩
  · rw [a1]
    refine Nat.lt_of_le_of_lt (dig_lt 255 (by decide) _ ?_) (by simp only [List.length_map, List.length_cons, List.length_nil]; decide)
    intro c hc
    obtain ⟨y, hy, rfl⟩ := List.mem_map.1 hc
    have := (byte_pop ⟨y, hl y hy⟩).2.1
    simp only at this
    omega
  · rw [a2]
    refine Nat.lt_of_le_of_lt (dig_lt 68 (by decide) _ ?_) (by simp only [List.length_map, List.length_cons, List.length_nil]; decide)
    intro c hc
    obtain ⟨z, hz, rfl⟩ := List.mem_map.1 hc
    obtain ⟨y, hy, rfl⟩ := List.mem_map.1 hz
    have := (byte_pop ⟨y, hl y hy⟩).2.2
    simp only at this
    omega
  · rw [a3]
    refine Nat.lt_of_le_of_lt (dig_lt 8 (by decide) _ ?_) (by simp only [List.length_map, List.length_cons, List.length_nil]; decide)
    intro c hc
    obtain ⟨y, _, rfl⟩ := List.mem_map.1 hc
    exact g y
  · rw [hp, a3]
    simp only [List.map_cons, List.map_nil, dig]
    have g0 := g (x % 256)
    have g1 := g (x / 256 % 256)
    have g2 := g (x / 65536 % 256)
    have g3 := g (x / 16777216 % 256)
    have g4 := g (x / 4294967296 % 256)
    have g5 := g (x / 1099511627776 % 256)
    have g6 := g (x / 281474976710656 % 256)
    have g7 := g (x / 72057594037927936)
    generalize pop (x % 256) 8 = c0 at *
    generalize pop (x / 256 % 256) 8 = c1 at *
    generalize pop (x / 65536 % 256) 8 = c2 at *
    generalize pop (x / 16777216 % 256) 8 = c3 at *
    generalize pop (x / 4294967296 % 256) 8 = c4 at *
    generalize pop (x / 1099511627776 % 256) 8 = c5 at *
    generalize pop (x / 281474976710656 % 256) 8 = c6 at *
    generalize pop (x / 72057594037927936) 8 = c7 at *
    clear hp g hl a1 a2 a3 h1 h2 h3 hx
    obtain ⟨Y, hY⟩ : ∃ Y, Y = c0 + 256 * (c1 + 256 * (c2 + 256 * (c3 + 256 * (c4 + 256 * (c5 + 256 * (c6 + 256 * (c7 + 256 * 0))))))) := ⟨_, rfl⟩
    rw [← hY]
    have e1 : Y / 256 = c1 + 256 * (c2 + 256 * (c3 + 256 * (c4 + 256 * (c5 + 256 * (c6 + 256 * c7))))) := by omega
    obtain ⟨A, hA⟩ : ∃ A, A = Y + Y / 256 := ⟨_, rfl⟩
    rw [← hA]
    have e2 : A = (c0 + c1) + 256 * ((c1 + c2) + 256 * ((c2 + c3) + 256 * ((c3 + c4) + 256 * ((c4 + c5) + 256 * ((c5 + c6) + 256 * ((c6 + c7) + 256 * c7)))))) := by omega
    clear hA e1 hY
    have e3 : A / 65536 = (c2 + c3) + 256 * ((c3 + c4) + 256 * ((c4 + c5) + 256 * ((c5 + c6) + 256 * ((c6 + c7) + 256 * c7)))) := by omega
    obtain ⟨B, hB⟩ : ∃ B, B = A + A / 65536 := ⟨_, rfl⟩
    rw [← hB]
    have e4 : B = (c0 + c1 + c2 + c3) + 256 * ((c1 + c2 + c3 + c4) + 256 * ((c2 + c3 + c4 + c5) + 256 * ((c3 + c4 + c5 + c6) + 256 * ((c4 + c5 + c6 + c7) + 256 * ((c5 + c6 + c7) + 256 * ((c6 + c7) + 256 * c7)))))) := by omega
    clear hB e2 e3
    have e5 : B / 4294967296 = (c4 + c5 + c6 + c7) + 256 * ((c5 + c6 + c7) + 256 * ((c6 + c7) + 256 * c7)) := by omega
    omega
end Go.Proofs.YtnffjoipinhojaaDoor.Plain
