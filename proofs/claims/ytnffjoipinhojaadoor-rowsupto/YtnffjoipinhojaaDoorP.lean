import Derived.Laws.BitsAllLaws
namespace Go.Proofs.YtnffjoipinhojaaDoor.Plain

/-- Bytes as one number, the first one lowest. -/
def val : List UInt8 → Nat
  | [] => 0
  | c :: r => c.toNat + 256 * val r

theorem val_lt : ∀ l : List UInt8, val l < 256 ^ l.length
  | [] => by simp [val]
  | c :: r => by
    have h := val_lt r
    have hc := c.toNat_lt
    rw [val, List.length_cons, Nat.pow_succ]
    omega

theorem val_append : ∀ a b : List UInt8, val (a ++ b) = val a + 256 ^ a.length * val b
  | [], b => by simp [val]
  | c :: r, b => by
    rw [List.cons_append, val, val_append r b, val, List.length_cons, Nat.pow_succ, Nat.mul_add, Nat.mul_comm (256 ^ r.length) 256, Nat.mul_assoc]
    omega

theorem val_inj : ∀ a b : List UInt8, a.length = b.length → val a = val b → a = b
  | [], [], _, _ => rfl
  | [], _ :: _, h, _ => by simp at h
  | _ :: _, [], h, _ => by simp at h
  | c :: r, d :: s, h, e => by
    have hc := c.toNat_lt
    have hd := d.toNat_lt
    rw [val, val] at e
    have e1 : c.toNat = d.toNat := by omega
    have e2 : val r = val s := by omega
    rw [val_inj r s (by simpa using h) e2, UInt8.toNat_inj.1 e1]

theorem pow256 (n : Nat) : (256 : Nat) ^ n = 2 ^ (8 * n) := by
  rw [Nat.pow_mul]

theorem val_zeros (n : Nat) : val (List.replicate n 0) = 0 := by
  induction n with
  | zero => rfl
  | succ n ih => rw [List.replicate_succ, val, ih]; rfl

/-- One byte turned. -/
theorem val_set : ∀ (l : List UInt8) (i : Nat) (c : UInt8), i < l.length → val (l.set i c) + (l.getD i 0).toNat * 256 ^ i = val l + c.toNat * 256 ^ i
  | [], i, c, h => by simp at h
  | d :: r, 0, c, _ => by simp [val]; omega
  | d :: r, i + 1, c, h => by
    have ih := val_set r i c (by simpa using h)
    rw [List.set_cons_succ, val, val, List.getD_cons_succ, Nat.pow_succ]
    have e1 : (r.getD i 0).toNat * (256 ^ i * 256) = 256 * ((r.getD i 0).toNat * 256 ^ i) := by rw [← Nat.mul_assoc, Nat.mul_comm]
    have e2 : c.toNat * (256 ^ i * 256) = 256 * (c.toNat * 256 ^ i) := by rw [← Nat.mul_assoc, Nat.mul_comm]
    rw [e1, e2]
    omega

/-- A byte within the number. -/
theorem val_byte : ∀ (l : List UInt8) (i : Nat), (l.getD i 0).toNat = val l / 256 ^ i % 256
  | [], i => by simp [val]
  | c :: r, 0 => by
    have hc := c.toNat_lt
    simp [val]
  | c :: r, i + 1 => by
    have ih := val_byte r i
    have hc := c.toNat_lt
    rw [List.getD_cons_succ, ih, val, Nat.pow_succ, Nat.mul_comm (256 ^ i) 256, ← Nat.div_div_eq_div_mul]
    have e : (c.toNat + 256 * val r) / 256 = val r := by omega
    rw [e]

/-- A bit within the number. -/
theorem val_bit (l : List UInt8) (p : Nat) : (l.getD (p / 8) 0).toNat / 2 ^ (p % 8) % 2 = val l / 2 ^ p % 2 := by
  rw [val_byte, pow256]
  have hp : 2 ^ p = 2 ^ (8 * (p / 8)) * 2 ^ (p % 8) := by rw [← Nat.pow_add]; congr 1; omega
  have h8 : p % 8 < 8 := by omega
  rw [hp, ← Nat.div_div_eq_div_mul]
  generalize val l / 2 ^ (8 * (p / 8)) = y
  generalize p % 8 = j at h8
  have e : (256 : Nat) = 2 ^ j * 2 ^ (8 - j) := by rw [← Nat.pow_add]; rw [show j + (8 - j) = 8 by omega]
  have d : (2 : Nat) ∣ 2 ^ (8 - j) := ⟨2 ^ (8 - j - 1), by rw [← Nat.pow_succ']; congr 1; omega⟩
  rw [e, Nat.mod_mul_right_div_self, Nat.mod_mod_of_dvd _ d]

/-- Numbers of w bits each as one number, the first one lowest. -/
def packN (w : Nat) : List Nat → Nat
  | [] => 0
  | x :: r => x + 2 ^ w * packN w r

theorem packN_snoc (w : Nat) : ∀ (l : List Nat) (x : Nat), packN w (l ++ [x]) = packN w l + x * 2 ^ (w * l.length)
  | [], x => by simp [packN]
  | y :: r, x => by
    rw [List.cons_append, packN, packN_snoc w r x, packN, List.length_cons, Nat.mul_add, Nat.mul_succ, Nat.pow_add]
    have : 2 ^ w * (x * 2 ^ (w * r.length)) = x * (2 ^ (w * r.length) * 2 ^ w) := by rw [Nat.mul_comm, Nat.mul_assoc]
    omega

theorem packN_lt (w : Nat) : ∀ l : List Nat, (∀ x ∈ l, x < 2 ^ w) → packN w l < 2 ^ (w * l.length)
  | [], _ => by simp [packN]
  | x :: r, h => by
    have hx := h x (by simp)
    have hr := packN_lt w r (fun y hy => h y (by simp [hy]))
    rw [packN, List.length_cons, Nat.mul_succ, Nat.pow_add]
    have h2 : 2 ^ w * packN w r + 2 ^ w ≤ 2 ^ w * 2 ^ (w * r.length) := by
      rw [← Nat.mul_succ]
      exact Nat.mul_le_mul_left _ hr
    have h3 : 2 ^ w * 2 ^ (w * r.length) = 2 ^ (w * r.length) * 2 ^ w := Nat.mul_comm _ _
    omega

/-- The i-th number out of the one number. -/
theorem packN_get (w : Nat) : ∀ (l : List Nat) (i : Nat), (∀ x ∈ l, x < 2 ^ w) → packN w l / 2 ^ (i * w) % 2 ^ w = l.getD i 0
  | [], i, _ => by simp [packN]
  | x :: r, 0, h => by
    have hx := h x (by simp)
    simp [packN, Nat.mod_eq_of_lt hx]
  | x :: r, i + 1, h => by
    have hx := h x (by simp)
    have ih := packN_get w r i (fun y hy => h y (by simp [hy]))
    rw [packN, List.getD_cons_succ, ← ih, Nat.succ_mul, Nat.add_comm (i * w) w, Nat.pow_add, ← Nat.div_div_eq_div_mul]
    have e : (x + 2 ^ w * packN w r) / 2 ^ w = packN w r := by
      rw [Nat.add_mul_div_left _ _ (Nat.two_pow_pos w), Nat.div_eq_of_lt hx, Nat.zero_add]
    rw [e]

/-- Cut the number into count pieces: together they are its lowest bits. -/
theorem packN_cut (w D : Nat) : ∀ count : Nat, packN w ((List.range count).map fun i => D / 2 ^ (i * w) % 2 ^ w) = D % 2 ^ (count * w)
  | 0 => by simp [packN, Nat.mod_one]
  | c + 1 => by
    rw [List.range_succ, List.map_append, List.map_cons, List.map_nil, packN_snoc, packN_cut w D c, List.length_map, List.length_range, Nat.succ_mul, Nat.pow_add, Nat.mod_mul, Nat.mul_comm w c, Nat.mul_comm (D / _ % _)]

end Go.Proofs.YtnffjoipinhojaaDoor.Plain
