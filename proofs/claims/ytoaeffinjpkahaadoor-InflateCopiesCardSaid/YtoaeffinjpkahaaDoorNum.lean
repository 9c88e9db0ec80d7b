
/- Plain mathematics of bits and bytes, the lowest first: a number's bits, a list of bits as a number, bytes as bits, and how these join. No program is named here. -/
import Derived.WalkKit
namespace Go.Proofs.YtoaeffinjpkahaaDoor
set_option linter.unusedSimpArgs false
set_option linter.unusedVariables false

/-- n bits of v, the lowest first. -/
def bitsN : Nat → Nat → List Nat
  | 0, _ => []
  | n + 1, v => v % 2 :: bitsN n (v / 2)

/-- The number of bits. -/
def numN : List Nat → Nat
  | [] => 0
  | b :: r => b + 2 * numN r

/-- Bytes as bits. -/
def bitsL : List UInt8 → List Nat
  | [] => []
  | c :: r => bitsN 8 c.toNat ++ bitsL r

/-- k bytes of a list of bits. -/
def bytesK : Nat → List Nat → List UInt8
  | 0, _ => []
  | k + 1, l => UInt8.ofNat (numN (l.take 8)) :: bytesK k (l.drop 8)

/-- The whole bytes. -/
def bytesL (l : List Nat) : List UInt8 := bytesK (l.length / 8) l

/-- k bytes of a number, the lowest first. -/
def leB : Nat → Nat → List UInt8
  | 0, _ => []
  | k + 1, v => UInt8.ofNat (v % 256) :: leB k (v / 256)

/-- The number of bytes. -/
def getN : List UInt8 → Nat
  | [] => 0
  | c :: r => c.toNat + 256 * getN r

/-- How many noughts align so many bits. -/
def padN (n : Nat) : Nat := (8 - n % 8) % 8

theorem pow_succ2 (s : Nat) : 2 ^ (s + 1) = 2 * 2 ^ s := by rw [Nat.pow_succ, Nat.mul_comm]
theorem pow_succ256 (s : Nat) : 256 ^ (s + 1) = 256 * 256 ^ s := by rw [Nat.pow_succ, Nat.mul_comm]
theorem pow_256 (k : Nat) : 256 ^ k = 2 ^ (8 * k) := by rw [show (256 : Nat) = 2 ^ 8 from rfl, ← Nat.pow_mul]

theorem bitsN_length (n v : Nat) : (bitsN n v).length = n := by
  induction n generalizing v with
  | zero => rfl
  | succ n ih => simp [bitsN, ih]

theorem bitsN_lt (n v : Nat) : ∀ x ∈ bitsN n v, x < 2 := by
  induction n generalizing v with
  | zero => intro x hx; cases hx
  | succ n ih =>
    intro x hx
    rcases List.mem_cons.1 hx with rfl | hx
    · exact Nat.mod_lt _ (by decide)
    · exact ih _ x hx

theorem bitsN_add (s n p v : Nat) (hp : p < 2 ^ s) : bitsN (s + n) (p + v * 2 ^ s) = bitsN s p ++ bitsN n v := by
  induction s generalizing p with
  | zero =>
    have : p = 0 := by simpa using hp
    subst this
    simp [bitsN]
  | succ s ih =>
    have e1 : v * 2 ^ (s + 1) = 2 * (v * 2 ^ s) := by rw [pow_succ2, Nat.mul_left_comm]
    have e2 := pow_succ2 s
    rw [show s + 1 + n = (s + n) + 1 by omega]
    simp only [bitsN, List.cons_append]
    congr 1
    · rw [e1]; omega
    · rw [show (p + v * 2 ^ (s + 1)) / 2 = p / 2 + v * 2 ^ s by rw [e1]; omega]
      exact ih (p / 2) (by omega)

theorem bitsN_split (s n a : Nat) : bitsN (s + n) a = bitsN s a ++ bitsN n (a / 2 ^ s) := by
  induction s generalizing a with
  | zero => simp [bitsN]
  | succ s ih =>
    rw [show s + 1 + n = (s + n) + 1 by omega]
    simp only [bitsN, List.cons_append]
    rw [ih, Nat.div_div_eq_div_mul, pow_succ2]

theorem bitsN_mod (n v : Nat) : bitsN n (v % 2 ^ n) = bitsN n v := by
  have h := bitsN_add n 0 (v % 2 ^ n) (v / 2 ^ n) (Nat.mod_lt _ (Nat.two_pow_pos n))
  rw [show v % 2 ^ n + v / 2 ^ n * 2 ^ n = v by rw [Nat.mul_comm]; exact Nat.mod_add_div _ _] at h
  simpa [bitsN] using h.symm

theorem bitsN_zero (n : Nat) : bitsN n 0 = List.replicate n 0 := by
  induction n with
  | zero => rfl
  | succ n ih => simp [bitsN, ih, List.replicate_succ]

theorem numN_bitsN (n v : Nat) : numN (bitsN n v) = v % 2 ^ n := by
  induction n generalizing v with
  | zero => simp [bitsN, numN, Nat.mod_one]
  | succ n ih =>
    simp only [bitsN, numN, ih]
    rw [pow_succ2, Nat.mod_mul]

theorem numN_lt (l : List Nat) (h : ∀ x ∈ l, x < 2) : numN l < 2 ^ l.length := by
  induction l with
  | nil => simp [numN]
  | cons b r ih =>
    have h1 := ih fun x hx => h x (List.mem_cons_of_mem _ hx)
    have h2 := h b List.mem_cons_self
    simp only [numN, List.length_cons]
    rw [pow_succ2]; omega

theorem bitsN_numN (l : List Nat) (h : ∀ x ∈ l, x < 2) : bitsN l.length (numN l) = l := by
  induction l with
  | nil => rfl
  | cons b r ih =>
    have h1 := ih fun x hx => h x (List.mem_cons_of_mem _ hx)
    have h2 := h b List.mem_cons_self
    simp only [numN, List.length_cons, bitsN]
    rw [show (b + 2 * numN r) % 2 = b by omega, show (b + 2 * numN r) / 2 = numN r by omega, h1]

theorem numN_append (a b : List Nat) : numN (a ++ b) = numN a + 2 ^ a.length * numN b := by
  induction a with
  | nil => simp [numN]
  | cons x r ih =>
    simp only [List.cons_append, numN, ih, List.length_cons]
    rw [pow_succ2, Nat.mul_add, Nat.mul_assoc]
    omega

theorem bitsL_length (xs : List UInt8) : (bitsL xs).length = 8 * xs.length := by
  induction xs with
  | nil => rfl
  | cons c r ih => simp [bitsL, bitsN_length, ih]; omega

theorem bitsL_append (xs ys : List UInt8) : bitsL (xs ++ ys) = bitsL xs ++ bitsL ys := by
  induction xs with
  | nil => rfl
  | cons c r ih => simp [bitsL, ih]

theorem bitsL_lt (xs : List UInt8) : ∀ x ∈ bitsL xs, x < 2 := by
  induction xs with
  | nil => intro x hx; cases hx
  | cons c r ih =>
    intro x hx
    rcases List.mem_append.1 hx with hx | hx
    · exact bitsN_lt _ _ x hx
    · exact ih x hx

theorem bitsL_leB (k v : Nat) : bitsL (leB k v) = bitsN (8 * k) v := by
  induction k generalizing v with
  | zero => rfl
  | succ k ih =>
    simp only [leB, bitsL]
    rw [show 8 * (k + 1) = 8 + 8 * k by omega, bitsN_split, ih]
    congr 1
    have e : (UInt8.ofNat (v % 256)).toNat = v % 256 := by simp
    rw [e]
    exact bitsN_mod 8 v

theorem leB_length (k v : Nat) : (leB k v).length = k := by
  induction k generalizing v with
  | zero => rfl
  | succ k ih => simp [leB, ih]

theorem leB_snoc (k v : Nat) : leB (k + 1) v = leB k v ++ [UInt8.ofNat (v / 256 ^ k % 256)] := by
  induction k generalizing v with
  | zero => simp [leB]
  | succ k ih =>
    have h := ih (v / 256)
    rw [leB, h, leB, List.cons_append, Nat.div_div_eq_div_mul, pow_succ256]

theorem getN_lt (l : List UInt8) : getN l < 256 ^ l.length := by
  induction l with
  | nil => simp [getN]
  | cons c r ih =>
    have := c.toNat_lt
    simp only [getN, List.length_cons]
    rw [pow_succ256]; omega

theorem getN_snoc (l : List UInt8) (c : UInt8) : getN (l ++ [c]) = getN l + 256 ^ l.length * c.toNat := by
  induction l with
  | nil => simp [getN]
  | cons d r ih =>
    simp only [List.cons_append, getN, ih, List.length_cons]
    rw [pow_succ256, Nat.mul_add, Nat.mul_assoc]
    omega

theorem getN_leB (k v : Nat) : getN (leB k v) = v % 256 ^ k := by
  induction k generalizing v with
  | zero => simp [leB, getN, Nat.mod_one]
  | succ k ih =>
    simp only [leB, getN, ih]
    rw [pow_succ256, Nat.mod_mul]
    congr 1
    simp

theorem bytesK_snoc (k : Nat) (l : List Nat) : bytesK (k + 1) l = bytesK k l ++ [UInt8.ofNat (numN ((l.drop (8 * k)).take 8))] := by
  induction k generalizing l with
  | zero => simp [bytesK]
  | succ k ih =>
    have h := ih (l.drop 8)
    rw [bytesK, h, bytesK, List.cons_append, List.drop_drop, show 8 + 8 * k = 8 * (k + 1) by omega]

theorem bytesK_bitsL (xs : List UInt8) (r : List Nat) : bytesK xs.length (bitsL xs ++ r) = xs := by
  induction xs with
  | nil => rfl
  | cons c q ih =>
    have hl := bitsN_length 8 c.toNat
    simp only [List.length_cons, bytesK, bitsL, List.append_assoc]
    rw [List.take_left' hl, List.drop_left' hl, ih, numN_bitsN]
    congr 1
    apply UInt8.toNat_inj.1
    simp

theorem bytesL_bits (xs : List UInt8) (r : List Nat) (hr : r.length < 8) : bytesL (bitsL xs ++ r) = xs := by
  unfold bytesL
  rw [List.length_append, bitsL_length, show (8 * xs.length + r.length) / 8 = xs.length by omega]
  exact bytesK_bitsL xs r

theorem drop_whole (xs : List UInt8) (r : List Nat) (hr : r.length < 8) : (bitsL xs ++ r).drop ((bitsL xs ++ r).length / 8 * 8) = r := by
  rw [List.length_append, bitsL_length, show (8 * xs.length + r.length) / 8 * 8 = (bitsL xs).length by rw [bitsL_length]; omega]
  exact List.drop_left

theorem bytesK_length (k : Nat) (l : List Nat) : (bytesK k l).length = k := by
  induction k generalizing l with
  | zero => rfl
  | succ k ih => simp [bytesK, ih]

theorem numN_snoc_front (b : Nat) (r : List Nat) : numN (b :: r) = 2 * numN r + b := by simp only [numN]; omega

theorem bitsL_drop (ys : List UInt8) (q : Nat) : (bitsL ys).drop (8 * q) = bitsL (ys.drop q) := by
  induction q generalizing ys with
  | zero => simp
  | succ q ih =>
    cases ys with
    | nil => simp [bitsL]
    | cons c r =>
      rw [bitsL, show 8 * (q + 1) = (bitsN 8 c.toNat).length + 8 * q by rw [bitsN_length]; omega, ← List.drop_drop, List.drop_left, List.drop_succ_cons, ih]

theorem bitsL_take (ys : List UInt8) (q : Nat) : (bitsL ys).take (8 * q) = bitsL (ys.take q) := by
  induction q generalizing ys with
  | zero => simp [bitsL]
  | succ q ih =>
    cases ys with
    | nil => simp [bitsL]
    | cons c r =>
      have hl := bitsN_length 8 c.toNat
      rw [bitsL, show 8 * (q + 1) = (bitsN 8 c.toNat).length + 8 * q by rw [hl]; omega, List.take_length_add_append, ih, List.take_succ_cons, bitsL]

theorem numN_bitsL (ys : List UInt8) : numN (bitsL ys) = getN ys := by
  induction ys with
  | nil => rfl
  | cons c r ih =>
    have := c.toNat_lt
    rw [bitsL, numN_append, numN_bitsN, bitsN_length, ih, getN]
    omega

theorem numN_drop (l : List Nat) (h : ∀ x ∈ l, x < 2) (g : Nat) : numN (l.drop g) = numN l / 2 ^ g := by
  induction g generalizing l with
  | zero => simp
  | succ g ih =>
    cases l with
    | nil => simp [numN]
    | cons b r =>
      have h2 := h b List.mem_cons_self
      rw [List.drop_succ_cons, ih r (fun x hx => h x (List.mem_cons_of_mem _ hx)), pow_succ2, ← Nat.div_div_eq_div_mul]
      congr 1
      simp only [numN]; omega

theorem numN_take (l : List Nat) (h : ∀ x ∈ l, x < 2) (n : Nat) : numN (l.take n) = numN l % 2 ^ n := by
  induction n generalizing l with
  | zero => simp [numN, Nat.mod_one]
  | succ n ih =>
    cases l with
    | nil => simp [numN]
    | cons b r =>
      have h2 := h b List.mem_cons_self
      rw [List.take_succ_cons]
      simp only [numN]
      rw [ih r (fun x hx => h x (List.mem_cons_of_mem _ hx)), pow_succ2, Nat.mod_mul]
      rw [show (b + 2 * numN r) % 2 = b by omega, show (b + 2 * numN r) / 2 = numN r by omega]

/-- What a reader's number is, out of the first c bytes. -/
theorem peek_val (ys : List UInt8) (g n c : Nat) (hc : g + n ≤ 8 * c) : numN (((bitsL ys).drop g).take n) = getN (ys.take c) / 2 ^ g % 2 ^ n := by
  have e : ((bitsL ys).drop g).take n = ((bitsL (ys.take c)).drop g).take n := by
    rw [← bitsL_take, List.drop_take, List.take_take, Nat.min_eq_left (by omega)]
  rw [e, numN_take _ (fun x hx => bitsL_lt _ x (List.mem_of_mem_drop hx)), numN_drop _ (bitsL_lt _), numN_bitsL]

/-- One byte more. -/
theorem getN_take_succ (ys : List UInt8) (k : Nat) (hk : k < ys.length) : getN (ys.take k) ||| ys[k].toNat * 2 ^ (8 * k) = getN (ys.take (k + 1)) := by
  have hl : (ys.take k).length = k := by rw [List.length_take]; omega
  have h1 := getN_lt (ys.take k)
  rw [hl, pow_256] at h1
  have e : getN (ys.take k) ||| ys[k].toNat * 2 ^ (8 * k) = getN (ys.take k) + ys[k].toNat * 2 ^ (8 * k) := by
    rw [Nat.or_comm, Nat.mul_comm, ← Nat.two_pow_add_eq_or_of_lt h1, Nat.add_comm]
  rw [e, List.take_succ_eq_append_getElem hk, getN_snoc, hl, pow_256, Nat.mul_comm]

theorem getN_take_lt (ys : List UInt8) (k m : Nat) (hk : k ≤ m) : getN (ys.take k) < 2 ^ (8 * m) := by
  have h1 := getN_lt (ys.take k)
  rw [pow_256] at h1
  exact Nat.lt_of_lt_of_le h1 (Nat.pow_le_pow_right (by decide) (by have := List.length_take_le k ys; omega))

theorem bitsN_snoc (k v : Nat) : bitsN (k + 1) v = bitsN k v ++ [v / 2 ^ k % 2] := by
  rw [bitsN_split k 1]; rfl

theorem bitsL_take_succ (xs : List UInt8) (k : Nat) (hk : k < xs.length) : bitsL (xs.take (k + 1)) = bitsL (xs.take k) ++ bitsN 8 xs[k].toNat := by
  rw [List.take_succ_eq_append_getElem hk, bitsL_append]
  simp [bitsL]

theorem numN_drop_pred (l : List Nat) (k : Nat) (h0 : 0 < k) (hk : k ≤ l.length) : numN (l.drop (k - 1)) = 2 * numN (l.drop k) + l[k - 1] := by
  have := List.drop_eq_getElem_cons (l := l) (i := k - 1) (by omega)
  rw [show k - 1 + 1 = k by omega] at this
  rw [this, numN_snoc_front]

/-- What a writer's accumulator holds. -/
theorem acc_bits (xs : List UInt8) (s p n v q : Nat) (hp : p < 2 ^ s) (hq : q = (s + n) / 8) :
    bitsL (xs ++ leB q (p + v % 2 ^ n * 2 ^ s)) ++ bitsN ((s + n) % 8) ((p + v % 2 ^ n * 2 ^ s) / 256 ^ q) = (bitsL xs ++ bitsN s p) ++ bitsN n v := by
  rw [bitsL_append, bitsL_leB, List.append_assoc, List.append_assoc, pow_256, ← bitsN_split, show 8 * q + (s + n) % 8 = s + n by omega, bitsN_add s n p _ hp, bitsN_mod]

theorem acc_lt (s p n v q : Nat) (hp : p < 2 ^ s) (hq : q = (s + n) / 8) : (p + v % 2 ^ n * 2 ^ s) / 256 ^ q < 2 ^ ((s + n) % 8) := by
  rw [pow_256, Nat.div_lt_iff_lt_mul (Nat.two_pow_pos _), ← Nat.pow_add, show (s + n) % 8 + 8 * q = n + s by omega, Nat.pow_add]
  have h1 := Nat.mod_lt v (Nat.two_pow_pos n)
  have h2 : (v % 2 ^ n + 1) * 2 ^ s ≤ 2 ^ n * 2 ^ s := Nat.mul_le_mul_right _ h1
  rw [Nat.add_mul, Nat.one_mul] at h2
  omega

theorem or_join (s p x : Nat) (hp : p < 2 ^ s) : p ||| x * 2 ^ s = p + x * 2 ^ s := by
  rw [Nat.or_comm, Nat.mul_comm, ← Nat.two_pow_add_eq_or_of_lt hp, Nat.add_comm]

end Go.Proofs.YtoaeffinjpkahaaDoor
