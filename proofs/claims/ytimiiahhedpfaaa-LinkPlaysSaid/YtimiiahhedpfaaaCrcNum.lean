/- Plain mathematics of the check of 32 bits: its turn is linear and loses nothing; bytes behind one another are so many turns of their number; noughts are turns; a product by a power is turns. No program is named here. -/
import Derived.Test.YtimiiahhedpfaaaNum
namespace Go.Proofs.Ytimiiahhedpfaaa

/-- One turn, of a number of any size. -/
def T1 (s : Nat) : Nat := (s >>> 1) ^^^ (if s % 2 = 1 then 3988292384 else 0)
/-- n turns. -/
def Tn : Nat → Nat → Nat
  | 0, s => s
  | n + 1, s => Tn n (T1 s)

theorem T1_zero : T1 0 = 0 := rfl
theorem Tn_zero (n : Nat) : Tn n 0 = 0 := by
  induction n with
  | zero => rfl
  | succ n ih => exact ih
theorem T1_xor (a b : Nat) : T1 (a ^^^ b) = T1 a ^^^ T1 b := by
  unfold T1
  rw [Nat.shiftRight_xor_distrib]
  have h := @Nat.xor_mod_two_eq_one a b
  by_cases ha : a % 2 = 1 <;> by_cases hb : b % 2 = 1
  · have hc : ¬ (a ^^^ b) % 2 = 1 := by rw [h]; simp [ha, hb]
    rw [if_pos ha, if_pos hb, if_neg hc, Nat.xor_zero]
    rw [Nat.xor_assoc (a >>> 1), ← Nat.xor_assoc 3988292384, Nat.xor_comm 3988292384 (b >>> 1), Nat.xor_assoc (b >>> 1), Nat.xor_self, Nat.xor_zero]
  · have hc : (a ^^^ b) % 2 = 1 := by rw [h]; simp [ha, hb]
    rw [if_pos ha, if_neg hb, if_pos hc, Nat.xor_zero, Nat.xor_assoc, Nat.xor_assoc, Nat.xor_comm (b >>> 1)]
  · have hc : (a ^^^ b) % 2 = 1 := by rw [h]; simp [ha, hb]
    rw [if_neg ha, if_pos hb, if_pos hc, Nat.xor_zero, Nat.xor_assoc]
  · have hc : ¬ (a ^^^ b) % 2 = 1 := by rw [h]; simp [ha, hb]
    rw [if_neg ha, if_neg hb, if_neg hc, Nat.xor_zero, Nat.xor_zero, Nat.xor_zero]
theorem Tn_xor (n a b : Nat) : Tn n (a ^^^ b) = Tn n a ^^^ Tn n b := by
  induction n generalizing a b with
  | zero => rfl
  | succ n ih => simp only [Tn]; rw [T1_xor, ih]
theorem Tn_add (n m s : Nat) : Tn (n + m) s = Tn m (Tn n s) := by
  induction n generalizing s with
  | zero => simp [Tn]
  | succ n ih => rw [show n + 1 + m = (n + m) + 1 by omega]; simp only [Tn]; exact ih _
theorem Tn_succ (n s : Nat) : Tn (n + 1) s = T1 (Tn n s) := Tn_add n 1 s
theorem T1_lt (s : Nat) (h : s < 4294967296) : T1 s < 4294967296 := by
  unfold T1
  rw [Nat.shiftRight_eq_div_pow]
  exact Nat.xor_lt_two_pow (n := 32) (by omega) (by split <;> omega)
theorem Tn_lt (n s : Nat) (h : s < 4294967296) : Tn n s < 4294967296 := by
  induction n generalizing s with
  | zero => exact h
  | succ n ih => exact ih _ (T1_lt s h)
theorem T1_even (s : Nat) : T1 (2 * s) = s := by
  unfold T1
  rw [if_neg (by omega), Nat.xor_zero, Nat.shiftRight_eq_div_pow]
  omega
theorem Tn_shift (n s : Nat) : Tn n (s * 2 ^ n) = s := by
  induction n generalizing s with
  | zero => simp [Tn]
  | succ n ih =>
    rw [show n + 1 = 1 + n by omega, Tn_add, Nat.pow_add, show s * (2 ^ 1 * 2 ^ n) = 2 * (s * 2 ^ n) by rw [Nat.mul_left_comm]]
    show Tn n (T1 (2 * (s * 2 ^ n))) = s
    rw [T1_even, ih]
theorem T1_ne (s : Nat) (h : s < 4294967296) (h0 : s ≠ 0) : T1 s ≠ 0 := by
  unfold T1
  rw [Nat.shiftRight_eq_div_pow]
  by_cases ho : s % 2 = 1
  · rw [if_pos ho]
    intro e
    have h2 := congrArg (fun x => x ^^^ 3988292384) e
    simp only [Nat.xor_assoc, Nat.xor_self, Nat.xor_zero, Nat.zero_xor] at h2
    omega
  · rw [if_neg ho, Nat.xor_zero]; omega
theorem Tn_ne (n s : Nat) (h : s < 4294967296) (h0 : s ≠ 0) : Tn n s ≠ 0 := by
  induction n generalizing s with
  | zero => exact h0
  | succ n ih => exact ih _ (T1_lt s h) (T1_ne s h h0)

/-- A number's lower byte and the rest, bit by bit. -/
theorem byte_split (s : Nat) : s = s % 256 ^^^ (s / 256 * 2 ^ 8) := by
  have h := Nat.two_pow_add_eq_or_of_lt (i := 8) (b := s % 256) (Nat.mod_lt _ (by decide)) (s / 256)
  have h2 : s = 2 ^ 8 * (s / 256) + s % 256 := by omega
  have hx : s % 256 ^^^ (s / 256 * 2 ^ 8) = s % 256 ||| (s / 256 * 2 ^ 8) := by
    apply Nat.eq_of_testBit_eq
    intro i
    rw [Nat.testBit_xor, Nat.testBit_or]
    by_cases hi : i < 8
    · have h3 : (s / 256 * 2 ^ 8).testBit i = false := by rw [Nat.testBit_mul_two_pow]; simp; omega
      rw [h3]; simp
    · have h3 : (s % 256).testBit i = false := by rw [show s % 256 = s % 2 ^ 8 from rfl, Nat.testBit_mod_two_pow]; simp [hi]
      rw [h3]; simp
  rw [hx, Nat.or_comm, Nat.mul_comm, ← h]
  exact h2
theorem T8_split (s : Nat) : Tn 8 s = Tn 8 (s % 256) ^^^ (s / 256) := by
  have h := congrArg (Tn 8) (byte_split s)
  rw [h, Tn_xor, Tn_shift]

/-- The state behind bytes. -/
def crcSt : List UInt8 → Nat → Nat
  | [], s => s
  | c :: r, s => crcSt r (Tn 8 (s ^^^ c.toNat))

theorem crcSt_append (a b : List UInt8) (s : Nat) : crcSt (a ++ b) s = crcSt b (crcSt a s) := by
  induction a generalizing s with
  | nil => rfl
  | cons c r ih => exact ih _
theorem crcSt_lt (l : List UInt8) (s : Nat) (h : s < 4294967296) : crcSt l s < 4294967296 := by
  induction l generalizing s with
  | nil => exact h
  | cons c r ih => exact ih _ (Tn_lt 8 _ (Nat.xor_lt_two_pow (n := 32) h (by have := c.toNat_lt; omega)))

theorem getN_cons_xor (c : UInt8) (r : List UInt8) : getN (c :: r) = c.toNat ^^^ (getN r * 2 ^ 8) := by
  have h := byte_split (getN (c :: r))
  have hc := c.toNat_lt
  simp only [getN] at h ⊢
  rw [show (c.toNat + 256 * getN r) % 256 = c.toNat by omega, show (c.toNat + 256 * getN r) / 256 = getN r by omega] at h
  exact h

/-- Bytes behind one another are turns of their number. -/
theorem crcSt_eq (l : List UInt8) (s : Nat) : crcSt l s = Tn (8 * l.length) (s ^^^ getN l) := by
  induction l generalizing s with
  | nil => simp [crcSt, getN, Tn]
  | cons c r ih =>
    simp only [crcSt]
    rw [ih, List.length_cons, show 8 * (r.length + 1) = 8 + 8 * r.length by omega, Tn_add, getN_cons_xor, ← Nat.xor_assoc, Tn_xor 8 _ (getN r * 2 ^ 8), Tn_shift]

theorem getN_zero (n : Nat) : getN (List.replicate n 0) = 0 := by
  induction n with
  | zero => rfl
  | succ n ih => rw [List.replicate_succ, getN, ih]; rfl
theorem crcSt_zeros (n s : Nat) : crcSt (List.replicate n 0) s = Tn (8 * n) s := by
  rw [crcSt_eq, getN_zero, Nat.xor_zero, List.length_replicate]
theorem crcSt_lin (l : List UInt8) (s : Nat) : crcSt l s = Tn (8 * l.length) s ^^^ crcSt l 0 := by
  rw [crcSt_eq, crcSt_eq l 0, Nat.zero_xor, Tn_xor]

/-- The product modulo the check's polynomial: bit 31 - k of a takes b turned k times. -/
def timesK : Nat → Nat → Nat → Nat
  | 0, _, _ => 0
  | k + 1, a, b => timesK k a b ^^^ (if a / 2 ^ (31 - k) % 2 = 1 then Tn k b else 0)
def one31 : Nat := 2147483648

theorem if_xor_lin (p q : Bool) (x : Nat) : (if (p ^^ q) = true then x else 0) = (if p = true then x else 0) ^^^ (if q = true then x else 0) := by
  cases p <;> cases q <;> simp
theorem bit_test (a i : Nat) : (a / 2 ^ i % 2 = 1) = (a.testBit i = true) := by
  rw [Nat.testBit_eq_decide_div_mod_eq]; simp
theorem timesK_xor (k a a' b : Nat) : timesK k (a ^^^ a') b = timesK k a b ^^^ timesK k a' b := by
  induction k with
  | zero => simp [timesK]
  | succ k ih =>
    simp only [timesK, bit_test]
    rw [ih, Nat.testBit_xor, if_xor_lin]
    generalize timesK k a b = x
    generalize timesK k a' b = y
    generalize (if a.testBit (31 - k) = true then Tn k b else 0) = u
    generalize (if a'.testBit (31 - k) = true then Tn k b else 0) = v
    rw [Nat.xor_assoc, Nat.xor_assoc, ← Nat.xor_assoc y, Nat.xor_comm y u, Nat.xor_assoc u]
theorem timesK_zero (k b : Nat) : timesK k 0 b = 0 := by
  induction k with
  | zero => rfl
  | succ k ih => simp [timesK, ih]
theorem timesK_bit (k j b : Nat) (hj : j < 32) (hk : k ≤ 32) : timesK k (2 ^ j) b = if 31 - j < k then Tn (31 - j) b else 0 := by
  induction k with
  | zero => simp [timesK]
  | succ k ih =>
    simp only [timesK, bit_test]
    rw [ih (by omega), Nat.testBit_two_pow]
    by_cases h : 31 - j < k
    · have h4 : ¬ j = 31 - k := by omega
      rw [if_pos h, if_pos (show 31 - j < k + 1 by omega), if_neg (by simpa using h4), Nat.xor_zero]
    · rw [if_neg h, Nat.zero_xor]
      by_cases h2 : 31 - j = k
      · have h4 : j = 31 - k := by omega
        rw [if_pos (by simpa using h4), if_pos (by omega), h2]
      · have h4 : ¬ j = 31 - k := by omega
        rw [if_neg (by simpa using h4), if_neg (by omega)]

/-- Any map that adds bit by bit is known by the powers of two. -/
theorem lin_ext (f g : Nat → Nat) (hf : ∀ a b, f (a ^^^ b) = f a ^^^ f b) (hg : ∀ a b, g (a ^^^ b) = g a ^^^ g b) (h0 : f 0 = 0) (h0' : g 0 = 0) (n : Nat) (h : ∀ j, j < n → f (2 ^ j) = g (2 ^ j)) : ∀ a, a < 2 ^ n → f a = g a := by
  induction n with
  | zero =>
    intro a ha
    obtain rfl : a = 0 := by simpa using ha
    rw [h0, h0']
  | succ n ih =>
    intro a ha
    have ih' := ih (fun j hj => h j (by omega))
    by_cases hb : a < 2 ^ n
    · exact ih' a hb
    · have e : a = 2 ^ n ^^^ (a - 2 ^ n) := by
        have h1 := Nat.two_pow_add_eq_or_of_lt (i := n) (b := a - 2 ^ n) (by rw [Nat.pow_succ] at ha; omega) 1
        have hx : 2 ^ n ^^^ (a - 2 ^ n) = 2 ^ n ||| (a - 2 ^ n) := by
          apply Nat.eq_of_testBit_eq
          intro i
          rw [Nat.testBit_xor, Nat.testBit_or, Nat.testBit_two_pow]
          by_cases hi : n = i
          · subst hi
            rw [Nat.testBit_lt_two_pow (by rw [Nat.pow_succ] at ha; omega)]; simp
          · simp [hi]
        rw [hx]
        rw [Nat.mul_one] at h1
        rw [← h1]; omega
      rw [e, hf, hg, h n (by omega), ih' _ (by rw [Nat.pow_succ] at ha; omega)]

theorem Tn_one (j : Nat) (hj : j < 32) : Tn (31 - j) one31 = 2 ^ j := by
  have h : one31 = 2 ^ j * 2 ^ (31 - j) := by rw [← Nat.pow_add, show j + (31 - j) = 31 by omega]; rfl
  rw [h, Tn_shift]

/-- To multiply by what m turns make of one is to turn m times. -/
theorem times_turns (a m : Nat) (ha : a < 4294967296) : timesK 32 a (Tn m one31) = Tn m a := by
  refine lin_ext (fun a => timesK 32 a (Tn m one31)) (fun a => Tn m a) (fun a b => timesK_xor 32 a b _) (fun a b => Tn_xor m a b) (timesK_zero 32 _) (Tn_zero m) 32 (fun j hj => ?_) a ha
  show timesK 32 (2 ^ j) (Tn m one31) = Tn m (2 ^ j)
  rw [timesK_bit 32 j _ hj (by decide), if_pos (by omega), ← Tn_add, Nat.add_comm, Tn_add, Tn_one j hj]

/-- All bits turned. -/
def flip (s : Nat) : Nat := s ^^^ 4294967295
theorem flip_lt (s : Nat) (h : s < 4294967296) : flip s < 4294967296 := Nat.xor_lt_two_pow (n := 32) h (by decide)
theorem flip_flip (s : Nat) : flip (flip s) = s := by unfold flip; rw [Nat.xor_assoc, Nat.xor_self, Nat.xor_zero]
theorem flip_sub (s : Nat) (h : s < 4294967296) : flip s = 4294967295 - s := by
  have h1 : (BitVec.ofNat 32 s ^^^ BitVec.allOnes 32) = ~~~ (BitVec.ofNat 32 s) := BitVec.xor_allOnes
  have h2 := congrArg BitVec.toNat h1
  rw [BitVec.toNat_xor, BitVec.toNat_not, BitVec.toNat_ofNat, BitVec.toNat_allOnes, Nat.mod_eq_of_lt (by omega)] at h2
  unfold flip
  rw [show (4294967295 : Nat) = 2 ^ 32 - 1 from rfl, h2]

/-- The sum of what a sum is of, and bytes behind it. -/
def moreN (sum : Nat) (l : List UInt8) : Nat := flip (crcSt l (flip sum))

theorem moreN_lt (sum : Nat) (l : List UInt8) (h : sum < 4294967296) : moreN sum l < 4294967296 := flip_lt _ (crcSt_lt l _ (flip_lt _ h))
theorem moreN_append (sum : Nat) (a b : List UInt8) : moreN sum (a ++ b) = moreN (moreN sum a) b := by
  unfold moreN; rw [flip_flip, crcSt_append]

/-- Sums are joined. -/
theorem join_eq (x : Nat) (b : List UInt8) : flip (Tn (8 * b.length) (flip x)) ^^^ flip (Tn (8 * b.length) (flip 0)) ^^^ moreN 0 b = moreN x b := by
  unfold moreN
  rw [crcSt_lin b (flip 0), crcSt_lin b (flip x)]
  generalize Tn (8 * b.length) (flip x) = u
  generalize Tn (8 * b.length) (flip 0) = v
  generalize crcSt b 0 = c
  unfold flip
  apply Nat.eq_of_testBit_eq
  intro i
  simp only [Nat.testBit_xor]
  cases u.testBit i <;> cases v.testBit i <;> cases c.testBit i <;> cases (4294967295 : Nat).testBit i <;> rfl

/-- Bytes that part by up to 32 bits behind one another have another sum. -/
theorem burst_ne (a e : List UInt8) (bit burst : Nat) (hl : a.length = e.length) (he : getN e = getN a ^^^ (burst * 2 ^ bit)) (hb : burst < 4294967296) (h0 : burst ≠ 0) (hbit : bit ≤ 8 * a.length) : moreN 0 e ≠ moreN 0 a := by
  unfold moreN
  intro h
  have h1 := congrArg flip h
  rw [flip_flip, flip_flip, crcSt_eq, crcSt_eq, ← hl, he, ← Nat.xor_assoc, Tn_xor] at h1
  have h2 : Tn (8 * a.length) (burst * 2 ^ bit) = 0 := by
    have h3 := congrArg (fun x => Tn (8 * a.length) (flip 0 ^^^ getN a) ^^^ x) h1
    simp only [← Nat.xor_assoc, Nat.xor_self, Nat.zero_xor] at h3
    exact h3
  rw [show 8 * a.length = bit + (8 * a.length - bit) by omega, Tn_add, Tn_shift] at h2
  exact Tn_ne _ _ hb h0 h2

end Go.Proofs.Ytimiiahhedpfaaa
