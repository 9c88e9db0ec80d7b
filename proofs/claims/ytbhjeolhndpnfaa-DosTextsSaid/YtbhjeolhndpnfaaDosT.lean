/- Plain mathematics of times as texts. No program is named here. -/
import Derived.Test.YtbhjeolhndpnfaaDosM
namespace Go.Proofs.Ytbhjeolhndpnfaa

/-- A number's last digit, as a sign. -/
def dgt (n : Int) : UInt8 := UInt8.ofNat (48 + n % 10).toNat
def dg2 (n : Int) : List UInt8 := [dgt (n / 10), dgt n]
def dg4 (n : Int) : List UInt8 := [dgt (n / 10 / 10 / 10), dgt (n / 10 / 10), dgt (n / 10), dgt n]

theorem dgt_nat (n : Int) : ((dgt n).toNat : Int) = 48 + n % 10 := by
  unfold dgt
  have h : (48 + n % 10).toNat < 256 := by omega
  rw [show (UInt8.ofNat (48 + n % 10).toNat).toNat = (48 + n % 10).toNat by simp; omega]
  omega

/-- A time's text. -/
def textL (t : Tim) : List UInt8 := dg4 t.y ++ [45] ++ dg2 t.mo ++ [45] ++ dg2 t.d ++ [32] ++ dg2 t.h ++ [58] ++ dg2 t.mi ++ [58] ++ dg2 t.s
def textB (t : Tim) : ByteArray := ⟨(textL t).toArray⟩

theorem textL_length (t : Tim) : (textL t).length = 19 := by simp [textL, dg4, dg2]
theorem textB_size (t : Tim) : (textB t).size = 19 := by
  show (textL t).toArray.size = 19
  rw [List.size_toArray, textL_length]

/-- The number that digits are. -/
def numL : List UInt8 → Int → Int
  | [], n => n
  | c :: r, n => numL r (10 * n + (c.toNat : Int) - 48)

theorem numL_snoc (l : List UInt8) (c : UInt8) (n : Int) : numL (l ++ [c]) n = 10 * numL l n + (c.toNat : Int) - 48 := by
  induction l generalizing n with
  | nil => rfl
  | cons d r ih => exact ih _

theorem numL_dg2 (n : Int) (h0 : 0 ≤ n) (h1 : n < 100) : numL (dg2 n) 0 = n := by
  simp only [dg2, numL, dgt_nat]; omega
theorem numL_dg4 (n : Int) (h0 : 0 ≤ n) (h1 : n < 10000) : numL (dg4 n) 0 = n := by
  simp only [dg4, numL, dgt_nat]; omega

theorem numL_bd (l : List UInt8) (h : l.length ≤ 4) : -60000 ≤ numL l 0 ∧ numL l 0 ≤ 300000 := by
  match l, h with
  | [], _ => simp [numL]
  | [a], _ => have := a.toNat_lt; simp only [numL]; omega
  | [a, b], _ => have := a.toNat_lt; have := b.toNat_lt; simp only [numL]; omega
  | [a, b, c], _ => have := a.toNat_lt; have := b.toNat_lt; have := c.toNat_lt; simp only [numL]; omega
  | [a, b, c, d], _ => have := a.toNat_lt; have := b.toNat_lt; have := c.toNat_lt; have := d.toNat_lt; simp only [numL]; omega

/-- The time that a text's digits are. -/
def parseT (s : ByteArray) : Tim :=
  ⟨numL (s.extract 0 4).data.toList 0, numL (s.extract 5 7).data.toList 0, numL (s.extract 8 10).data.toList 0, numL (s.extract 11 13).data.toList 0, numL (s.extract 14 16).data.toList 0, numL (s.extract 17 19).data.toList 0⟩

theorem ext_list (s : ByteArray) (a b : Nat) : (s.extract a b).data.toList = (s.data.toList.drop a).take (b - a) := by
  simp [ByteArray.data_extract, List.extract_eq_take_drop, List.drop_take]

theorem parse_text (t : Tim) (h : Good t) : parseT (textB t) = t := by
  obtain ⟨a1, a2, a3, a4, a5, a6, a7, a8, a9, a10, a11, a12, a13⟩ := h
  have := dim_bd t.y t.mo
  obtain ⟨y, mo, d, hh, mi, s⟩ := t
  simp only at *
  unfold parseT
  simp only [ext_list]
  simp only [textB, textL, dg4, dg2, List.cons_append, List.nil_append, List.drop_succ_cons, List.drop_zero, List.take_succ_cons, List.take_zero]
  have e4 := numL_dg4 y (by omega) (by omega)
  have e1 := numL_dg2 mo (by omega) (by omega)
  have e2 := numL_dg2 d (by omega) (by omega)
  have e3 := numL_dg2 hh (by omega) (by omega)
  have e5 := numL_dg2 mi (by omega) (by omega)
  have e6 := numL_dg2 s (by omega) (by omega)
  simp only [dg4, dg2] at e1 e2 e3 e4 e5 e6
  simp [e1, e2, e3, e4, e5, e6]
end Go.Proofs.Ytbhjeolhndpnfaa
