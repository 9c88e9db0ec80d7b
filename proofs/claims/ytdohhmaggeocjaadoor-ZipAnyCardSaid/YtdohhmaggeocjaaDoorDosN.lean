/- Plain mathematics of times: leap years, days of a month, which times may be. No program is named here. -/
import Derived.WalkKit
namespace Go.Proofs.YtdohhmaggeocjaaDoor

def leapB (y : Int) : Bool := (y.tmod 4 == 0 && !(y.tmod 100 == 0)) || y.tmod 400 == 0

def dimI (y m : Int) : Int :=
  if m = 1 ∨ m = 3 ∨ m = 5 ∨ m = 7 ∨ m = 8 ∨ m = 10 ∨ m = 12 then 31
  else if m = 4 ∨ m = 6 ∨ m = 9 ∨ m = 11 then 30
  else if m = 2 then (if leapB y then 29 else 28) else 0

/-- Does a number lie between two others? -/
def inB (a b n : Int) : Bool := decide (a ≤ n ∧ n ≤ b)

theorem inB_true {a b n : Int} (h : inB a b n = true) : a ≤ n ∧ n ≤ b := by simpa [inB] using h
theorem inB_false {a b n : Int} (h : inB a b n = false) : ¬ (a ≤ n ∧ n ≤ b) := by simpa [inB] using h

/-- A time. -/
structure Tim where
  y : Int
  mo : Int
  d : Int
  h : Int
  mi : Int
  s : Int
deriving DecidableEq

def Tim.zero : Tim := ⟨0, 0, 0, 0, 0, 0⟩

def goodB (t : Tim) : Bool :=
  inB 1980 2107 t.y && (inB 1 12 t.mo && (inB 1 (dimI t.y t.mo) t.d && (inB 0 23 t.h && (inB 0 59 t.mi && (inB 0 58 t.s && t.s.tmod 2 == 0)))))

theorem dim_bd (y m : Int) : 0 ≤ dimI y m ∧ dimI y m ≤ 31 := by
  unfold dimI
  repeat (any_goals split)
  all_goals omega

theorem dim_pos (y m : Int) (h : inB 1 12 m = true) : 28 ≤ dimI y m := by
  have := inB_true h
  unfold dimI
  repeat (any_goals split)
  all_goals omega

/-- What a time that may be is. -/
structure Good (t : Tim) : Prop where
  y0 : 1980 ≤ t.y
  y1 : t.y ≤ 2107
  m0 : 1 ≤ t.mo
  m1 : t.mo ≤ 12
  d0 : 1 ≤ t.d
  d1 : t.d ≤ dimI t.y t.mo
  h0 : 0 ≤ t.h
  h1 : t.h ≤ 23
  i0 : 0 ≤ t.mi
  i1 : t.mi ≤ 59
  s0 : 0 ≤ t.s
  s1 : t.s ≤ 58
  s2 : t.s % 2 = 0

theorem tmod2 (s : Int) : (s.tmod 2 == 0) = decide (s % 2 = 0) := by
  rw [Bool.eq_iff_iff]
  simp only [beq_iff_eq, decide_eq_true_eq]
  rcases Int.le_total 0 s with h | h
  · rw [Int.tmod_eq_emod_of_nonneg h]
  · have := Int.neg_tmod (-s) 2
    rw [Int.neg_neg] at this
    rw [this, Int.tmod_eq_emod_of_nonneg (by omega)]
    omega

theorem good_iff (t : Tim) : goodB t = true ↔ Good t := by
  unfold goodB
  rw [tmod2]
  simp only [inB, Bool.and_eq_true, decide_eq_true_eq]
  constructor
  · rintro ⟨⟨a, b⟩, ⟨c, d⟩, ⟨e, f⟩, ⟨g, h⟩, ⟨i, j⟩, ⟨k, l⟩, m⟩
    exact ⟨a, b, c, d, e, f, g, h, i, j, k, l, m⟩
  · rintro ⟨a, b, c, d, e, f, g, h, i, j, k, l, m⟩
    exact ⟨⟨a, b⟩, ⟨c, d⟩, ⟨e, f⟩, ⟨g, h⟩, ⟨i, j⟩, ⟨k, l⟩, m⟩

end Go.Proofs.YtdohhmaggeocjaaDoor
