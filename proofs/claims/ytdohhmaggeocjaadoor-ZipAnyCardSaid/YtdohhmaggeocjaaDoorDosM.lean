/- Plain mathematics of times: days and times are counted. No program is named here. -/
import Derived.Test.YtdohhmaggeocjaaDoorDosN
namespace Go.Proofs.YtdohhmaggeocjaaDoor

def ydI (y : Int) : Int := if leapB y then 366 else 365
def ydays : Nat → Int
  | 0 => 0
  | k + 1 => ydays k + ydI (1980 + (k : Int))
def mdays (y : Int) : Nat → Int
  | 0 => 0
  | k + 1 => mdays y k + dimI y ((k : Int) + 1)
def daysA (t : Tim) : Int := t.d - 1 + mdays t.y (t.mo - 1).toNat + ydays (t.y - 1980).toNat
def numI (t : Tim) : Int := daysA t * 43200 + t.h * 1800 + t.mi * 30 + t.s / 2

theorem yd_bd (y : Int) : 365 ≤ ydI y ∧ ydI y ≤ 366 := by
  unfold ydI; split <;> omega
theorem ydays_128 : ydays 128 = 46751 := by decide +kernel
theorem ydays_mono (j k : Nat) (h : j ≤ k) : ydays j ≤ ydays k := by
  induction k with
  | zero => have : j = 0 := by omega
            subst this; exact Int.le_refl _
  | succ k ih =>
    by_cases e : j = k + 1
    · subst e; exact Int.le_refl _
    · have := ih (by omega)
      have := yd_bd (1980 + (k : Int))
      show ydays j ≤ ydays k + ydI (1980 + (k : Int))
      omega
theorem ydays_nn (k : Nat) : 0 ≤ ydays k := ydays_mono 0 k (Nat.zero_le _)
theorem mdays_mono (y : Int) (j k : Nat) (h : j ≤ k) : mdays y j ≤ mdays y k := by
  induction k with
  | zero => have : j = 0 := by omega
            subst this; exact Int.le_refl _
  | succ k ih =>
    by_cases e : j = k + 1
    · subst e; exact Int.le_refl _
    · have := ih (by omega)
      have := dim_bd y ((k : Int) + 1)
      show mdays y j ≤ mdays y k + dimI y ((k : Int) + 1)
      omega
theorem mdays_nn (y : Int) (k : Nat) : 0 ≤ mdays y k := mdays_mono y 0 k (Nat.zero_le _)
theorem mdays_le (y : Int) (k : Nat) : mdays y k ≤ 31 * k := by
  induction k with
  | zero => exact Int.le_refl _
  | succ k ih =>
    have := dim_bd y ((k : Int) + 1)
    show mdays y k + dimI y ((k : Int) + 1) ≤ _
    omega
theorem ydays_le (k : Nat) : ydays k ≤ 366 * k := by
  induction k with
  | zero => exact Int.le_refl _
  | succ k ih =>
    have := yd_bd (1980 + (k : Int))
    show ydays k + ydI (1980 + (k : Int)) ≤ _
    omega
theorem mdays_12 (y : Int) : mdays y 12 = ydI y := by
  simp only [mdays, dimI, ydI]
  cases leapB y <;> decide

theorem find_year (D : Int) (h0 : 0 ≤ D) : ∀ K : Nat, D < ydays K → ∃ k : Nat, k < K ∧ ydays k ≤ D ∧ D < ydays (k + 1)
  | 0, h => absurd h (by show ¬ D < 0; omega)
  | K + 1, h => by
    by_cases e : D < ydays K
    · obtain ⟨k, h1, h2⟩ := find_year D h0 K e
      exact ⟨k, by omega, h2⟩
    · exact ⟨K, by omega, by omega, h⟩
theorem find_month (y D : Int) (h0 : 0 ≤ D) : ∀ K : Nat, D < mdays y K → ∃ k : Nat, k < K ∧ mdays y k ≤ D ∧ D < mdays y (k + 1)
  | 0, h => absurd h (by show ¬ D < 0; omega)
  | K + 1, h => by
    by_cases e : D < mdays y K
    · obtain ⟨k, h1, h2⟩ := find_month y D h0 K e
      exact ⟨k, by omega, h2⟩
    · exact ⟨K, by omega, by omega, h⟩

/-- What the days of a time are: the year's, and within it. -/
theorem days_of (t : Tim) (h : Good t) : ∃ k m : Nat, t.y = 1980 + (k : Int) ∧ k < 128 ∧ t.mo = (m : Int) + 1 ∧ m < 12 ∧ daysA t = t.d - 1 + mdays t.y m + ydays k ∧
    mdays t.y m ≤ t.d - 1 + mdays t.y m ∧ t.d - 1 + mdays t.y m < mdays t.y (m + 1) ∧ t.d - 1 + mdays t.y m < ydI t.y ∧ daysA t < 46751 ∧ 0 ≤ daysA t := by
  obtain ⟨k, hk⟩ : ∃ k : Nat, t.y = 1980 + (k : Int) := ⟨(t.y - 1980).toNat, by have := h.y0; omega⟩
  obtain ⟨m, hm⟩ : ∃ m : Nat, t.mo = (m : Int) + 1 := ⟨(t.mo - 1).toNat, by have := h.m0; omega⟩
  have hk2 : k < 128 := by have := h.y1; omega
  have hm2 : m < 12 := by have := h.m1; omega
  have e1 : (t.y - 1980).toNat = k := by omega
  have e2 : (t.mo - 1).toNat = m := by omega
  have h1 : mdays t.y (m + 1) = mdays t.y m + dimI t.y t.mo := by show mdays t.y m + dimI t.y ((m : Int) + 1) = _; rw [hm]
  have h2 := mdays_mono t.y (m + 1) 12 (by omega)
  rw [mdays_12] at h2
  have h3 : ydays (k + 1) = ydays k + ydI t.y := by show ydays k + ydI (1980 + (k : Int)) = _; rw [hk]
  have h4 := ydays_mono (k + 1) 128 (by omega)
  rw [ydays_128] at h4
  have h5 := h.d0
  have h6 := h.d1
  have h7 := mdays_nn t.y m
  have h8 := ydays_nn k
  have h9 : daysA t = t.d - 1 + mdays t.y m + ydays k := by unfold daysA; rw [e1, e2]
  exact ⟨k, m, hk, hk2, hm, hm2, h9, by omega, by omega, by omega, by omega, by omega⟩

theorem num_bd (t : Tim) (h : Good t) : 0 ≤ numI t ∧ numI t < 2019643200 ∧ numI t / 43200 = daysA t ∧ numI t % 43200 = t.h * 1800 + t.mi * 30 + t.s / 2 := by
  obtain ⟨_, _, _, _, _, _, _, _, _, _, h1, h2⟩ := days_of t h
  have a := h.h0; have b := h.h1; have c := h.i0; have d := h.i1; have e := h.s0; have f := h.s1
  unfold numI
  omega

/-- Two times of one number are one. -/
theorem num_inj (t u : Tim) (h : Good t) (g : Good u) (e : numI t = numI u) : t = u := by
  obtain ⟨_, _, e1, e2⟩ := num_bd t h
  obtain ⟨_, _, g1, g2⟩ := num_bd u g
  obtain ⟨k, m, a1, a2, a3, a4, a5, a6, a7, a8, _, _⟩ := days_of t h
  obtain ⟨j, l, b1, b2, b3, b4, b5, b6, b7, b8, _, _⟩ := days_of u g
  have hd : daysA t = daysA u := by rw [← e1, ← g1, e]
  have h7 := mdays_nn t.y m
  have h7' := mdays_nn u.y l
  have t0 := h.d0
  have u0 := g.d0
  have hkj : k = j := by
    have A : ydays (k + 1) = ydays k + ydI t.y := by show ydays k + ydI (1980 + (k : Int)) = _; rw [a1]
    have B : ydays (j + 1) = ydays j + ydI u.y := by show ydays j + ydI (1980 + (j : Int)) = _; rw [b1]
    rcases Nat.lt_trichotomy k j with h | h | h
    · have := ydays_mono (k + 1) j h; omega
    · exact h
    · have := ydays_mono (j + 1) k h; omega
  subst hkj
  have hy : t.y = u.y := by omega
  rw [hy] at a5 a6 a7 h7
  have hml : m = l := by
    rcases Nat.lt_trichotomy m l with h | h | h
    · have := mdays_mono u.y (m + 1) l h; omega
    · exact h
    · have := mdays_mono u.y (l + 1) m h; omega
  subst hml
  have r : t.h * 1800 + t.mi * 30 + t.s / 2 = u.h * 1800 + u.mi * 30 + u.s / 2 := by rw [← e2, ← g2, e]
  have a := h.h0; have b := h.h1; have c := h.i0; have d := h.i1; have e' := h.s0; have f := h.s1; have f2 := h.s2
  have a' := g.h0; have b' := g.h1; have c' := g.i0; have d' := g.i1; have e'' := g.s0; have f' := g.s1; have f2' := g.s2
  obtain ⟨y, mo, d, hh, mi, s⟩ := t
  obtain ⟨y', mo', d', hh', mi', s'⟩ := u
  simp only [Tim.mk.injEq] at *
  omega

theorem num_surj (n : Int) (h0 : 0 ≤ n) (h1 : n < 2019643200) : ∃ t, Good t ∧ numI t = n := by
  obtain ⟨k, k1, k2, k3⟩ := find_year (n / 43200) (by omega) 128 (by rw [ydays_128]; omega)
  have h3 : ydays (k + 1) = ydays k + ydI (1980 + (k : Int)) := rfl
  obtain ⟨m, m1, m2, m3⟩ := find_month (1980 + (k : Int)) (n / 43200 - ydays k) (by omega) 12 (by rw [mdays_12]; omega)
  have h4 : mdays (1980 + (k : Int)) (m + 1) = mdays (1980 + (k : Int)) m + dimI (1980 + (k : Int)) ((m : Int) + 1) := rfl
  refine ⟨⟨1980 + (k : Int), (m : Int) + 1, n / 43200 - ydays k - mdays (1980 + (k : Int)) m + 1, n % 43200 / 1800, n % 43200 % 1800 / 30, 2 * (n % 43200 % 30)⟩, ?_, ?_⟩
  · constructor <;> simp only <;> omega
  · unfold numI daysA
    simp only
    rw [show ((m : Int) + 1 - 1).toNat = m by omega, show (1980 + (k : Int) - 1980).toNat = k by omega]
    omega

/-- The next day. -/
def nextT (t : Tim) : Tim :=
  if t.d + 1 ≤ dimI t.y t.mo then { t with d := t.d + 1 }
  else if t.mo + 1 ≤ 12 then { t with d := 1, mo := t.mo + 1 }
  else { t with d := 1, mo := 1, y := t.y + 1 }

theorem next_good (t : Tim) (h : Good t) : (Good (nextT t) ∧ numI (nextT t) = numI t + 43200) ∨ ((nextT t).y = 2108 ∧ 2019643200 ≤ numI t + 43200) := by
  obtain ⟨k, m, a1, a2, a3, a4, a5, a6, a7, a8, a9, a10⟩ := days_of t h
  have h1 : mdays t.y (m + 1) = mdays t.y m + dimI t.y t.mo := by show mdays t.y m + dimI t.y ((m : Int) + 1) = _; rw [a3]
  have h3 : ydays (k + 1) = ydays k + ydI t.y := by show ydays k + ydI (1980 + (k : Int)) = _; rw [a1]
  have d0 := h.d0
  have d1 := h.d1
  have H := h
  obtain ⟨q1, q2, q3, q4, q5, q6, q7, q8, q9, q10, q11, q12, q13⟩ := h
  unfold nextT
  by_cases hd : t.d + 1 ≤ dimI t.y t.mo
  · rw [if_pos hd]
    refine .inl ⟨⟨q1, q2, q3, q4, ?_, hd, q7, q8, q9, q10, q11, q12, q13⟩, ?_⟩
    · show 1 ≤ t.d + 1; omega
    · unfold numI daysA; simp only; omega
  · rw [if_neg hd]
    by_cases hm : t.mo + 1 ≤ 12
    · rw [if_pos hm]
      have := dim_pos t.y (t.mo + 1) (by simp [inB]; omega)
      refine .inl ⟨⟨q1, q2, ?_, hm, by show (1 : Int) ≤ 1; omega, ?_, q7, q8, q9, q10, q11, q12, q13⟩, ?_⟩
      · show 1 ≤ t.mo + 1; omega
      · show 1 ≤ dimI t.y (t.mo + 1); omega
      · unfold numI daysA
        simp only
        rw [show (t.mo + 1 - 1).toNat = m + 1 by omega, show (t.mo - 1).toNat = m by omega]
        omega
    · rw [if_neg hm]
      have e12 : m = 11 := by omega
      subst e12
      have h12 := mdays_12 t.y
      by_cases hy : t.y = 2107
      · refine .inr ⟨by show t.y + 1 = 2108; omega, ?_⟩
        have hk : k = 127 := by omega
        subst hk
        have e128 := ydays_128
        have e3 : ydays 128 = ydays 127 + ydI t.y := h3
        have e4 : mdays t.y 12 = mdays t.y 11 + dimI t.y t.mo := h1
        unfold numI
        omega
      · have := dim_pos (t.y + 1) 1 (by simp [inB])
        refine .inl ⟨⟨by show 1980 ≤ t.y + 1; omega, by show t.y + 1 ≤ 2107; omega, by show (1 : Int) ≤ 1; omega, by show (1 : Int) ≤ 12; omega, by show (1 : Int) ≤ 1; omega, ?_, q7, q8, q9, q10, q11, q12, q13⟩, ?_⟩
        · show 1 ≤ dimI (t.y + 1) 1; omega
        · unfold numI daysA
          simp only
          rw [show (t.y + 1 - 1980).toNat = k + 1 by omega, show (t.y - 1980).toNat = k by omega, show (t.mo - 1).toNat = 11 by omega, show ((1 : Int) - 1).toNat = 0 by decide]
          have e4 : mdays t.y 12 = mdays t.y 11 + dimI t.y t.mo := h1
          have e0 : mdays (t.y + 1) 0 = 0 := rfl
          omega
end Go.Proofs.YtdohhmaggeocjaaDoor
