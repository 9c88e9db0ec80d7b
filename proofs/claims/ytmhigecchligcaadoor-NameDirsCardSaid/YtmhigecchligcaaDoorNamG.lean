
/- The reference's reading of a text's bytes is the library's. No walk. -/
import Derived.Test.YtmhigecchligcaaDoorNamL
import Derived.Lib.ValidLaws
namespace Go.Proofs.YtmhigecchligcaaDoor
open Go Go.RowKit
set_option maxRecDepth 100000

/-- A number of so many bytes: may it be a sign of a name? -/
def chkN (n v least : Nat) : Option Nat := if v < least ∨ v > 1114111 ∨ (55296 ≤ v ∧ v ≤ 57343) ∨ v < 32 ∨ v = 127 ∨ v = 92 then none else some n
def midB (b : Nat) : Bool := decide (128 ≤ b) && decide (b < 192)
/-- One sign of the reference: how many bytes it has, or none. -/
def refStep (m b0 b1 b2 b3 : Nat) : Option Nat :=
  if b0 < 128 then chkN 1 b0 0
  else if 192 ≤ b0 ∧ b0 < 224 then
    (if m < 2 then none else if midB b1 then chkN 2 (64 * (b0 - 192) + b1 - 128) 128 else none)
  else if 224 ≤ b0 ∧ b0 < 240 then
    (if m < 3 then none else if midB b1 then (if midB b2 then chkN 3 (64 * (64 * (b0 - 224) + b1 - 128) + b2 - 128) 2048 else none) else none)
  else if 240 ≤ b0 ∧ b0 < 248 then
    (if m < 4 then none else if midB b1 then (if midB b2 then (if midB b3 then chkN 4 (64 * (64 * (64 * (b0 - 240) + b1 - 128) + b2 - 128) + b3 - 128) 65536 else none) else none) else none)
  else none

theorem midB_iff (b : Nat) (h : b < 256) : midB b = decide (b / 64 = 2) := by
  unfold midB
  rw [Bool.eq_iff_iff]
  simp
  omega

theorem barR_iff (r : Nat) : barR r = decide (r < 32 ∨ r = 127 ∨ r = 92) := by
  unfold barR; rw [Bool.eq_iff_iff]; simp

/-- What a step is of what was decoded. -/
def outN (d : Nat × Nat) : Option Nat := if (d.1 = 65533 ∧ d.2 = 1) ∨ barR d.1 = true then none else some d.2

theorem out_bad : outN (65533, 1) = none := by unfold outN; simp
theorem out_chk (n v least : Nat) (hn : 2 ≤ n ∨ v < 128) (hl : v ≥ least) (h : v ≤ 1114111 ∧ ¬ (55296 ≤ v ∧ v ≤ 57343)) : chkN n v least = outN (v, n) := by
  unfold chkN outN
  simp only [barR_iff, decide_eq_true_eq]
  by_cases hb : v < 32 ∨ v = 127 ∨ v = 92
  · rw [if_pos (by omega), if_pos (.inr hb)]
  · rw [if_neg (by omega), if_neg (by omega)]
theorem chk_none (n v least : Nat) (h : v < least ∨ v > 1114111 ∨ (55296 ≤ v ∧ v ≤ 57343)) : chkN n v least = none := by
  unfold chkN
  rw [if_pos (by omega)]

theorem dec1 (m b0 b1 b2 b3 : Nat) (c1 : b0 < 128) : Lib.decodeN m b0 b1 b2 b3 = (b0, 1) := by
  unfold Lib.decodeN; rw [if_pos c1]
theorem dec2 (m b0 b1 b2 b3 : Nat) (c2 : 192 ≤ b0 ∧ b0 < 224) : Lib.decodeN m b0 b1 b2 b3 = (if 1 < m ∧ b1 / 64 = 2 then (if b0 % 32 * 64 + b1 % 64 ≥ 128 then (b0 % 32 * 64 + b1 % 64, 2) else (65533, 1)) else (65533, 1)) := by
  unfold Lib.decodeN
  rw [if_neg (by omega)]
  by_cases g : 1 < m ∧ b1 / 64 = 2
  · rw [if_pos ⟨by omega, g⟩, if_pos g]
  · rw [if_neg (fun h => g h.2), if_neg (by omega), if_neg (by omega), if_neg g]
theorem dec3 (m b0 b1 b2 b3 : Nat) (c3 : 224 ≤ b0 ∧ b0 < 240) : Lib.decodeN m b0 b1 b2 b3 = (if (1 < m ∧ b1 / 64 = 2) ∧ (2 < m ∧ b2 / 64 = 2) then
    (if b0 % 16 * 4096 + b1 % 64 * 64 + b2 % 64 ≥ 2048 ∧ (b0 % 16 * 4096 + b1 % 64 * 64 + b2 % 64 < 55296 ∨ (57344 ≤ b0 % 16 * 4096 + b1 % 64 * 64 + b2 % 64 ∧ b0 % 16 * 4096 + b1 % 64 * 64 + b2 % 64 ≤ 1114111))
     then (b0 % 16 * 4096 + b1 % 64 * 64 + b2 % 64, 3) else (65533, 1)) else (65533, 1)) := by
  unfold Lib.decodeN
  rw [if_neg (by omega), if_neg (by omega)]
  by_cases g : (1 < m ∧ b1 / 64 = 2) ∧ (2 < m ∧ b2 / 64 = 2)
  · rw [if_pos ⟨by omega, g⟩, if_pos g]
  · rw [if_neg (fun h => g h.2), if_neg (by omega), if_neg g]
theorem dec4 (m b0 b1 b2 b3 : Nat) (c4 : 240 ≤ b0 ∧ b0 < 248) : Lib.decodeN m b0 b1 b2 b3 = (if (1 < m ∧ b1 / 64 = 2) ∧ (2 < m ∧ b2 / 64 = 2) ∧ (3 < m ∧ b3 / 64 = 2) then
    (if b0 % 8 * 262144 + b1 % 64 * 4096 + b2 % 64 * 64 + b3 % 64 ≥ 65536 ∧ (b0 % 8 * 262144 + b1 % 64 * 4096 + b2 % 64 * 64 + b3 % 64 < 55296 ∨ (57344 ≤ b0 % 8 * 262144 + b1 % 64 * 4096 + b2 % 64 * 64 + b3 % 64 ∧ b0 % 8 * 262144 + b1 % 64 * 4096 + b2 % 64 * 64 + b3 % 64 ≤ 1114111))
     then (b0 % 8 * 262144 + b1 % 64 * 4096 + b2 % 64 * 64 + b3 % 64, 4) else (65533, 1)) else (65533, 1)) := by
  unfold Lib.decodeN
  rw [if_neg (by omega), if_neg (by omega), if_neg (by omega)]
  by_cases g : (1 < m ∧ b1 / 64 = 2) ∧ (2 < m ∧ b2 / 64 = 2) ∧ (3 < m ∧ b3 / 64 = 2)
  · rw [if_pos ⟨by omega, g⟩, if_pos g]
  · rw [if_neg (fun h => g h.2), if_neg g]
theorem dec5 (m b0 b1 b2 b3 : Nat) (h0 : b0 < 256) (c1 : ¬ b0 < 128) (c2 : ¬ (192 ≤ b0 ∧ b0 < 224)) (c3 : ¬ (224 ≤ b0 ∧ b0 < 240)) (c4 : ¬ (240 ≤ b0 ∧ b0 < 248)) : Lib.decodeN m b0 b1 b2 b3 = (65533, 1) := by
  unfold Lib.decodeN
  rw [if_neg c1, if_neg (by omega), if_neg (by omega), if_neg (by omega)]

theorem step_eq (m b0 b1 b2 b3 : Nat) (h0 : b0 < 256) (h1 : b1 < 256) (h2 : b2 < 256) (h3 : b3 < 256) : refStep m b0 b1 b2 b3 = outN (Lib.decodeN m b0 b1 b2 b3) := by
  unfold refStep
  simp only [midB_iff b1 h1, midB_iff b2 h2, midB_iff b3 h3, decide_eq_true_eq]
  by_cases c1 : b0 < 128
  · rw [if_pos c1, dec1 _ _ _ _ _ c1]
    exact out_chk 1 b0 0 (.inr c1) (Nat.zero_le _) (by omega)
  · rw [if_neg c1]
    by_cases c2 : 192 ≤ b0 ∧ b0 < 224
    · rw [if_pos c2, dec2 _ _ _ _ _ c2]
      by_cases g1 : m < 2
      · rw [if_pos g1, if_neg (by omega), out_bad]
      · rw [if_neg g1]
        by_cases g2 : b1 / 64 = 2
        · rw [if_pos g2, if_pos ⟨by omega, g2⟩, show 64 * (b0 - 192) + b1 - 128 = b0 % 32 * 64 + b1 % 64 by omega]
          have hv1 : b0 % 32 * 64 + b1 % 64 ≤ 2048 := by omega
          generalize b0 % 32 * 64 + b1 % 64 = v at hv1 ⊢
          by_cases hv : v ≥ 128
          · rw [if_pos hv]
            exact out_chk _ _ _ (.inl (by omega)) hv (by omega)
          · rw [if_neg hv, out_bad]
            exact chk_none _ _ _ (by omega)
        · rw [if_neg g2, if_neg (fun h => g2 h.2), out_bad]
    · rw [if_neg c2]
      by_cases c3 : 224 ≤ b0 ∧ b0 < 240
      · rw [if_pos c3, dec3 _ _ _ _ _ c3]
        by_cases g1 : m < 3
        · rw [if_pos g1, if_neg (by omega), out_bad]
        · rw [if_neg g1]
          by_cases g2 : b1 / 64 = 2
          · rw [if_pos g2]
            by_cases g3 : b2 / 64 = 2
            · rw [if_pos g3, if_pos ⟨⟨by omega, g2⟩, by omega, g3⟩, show 64 * (64 * (b0 - 224) + b1 - 128) + b2 - 128 = b0 % 16 * 4096 + b1 % 64 * 64 + b2 % 64 by omega]
              generalize b0 % 16 * 4096 + b1 % 64 * 64 + b2 % 64 = v
              by_cases hv : v ≥ 2048 ∧ (v < 55296 ∨ (57344 ≤ v ∧ v ≤ 1114111))
              · rw [if_pos hv]
                exact out_chk _ _ _ (.inl (by omega)) hv.1 (by omega)
              · rw [if_neg hv, out_bad]
                exact chk_none _ _ _ (by omega)
            · rw [if_neg g3, if_neg (fun h => g3 h.2.2), out_bad]
          · rw [if_neg g2, if_neg (fun h => g2 h.1.2), out_bad]
      · rw [if_neg c3]
        by_cases c4 : 240 ≤ b0 ∧ b0 < 248
        · rw [if_pos c4, dec4 _ _ _ _ _ c4]
          by_cases g1 : m < 4
          · rw [if_pos g1, if_neg (by omega), out_bad]
          · rw [if_neg g1]
            by_cases g2 : b1 / 64 = 2
            · rw [if_pos g2]
              by_cases g3 : b2 / 64 = 2
              · rw [if_pos g3]
                by_cases g4 : b3 / 64 = 2
                · rw [if_pos g4, if_pos ⟨⟨by omega, g2⟩, ⟨by omega, g3⟩, by omega, g4⟩,
                    show 64 * (64 * (64 * (b0 - 240) + b1 - 128) + b2 - 128) + b3 - 128 = b0 % 8 * 262144 + b1 % 64 * 4096 + b2 % 64 * 64 + b3 % 64 by omega]
                  generalize b0 % 8 * 262144 + b1 % 64 * 4096 + b2 % 64 * 64 + b3 % 64 = v
                  by_cases hv : v ≥ 65536 ∧ (v < 55296 ∨ (57344 ≤ v ∧ v ≤ 1114111))
                  · rw [if_pos hv]
                    exact out_chk _ _ _ (.inl (by omega)) hv.1 (by omega)
                  · rw [if_neg hv, out_bad]
                    exact chk_none _ _ _ (by omega)
                · rw [if_neg g4, if_neg (fun h => g4 h.2.2.2), out_bad]
              · rw [if_neg g3, if_neg (fun h => g3 h.2.1.2), out_bad]
            · rw [if_neg g2, if_neg (fun h => g2 h.1.2), out_bad]
        · rw [if_neg c4, dec5 _ _ _ _ _ h0 c1 c2 c3 c4, out_bad]

/-- The reference's reading, sign by sign. -/
def byteAt (s : ByteArray) (i : Nat) : Nat := (s.get! i).toNat
def goodFrom (s : ByteArray) : Nat → Nat → Bool
  | 0, _ => true
  | f + 1, pos => if pos < s.size then (match refStep (s.size - pos) (byteAt s pos) (byteAt s (pos + 1)) (byteAt s (pos + 2)) (byteAt s (pos + 3)) with
    | none => false
    | some k => goodFrom s f (pos + k)) else true

theorem byteAt_lt (s : ByteArray) (i : Nat) : byteAt s i < 256 := UInt8.toNat_lt _

theorem goodFrom_eq (s : ByteArray) : ∀ (f pos : Nat), s.size ≤ pos + f → goodFrom s f pos = (Lib.validD (s.data.toList.drop pos) && !decide (0 ≤ barFrom s f pos))
  | 0, pos, h => by
    rw [List.drop_of_length_le (by simp; omega)]
    rfl
  | f + 1, pos, h => by
    unfold goodFrom barFrom
    by_cases hp : pos < s.size
    · rw [if_pos hp, if_pos hp]
      have hne : s.data.toList.drop pos ≠ [] := by
        intro e
        have := congrArg List.length e
        simp at this
        omega
      rw [Lib.validD_step _ hne, Lib.decodeL_drop, step_eq _ _ _ _ _ (byteAt_lt _ _) (byteAt_lt _ _) (byteAt_lt _ _) (byteAt_lt _ _), show Lib.decodeN (s.size - pos) (byteAt s pos) (byteAt s (pos + 1)) (byteAt s (pos + 2)) (byteAt s (pos + 3)) = Utf8.decode s pos from (Lib.decode_at s pos).symm]
      have hw := Lib.width_pos s pos
      generalize Utf8.decode s pos = d at hw ⊢
      unfold outN
      by_cases hv : d.1 = 65533 ∧ d.2 = 1
      · rw [if_pos (.inl hv), if_pos hv]
        rfl
      · rw [if_neg hv]
        cases hb : barR d.1
        · rw [if_neg (by simp [hv]), if_neg (by simp)]
          rw [List.drop_drop]
          exact goodFrom_eq s f (pos + d.2) (by omega)
        · rw [if_pos (.inr rfl), if_pos rfl]
          simp
    · rw [if_neg hp, if_neg hp, List.drop_of_length_le (by simp; omega)]
      rfl
/-- The reference says what the library says. -/
theorem good_eq (s : ByteArray) : goodFrom s s.size 0 = (Lib.validD s.data.toList && !barB s) := by
  rw [goodFrom_eq s s.size 0 (by omega)]
  rfl
end Go.Proofs.YtmhigecchligcaaDoor
