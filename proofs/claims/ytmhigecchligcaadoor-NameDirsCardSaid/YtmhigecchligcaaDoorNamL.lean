
/- Names of one letter again and again: they may be, up to as many bytes as a name may have. No walk. -/
import Derived.Test.YtmhigecchligcaaDoorNamE
namespace Go.Proofs.YtmhigecchligcaaDoor
open Go Go.RowKit
set_option maxRecDepth 100000

theorem decode_asc (s : ByteArray) (pos : Nat) (hp : pos < s.size) (h : s[pos].toNat < 128) : Utf8.decode s pos = (s[pos].toNat, 1) := by
  have e : s.get! pos = s[pos] := by
    show s.data[pos]! = s.data[pos]
    exact getElem!_pos s.data pos hp
  rw [Lib.decode_at, e, Lib.decodeN_ascii _ _ _ _ _ h]

theorem rep_bar (s : ByteArray) (d : UInt8) (h : s.data.toList = List.replicate s.size d) (h1 : 97 ≤ d.toNat) (h2 : d.toNat ≤ 112) : ∀ (f pos : Nat), barFrom s f pos = -1
  | 0, _ => rfl
  | f + 1, pos => by
    unfold barFrom
    by_cases hp : pos < s.size
    · have hb : s[pos] = d := by
        have e : s.data.toList[pos]'(by simpa using hp) = s[pos] := rfl
        rw [← e]
        simp [h]
      rw [if_pos hp, decode_asc s pos hp (by rw [hb]; omega), hb, if_neg, rep_bar s d h h1 h2 f _]
      unfold barR
      simp
      omega
    · rw [if_neg hp]

theorem rep_index (d : UInt8) (h1 : 97 ≤ d.toNat) (n : Nat) : Lib.indexByte (List.replicate n d) 47 = -1 := by
  induction n with
  | zero => rfl
  | succ n ih =>
    rw [List.replicate_succ]
    unfold Lib.indexByte
    rw [ih, if_neg, if_pos (by decide)]
    intro e
    have : d = 47 := by simpa using e
    subst this
    exact absurd h1 (by decide)

theorem rep_valid (s : ByteArray) (d : UInt8) (h : s.data.toList = List.replicate s.size d) (h2 : d.toNat ≤ 112) : Lib.validD s.data.toList = true := by
  have ha : Lib.Asc s s.size := by
    intro b hb
    have := List.mem_of_mem_take hb
    rw [h] at this
    have := (List.mem_replicate.1 this).2
    subst this
    omega
  rw [← Lib.valid_skip s s.size ha, Lib.ext_list]
  rw [List.drop_of_length_le (by simp)]
  rfl

theorem extract_all (s : ByteArray) : s.extract 0 s.size = s := by simp

theorem rep_check (s : ByteArray) (d : UInt8) (h : s.data.toList = List.replicate s.size d) (h1 : 97 ≤ d.toNat) (h2 : d.toNat ≤ 112) (hn : 3 ≤ s.size) : checkB s = decide (s.size ≤ 65535) := by
  unfold checkB
  have hb : barB s = false := by
    unfold barB barIdx
    rw [rep_bar s d h h1 h2]
    decide
  have he : endAt s 0 = s.size := by
    unfold endAt
    rw [extract_all, h, rep_index d h1, if_neg (by decide)]
  have hp : ptsA s 0 = [ptAt s 0] := by
    rw [ptsA_step s 0 (Nat.zero_le _), he, ptsA_end s (s.size + 1) (by omega)]
  have hg : goodPart (ptAt s 0).t = true := by
    have ht : (ptAt s 0).t = s := by
      show s.extract 0 (endAt s 0) = s
      rw [he]; exact extract_all s
    rw [ht]
    unfold goodPart
    rw [ByteArray.toList_eq, h]
    obtain ⟨m, hm⟩ : ∃ m, s.size = m + 3 := ⟨s.size - 3, by omega⟩
    rw [hm]
    simp [List.replicate_succ]
  rw [rep_valid s d h h2, hb, hp]
  simp [hg]
end Go.Proofs.YtmhigecchligcaaDoor
