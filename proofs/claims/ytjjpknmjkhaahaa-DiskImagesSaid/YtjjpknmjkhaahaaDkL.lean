
/- What the statements on disks share: the masked sector's number, one Write of an act, sectors that tell all bytes. -/
import Derived.Test.YtjjpknmjkhaahaaDkK
import Derived.Test.YtjjpknmjkhaahaaDkOpen
namespace Go.Proofs.Ytjjpknmjkhaahaa
open Go Go.RowKit Go.Maps
set_option maxRecDepth 100000

theorem i64_and7 (n : Int) : bits .and .i64 n 7 = n % 8 := by
  have hk : (BitVec.ofInt 64 7).toNat = 2 ^ 3 - 1 := by decide
  have key : (BitVec.ofInt 64 n &&& BitVec.ofInt 64 7).toNat = (n % ((2 ^ 64 : Nat) : Int)).toNat % 2 ^ 3 := by
    rw [BitVec.toNat_and, BitVec.toNat_ofInt, hk, Nat.and_two_pow_sub_one_eq_mod]
  show IntKind.i64.wrap ((BitVec.ofInt 64 n &&& BitVec.ofInt 64 7).toNat : Nat) = n % 8
  rw [key, IntKind.wrap_i64]
  omega

/-- Two rows of sectors that are the same sector by sector are one. -/
theorem secs_ext : ∀ (n : Nat) (L L' : List UInt8), L.length = n * 64 → L'.length = n * 64 → (∀ k, k < n → sec L k = sec L' k) → L = L'
  | 0, L, L', h, h', _ => (List.eq_nil_of_length_eq_zero (by omega : L.length = 0)).trans (List.eq_nil_of_length_eq_zero (by omega : L'.length = 0)).symm
  | n + 1, L, L', h, h', hs => by
    have h0 := hs 0 (by omega)
    unfold sec at h0
    simp only [Nat.zero_mul, List.drop_zero] at h0
    have h1 := secs_ext n (L.drop 64) (L'.drop 64) (by rw [List.length_drop]; omega) (by rw [List.length_drop]; omega) (fun k hk => by
      have := hs (k + 1) (by omega)
      unfold sec at this ⊢
      rw [List.drop_drop, List.drop_drop, show 64 + k * 64 = (k + 1) * 64 by omega]
      exact this)
    rw [← List.take_append_drop 64 L, ← List.take_append_drop 64 L', h0, h1]

theorem readS_nil (L : List UInt8) (k : Nat) : readS L [] k = ⟨(sec L k).toArray⟩ := rfl
theorem readS_list (L : List UInt8) (k : Nat) : (readS L [] k).data.toList = sec L k := rfl
theorem putE_ne (C : List Ent) (k : Nat) (s : ByteArray) (t : Nat) : (putE C k s t).isEmpty = false := by
  unfold putE; cases C.filter (fun e => e.k != k) <;> rfl
theorem burn_none : burnF (-1) = -1 := by decide

/-- What an act's cells hold. -/
theorem DActs.at' {w : World} {v : Value} {l : List DAct} (h : DActs w v l) {k : Nat} (hk : k < l.length) : ∃ g off cap, v = .slice (some ⟨g, off, none⟩) l.length cap ∧ l.length ≤ cap ∧
      w.cell? ⟨g, off + k * 5, none⟩ = some (.int .i64 l[k].what) ∧ w.cell? ⟨g, off + k * 5 + 1, none⟩ = some (.int .i64 l[k].pos) ∧ w.cell? ⟨g, off + k * 5 + 2, none⟩ = some (.int .u8 (l[k].byt.toNat : Nat)) ∧ w.cell? ⟨g, off + k * 5 + 3, none⟩ = some (.int .i64 l[k].n) ∧ w.cell? ⟨g, off + k * 5 + 4, none⟩ = some l[k].fv := by
  obtain ⟨a, cap, rfl, h1, h2, h3, h4⟩ := h
  rcases h4 with rfl | ⟨g, off, rfl, hg, h5⟩
  · simp at hk
  · exact ⟨g, off, cap, rfl, h1, h5 k _ (List.getElem?_eq_getElem hk)⟩
theorem DActs.form {w : World} {v : Value} {l : List DAct} (h : DActs w v l) : ∃ a cap, v = .slice a l.length cap ∧ l.length ≤ cap ∧ cap ≤ maxLen := by
  obtain ⟨a, cap, rfl, h1, h2, _⟩ := h
  exact ⟨a, cap, rfl, h1, h2⟩
theorem DActs.still {w w' : World} {v : Value} {l : List DAct} (h : DActs w v l) (hT : Touch (fun _ => False) w w') : DActs w' v l := by
  obtain ⟨a, cap, rfl, h1, h2, h3, h4⟩ := h
  refine ⟨a, cap, rfl, h1, h2, fun x hx => ?_, ?_⟩
  · obtain ⟨q1, q2, q3, q4, q5, q6⟩ := h3 x hx
    exact ⟨q1, q2, q3, q4.still hT, q5, fun h0 g hg => Nat.lt_of_lt_of_le (q6 h0 g hg) hT.size⟩
  · rcases h4 with h4 | ⟨g, off, rfl, hg, h5⟩
    · exact .inl h4
    · refine .inr ⟨g, off, rfl, Nat.lt_of_lt_of_le hg hT.size, fun j t ht => ?_⟩
      obtain ⟨p0, p1, p2, p3, p4⟩ := h5 j t ht
      exact ⟨hT.cell p0 id, hT.cell p1 id, hT.cell p2 id, hT.cell p3 id, hT.cell p4 id⟩

end Go.Proofs.Ytjjpknmjkhaahaa
