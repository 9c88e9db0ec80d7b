
/- Contracts of the document's own answers of layer 1 that read and make lists of bits, over the translated program. -/
import Derived.Test.YthobbdnmhldglaaBitsN
namespace Go.Proofs.Ythobbdnmhldglaa
open Go Go.RowKit
set_option maxRecDepth 100000

theorem Try.info3 : (Try.prog.info? 3).map (fun i => (i.zero, i.size, i.bytes)) = some (some (.int .i64 0), 1, 8) := by kernel_rfl

theorem intVs_snoc (l : List Nat) (b : Nat) : intVs l ++ [Value.int .i64 (b : Int)] = intVs (l ++ [b]) := by simp [intVs]

/-- A row of ints behind one number more. -/
theorem own_sep {n m : Nat} {a b : Option Nat} (h : Sep n none a) (k : b = a ∨ b = some m) (hm : n ≤ m) : Sep n none b := by
  rcases k with rfl | rfl
  · exact h
  · exact .inr ⟨m, rfl, hm⟩
theorem sep_grown {w wr w2 : World} {row : Option Nat} (ht : Touch (fun _ => False) w wr) (hs : Sep w.heap.size none row) (hg : wr.grownBy w2 row) : Touch (fun _ => False) w w2 :=
  ht.grown hg (fun k hk => by
    rcases hs with h | ⟨g, h, hg⟩
    · rw [h] at hk; cases hk
    · rw [h] at hk; injection hk with hk; right; omega)

theorem numN_step (l : List Nat) (k : Nat) (h0 : 0 < k) (hk : k ≤ l.length) (hl : l.length ≤ 64) (h2 : ∀ x ∈ l, x < 2) :
    IntKind.u64.wrap (IntKind.u64.wrap (2 * ((numN (l.drop k) : Nat) : Int)) + IntKind.u64.wrap ((l[k - 1]'(by omega) : Nat) : Int)) = ((numN (l.drop (k - 1)) : Nat) : Int) := by
  have h1 := numN_lt (l.drop k) (fun x hx => h2 x (List.mem_of_mem_drop hx))
  rw [List.length_drop] at h1
  have h3 : 2 ^ (l.length - k) ≤ 2 ^ 63 := Nat.pow_le_pow_right (by decide) (by omega)
  have h4 := h2 _ (List.getElem_mem (show k - 1 < l.length by omega))
  rw [numN_drop_pred l k h0 hk, show (2 : Int) * ((numN (l.drop k) : Nat) : Int) = ((2 * numN (l.drop k) : Nat) : Int) by simp, wrap_u64_in _ (by omega), wrap_u64_in _ (by omega),
    show ((2 * numN (l.drop k) : Nat) : Int) + ((l[k - 1]'(by omega) : Nat) : Int) = ((2 * numN (l.drop k) + l[k - 1]'(by omega) : Nat) : Int) by simp, wrap_u64_in _ (by omega)]

theorem Row.mid {w : World} {e : TypeId} {g off n cap lo m : Nat} {xs : List Value} (h : Row w e (.slice (some ⟨g, off, none⟩) n cap) xs) (hm : lo + m ≤ n) :
    Row w e (.slice (some ⟨g, off + lo, none⟩) m (cap - lo)) ((xs.drop lo).take m) := by
  rcases h with ⟨hv, _⟩ | ⟨g', off', cap', cur, hv, hh, h1, h2, h3, h4⟩
  · cases hv
  · cases hv
    have hl : ((xs.drop lo).take m).length = m := by rw [List.length_take, List.length_drop]; omega
    refine .inr ⟨g, off + lo, cap - lo, cur, by rw [hl], hh, by rw [hl]; omega, by omega, by omega, ?_⟩
    rw [hl]
    have h5 := congrArg (fun l => (l.drop lo).take m) h4
    simp only [List.drop_take, List.take_take, List.drop_drop] at h5
    rw [Nat.min_eq_left (by omega)] at h5
    exact h5

theorem row_cap {w : World} {e : TypeId} {a : Option Addr} {n cap : Nat} {xs : List Value} (h : Row w e (.slice a n cap) xs) : cap ≤ maxLen := by
  obtain ⟨a', cap', hv, _, h2⟩ := h.form
  injection hv with _ _ h3
  rw [h3]; exact h2

end Go.Proofs.Ythobbdnmhldglaa
