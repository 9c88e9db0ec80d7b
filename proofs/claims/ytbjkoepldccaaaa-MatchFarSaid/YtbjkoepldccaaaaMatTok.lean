/- Tokens as cells: what package match appends. -/
import Derived.Test.YtbjkoepldccaaaaLzB
namespace Go.Proofs.Ytbjkoepldccaaaa
open Go Go.RowKit
set_option maxRecDepth 100000
def tokV (t : Tok) : List Value := [.int .u8 (t.b.toNat : Nat), .int .i64 t.n, .int .i64 t.d]
def toksV (l : List Tok) : List Value := l.flatMap tokV
theorem toksV_append (a b : List Tok) : toksV (a ++ b) = toksV a ++ toksV b := by simp [toksV]
theorem toksV_length (l : List Tok) : (toksV l).length = l.length * 3 := by
  induction l with
  | nil => rfl
  | cons x l ih =>
    have : toksV (x :: l) = tokV x ++ toksV l := by simp [toksV]
    rw [this, List.length_append, ih, List.length_cons]
    simp [tokV]
    omega
theorem new_at {w : World} {b : Nat} {t : TypeId} {x : Tok} (h : w.heap[b]? = some (.cells (tokA x) t)) : ∀ j u, (tokV x)[j]? = some u → w.cell? ((⟨b, 0, none⟩ : Addr).add j) = some u := by
  intro j u hu
  obtain ⟨c0, c1, c2, _, _, _⟩ := box_cells h
  match j, hu with
  | 0, hu => simp [tokV] at hu; subst hu; exact c0
  | 1, hu => simp [tokV] at hu; subst hu; exact c1
  | 2, hu => simp [tokV] at hu; subst hu; exact c2
  | j + 3, hu => simp [tokV] at hu

variable {P : Program} {w : World}
theorem Try.infoT : (Try.prog.info? 33).map (fun i => (i.zero, i.size, i.bytes)) = some (some (.agg #[.int .u8 0, .int .i64 0, .int .i64 0]), 3, 24) := by kernel_rfl
theorem own_still {w w' : World} {base : Nat} {e : TypeId} {k : Nat} {v : Value} {n : Nat} {xs : List Value} {S : Nat → Prop} (h : w.ownsRow base e k v n xs) (ht : Touch S w w') (hn : ∀ g, v.ownBlock = some g → ¬ S g) : w'.ownsRow base e k v n xs := by
  refine ⟨h.1, ?_⟩
  rcases h.2 with h2 | ⟨g, cap, cur, rfl, hb, hh, r⟩
  · exact .inl h2
  · exact .inr ⟨g, cap, cur, rfl, hb, by rw [ht.block g (Array.getElem?_eq_some_iff.1 hh).1 (hn g rfl)]; exact hh, r⟩
theorem own_base {w : World} {base : Nat} {e : TypeId} {k : Nat} {v : Value} {n : Nat} {xs : List Value} (h : w.ownsRow base e k v n xs) : ∀ g, v.ownBlock = some g → base ≤ g := by
  intro g hg
  rcases h.2 with ⟨rfl, _⟩ | ⟨g', cap, cur, rfl, hb, _⟩
  · cases hg
  · have h2 : g' = g := Option.some.inj hg
    omega
theorem own_form {w : World} {base : Nat} {e : TypeId} {k : Nat} {v : Value} {n : Nat} {xs : List Value} (h : w.ownsRow base e k v n xs) : ∃ a cap, v = .slice a n cap := by
  rcases h.2 with ⟨rfl, rfl⟩ | ⟨g', cap, cur, rfl, hb, _⟩
  · exact ⟨_, _, rfl⟩
  · exact ⟨_, _, rfl⟩
end Go.Proofs.Ytbjkoepldccaaaa
