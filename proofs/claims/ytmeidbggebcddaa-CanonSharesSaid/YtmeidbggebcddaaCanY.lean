/- Contract of package canon's Write over the translated program; words that are read again; a Writer beside a slice of ints. -/
import Derived.Test.YtmeidbggebcddaaCanX
import Derived.Test.YtmeidbggebcddaaCanW
import Derived.Test.YtmeidbggebcddaaBitsW
namespace Go.Proofs.Ytmeidbggebcddaa
open Go Go.RowKit
set_option maxRecDepth 100000

/-- Two rows of unlike elements lie apart. -/
theorem Row.apart {w : World} {e e' : TypeId} {v v' : Value} {xs ys : List Value} (h : Row w e v xs) (h' : Row w e' v' ys) (he : e ≠ e') {g : Nat} (hv : v.ownBlock = some g) : v'.ownBlock ≠ some g := by
  intro hv'
  rcases h with ⟨rfl, _⟩ | ⟨g1, _, _, _, rfl, hh, _⟩
  · cases hv
  · rcases h' with ⟨rfl, _⟩ | ⟨g2, _, _, _, rfl, hh', _⟩
    · cases hv'
    · simp [Value.ownBlock] at hv hv'
      subst hv; subst hv'
      rw [hh] at hh'
      injection hh' with hh'
      injection hh' with _ h3
      exact he h3
theorem WrAt.apart {w : World} {b o : Nat} {l : List Nat} {row : Option Nat} (h : WrAt w b o l row) {v : Value} {ys : List Value} (h' : Row w 3 v ys) {g : Nat} (hv : v.ownBlock = some g) : row ≠ some g := by
  obtain ⟨xs, p, s, v', hraw, rfl, _⟩ := h
  exact h'.apart hraw.row (by decide) hv

theorem WrAt.row_lt {w : World} {b o : Nat} {l : List Nat} {row : Option Nat} (h : WrAt w b o l row) {g : Nat} (hr : row = some g) : g < w.heap.size := by
  obtain ⟨xs, p, s, v', hraw, rfl, _⟩ := h
  exact hraw.row.lt g hr

theorem row_at {w : World} {e : TypeId} {a : Option Addr} {n cap : Nat} {xs : List Value} (h : Row w e (.slice a n cap) xs) (j : Nat) (u : Value) (hj : xs[j]? = some u) :
    ∃ g off, a = some ⟨g, off, none⟩ ∧ w.cell? ⟨g, off + j, none⟩ = some u := by
  have hl := (List.getElem?_eq_some_iff.1 hj).1
  obtain ⟨g, off, cap', hv, _, _, hcell⟩ := h.addr (by omega)
  injection hv with hv1 _ _
  exact ⟨g, off, hv1, hcell j _ hj⟩

/-- One word at most begins some bits. -/
theorem found_one (ls l : List Nat) (h15 : ∀ x ∈ ls, x ≤ 15) (hk : kraftN ls ≤ 32768) (h2 : ∀ x ∈ l, x < 2) {s t : Nat} (hs : FoundAt ls l s) (ht : FoundAt ls l t) : s = t := by
  obtain ⟨s1, s2, s3, s4⟩ := hs
  obtain ⟨t1, t2, t3, t4⟩ := ht
  have hcs := code_fits ls s s1 s2 h15 hk
  have hct := code_fits ls t t1 t2 h15 hk
  exact one_begins ls h15 l s1 t1 s2 t2 s3 ((begins_iff l h2 _ _ s3 hcs).1 s4) t3 ((begins_iff l h2 _ _ t3 hct).1 t4)

def flatW (ls ss : List Nat) : List Nat := (ss.map fun s => wordH (ls.getD s 0) (codeN ls s)).flatten
theorem flatW_lt (ls ss : List Nat) : ∀ x ∈ flatW ls ss, x < 2 := by
  intro x hx
  obtain ⟨l, hl, hx⟩ := List.mem_flatten.1 hx
  obtain ⟨s, _, rfl⟩ := List.mem_map.1 hl
  exact wordH_lt _ _ x hx
theorem flatW_snoc (ls ss : List Nat) (s : Nat) : flatW ls (ss ++ [s]) = flatW ls ss ++ wordH (ls.getD s 0) (codeN ls s) := by simp [flatW]
theorem flatW_append (ls a b : List Nat) : flatW ls (a ++ b) = flatW ls a ++ flatW ls b := by simp [flatW]
theorem flatW_cons (ls ss : List Nat) (s : Nat) : flatW ls (s :: ss) = wordH (ls.getD s 0) (codeN ls s) ++ flatW ls ss := by simp [flatW]
theorem flatW_len (ls ss : List Nat) (h15 : ∀ s ∈ ss, ls.getD s 0 ≤ 15) : (flatW ls ss).length ≤ 15 * ss.length := by
  induction ss with
  | nil => simp [flatW]
  | cons s ss ih =>
    rw [flatW_cons, List.length_append, wordH_length, List.length_cons]
    have h1 := ih (fun t ht => h15 t (List.mem_cons_of_mem _ ht))
    have h2 := h15 s (List.mem_cons_self ..)
    omega
theorem found_head (ls : List Nat) (s : Nat) (r : List Nat) (hs : s < ls.length) (h0 : ls.getD s 0 ≠ 0) : FoundAt ls (wordH (ls.getD s 0) (codeN ls s) ++ r) s :=
  ⟨hs, h0, by rw [List.length_append, wordH_length]; omega, List.take_left' (wordH_length _ _)⟩

theorem word_bits (ls : List Nat) (s : Nat) : bitsN (ls.getD s 0) (wordN ls s) = wordH (ls.getD s 0) (codeN ls s) := by
  have h2 := bitsN_numN (wordH (ls.getD s 0) (codeN ls s)) (wordH_lt _ _)
  rw [wordH_length] at h2
  exact h2

set_option maxHeartbeats 400000 in
theorem cwrite_calls (b n0 n1 : Nat) (ls : List Nat) (s wb : Nat) (l : List Nat) (row : Option Nat) (w : World) (hC : CodeAt w b ls n0 n1) (hs : s < ls.length) (h0 : ls.getD s 0 ≠ 0) (hW : WrAt w wb 0 l row) (hl : l.length < 562949953421312) :
    Calls Try.prog 24 #[.pointer (some ⟨b, 0, none⟩), .pointer (some ⟨wb, 0, none⟩), .int .i64 s] w fun e w' => e = .returned (.tuple #[]) ∧
      ∃ row', WrAt w' wb 0 (l ++ wordH (ls.getD s 0) (codeN ls s)) row' ∧ Sep w.heap.size row row' ∧ Touch (fun k => k = wb ∨ row = some k) w w' := by
  have h15 := mem_15 ls hC.h15 s hs
  have hwl := wordN_lt ls hC.h15 s hs
  have hword := Lib.hid (word_in b n0 n1 ls s w hC hs)
  have HW := Lib.hid hW
  have hbits := Lib.hid (word_bits ls s)
  have HL := Lib.hid (fun q => write_calls wb 0 (wordN ls s) (ls.getD s 0) l row (w.drewN q) (HW.out.kept ((Touch.refl (fun _ => False) w).drewN q) id (fun _ _ => id)) (by omega) (by omega) (by omega) hl)
  clear hC hW
  generalize wordH (ls.getD s 0) (codeN ls s) = B at hbits ⊢
  generalize wordN ls s = A at hword hbits HL hwl
  generalize ls.getD s 0 = n at hword hbits HL h0 h15
  go_enter Try.func24, Try.ntmps24
  go_wp2_with fail
  refine hword.out.mono ?_
  rintro e w1 ⟨rfl, q, rfl⟩
  go_wp2_with fail
  refine (HL.out q).mono ?_
  rintro e w2 ⟨rfl, row', h1, h2, h3⟩
  have H1 := Lib.hid h1
  have H2 := Lib.hid h2
  have H3 := Lib.hid h3
  clear h1 h2 h3
  go_wp2_with fail
  go_end0
  refine ⟨rfl, row', ?_, H2.out, ((Touch.refl _ _).drewN q).trans H3.out⟩
  rw [← hbits.out]
  exact H1.out

/-- A Writer beside a slice of ints, both come since w1. -/
structure WrInts (w1 : World) (b : Nat) (l : List Nat) (row : Option Nat) (rv : Value) (ss : List Nat) (wr : World) : Prop where
  fr : FrW w1 wr b l row
  rowI : Row wr 3 rv (intVs ss)
  sep : Sep w1.heap.size none rv.ownBlock
  ne : rv.ownBlock ≠ some b
theorem WrInts.kept {w1 wr w' : World} {b : Nat} {l ss : List Nat} {rv : Value} {row : Option Nat} (h : WrInts w1 b l row rv ss wr) (ht : Touch (fun _ => False) wr w') : WrInts w1 b l row rv ss w' :=
  ⟨h.fr.kept ht, h.rowI.kept ht (fun _ _ => id), h.sep, h.ne⟩
theorem WrInts.wrote {w1 wr w' : World} {b : Nat} {l l' ss : List Nat} {rv : Value} {row row' : Option Nat} (h : WrInts w1 b l row rv ss wr) (h1 : WrAt w' b 0 l' row') (h2 : Sep wr.heap.size row row') (ht : Touch (fun k => k = b ∨ row = some k) wr w') : WrInts w1 b l' row' rv ss w' :=
  ⟨h.fr.step h1 h2 ht, h.rowI.kept ht (fun g hg hs => by
    rcases hs with rfl | hs
    · exact h.ne hg
    · exact h.fr.at_.apart h.rowI hg hs), h.sep, h.ne⟩
theorem WrInts.pushed {w1 wr w3 w4 : World} {b : Nat} {l ss ss' : List Nat} {rv v4 : Value} {row : Option Nat} (h : WrInts w1 b l row rv ss wr) (ht : Touch (fun _ => False) wr w3) (h4 : Row w4 3 v4 (intVs ss')) (hg : w3.grownBy w4 rv.ownBlock)
    (ho : v4.ownBlock = rv.ownBlock ∨ v4.ownBlock = some w3.heap.size) : WrInts w1 b l row v4 ss' w4 := by
  have hF := h.fr.kept ht
  have hR := h.rowI.kept ht (fun _ _ => id)
  refine ⟨⟨hF.at_.kept (Touch.of_grown hg) (fun e => h.ne e.symm) (fun g hg' e => ?_), hF.fresh, hF.sep, sep_grown hF.touch h.sep hg⟩, h4, own_sep h.sep ho hF.touch.size, ?_⟩
  · exact hF.at_.apart hR e.symm hg'
  · rcases ho with h' | h'
    · rw [h']; exact h.ne
    · rw [h']; intro e; injection e with e; have := hF.at_.lt; omega
end Go.Proofs.Ytmeidbggebcddaa
