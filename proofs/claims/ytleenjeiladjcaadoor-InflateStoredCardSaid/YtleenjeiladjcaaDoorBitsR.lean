/- Contracts of package bits' Reader over the translated program, by the list of its bits. -/
import Derived.Test.YtleenjeiladjcaaDoorBitsW
namespace Go.Proofs.YtleenjeiladjcaaDoor
open Go Go.RowKit
set_option maxRecDepth 100000
variable {φ : TypeId × (Nat → Option Value)}

/-- A Reader by the list of its bits. -/
def RdAt (φ : TypeId × (Nat → Option Value)) (w : World) (b o : Nat) (l : List Nat) (row : Option Nat) : Prop :=
  ∃ (ys : List UInt8) (g : Nat) (v : Value), Cell2 φ w b o v (.int .i64 g) ∧ Row w 5 v (byteVs ys) ∧ v.ownBlock ≠ some b ∧ v.ownBlock = row ∧ g < 8 ∧ g ≤ 8 * ys.length ∧ l = (bitsL ys).drop g

theorem rd_length {ys : List UInt8} {g : Nat} : ((bitsL ys).drop g).length = 8 * ys.length - g := by rw [List.length_drop, bitsL_length]

theorem feed_nil (t : ByteArray) (w : World) : Calls Tryd.prog 22 #[.pointer none, .string t] w fun e w' => e = .returned (.tuple #[]) ∧ w = w' := by
  go_enter Tryd.func22, Tryd.ntmps22
  go_wp2
  go_end0
  exact ⟨rfl, rfl⟩

set_option maxHeartbeats 400000 in
theorem feed_calls (b o : Nat) (t : ByteArray) (l : List Nat) (row : Option Nat) (w : World) (h : RdAt φ w b o l row) (hl : l.length + 8 * t.size < 562949953421312) :
    Calls Tryd.prog 22 #[.pointer (some ⟨b, o, none⟩), .string t] w fun e w' => e = .returned (.tuple #[]) ∧
      ∃ row', RdAt φ w' b o (l ++ bitsL t.data.toList) row' ∧ Sep w.heap.size row row' ∧ Touch (fun k => k = b ∨ row = some k) w w' := by
  obtain ⟨ys, g, v, hC, hrow, hap, hv, hg, hgy, hlist⟩ := h
  have hlen : l.length = 8 * ys.length - g := by rw [hlist, rd_length]
  obtain ⟨i0, hi, hz0, hz1, hz2⟩ := info_parts Tryd.info5
  have hyl : ys.length + t.size < 70368744177665 := by omega
  have HL := Lib.hid hlist
  have HV := Lib.hid hv
  clear hlist hv hlen
  have hC0 := hC
  obtain ⟨c0, c1, f0, f1⟩ := hC
  have hlb := hC0.lt
  go_enter Tryd.func22, Tryd.ntmps22
  go_wp2_with (at_builtin; refine wpList_append_row _ rfl (.tmp 10) (.tmp 11) 39 9 rfl 5 i0 _ 1 Tryd.underlying39 hi hz0 hz1 hz2 rfl v (byteVs ys) rfl hrow (.string t) rfl t.size (byteCells t) (Src.ofString _ Tryd.underlying9 t) (by rw [byteVs_length]; unfold maxLen; omega) (by rw [byteVs_length]; omega) ?_; intro v2 w2 hrow2 hgrow hown2; obtain ⟨a2, cap2, hv2, hc2, hc3⟩ := hrow2.form; subst hv2; have hB : w2.heap[b]? = w.heap[b]? := hgrow.block b hlb (fun e => hap e.symm); have g0 := (World.cell?_of_block (a := ⟨b, o, none⟩) hB).trans c0; have e0 := (World.frozen?_of_block (a := ⟨b, o, none⟩) hB).trans f0)
  go_end0
  rw [List.length_append] at hrow2 hown2
  have hap2 : (Value.slice a2 ((byteVs ys).length + (byteCells t).length) cap2).ownBlock ≠ some b := by
    intro e; rcases hown2 with h | h
    · exact hap (h.symm.trans e)
    · rw [h] at e; simp at e; omega
  have hsep2 : Sep w.heap.size row (Value.slice a2 ((byteVs ys).length + (byteCells t).length) cap2).ownBlock := by
    rcases hown2 with h | h
    · rw [h, HV.out]; exact .inl rfl
    · rw [h]; exact .inr ⟨_, rfl, Nat.le_refl _⟩
  have hT : Touch (fun k => k = b ∨ row = some k) w w2 := (Touch.refl _ _).grown hgrow (fun g hg => .inl (.inr (by rw [← HV.out, hg])))
  have hrow3 : Row w2 5 (Value.slice a2 ((byteVs ys).length + (byteCells t).length) cap2) (byteVs (ys ++ t.data.toList)) := by rw [byteVs_append]; exact hrow2
  refine ⟨rfl, _, ⟨ys ++ t.data.toList, g, _, (hC0.of_block hB).set0 _, hrow3.kept ((Touch.refl (fun k => k = b) _).setCell (Or.inl rfl) _) (fun g hg e => hap2 (by rw [hg, e])), hap2, rfl, hg, ?_, ?_⟩, hsep2, hT.setCell (Or.inl (Or.inl rfl)) _⟩
  · rw [List.length_append]; omega
  · rw [HL.out, bitsL_append, List.drop_append_of_le_length (by rw [bitsL_length]; exact hgy)]

theorem left_nil (w : World) : Calls Tryd.prog 32 #[.pointer none] w fun e w' => e = .returned (.int .i64 0) ∧ w = w' := by
  go_enter Tryd.func32, Tryd.ntmps32
  go_wp2
  go_ret
  exact ⟨rfl, rfl⟩

theorem left_calls (b o : Nat) (l : List Nat) (row : Option Nat) (w : World) (h : RdAt φ w b o l row) (hl : l.length < 562949953421312) :
    Calls Tryd.prog 32 #[.pointer (some ⟨b, o, none⟩)] w fun e w' => e = .returned (.int .i64 l.length) ∧ w' = w.drew := by
  obtain ⟨ys, g, v, hC, hrow, hap, hv, hg, hgy, hlist⟩ := h
  have hlen : l.length = 8 * ys.length - g := by rw [hlist, rd_length]
  obtain ⟨a, cap, hv', hc1, hc2⟩ := hrow.form
  rw [byteVs_length] at hv'
  subst hv'
  rw [hlen] at hl ⊢
  clear hlist hlen hv
  obtain ⟨c0, c1, f0, f1⟩ := hC
  have he := Lib.hid (show ((8 * ys.length - g : Nat) : Int) = 8 * (ys.length : Int) - (g : Int) by omega)
  go_enter Tryd.func32, Tryd.ntmps32
  go_wp2
  go_region
  go_wp2
  go_ret
  exact ⟨by rw [he.out]; simp, rfl⟩

theorem drop_calls (b o n : Nat) (l : List Nat) (row : Option Nat) (w : World) (h : RdAt φ w b o l row) (hl : l.length < 562949953421312) (hn : n ≤ l.length) :
    Calls Tryd.prog 52 #[.pointer (some ⟨b, o, none⟩), .int .i64 n] w fun e w' => e = .returned (.tuple #[]) ∧
      RdAt φ w' b o (l.drop n) row ∧ Touch (fun k => k = b) w w' := by
  obtain ⟨ys, g, v, hC, hrow, hap, hv, hg, hgy, hlist⟩ := h
  have hlen : l.length = 8 * ys.length - g := by rw [hlist, rd_length]
  have HL := Lib.hid hlist
  have HV := Lib.hid hv
  have hC0 := hC
  obtain ⟨c0, c1, f0, f1⟩ := hC
  obtain ⟨a, cap, hv', hc1, hc2⟩ := hrow.form
  rw [byteVs_length] at hv' hc1
  subst hv'
  have hq : (g + n) / 8 ≤ ys.length := by omega
  unfold maxLen at hc2
  clear hlist hv
  rw [hlen] at hl hn
  clear hlen
  go_enter Tryd.func52, Tryd.ntmps52
  go_wp2
  go_region
  all_goals go_wp2
  all_goals go_end0
  all_goals
    have hfin : ∀ (v2 : Value) (w2 : World), Cell2 φ w2 b o v2 (.int .i64 (((g + n) % 8 : Nat) : Int)) → Row w2 5 v2 (byteVs (ys.drop ((g + n) / 8))) → v2.ownBlock = (Value.slice a ys.length cap).ownBlock → RdAt φ w2 b o (l.drop n) row := by
      intro v2 w2 k1 k2 k3
      refine ⟨ys.drop ((g + n) / 8), (g + n) % 8, v2, k1, k2, by rw [k3]; exact hap, by rw [k3]; exact HV.out, Nat.mod_lt _ (by decide), by rw [List.length_drop]; omega, ?_⟩
      rw [HL.out, List.drop_drop, ← bitsL_drop, List.drop_drop]
      congr 1; omega
  · subst h
    obtain ⟨k2, k3⟩ := hrow.from_end hq
    rw [byteVs_drop] at k2
    refine ⟨rfl, hfin _ _ ?_ (k2.kept ((((Touch.refl (fun k => k = b) _).setCell (Or.inl rfl) _).setCell (Or.inl rfl) _).setCell (Or.inl rfl) _).drew (fun g hg e => hap (by rw [← k3, hg, e]))) k3, ((((Touch.refl (fun k => k = b) _).setCell (Or.inl rfl) _).setCell (Or.inl rfl) _).setCell (Or.inl rfl) _).drew⟩
    simpa using (((hC0.set1 (.int .i64 ((g : Int) + n))).set0 (.slice a (ys.length - (g + n) / 8) 0)).set1 (.int .i64 (((g + n) % 8 : Nat) : Int))).drew
  · obtain ⟨k2, k3⟩ := hrow.from hq h
    rw [byteVs_drop] at k2
    refine ⟨rfl, hfin _ _ ?_ (k2.kept ((((Touch.refl (fun k => k = b) _).setCell (Or.inl rfl) _).setCell (Or.inl rfl) _).setCell (Or.inl rfl) _).drew (fun g hg e => hap (by rw [← k3, hg, e]))) k3, ((((Touch.refl (fun k => k = b) _).setCell (Or.inl rfl) _).setCell (Or.inl rfl) _).setCell (Or.inl rfl) _).drew⟩
    simpa using (((hC0.set1 (.int .i64 ((g : Int) + n))).set0 (.slice (Option.map (fun x => x.add ((g + n) / 8)) a) (ys.length - (g + n) / 8) (cap - (g + n) / 8))).set1 (.int .i64 (((g + n) % 8 : Nat) : Int))).drew

theorem WrAt.kept {S : Nat → Prop} {w w' : World} {b o : Nat} {l : List Nat} {row : Option Nat} (h : WrAt w b o l row) (ht : Touch S w w') (hb : ¬ S b) (hr : ∀ g, row = some g → ¬ S g) : WrAt w' b o l row := by
  obtain ⟨xs, p, s, v, ⟨hC, hrow, hap⟩, hv, r⟩ := h
  exact ⟨xs, p, s, v, ⟨hC.kept ht hb, hrow.kept ht (fun g hg => hr g (by rw [← hv, hg])), hap⟩, hv, r⟩
theorem RdAt.kept {S : Nat → Prop} {w w' : World} {b o : Nat} {l : List Nat} {row : Option Nat} (h : RdAt φ w b o l row) (ht : Touch S w w') (hb : ¬ S b) (hr : ∀ g, row = some g → ¬ S g) : RdAt φ w' b o l row := by
  obtain ⟨ys, g, v, hC, hrow, hap, hv, r⟩ := h
  exact ⟨ys, g, v, hC.kept ht hb, hrow.kept ht (fun g hg => hr g (by rw [← hv, hg])), hap, hv, r⟩

theorem ralign_nil (w : World) : Calls Tryd.prog 51 #[.pointer none] w fun e w' => e = .returned (.tuple #[]) ∧ w = w' := by
  go_enter Tryd.func51, Tryd.ntmps51
  go_wp2
  go_end0
  exact ⟨rfl, rfl⟩

theorem ralign_calls (b o : Nat) (l : List Nat) (row : Option Nat) (w : World) (h : RdAt φ w b o l row) (hl : l.length < 562949953421312) :
    Calls Tryd.prog 51 #[.pointer (some ⟨b, o, none⟩)] w fun e w' => e = .returned (.tuple #[]) ∧
      RdAt φ w' b o (l.drop (l.length % 8)) row ∧ Touch (fun k => k = b) w w' := by
  have h0 := h
  obtain ⟨ys, g, v, ⟨c0, c1, f0, f1⟩, hrow, hap, hv, hg, hgy, hlist⟩ := h
  have hlen : l.length = 8 * ys.length - g := by rw [hlist, rd_length]
  have hpad : l.length % 8 = (8 - g) % 8 := by omega
  clear hlist hv
  by_cases hs0 : g = 0
  · have hp0 : l.length % 8 = 0 := by omega
    rw [hp0]
    clear hpad hp0 hlen
    subst hs0
    go_enter Tryd.func51, Tryd.ntmps51
    go_wp2
    go_end0
    exact ⟨rfl, by simpa using h0, Touch.refl _ _⟩
  · have hp0 : l.length % 8 = 8 - g := by omega
    rw [hp0]
    have hle : 8 - g ≤ l.length := by omega
    clear hpad hp0 hlen
    have hs1 : 0 < g := by omega
    have he := Lib.hid (show (8 : Int) - (g : Int) = ((8 - g : Nat) : Int) by omega)
    clear hs0
    go_enter Tryd.func51, Tryd.ntmps51
    go_wp2_with fail
    rw [he.out]
    refine (drop_calls b o (8 - g) l row _ h0 hl hle).mono ?_
    rintro e w' ⟨rfl, hq⟩
    have HQ := Lib.hid hq
    clear hq
    go_wp2
    go_end0
    exact ⟨rfl, HQ.out⟩

set_option maxHeartbeats 400000 in
theorem peek_out (q : Option Addr) (n : Int) (w : World) (h : q = none ∨ n < 0 ∨ 32 < n) :
    Calls Tryd.prog 33 #[.pointer q, .int .i64 n] w fun e w' => e = .returned (.tuple #[.int .u64 0, .bool false]) ∧ w = w' := by
  cases q with
  | none =>
    go_enter Tryd.func33, Tryd.ntmps33
    go_wp2_with fail
    go_ret2
    exact ⟨rfl, rfl⟩
  | some a =>
    have h' : n < 0 ∨ 32 < n := by rcases h with h | h; cases h; exact h
    clear h
    by_cases h1 : n < 0
    · clear h'
      go_enter Tryd.func33, Tryd.ntmps33
      go_wp2_with fail
      go_ret2
      exact ⟨rfl, rfl⟩
    · have h2 : 32 < n := by omega
      clear h'
      go_enter Tryd.func33, Tryd.ntmps33
      go_wp2_with fail
      go_ret2
      exact ⟨rfl, rfl⟩

set_option maxHeartbeats 400000 in
theorem peek_less (b o n : Nat) (l : List Nat) (row : Option Nat) (w : World) (h : RdAt φ w b o l row) (hl : l.length < 562949953421312) (hn : n ≤ 32) (hlt : l.length < n) :
    Calls Tryd.prog 33 #[.pointer (some ⟨b, o, none⟩), .int .i64 n] w fun e w' => e = .returned (.tuple #[.int .u64 0, .bool false]) ∧ w' = w.drew := by
  go_enter Tryd.func33, Tryd.ntmps33
  go_wp2_with fail
  refine (left_calls b o l row _ h hl).mono ?_
  rintro e w' ⟨rfl, rfl⟩
  go_wp2_with fail
  go_ret2
  exact ⟨rfl, rfl⟩

end Go.Proofs.YtleenjeiladjcaaDoor
