/- Contracts of package dgram: Encode, Decode. -/
import Derived.Test.YtmjahbdengnoeaaDgE
namespace Go.Proofs.Ytmjahbdengnoeaa
open Go Go.RowKit
set_option maxRecDepth 100000

theorem good_kind {d : Dg} (h : goodD d = true) : ∃ k : Nat, d.kind = (k : Nat) ∧ k < 6 := by
  unfold goodD at h
  simp only [Bool.and_eq_true, decide_eq_true_eq] at h
  obtain ⟨⟨⟨⟨⟨⟨h1, h2⟩, _⟩, _⟩, _⟩, _⟩, _⟩ := h
  exact ⟨d.kind.toNat, by omega, by omega⟩
theorem good_size {d : Dg} (h : goodD d = true) : d.text.size ≤ 256 := by
  unfold goodD at h
  simp only [Bool.and_eq_true, decide_eq_true_eq] at h
  exact h.1.1.1.2
theorem body_calls (d : Dg) (hw : d.Wf) (hg : goodD d = true) (w : World) : Calls Try.prog 33 #[d.v] w fun e w' => e = .returned (.string (bodyB d)) ∧ Touch (fun _ => False) w w' := by
  obtain ⟨k, hk, hk6⟩ := good_kind hg
  have hs := good_size hg
  obtain ⟨kind, se, ep, sq, pos, sm, mp, last, text⟩ := d
  obtain ⟨_, _, h0, h1, h2, h3, h4, h5⟩ := hw
  simp only at hk h0 h1 h2 h3 h4 h5 hs
  subst hk
  exact body_k k se ep sq pos sm mp last text (by omega) h0 h1 h2 h3 h4 h5 (by omega) w

/-- Its bytes; what Encode tells. -/
def encB (d : Dg) : ByteArray := if goodD d = true then bodyB d ++ sealB (bodyB d) else ⟨#[]⟩
def encE (d : Dg) : Int := if goodD d = true then 0 else 1

set_option maxHeartbeats 2000000 in
theorem encode_calls (d : Dg) (hw : d.Wf) (w : World) : Calls Try.prog 21 #[d.v] w fun e w' => e = .returned (.tuple #[.string (encB d), .int .i64 (encE d)]) ∧ Touch (fun _ => False) w w' := by
  have HG0 := fun W => dgood_calls d W
  have HB0 := fun (h : goodD d = true) W => body_calls d hw h W
  have he : encB d = if goodD d = true then bodyB d ++ sealB (bodyB d) else ⟨#[]⟩ := rfl
  have he2 : encE d = if goodD d = true then 0 else 1 := rfl
  have hbs := bodyB_size d
  have hss := sealB_size (bodyB d)
  have hts := fun h => good_size (d := d) h
  have HS0 := fun (h : goodD d = true) W => seal_calls (bodyB d) W (by have := hts h; omega)
  have hbz : goodD d = true → (bodyB d).size ≤ 1000 := fun h => by have := hts h; omega
  generalize sealB (bodyB d) = sb at he hss HS0
  generalize bodyB d = bb at he HB0 hbz HS0
  cases hg : goodD d
  · rw [hg] at he he2 HG0
    have HG := Lib.hid HG0
    rw [he, he2]
    clear HG0 HB0 HS0 he he2 hbs hss hts hbz hg
    obtain ⟨kind, se, ep, sq, pos, sm, mp, last, text⟩ := d
    unfold Dg.v Dg.cells at HG ⊢
    simp only at HG ⊢
    go_enter Try.func21, Try.ntmps21
    go_wp2_with fail
    refine (HG.out _).mono ?_
    rintro e w1 ⟨rfl, hT1⟩
    go_wp2_with fail
    go_ret2
    exact ⟨rfl, ((Touch.refl _ _).alloc _).trans hT1⟩
  · rw [hg] at he he2 HG0
    have HG := Lib.hid HG0
    have HB := Lib.hid (HB0 hg)
    have HS := Lib.hid (HS0 hg)
    have hbz2 := hbz hg
    rw [he, he2]
    clear HG0 HB0 HS0 he he2 hbs hts hbz hg hw
    obtain ⟨kind, se, ep, sq, pos, sm, mp, last, text⟩ := d
    unfold Dg.v Dg.cells at HG HB ⊢
    simp only at HG HB ⊢
    go_enter Try.func21, Try.ntmps21
    go_wp2_with fail
    have hc1 := Block.new w 42 [.int .i64 kind, .int .u32 se, .int .u32 ep, .int .u32 sq, .int .u64 pos, .int .u32 sm, .int .u32 mp, .bool last, .string text]
    refine (HG.out _).mono ?_
    rintro e w1 ⟨rfl, hT1⟩
    have hb1 := hc1.kept hT1 id
    have hTa := ((Touch.refl (fun _ => False) w).alloc _).trans hT1
    generalize w.heap.size = G at hb1 ⊢
    have c0 := Block.cell hb1 0
    have c1 := Block.cell hb1 1
    have c2 := Block.cell hb1 2
    have c3 := Block.cell hb1 3
    have c4 := Block.cell hb1 4
    have c5 := Block.cell hb1 5
    have c6 := Block.cell hb1 6
    have c7 := Block.cell hb1 7
    have c8 := Block.cell hb1 8
    clear hb1 hc1
    simp only [List.getElem?_cons_zero, List.getElem?_cons_succ] at c0 c1 c2 c3 c4 c5 c6 c7 c8
    go_wp2_with fail
    refine (HB.out _).mono ?_
    rintro e w2 ⟨rfl, hT2⟩
    go_wp2_with fail
    refine (HS.out _).mono ?_
    rintro e w3 ⟨rfl, hT3⟩
    go_wp2_with fail
    go_ret2
    exact ⟨rfl, (hTa.trans hT2).trans hT3⟩

end Go.Proofs.Ytmjahbdengnoeaa
