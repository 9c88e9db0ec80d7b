/- Contracts of package wal, sixth part: Put. -/
import Derived.Test.YtmcakilpdecacaaWlF
namespace Go.Proofs.Ytmcakilpdecacaa
open Go Go.RowKit Go.Maps
set_option maxRecDepth 100000

theorem clone_calls (s : ByteArray) (w : World) (hs : s.size ≤ 64) : Calls Try.prog 54 #[.string s] w fun e w' => e = .returned (.string s) ∧ Touch (fun _ => False) w w' := by
  have hcon : ∀ W, Calls Try.prog 78 #[.string s] W fun e w' => e = .returned (.string s) ∧ RowKit.Below W.heap.size W w' := fun W => Any.stringslite_Clone Try.dkStrClone s W (by omega)
  clear hs
  go_enter Try.func54, Try.ntmps54
  go_wp2_with (go_at_call 78; refine (hcon _).mono ?_; rintro e w' ⟨rfl, hB⟩)
  go_ret
  exact ⟨rfl, ⟨hB.os, hB.tape, hB.output, hB.size, fun k hk _ => hB.block k hk⟩⟩

theorem isopen_calls {w : World} {gb b at' sn N : Nat} {note : ByteArray} {fl : Bool} (h : LogAt w gb b at' sn N note fl) : Calls Try.prog 104 #[.pointer (some ⟨gb, 0, none⟩)] w fun e w' => e = .returned (.bool true) ∧ w = w' := by
  have q0 : w.cell? ⟨gb, 0, none⟩ = some (.pointer (some ⟨b, 0, none⟩)) := h.cell 0
  clear h
  go_enter Try.func104, Try.ntmps104
  go_wp2_with fail
  go_ret
  exact ⟨rfl, rfl⟩
theorem isopen_nil (w : World) : Calls Try.prog 104 #[.pointer none] w fun e w' => e = .returned (.bool false) ∧ w = w' := by
  go_enter Try.func104, Try.ntmps104
  go_wp2_with fail
  go_ret
  exact ⟨rfl, rfl⟩

theorem put_long {w : World} {gb b at' sn N : Nat} {note : ByteArray} {fl : Bool} (h : LogAt w gb b at' sn N note fl) (s : ByteArray) (hs : 23 < s.size) : Calls Try.prog 89 #[.pointer (some ⟨gb, 0, none⟩), .string s] w fun e w' => e = .returned (.int .i64 1) ∧ w = w' := by
  have H := Lib.hid h
  have hsI : (23 : Int) < (s.size : Int) := by omega
  clear h hs
  go_enter Try.func89, Try.ntmps89
  go_wp2_with (go_at_call 104; refine (isopen_calls H.out).mono ?_; rintro e w' ⟨rfl, rfl⟩)
  go_ret
  exact ⟨rfl, rfl⟩
theorem put_failed {w : World} {gb b at' sn N : Nat} {note : ByteArray} (h : LogAt w gb b at' sn N note true) (s : ByteArray) (hs : s.size ≤ 23) : Calls Try.prog 89 #[.pointer (some ⟨gb, 0, none⟩), .string s] w fun e w' => e = .returned (.int .i64 16) ∧ w = w' := by
  have q5 : w.cell? ⟨gb, 5, none⟩ = some (.bool true) := h.cell 5
  have H := Lib.hid h
  have hsI : ¬ (23 : Int) < (s.size : Int) := by omega
  clear h hs
  go_enter Try.func89, Try.ntmps89
  go_wp2_with (go_at_call 104; refine (isopen_calls H.out).mono ?_; rintro e w' ⟨rfl, rfl⟩)
  go_ret
  exact ⟨rfl, rfl⟩

/-- What comes of a Put. -/
def POut (b lb mb c n : Nat) (L : List UInt8) (t : Nat) (f : Int) (gb at' sn N : Nat) (note s : ByteArray) (e : Ending) (w' : World) : Prop :=
      ((f ≠ 0 ∧ f ≠ 1 ∧ e = .returned (.int .i64 0) ∧ LogAt w' gb b at' sn (N + 1) s false ∧ ∃ L', (∀ k : Nat, k < n → sec L' k = if k = at' + (N + 1) % sn then slotB (N + 1) s.data.toList else sec L k) ∧ DkAt w' b lb mb c n L' [] (t + 1) (burnF f) true) ∨
       ((f = 0 ∨ f = 1) ∧ e = .returned (.int .i64 14) ∧ LogAt w' gb b at' sn N note true ∧ ∃ t', t' ≤ t + 1 ∧ DkAt w' b lb mb c n L [] t' (-1) false))

theorem DkAt.away {S : Nat → Prop} {w w' : World} {b lb mb c n : Nat} {L : List UInt8} {C : List Ent} {t : Nat} {f : Int} {on : Bool} (h : DkAt w b lb mb c n L C t f on) (ht : Touch S w w') (hs : ∀ k, S k → ¬ DkS b lb mb k) : DkAt w' b lb mb c n L C t f on :=
  h.kept ht (fun hk => hs _ hk (.inl rfl)) (fun hk => hs _ hk (.inr (.inl rfl))) (fun hk => hs _ hk (.inr (.inr rfl)))

set_option maxHeartbeats 1000000 in
theorem put_calls {w : World} {b lb mb c n : Nat} {L : List UInt8} {t : Nat} {f : Int} (h : DkAt w b lb mb c n L [] t f true) {gb at' sn N : Nat} {note : ByteArray} (hL : LogAt w gb b at' sn N note false) (hsep : ¬ DkS b lb mb gb) (h2 : 2 ≤ sn) (hfit : at' + sn ≤ n) (s : ByteArray) (hN : N < 1000000) (hs : s.size ≤ 23) (ht : t < 1000000) :
    Calls Try.prog 89 #[.pointer (some ⟨gb, 0, none⟩), .string s] w fun e w' => Touch (fun k => DkS b lb mb k ∨ k = gb) w w' ∧ POut b lb mb c n L t f gb at' sn N note s e w' := by
  have q3 : w.cell? ⟨gb, 3, none⟩ = some (.int .u64 N) := hL.cell 3
  have q5 : w.cell? ⟨gb, 5, none⟩ = some (.bool false) := hL.cell 5
  have hgl : gb < w.heap.size := hL.lt
  have H := Lib.hid h
  have HL := Lib.hid hL
  have HSP := Lib.hid hsep
  have hsI : ¬ (23 : Int) < (s.size : Int) := by omega
  have HSZ := Lib.hid hs
  have hN1 : ((N : Int) == 18446744073709551615) = false := by rw [beq_eq_false_iff_ne]; omega
  obtain ⟨M, hM⟩ : ∃ M : Nat, N + 1 = M := ⟨_, rfl⟩
  have hMw : IntKind.u64.wrap ((N : Int) + 1) = (M : Int) := by rw [IntKind.wrap_u64]; omega
  have HM := Lib.hid hM
  clear h hL hsep hs hM
  go_enter Try.func89, Try.ntmps89
  go_upto_region 7 with (go_at_call 104; refine (isopen_calls HL.out).mono ?_; rintro e w' ⟨rfl, rfl⟩)
  go_cut [5] from 28 to 37 (fun v5 wx => ∃ eb, v5 = .pointer (some ⟨eb, 0, none⟩) ∧ Block wx eb 136 [.int .u64 M, .string s] ∧ w.heap.size ≤ eb ∧ Touch (fun _ => False) w wx)
  case first =>
    have qa : (w.alloc (.cells #[.int .u64 0, .string ⟨#[]⟩] 136)).drew.cell? ⟨gb, 3, none⟩ = some (.int .u64 N) := ((Touch.refl (fun _ => False) w).alloc _).cell q3 id
    have HQ := Lib.hid qa
    have HB0 : Hid (Block (w.alloc (.cells #[.int .u64 0, .string ⟨#[]⟩] 136)).drew w.heap.size 136 [.int .u64 0, .string ⟨#[]⟩]) := Lib.hid (Block.new w _ _)
    clear qa
    go_region_law (first
      | (go_simp; go_at_call 54; refine (clone_calls s w.drew (by have := HSZ.out; omega)).mono ?_; rintro e wa ⟨rfl, hTa⟩; have a0 := hTa.cell (p := ⟨gb, 3, none⟩) q3 id; have g0 : gb < wa.heap.size := Nat.lt_of_lt_of_le hgl hTa.size; have HTA : Hid (Touch (fun _ => False) w wa) := Lib.hid ((Touch.refl (fun _ => False) w).drew.trans hTa); clear hTa)
      | (go_simp; go_at_call 54; refine (clone_calls s _ (by have := HSZ.out; omega)).mono ?_; rintro e wa ⟨rfl, hTa⟩; have a0 := hTa.cell (p := ⟨gb, 3, none⟩) HQ.out id; have g0 : gb < wa.heap.size := Nat.lt_of_lt_of_le hgl (Nat.le_trans ((Touch.refl (fun _ => False) w).alloc _).size hTa.size); have HBX : Hid (Block wa w.heap.size 136 [.int .u64 0, .string ⟨#[]⟩]) := Lib.hid (HB0.out.kept hTa id); have b0 : wa.cell? ⟨w.heap.size, 0, none⟩ = some (.int .u64 0) := HBX.out.cell 0; have b1 : wa.cell? ⟨w.heap.size, 1, none⟩ = some (.string ⟨#[]⟩) := HBX.out.cell 1; have b2 := HBX.out.free 0; have b3 := HBX.out.free 1; have HTA : Hid (Touch (fun _ => False) w wa) := Lib.hid (((Touch.refl (fun _ => False) w).alloc _).drew.trans hTa); clear hTa))
    all_goals
      go_wp2_with fail
      go_meet
      first
        | exact ⟨_, rfl, Block.new wa _ _, HTA.out.size, HTA.out.alloc _⟩
        | exact ⟨_, rfl, (HBX.out.set 0 _).set 1 _, Nat.le_refl _, HTA.out.trans' ((Touch.refl (fun k => k = w.heap.size) _).setCell (p := ⟨w.heap.size, 0, none⟩) (.inl rfl) _ |>.setCell (p := ⟨w.heap.size, 1, none⟩) (.inl rfl) _) (fun i hi => .inr (by omega))⟩
  case rest =>
    obtain ⟨eb, rfl, hBx, heb, hTc⟩ := hcut
    have hlt := H.out.lt
    have HEB : Hid (¬ DkS b lb mb eb) := Lib.hid (by rintro (h | h | h) <;> omega)
    have hne : eb ≠ gb := by omega
    have y0 : wc.cell? ⟨eb, 0, none⟩ = some (.int .u64 M) := hBx.cell 0
    have y1 : wc.cell? ⟨eb, 1, none⟩ = some (.string s) := hBx.cell 1
    have HLc := Lib.hid (HL.out.kept hTc id : LogAt wc gb b at' sn N note false)
    have HDc := Lib.hid (H.out.still hTc)
    have HTc := Lib.hid hTc
    have HBx := Lib.hid hBx
    clear hlt hTc hBx
    go_upto_region 8 with fail
    go_wp2_with fail
    refine (lwrite_calls HDc.out HLc.out HSP.out h2 hfit M s (by have := HM.out; omega) (by have := HM.out; omega) HSZ.out ht).mono ?_
    rintro e wd ⟨hTd, hW⟩
    have hLd : LogAt wd gb b at' sn N note false := HLc.out.kept hTd HSP.out
    have hBd := HBx.out.kept hTd HEB.out
    have z0 : wd.cell? ⟨eb, 0, none⟩ = some (.int .u64 M) := hBd.cell 0
    have z1 : wd.cell? ⟨eb, 1, none⟩ = some (.string s) := hBd.cell 1
    have l3 : wd.cell? ⟨gb, 3, none⟩ = some (.int .u64 N) := hLd.cell 3
    have l4 : wd.cell? ⟨gb, 4, none⟩ = some (.string note) := hLd.cell 4
    have l5 : wd.cell? ⟨gb, 5, none⟩ = some (.bool false) := hLd.cell 5
    have k3 := hLd.free 3
    have k4 := hLd.free 4
    have k5 := hLd.free 5
    have HTd := Lib.hid hTd
    have HLd := Lib.hid hLd
    have hsub : ∀ k, k = gb → ¬ DkS b lb mb k := fun k hk => by rw [hk]; exact HSP.out
    have HSB := Lib.hid hsub
    clear hTd hLd hBd y0 y1 hsub
    rcases hW with ⟨hf0, hf1, rfl, L', hL', hD'⟩ | ⟨hff, rfl, t', ht', hD'⟩
    · have HF := Lib.hid (⟨hf0, hf1⟩ : _ ∧ _)
      have HLL := Lib.hid hL'
      have HDD := Lib.hid hD'
      clear hf0 hf1 hL' hD'
      go_wp2_with fail
      go_ret
      rw [← HM.out] at *
      have hset : Touch (fun k => k = gb) wd ((wd.setCell ⟨gb, 3, none⟩ (.int .u64 ((N + 1 : Nat) : Int))).setCell ⟨gb, 4, none⟩ (.string s)) := (Touch.refl (fun k => k = gb) wd).setCell (p := ⟨gb, 3, none⟩) (.inl rfl) _ |>.setCell (p := ⟨gb, 4, none⟩) (.inl rfl) _
      exact ⟨(HTc.out.weak.trans (HTd.out.mono fun k hk => .inl hk)).trans (hset.mono fun k hk => .inr hk), .inl ⟨HF.out.1, HF.out.2, rfl, HLd.out.last _ _, L', HLL.out, HDD.out.away hset HSB.out⟩⟩
    · have HF := Lib.hid hff
      have HDD := Lib.hid hD'
      clear hff hD'
      go_wp2_with fail
      go_ret
      have hset : Touch (fun k => k = gb) wd (wd.setCell ⟨gb, 5, none⟩ (.bool true)) := (Touch.refl (fun k => k = gb) wd).setCell (p := ⟨gb, 5, none⟩) (.inl rfl) _
      exact ⟨(HTc.out.weak.trans (HTd.out.mono fun k hk => .inl hk)).trans (hset.mono fun k hk => .inr hk), .inr ⟨HF.out, rfl, HLd.out.set 5 _, t', ht', HDD.out.away hset HSB.out⟩⟩

end Go.Proofs.Ytmcakilpdecacaa
