/- Contracts of package stage, third part: put. -/
import Derived.Test.YtmcakilpdecacaaStB
import Derived.Test.YtmcakilpdecacaaDkG
namespace Go.Proofs.Ytmcakilpdecacaa
open Go Go.RowKit Go.Maps
set_option maxRecDepth 100000

/-- What comes of some bytes that are put in their sector. -/
def PutOut (w' : World) (b lb mb c n : Nat) (L : List UInt8) (C : List Ent) (t : Nat) (f : Int) (i o : Nat) (s : ByteArray) (e : Ending) : Prop :=
  (f ≠ 0 ∧ e = .returned (.int .i64 0) ∧ DkAt w' b lb mb c n L (putE C i (ptS (readS L C i) o s) (t + 1)) (t + 1) (burnF f) true) ∨
  (f = 0 ∧ e = .returned (.int .i64 14) ∧ DkAt w' b lb mb c n L [] t (-1) false)

theorem Touch.weak0 {S : Nat → Prop} {a w : World} (h : Touch (fun _ => False) a w) : Touch S a w := h.mono fun _ hk => hk.elim

set_option maxHeartbeats 2000000 in
theorem stput_calls {w : World} {b lb mb c n : Nat} {L : List UInt8} {C : List Ent} {t : Nat} {f : Int} (h : DkAt w b lb mb c n L C t f true) {fb fi mo sz : Nat} (hF : FlAt w fb b fi mo sz) (hsep : ¬ DkS b lb mb fb) (p : Nat) (hp : fi + p / 64 < n) (s : ByteArray) (hs : p % 64 + s.size ≤ 64) (ht : t < 1000000) :
    Calls Try.prog 64 #[.pointer (some ⟨fb, 0, none⟩), .int .i64 p, .string s] w fun e w' => PutOut w' b lb mb c n L C t f (fi + p / 64) (p % 64) s e ∧ Touch (DkS b lb mb) w w' := by
  have hn := h.n2
  obtain ⟨c0, c1, c2, c3⟩ := hF.cells
  have hSz : (readS L C (fi + p / 64)).size = 64 := readS_size h.len (fun e he => ⟨(h.ents e he).1, (h.ents e he).2.1⟩) hp
  obtain ⟨x, hx⟩ : ∃ x : Nat, p / 64 = x := ⟨_, rfl⟩
  obtain ⟨r, hr⟩ : ∃ r : Nat, p % 64 = r := ⟨_, rfl⟩
  obtain ⟨i, hi⟩ : ∃ i : Nat, fi + x = i := ⟨_, rfl⟩
  rw [hx, hi] at hp hSz ⊢
  rw [hr] at hs ⊢
  have hr64 : r < 64 := by omega
  have hdiv : (p : Int).tdiv 64 = (x : Int) := by rw [← hx]; exact Int.ofNat_tdiv p 64
  have hdiv2 : (p : Int) / 64 = (x : Int) := by omega
  have hsum : (fi : Int) + (x : Int) = (i : Int) := by omega
  have hmod : (p : Int).tmod 64 = (r : Int) := by rw [← hr]; exact Int.ofNat_tmod p 64
  have hmod2 : (p : Int) % 64 = (r : Int) := by omega
  have hwi2 : IntKind.i64.wrap (i : Int) = (i : Int) := IntWalk.i64_in _ (by omega)
  have hwx : IntKind.i64.wrap (x : Int) = (x : Int) := IntWalk.i64_in _ (by omega)
  obtain ⟨z, hz⟩ : ∃ z : Nat, s.size = z := ⟨_, rfl⟩
  obtain ⟨y, hy⟩ : ∃ y : Nat, r + z = y := ⟨_, rfl⟩
  have hyI : (r : Int) + (z : Int) = (y : Int) := by omega
  have hwy : IntKind.i64.wrap (y : Int) = (y : Int) := IntWalk.i64_in _ (by omega)
  have hy64 : y ≤ 64 := by omega
  have HX : Hid (∀ S : ByteArray, S.size = 64 → S.extract 0 r ++ s ++ S.extract y 64 = ptS S r s) := Lib.hid (fun S hS => by unfold ptS; rw [hz, hy, hS])
  have HXS : Hid (∀ S : ByteArray, S.size = 64 → (ptS S r s).size = 64) := Lib.hid (fun S hS => by rw [ptS_size _ _ _ (by omega), hS])
  have HRD : Hid (∀ W, Touch (fun _ => False) w W → Calls Try.prog 42 #[.pointer (some ⟨b, 0, none⟩), .int .i64 i] W fun e w' => e = .returned (.tuple #[.string (readS L C i), .int .i64 0]) ∧ Touch (fun _ => False) W w') := Lib.hid (fun W hW => read_ok (h.still hW) i hp)
  obtain ⟨S, hS⟩ : ∃ S, readS L C i = S := ⟨_, rfl⟩
  rw [hS] at HRD hSz
  have H := Lib.hid h
  have HF := Lib.hid hF
  have HSP := Lib.hid hsep
  have hSI : (S.size : Int) = 64 := by omega
  have hzI : (s.size : Int) = (z : Int) := by omega
  have HS := Lib.hid hS
  have hrI : (r : Int) ≤ 64 := by omega
  have hyI64 : (y : Int) ≤ 64 := by omega
  have hrS : r ≤ S.size := by omega
  have hyS : y ≤ S.size := by omega
  have hsz1 : (S.extract 0 r).size = r := by rw [ByteArray.size_extract]; omega
  have hsz2 : (S.extract 0 r ++ s).size = y := by rw [ByteArray.size_append, hsz1]; omega
  obtain ⟨v, hv⟩ : ∃ v : Nat, 64 - y = v := ⟨_, rfl⟩
  have hsz3 : (S.extract y 64).size = v := by rw [ByteArray.size_extract]; omega
  have hbig1 : (9223372036854775807 < r + z) = False := eq_false (by omega)
  have hbig2 : (9223372036854775807 < y + v) = False := eq_false (by omega)
  clear h hF hsep hx hr hi hy hS hv
  go_enter Try.func64, Try.ntmps64
  go_upto_region 2 with fail
  go_wp2_with (go_at_call 42; refine (HRD.out _ (Touch.refl _ w)).mono ?_; rintro e wa ⟨rfl, hTa⟩; have HTa := Lib.hid hTa; have c0 := hTa.cell (p := ⟨fb, 0, none⟩) c0 id; clear hTa)
  have hSN := HXS.out S hSz
  have hSE := HX.out S hSz
  have HSN := Lib.hid hSN
  have HSE := Lib.hid hSE
  clear hSN hSE
  by_cases hf0 : f = 0
  · subst hf0
    go_region_law (go_simp; go_at_call 19; rw [HSE.out]; refine (write_burn (H.out.still HTa.out.drew) i (ptS S r s) HSN.out hp).mono ?_; rintro e wb ⟨rfl, hDb, hTb⟩; have HDb := Lib.hid hDb; have HTb := Lib.hid hTb; clear hDb hTb)
    all_goals
      go_wp2_with fail
      go_ret
      exact ⟨.inr ⟨rfl, rfl, HDb.out⟩, HTa.out.drew.weak0.trans HTb.out⟩
  · go_region_law (go_simp; go_at_call 19; rw [HSE.out]; refine (write_ok (H.out.still HTa.out.drew) i (ptS S r s) HSN.out hp hf0 ht).mono ?_; rintro e wb ⟨rfl, hDb, hTb⟩; have HDb := Lib.hid hDb; have HTb := Lib.hid hTb; clear hDb hTb)
    all_goals
      go_wp2_with fail
      go_ret
      exact ⟨.inl ⟨hf0, rfl, by rw [HS.out]; exact HDb.out⟩, HTa.out.drew.weak0.trans HTb.out⟩

end Go.Proofs.Ytmcakilpdecacaa
