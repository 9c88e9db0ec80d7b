/- Contracts of package recv, second part: Ack, Held. -/
import Derived.Test.YtimiiahhedpfaaaRvA
import Derived.Test.YtimiiahhedpfaaaPack
namespace Go.Proofs.Ytimiiahhedpfaaa
open Go Go.RowKit Go.Maps Go.MapKept Go.ChangeMaps
set_option maxRecDepth 100000

/-- The bits of an answer. -/
def ackM (A : Nat → Option ByteArray) (b : Nat) : Nat := packF (fun k => (A (b + 1 + k)).isSome) 32
/-- The sum of some sizes. -/
def sumF (g : Nat → Nat) : Nat → Nat
  | 0 => 0
  | k + 1 => sumF g k + g k
theorem sumF_congr {g g' : Nat → Nat} {m : Nat} (h : ∀ k, k < m → g k = g' k) : sumF g m = sumF g' m := by
  induction m with
  | zero => rfl
  | succ m ih =>
    show sumF g m + _ = sumF g' m + _
    rw [ih fun k hk => h k (by omega), h m (by omega)]
theorem sumF_le {g : Nat → Nat} {m c : Nat} (h : ∀ k, k < m → g k ≤ c) : sumF g m ≤ c * m := by
  induction m with
  | zero => exact Nat.le_refl _
  | succ m ih =>
    have := ih fun k hk => h k (by omega)
    have := h m (by omega)
    show sumF g m + g m ≤ c * (m + 1)
    rw [Nat.mul_succ]; omega
theorem sumF_more (g : Nat → Nat) (m j v : Nat) (hj : j < m) (h0 : g j = 0) : sumF g m + v = sumF (fun k => if k = j then v else g k) m := by
  induction m with
  | zero => omega
  | succ m ih =>
    show sumF g m + g m + v = sumF (fun k => if k = j then v else g k) m + (if m = j then v else g m)
    by_cases h : m = j
    · subst h
      rw [h0, if_pos rfl]
      have : sumF g m = sumF (fun k => if k = m then v else g k) m := sumF_congr fun k hk => by rw [if_neg (by omega)]
      omega
    · have := ih (by omega)
      rw [if_neg h]; omega
def sizeT (o : Option ByteArray) : Nat := match o with
  | some t => t.size
  | none => 0
/-- How many bytes the texts from b on have. -/
def heldM (A : Nat → Option ByteArray) (b sz : Nat) : Nat := sumF (fun j => sizeT (A (b + j))) sz

theorem same_num {f i : Nat} (k : Nat) : (Lit.int .u32 (numU f k : Nat)).sameKey (.int .u32 (numU f i : Nat)) = decide (numU f k = numU f i) := by
  simp [Lit.sameKey, Int.ofNat_inj]

theorem or_u32 (a k : Nat) (ha : a < 4294967296) (hk : k < 32) : bits .or .u32 (a : Int) ((2 : Int) ^ k % 4294967296) = ((a ||| 2 ^ k : Nat) : Int) := by
  have h1 : 2 ^ k < 2 ^ 32 := Nat.pow_lt_pow_right (by decide) hk
  have h2 : (2 : Int) ^ k = ((2 ^ k : Nat) : Int) := by norm_cast
  rw [h2]
  clear h2
  have h3 : a ||| 2 ^ k < 2 ^ 32 := Nat.or_lt_two_pow ha h1
  generalize 2 ^ k = q at *
  have e : ((q : Nat) : Int) % 4294967296 = (q : Int) := by omega
  rw [e]
  show IntKind.u32.wrap ((BitVec.ofInt 32 (a : Int) ||| BitVec.ofInt 32 (q : Int)).toNat : Nat) = _
  rw [BitVec.toNat_or, BitVec.toNat_ofInt, BitVec.toNat_ofInt, IntKind.wrap_u32]
  have e1 : ((a : Int) % ((2 ^ 32 : Nat) : Int)).toNat = a := by omega
  have e2 : ((q : Int) % ((2 ^ 32 : Nat) : Int)).toNat = q := by omega
  rw [e1, e2]
  omega

set_option maxHeartbeats 4000000 in
theorem rack_calls {w : World} {p mb n f b sz : Nat} {A : Nat → Option ByteArray} (h : RcvAt w p mb n f b sz A) :
    Calls Try.prog 18 #[.pointer (some ⟨p, 0, none⟩)] w fun e w' => e = .returned (.tuple #[.int .u32 (numU f b : Nat), .int .u32 (ackM A b : Nat)]) ∧ Touch (fun _ => False) w w' := by
  have hbb := h.hb
  have hzz := h.z2
  have hAA := Lib.hid h.hA
  obtain ⟨c0, c1, c2⟩ := h.cells
  obtain ⟨D, hown, hD⟩ := h.map
  have HD := Lib.hid hD
  have HLT := Lib.hid h.lt
  obtain ⟨nb, hnb⟩ : ∃ nb, nb = numU f b := ⟨_, rfl⟩
  rw [← hnb] at c0 ⊢
  have HNB := Lib.hid hnb
  clear h hD hnb c1
  go_enter Try.func18, Try.ntmps18
  go_wp2_with (at_range; refine wpList_range_own _ rfl _ 77 rfl 22 9 Try.keyedU Try.underlying77 _ mb n D rfl hown ?_; intro w8 hrg8 hg8 hs8)
  obtain ⟨rr, hrr⟩ : ∃ r, r = w.heap.size := ⟨_, rfl⟩
  rw [← hrr] at hrg8 ⊢
  have hT8 : Touch (fun _ => False) w w8 := (Touch.refl _ w).grown hg8 (fun k hk => by cases hk)
  have HT8 := Lib.hid hT8
  have c0 := hT8.cell (p := ⟨p, 0, none⟩) c0 id
  have HRN : Hid (rr ≠ p ∧ rr ≠ mb ∧ rr = w.heap.size) := Lib.hid ⟨by have := HLT.out; omega, by have := HLT.out; omega, hrr⟩
  have HRG8 := Lib.hid hrg8
  clear hT8 hg8 hs8 hrg8 hrr hown
  go_frame
  go_loopw [4, 5] (fun tv _ wy => ∃ (left : Lit → Bool) (c : Nat), wy.ranges Try.prog 22 rdT mb rr n D left c ∧ tv = .int .u32 (packF (fun k => (A (b + 1 + k)).isSome && !left (.int .u32 (numU f (b + 1 + k) : Nat))) 32 : Nat) ∧ RowKit.Hid (∀ kl, left kl = true → Maps.has D kl = true) ∧ RowKit.Hid (Touch (fun j => j = rr) w8 wy)) (fun _ _ wy => wy.rangeLeft mb rr)
  case atStart =>
    refine ⟨_, _, HRG8.out, ?_, Lib.hid (fun _ h => h), Lib.hid (Touch.refl _ _)⟩
    rw [packF_congr (g' := fun _ => false) (fun k _ => ?_)]
    · rfl
    · cases hA : A (b + 1 + k) with
      | none => rfl
      | some t => rw [(HD.out.at' _ t hA).1]; rfl
  case round =>
    obtain ⟨left, c, hrg, rfl, HLF, HTy⟩ := hrel
    have HRG := Lib.hid hrg
    have c0 := HTy.out.cell (p := ⟨p, 0, none⟩) c0 (fun e => HRN.out.1 e.symm)
    have hrl : wr.rangeLeft mb rr = c := hrg.left_eq
    clear hrg
    obtain ⟨pk, hpk⟩ : ∃ x, x = packF (fun k => (A (b + 1 + k)).isSome && !left (.int .u32 (numU f (b + 1 + k) : Nat))) 32 := ⟨_, rfl⟩
    rw [← hpk]
    have hpl : pk < 4294967296 := by rw [hpk]; exact packF_lt _ 32
    have HPK := Lib.hid hpk
    clear hpk
    go_wp2_with (at_next; refine wpList_next_ranges _ rfl _ rfl 22 Try.keyedU rdT (Value.int .u32) (fun q : ByteArray => Value.string q) (fun key kl hkey => by obtain ⟨x, rfl, _⟩ := Maps.keyOf_int_inv Try.underlying22 hkey; exact ⟨x, rfl⟩) (fun v y hv => by obtain ⟨s, rfl, _⟩ := rdT_inv hv; exact ⟨s, rfl⟩) mb rr n D left c rfl HRG.out ?_ ?_)
    · intro _ hall
      have hpa : pk = ackM A b := by
        rw [HPK.out]
        exact packF_congr fun k _ => by rw [hall]; simp
      subst hpa
      go_wp2_with fail
      go_ret2
      exact ⟨rfl, HT8.out.trans' HTy.out (fun j e => Or.inr (by have := HRN.out.2.2; omega))⟩
    · intro x s kl y ps w' cnt' hkey hleft hR hat hrg' hlt hgr hsz' hen
      obtain ⟨i, t, hkl, hAi⟩ := HD.out.only kl (HLF.out kl hleft)
      have hx : x = ((numU f i : Nat) : Int) := by
        obtain ⟨x', e, e2, _⟩ := Maps.keyOf_int_inv Try.underlying22 hkey
        injection e with _ e
        rw [e2] at hkl
        injection hkl with _ e3
        rw [e, e3]
      subst hx
      have hib := hAA.out i t hAi
      have HT' := Lib.hid (HTy.out.trans ((Touch.refl (fun j => j = rr) wr).grown hgr (fun k hk => Or.inl (Option.some.inj hk).symm)))
      have c0 := HT'.out.cell (p := ⟨p, 0, none⟩) (w := w8) (by assumption) (fun e => HRN.out.1 e.symm)
      have HRG' := Lib.hid hrg'
      have HLN := Lib.hid hlt
      have HLF' : Hid (∀ kl', (left kl' && !kl'.sameKey kl) = true → Maps.has D kl' = true) := Lib.hid (fun kl' h => HLF.out kl' (by rw [Bool.and_eq_true] at h; exact h.1))
      by_cases hi0 : i = b
      · have hxn : numU f i = nb := by rw [HNB.out, hi0]
        rw [hxn] at hen ⊢
        have HPK' : Hid (pk = packF (fun k => (A (b + 1 + k)).isSome && !(left (.int .u32 (numU f (b + 1 + k) : Nat)) && !(Lit.int .u32 (numU f (b + 1 + k) : Nat)).sameKey kl)) 32) := Lib.hid (by
          rw [HPK.out]
          refine packF_congr fun k hk => ?_
          rw [hkl, same_num, decide_eq_false (fun e => by have := numU_inj (f := f) (by omega) (by omega) e; omega)]; simp)
        clear hkey hleft hR hat hrg' hgr hsz' hlt hkl hxn
        go_wp2_with fail
        go_roundw
        case rel => exact ⟨_, cnt', HRG'.out, by rw [← HPK'.out], HLF', HT'⟩
        case measure => rw [HRG'.out.left_eq, hrl]; exact HLN.out
      · obtain ⟨k0, hk0, hik⟩ : ∃ k0, k0 < 31 ∧ i = b + 1 + k0 := ⟨i - b - 1, by omega, by omega⟩
        have hxn : ((numU f i : Int) != (nb : Int)) = true := by
          rw [bne_iff_ne]
          intro e
          have := numU_inj (f := f) (i := i) (j := b) (by omega) (by omega) (by have := HNB.out; omega)
          omega
        obtain ⟨k1, hk1⟩ : ∃ k1, k1 = k0 + 1 := ⟨_, rfl⟩
        have hs1 : ((numU f i : Int) - (nb : Int)) % 4294967296 = (k1 : Int) := by rw [HNB.out]; unfold numU; omega
        have hs2 : ((k1 : Int) - 1) % 4294967296 = (k0 : Int) := by omega
        have hor := or_u32 pk (k1 - 1) hpl (by omega)
        have hk1' : k1 - 1 = k0 := by omega
        have HPK' : Hid (pk ||| 2 ^ k0 = packF (fun k => (A (b + 1 + k)).isSome && !(left (.int .u32 (numU f (b + 1 + k) : Nat)) && !(Lit.int .u32 (numU f (b + 1 + k) : Nat)).sameKey kl)) 32) := Lib.hid (by
          rw [HPK.out, packF_or _ _ _ (by omega)]
          refine packF_congr fun k hk => ?_
          rw [hkl, same_num]
          by_cases e : k = k0
          · subst e
            rw [decide_eq_true (rfl : k = k), hik, show (A (b + 1 + k)).isSome = true by rw [← hik, hAi]; rfl]; simp
          · rw [decide_eq_false e, decide_eq_false (fun e' => by have := numU_inj (f := f) (by omega) (by omega) e'; omega)]; simp)
        obtain ⟨u, hu⟩ : ∃ u, u = numU f i := ⟨_, rfl⟩
        rw [← hu] at hxn hs1 hen ⊢
        obtain ⟨pq, hpq⟩ : ∃ q, q = pk ||| 2 ^ k0 := ⟨_, rfl⟩
        rw [hk1', ← hpq, ← hk1'] at hor
        rw [← hpq] at HPK'
        clear hkey hleft hR hat hrg' hgr hsz' hlt hik hkl hu hk1 hpq hk1'
        go_wp2_with fail
        go_roundw
        case rel => exact ⟨_, cnt', HRG'.out, by rw [← HPK'.out], HLF', HT'⟩
        case measure => rw [HRG'.out.left_eq, hrl]; exact HLN.out

set_option maxHeartbeats 4000000 in
theorem rheld_calls {w : World} {p mb n f b sz : Nat} {A : Nat → Option ByteArray} (h : RcvAt w p mb n f b sz A) :
    Calls Try.prog 20 #[.pointer (some ⟨p, 0, none⟩)] w fun e w' => e = .returned (.int .i64 (heldM A b sz : Nat)) ∧ Touch (fun _ => False) w w' := by
  have hbb := h.hb
  have hzz := h.z2
  have hAA := Lib.hid h.hA
  obtain ⟨c0, c1, c2⟩ := h.cells
  obtain ⟨D, hown, hD⟩ := h.map
  have HD := Lib.hid hD
  have HLT := Lib.hid h.lt
  have hsz0 : ∀ i, sizeT (A i) ≤ 256 := fun i => by
    cases hA : A i with
    | none => exact Nat.zero_le _
    | some t => exact (hAA.out i t hA).2.2
  have HSZ := Lib.hid hsz0
  clear h hD c1 c0 hsz0
  go_enter Try.func20, Try.ntmps20
  go_wp2_with (at_range; refine wpList_range_own _ rfl _ 77 rfl 22 9 Try.keyedU Try.underlying77 _ mb n D rfl hown ?_; intro w8 hrg8 hg8 hs8)
  obtain ⟨rr, hrr⟩ : ∃ r, r = w.heap.size := ⟨_, rfl⟩
  rw [← hrr] at hrg8 ⊢
  have hT8 : Touch (fun _ => False) w w8 := (Touch.refl _ w).grown hg8 (fun k hk => by cases hk)
  have HT8 := Lib.hid hT8
  have HRN : Hid (rr ≠ p ∧ rr ≠ mb ∧ rr = w.heap.size) := Lib.hid ⟨by have := HLT.out; omega, by have := HLT.out; omega, hrr⟩
  have HRG8 := Lib.hid hrg8
  clear hT8 hg8 hs8 hrg8 hrr hown
  go_frame
  go_loopw [3, 5] (fun tv _ wy => ∃ (left : Lit → Bool) (c : Nat), wy.ranges Try.prog 22 rdT mb rr n D left c ∧ tv = .int .i64 (sumF (fun j => if left (.int .u32 (numU f (b + j) : Nat)) = true then 0 else sizeT (A (b + j))) sz : Nat) ∧ RowKit.Hid (∀ kl, left kl = true → Maps.has D kl = true) ∧ RowKit.Hid (Touch (fun j => j = rr) w8 wy)) (fun _ _ wy => wy.rangeLeft mb rr)
  case atStart =>
    refine ⟨_, _, HRG8.out, ?_, Lib.hid (fun _ h => h), Lib.hid (Touch.refl _ _)⟩
    rw [sumF_congr (g' := fun _ => 0) (fun k _ => ?_)]
    · rw [show sumF (fun _ => 0) sz = 0 by have := sumF_le (g := fun _ => 0) (m := sz) (c := 0) (fun _ _ => Nat.le_refl _); omega]
      rfl
    · cases hA : A (b + k) with
      | none => simp [sizeT]
      | some t => rw [(HD.out.at' _ t hA).1]; rfl
  case round =>
    obtain ⟨left, c, hrg, rfl, HLF, HTy⟩ := hrel
    have HRG := Lib.hid hrg
    have hrl : wr.rangeLeft mb rr = c := hrg.left_eq
    clear hrg
    obtain ⟨pk, hpk⟩ : ∃ x, x = sumF (fun j => if left (.int .u32 (numU f (b + j) : Nat)) = true then 0 else sizeT (A (b + j))) sz := ⟨_, rfl⟩
    rw [← hpk]
    have hpl : pk ≤ 256 * 32 := by
      have h1 := sumF_le (g := fun j => if left (.int .u32 (numU f (b + j) : Nat)) = true then 0 else sizeT (A (b + j))) (m := sz) (c := 256) (fun k _ => by
        show (if _ then _ else _) ≤ 256
        split
        · omega
        · exact HSZ.out _)
      omega
    have HPK := Lib.hid hpk
    clear hpk
    go_wp2_with (at_next; refine wpList_next_ranges _ rfl _ rfl 22 Try.keyedU rdT (Value.int .u32) (fun q : ByteArray => Value.string q) (fun key kl hkey => by obtain ⟨x, rfl, _⟩ := Maps.keyOf_int_inv Try.underlying22 hkey; exact ⟨x, rfl⟩) (fun v y hv => by obtain ⟨s, rfl, _⟩ := rdT_inv hv; exact ⟨s, rfl⟩) mb rr n D left c rfl HRG.out ?_ ?_)
    · intro _ hall
      have hpa : pk = heldM A b sz := by
        rw [HPK.out]
        exact sumF_congr fun k _ => by rw [hall]; rfl
      subst hpa
      go_wp2_with fail
      go_ret
      exact ⟨rfl, HT8.out.trans' HTy.out (fun j e => Or.inr (by have := HRN.out.2.2; omega))⟩
    · intro x s kl y ps w' cnt' hkey hleft hR hat hrg' hlt hgr hsz' hen
      obtain ⟨i, t, hkl, hAi⟩ := HD.out.only kl (HLF.out kl hleft)
      have hst : s = t := by
        unfold rdT at hR
        injection hR with hR
        injection hR with hR _
        have h1 := hat (.lit (.int .i64 0))
        rw [hkl, (HD.out.at' i t hAi).2] at h1
        have h2 : (DataW.lit (.string t.data.toList) : DataW Unit) = .lit (.string s.data.toList) := h1.trans hR.symm
        exact lit_str h2.symm
      subst hst
      have hib := hAA.out i s hAi
      have HT' := Lib.hid (HTy.out.trans ((Touch.refl (fun j => j = rr) wr).grown hgr (fun k hk => Or.inl (Option.some.inj hk).symm)))
      have HRG' := Lib.hid hrg'
      have HLN := Lib.hid hlt
      have HLF' : Hid (∀ kl', (left kl' && !kl'.sameKey kl) = true → Maps.has D kl' = true) := Lib.hid (fun kl' h => HLF.out kl' (by rw [Bool.and_eq_true] at h; exact h.1))
      obtain ⟨k0, hk0, hik⟩ : ∃ k0, k0 < sz ∧ i = b + k0 := ⟨i - b, by omega, by omega⟩
      have HPK' : Hid (pk + s.size = sumF (fun j => if (left (.int .u32 (numU f (b + j) : Nat)) && !(Lit.int .u32 (numU f (b + j) : Nat)).sameKey kl) = true then 0 else sizeT (A (b + j))) sz) := Lib.hid (by
        rw [HPK.out, sumF_more _ sz k0 s.size hk0 (by rw [← hik, ← hkl, hleft]; rfl)]
        refine sumF_congr fun k hk => ?_
        rw [hkl, same_num]
        by_cases e : k = k0
        · subst e
          rw [if_pos rfl, decide_eq_true (by rw [hik] : numU f (b + k) = numU f i), ← hik, hAi]; simp [sizeT]
        · rw [if_neg e, decide_eq_false (fun e' => e (by have := numU_inj (f := f) (by omega) (by omega) e'; omega))]; simp)
      have hss : s.size ≤ 256 := hib.2.2
      clear hkey hleft hR hat hrg' hgr hsz' hlt hik hkl
      go_wp2_with fail
      go_roundw
      case rel => exact ⟨_, cnt', HRG'.out, by rw [← HPK'.out]; go_num, HLF', HT'⟩
      case measure => rw [HRG'.out.left_eq, hrl]; exact HLN.out
end Go.Proofs.Ytimiiahhedpfaaa
