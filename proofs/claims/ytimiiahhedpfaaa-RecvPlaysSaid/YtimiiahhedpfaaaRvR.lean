/- The reference of layer 25, first part: texts and bools by place; Bits, Held. -/
import Derived.Test.YtimiiahhedpfaaaRvB
namespace Go.Proofs.Ytimiiahhedpfaaa
open Go Go.RowKit Go.Maps Go.MapKept Go.ChangeMaps
set_option maxRecDepth 100000

/-- Which texts are there from b on. -/
def bR (A : Nat → Option ByteArray) (b sz : Nat) : List Value := (List.range sz).map fun j => Value.bool (A (b + j)).isSome
/-- The texts from b on, empty where none is. -/
def tR (A : Nat → Option ByteArray) (b sz : Nat) : List Value := (List.range sz).map fun j => Value.string ((A (b + j)).getD ⟨#[]⟩)
theorem bR_len (A : Nat → Option ByteArray) (b sz : Nat) : (bR A b sz).length = sz := by simp [bR]
theorem tR_len (A : Nat → Option ByteArray) (b sz : Nat) : (tR A b sz).length = sz := by simp [tR]
theorem bR_get {A : Nat → Option ByteArray} {b sz i : Nat} (h : i < sz) : (bR A b sz)[i]? = some (.bool (A (b + i)).isSome) := by simp [bR, h]
theorem tR_get {A : Nat → Option ByteArray} {b sz i : Nat} (h : i < sz) : (tR A b sz)[i]? = some (.string ((A (b + i)).getD ⟨#[]⟩)) := by simp [tR, h]
theorem bR_one (A : Nat → Option ByteArray) (b sz : Nat) : ∀ u ∈ bR A b sz, u.oneCell' = true := by
  intro u hu
  simp [bR] at hu
  obtain ⟨_, _, rfl⟩ := hu
  rfl
theorem tR_one (A : Nat → Option ByteArray) (b sz : Nat) : ∀ u ∈ tR A b sz, u.oneCell' = true := by
  intro u hu
  simp [tR] at hu
  obtain ⟨_, _, rfl⟩ := hu
  rfl
theorem sizeT_getD (o : Option ByteArray) : sizeT o = if o.isSome then (o.getD ⟨#[]⟩).size else 0 := by cases o <;> rfl

/-- The reference's window in its box. -/
def MBox (w : World) (x : Nat) (nx : Int) (tv bv : Value) : Prop := Block w x 32 [.int .u32 nx, tv, bv]
theorem MBox.kept {S : Nat → Prop} {w w' : World} {x : Nat} {nx : Int} {tv bv : Value} (h : MBox w x nx tv bv) (ht : Touch S w w') (hn : ¬ S x) : MBox w' x nx tv bv := Block.kept h ht hn
theorem MBox.cells {w : World} {x : Nat} {nx : Int} {tv bv : Value} (h : MBox w x nx tv bv) :
    w.cell? ⟨x, 0, none⟩ = some (.int .u32 nx) ∧ w.cell? ⟨x, 1, none⟩ = some tv ∧ w.cell? ⟨x, 2, none⟩ = some bv :=
  ⟨Block.cell h 0, Block.cell h 1, Block.cell h 2⟩

theorem packF_step {g : Nat → Bool} {k : Nat} : packF g (k + 1) = packF g k + (if g k = true then 2 ^ k else 0) := rfl
theorem packF_end (g : Nat → Bool) : ∀ (n m : Nat), m ≤ n → (∀ k, m ≤ k → g k = false) → packF g n = packF g m
  | 0, m, h, _ => by obtain rfl : m = 0 := by omega
                     rfl
  | n + 1, m, h, hg => by
    by_cases e : m = n + 1
    · rw [e]
    · rw [packF_step, hg n (by omega), packF_end g n m (by omega) hg]
      simp

set_option maxHeartbeats 1000000 in
theorem rrbits_calls (nx : Int) (b sz : Nat) (a1 : Option Addr) (n1 k1 : Nat) (bv : Value) (A : Nat → Option ByteArray) (w : World) (ha : Reads w bv (bR A b sz)) (hz1 : 1 ≤ sz) (hz2 : sz ≤ 32) (hA : ∀ j t, A j = some t → j < b + sz) :
    Calls Try.prog 19 #[.agg #[.int .u32 nx, .slice a1 n1 k1, bv]] w fun e w' => e = .returned (.int .u32 (ackM A b : Nat)) ∧ Touch (fun _ => False) w w' := by
  obtain ⟨a2, k2, rfl, hk1, hk2⟩ := ha.form
  unfold maxLen at hk2
  rw [bR_len] at hk1 ha ⊢
  have HA := Lib.hid ha
  have HE : Hid (packF (fun k => (A (b + 1 + k)).isSome) (sz - 1) = ackM A b) := Lib.hid (packF_end _ 32 (sz - 1) (by omega) (fun k hk => by
    cases hAk : A (b + 1 + k) with
    | none => rfl
    | some t => have := hA _ _ hAk; omega)).symm
  clear ha hA
  go_enter Try.func19, Try.ntmps19
  go_upto_region 1 with fail
  obtain ⟨x, hx⟩ : ∃ x, x = w.heap.size := ⟨_, rfl⟩
  rw [← hx]
  generalize hw1 : w.alloc _ = w1
  have hM : MBox w1 x nx (.slice a1 n1 k1) (.slice a2 sz k2) := by rw [← hw1, hx]; exact Block.new w _ _
  have hT : Touch (fun _ => False) w w1 := by rw [← hw1]; exact (Touch.refl _ _).alloc _
  have HT := Lib.hid hT
  obtain ⟨c0, c1, c2⟩ := hM.cells
  clear hT hM hw1 hx
  go_wp2_with fail
  go_loopw [3, 4, 5] (fun vv pv iv wr => RowKit.Hid (wr = w1) ∧ ∃ (k v p : Nat), k + 1 ≤ sz ∧ iv = .int .i64 ((k : Int) + 1) ∧ vv = .int .u32 (v : Int) ∧ pv = .int .u32 (p : Int) ∧ RowKit.Hid (v = packF (fun k => (A (b + 1 + k)).isSome) k ∧ p = 2 ^ k)) (fun _ _ iv _ => sz - (RowKit.intOf iv).toNat)
  case atStart => exact ⟨by first | exact Lib.hid rfl | exact Lib.hid trivial, 0, 0, 1, hz1, rfl, rfl, rfl, Lib.hid ⟨rfl, rfl⟩⟩
  case round =>
    obtain ⟨hw, k, v, p, hk, rfl, rfl, rfl, HP⟩ := hrel
    obtain rfl := hw.out
    clear hw
    by_cases hlt : k + 1 < sz
    · have hltI : (k : Int) + 1 < (sz : Int) := by omega
      obtain ⟨gb, off, k9, hv, _, _, hg, hcell⟩ := (HA.out.still HT.out).addr (by rw [bR_len]; omega)
      rw [bR_len] at hv
      injection hv with e1 _ _
      subst e1
      have hx := hcell (k + 1) _ (bR_get hlt)
      have h31 : 2 ^ k ≤ 2 ^ 30 := Nat.pow_le_pow_right (by decide) (by omega)
      have hp : p ≤ 1073741824 := by have := HP.out.2; omega
      have hvp : v < p := by have h1 := HP.out.1; have h2 := HP.out.2; rw [h1, h2]; exact packF_lt _ _
      have e2 : ((p : Int) * 2) % 4294967296 = ((2 * p : Nat) : Int) := by omega
      have e3 : ((v : Int) + (p : Int)) % 4294967296 = ((v + p : Nat) : Int) := by omega
      have hgk : (A (b + (k + 1))).isSome = (A (b + 1 + k)).isSome := by rw [show b + (k + 1) = b + 1 + k by omega]
      rw [hgk] at hx
      clear hcell hgk h31
      cases hs : (A (b + 1 + k)).isSome with
      | true =>
        rw [hs] at hx
        have HS := Lib.hid hs
        clear hs
        go_wp2_with fail
        go_roundw
        case rel => exact ⟨by first | exact Lib.hid rfl | exact Lib.hid trivial, k + 1, v + p, 2 * p, by omega, by go_num, rfl, by go_num, Lib.hid ⟨by rw [packF_step, if_pos HS.out, ← HP.out.1, ← HP.out.2], by rw [HP.out.2, Nat.pow_succ]; omega⟩⟩
        case measure => simp [RowKit.intOf]; omega
      | false =>
        rw [hs] at hx
        have HS := Lib.hid hs
        clear hs
        go_wp2_with fail
        go_roundw
        case rel => exact ⟨by first | exact Lib.hid rfl | exact Lib.hid trivial, k + 1, v, 2 * p, by omega, by go_num, rfl, by go_num, Lib.hid ⟨by rw [packF_step, if_neg (by rw [HS.out]; decide), ← HP.out.1]; rfl, by rw [HP.out.2, Nat.pow_succ]; omega⟩⟩
        case measure => simp [RowKit.intOf]; omega
    · have hltI : ¬ (k : Int) + 1 < (sz : Int) := by omega
      have hE : v = ackM A b := by
        have h1 := HE.out
        have h2 := HP.out.1
        obtain rfl : k = sz - 1 := by omega
        rw [h2, h1]
      have HEE := Lib.hid hE
      clear hE
      go_wp2_with fail
      go_ret
      exact ⟨by rw [HEE.out]; rfl, HT.out⟩

set_option maxHeartbeats 1000000 in
theorem rrheld_calls (nx : Int) (b sz : Nat) (tv bv : Value) (A : Nat → Option ByteArray) (w : World) (ht : Reads w tv (tR A b sz)) (ha : Reads w bv (bR A b sz)) (hz2 : sz ≤ 32) (hA : ∀ j t, A j = some t → t.size ≤ 256) :
    Calls Try.prog 21 #[.agg #[.int .u32 nx, tv, bv]] w fun e w' => e = .returned (.int .i64 (heldM A b sz : Nat)) ∧ Touch (fun _ => False) w w' := by
  obtain ⟨a2, k2, rfl, hk1, hk2⟩ := ha.form
  obtain ⟨a1, k1, rfl, hj1, hj2⟩ := ht.form
  unfold maxLen at hk2 hj2
  rw [bR_len] at hk1 ha ⊢
  rw [tR_len] at hj1 ht ⊢
  have HA := Lib.hid ha
  have HTX := Lib.hid ht
  have HB := Lib.hid hA
  clear ha ht hA
  go_enter Try.func21, Try.ntmps21
  go_upto_region 1 with fail
  obtain ⟨x, hx⟩ : ∃ x, x = w.heap.size := ⟨_, rfl⟩
  rw [← hx]
  generalize hw1 : w.alloc _ = w1
  have hM : MBox w1 x nx (.slice a1 sz k1) (.slice a2 sz k2) := by rw [← hw1, hx]; exact Block.new w _ _
  have hT : Touch (fun _ => False) w w1 := by rw [← hw1]; exact (Touch.refl _ _).alloc _
  have HT := Lib.hid hT
  obtain ⟨c0, c1, c2⟩ := hM.cells
  clear hT hM hw1 hx
  go_wp2_with fail
  go_loopw [3, 4] (fun vv iv wr => RowKit.Hid (wr = w1) ∧ ∃ (k v : Nat), k ≤ sz ∧ iv = .int .i64 (k : Int) ∧ vv = .int .i64 (v : Int) ∧ RowKit.Hid (v = heldM A b k)) (fun _ iv _ => sz - (RowKit.intOf iv).toNat)
  case atStart => exact ⟨by first | exact Lib.hid rfl | exact Lib.hid trivial, 0, 0, Nat.zero_le _, rfl, rfl, Lib.hid rfl⟩
  case round =>
    obtain ⟨hw, k, v, hk, rfl, rfl, HP⟩ := hrel
    obtain rfl := hw.out
    clear hw
    by_cases hlt : k < sz
    · have hltI : (k : Int) < (sz : Int) := by omega
      obtain ⟨gb, off, k9, hv, _, _, hg, hcell⟩ := (HA.out.still HT.out).addr (by rw [bR_len]; omega)
      rw [bR_len] at hv
      injection hv with e1 _ _
      subst e1
      have hx := hcell k _ (bR_get hlt)
      clear hcell
      obtain ⟨gb2, off2, k92, hv2, _, _, hg2, hcell⟩ := (HTX.out.still HT.out).addr (by rw [tR_len]; omega)
      rw [tR_len] at hv2
      injection hv2 with e1 _ _
      subst e1
      have hy := hcell k _ (tR_get hlt)
      clear hcell
      have hvb : v ≤ 256 * k := by
        rw [HP.out]
        exact sumF_le (fun j _ => by
          cases hAj : A (b + j) with
          | none => exact Nat.zero_le _
          | some t => exact HB.out _ _ hAj)
      have hst : heldM A b (k + 1) = heldM A b k + sizeT (A (b + k)) := rfl
      cases hAk : A (b + k) with
      | some t =>
        rw [hAk] at hx hy hst
        have htz := HB.out _ _ hAk
        have HST := Lib.hid hst
        clear hst hAk
        replace hy : wr.cell? ⟨gb2, off2 + k, none⟩ = some (.string t) := hy
        replace hx : wr.cell? ⟨gb, off + k, none⟩ = some (.bool true) := hx
        go_wp2_with fail
        go_roundw
        case rel => exact ⟨by first | exact Lib.hid rfl | exact Lib.hid trivial, k + 1, v + t.size, by omega, by go_num, by go_num, Lib.hid (by rw [HST.out, ← HP.out]; rfl)⟩
        case measure => simp [RowKit.intOf]; omega
      | none =>
        rw [hAk] at hx hy hst
        have HST := Lib.hid hst
        clear hst hAk
        replace hx : wr.cell? ⟨gb, off + k, none⟩ = some (.bool false) := hx
        go_wp2_with fail
        go_roundw
        case rel => exact ⟨by first | exact Lib.hid rfl | exact Lib.hid trivial, k + 1, v, by omega, by go_num, rfl, Lib.hid (by rw [HST.out, ← HP.out]; rfl)⟩
        case measure => simp [RowKit.intOf]; omega
    · have hltI : ¬ (k : Int) < (sz : Int) := by omega
      obtain rfl : k = sz := by omega
      go_wp2_with fail
      go_ret
      exact ⟨by rw [HP.out]; rfl, HT.out⟩
end Go.Proofs.Ytimiiahhedpfaaa
