/- The reference of layer 24, first part: a row of bools; Number, Base, Sent. -/
import Derived.Test.YtjlpggffbmcmnaaSdA
namespace Go.Proofs.Ytjlpggffbmcmnaa
open Go Go.RowKit Go.Maps Go.MapKept Go.ChangeMaps
set_option maxRecDepth 100000

/-- n bools, told by a function. -/
def bV (n : Nat) (g : Nat → Bool) : List Value := (List.range n).map fun i => Value.bool (g i)
theorem bV_len (n : Nat) (g : Nat → Bool) : (bV n g).length = n := by simp [bV]
theorem bV_get {n : Nat} {g : Nat → Bool} {i : Nat} (h : i < n) : (bV n g)[i]? = some (.bool (g i)) := by simp [bV, h]
theorem bV_congr {n : Nat} {g g' : Nat → Bool} (h : ∀ i, i < n → g i = g' i) : bV n g = bV n g' := by
  unfold bV
  exact List.map_congr_left fun i hi => by rw [h i (by simpa using hi)]
theorem bV_set (n k : Nat) (g : Nat → Bool) (c : Bool) : (bV n g).set k (.bool c) = bV n (fun i => if i = k then c else g i) := by
  apply List.ext_getElem?
  intro i
  rw [List.getElem?_set, bV_len]
  by_cases hi : i < n
  · rw [bV_get hi, bV_get hi]
    by_cases e : k = i
    · subst e; rw [if_pos rfl, if_pos hi, if_pos rfl]
    · rw [if_neg e, if_neg (fun e' => e e'.symm)]
  · have e1 : (bV n fun i => if i = k then c else g i)[i]? = none := List.getElem?_eq_none (by rw [bV_len]; omega)
    have e2 : (bV n g)[i]? = none := List.getElem?_eq_none (by rw [bV_len]; omega)
    rw [e1, e2]
    split
    · rw [if_neg (by omega)]
    · rfl
theorem bV_one (n : Nat) (g : Nat → Bool) : ∀ u ∈ bV n g, u.oneCell' = true := by
  intro u hu
  simp [bV] at hu
  obtain ⟨_, _, rfl⟩ := hu
  rfl
theorem Try.infoBool : (Try.prog.info? 4).map (fun i => (i.zero, i.size, i.bytes)) = some (some (.bool false), 1, 1) := by kernel_rfl
theorem Try.sizeRw : (Try.prog.info? 44).map (·.size) = some 4 := by kernel_rfl

/-- The reference's window in its box. -/
def MAt (w : World) (x f sz : Nat) (sv av : Value) : Prop := Block w x 44 [.int .u32 f, .int .i64 sz, sv, av]
theorem MAt.kept {S : Nat → Prop} {w w' : World} {x f sz : Nat} {sv av : Value} (h : MAt w x f sz sv av) (ht : Touch S w w') (hn : ¬ S x) : MAt w' x f sz sv av := Block.kept h ht hn
theorem MAt.cells {w : World} {x f sz : Nat} {sv av : Value} (h : MAt w x f sz sv av) :
    w.cell? ⟨x, 0, none⟩ = some (.int .u32 f) ∧ w.cell? ⟨x, 1, none⟩ = some (.int .i64 sz) ∧ w.cell? ⟨x, 2, none⟩ = some sv ∧ w.cell? ⟨x, 3, none⟩ = some av :=
  ⟨Block.cell h 0, Block.cell h 1, Block.cell h 2, Block.cell h 3⟩

theorem rnumber_calls (f sz i : Nat) (a1 a2 : Option Addr) (n1 n2 k1 k2 : Nat) (_hf : f < 4294967296) (hi : i < 1000000) (w : World) :
    Calls Try.prog 34 #[.agg #[.int .u32 (f : Nat), .int .i64 (sz : Nat), .slice a1 n1 k1, .slice a2 n2 k2], .int .i64 (i : Nat)] w fun e w' => e = .returned (.int .u32 (numU f i : Nat)) ∧ Touch (fun _ => False) w w' := by
  have e1 : ((f : Int) + (i : Int)) % 4294967296 = ((numU f i : Nat) : Int) := by unfold numU; omega
  go_enter Try.func34, Try.ntmps34
  go_wp2_with fail
  go_ret
  exact ⟨rfl, (Touch.refl _ w).alloc _⟩

set_option maxHeartbeats 1000000 in
theorem rbase_calls (f sz cnt b : Nat) (a1 : Option Addr) (n1 k1 : Nat) (av : Value) (g : Nat → Bool) (w : World) (ha : Reads w av (bV cnt g)) (hc : cnt ≤ 64) (hb : b ≤ cnt) (h1 : ∀ i, i < b → g i = true) (h2 : b < cnt → g b = false) :
    Calls Try.prog 22 #[.agg #[.int .u32 (f : Nat), .int .i64 (sz : Nat), .slice a1 n1 k1, av]] w fun e w' => e = .returned (.int .i64 (b : Nat)) ∧ Touch (fun _ => False) w w' := by
  obtain ⟨a2, k2, rfl, hk1, hk2⟩ := ha.form
  unfold maxLen at hk2
  rw [bV_len] at hk1 ha ⊢
  have HA := Lib.hid ha
  have H1 := Lib.hid h1
  have H2 := Lib.hid h2
  clear ha h1 h2
  go_enter Try.func22, Try.ntmps22
  go_upto_region 1 with fail
  obtain ⟨x, hx⟩ : ∃ x, x = w.heap.size := ⟨_, rfl⟩
  rw [← hx]
  generalize hw1 : w.alloc _ = w1
  have hM : MAt w1 x f sz (.slice a1 n1 k1) (.slice a2 cnt k2) := by rw [← hw1, hx]; exact Block.new w _ _
  have hT : Touch (fun _ => False) w w1 := by rw [← hw1]; exact (Touch.refl _ _).alloc _
  have HT := Lib.hid hT
  obtain ⟨c0, c1, c2, c3⟩ := hM.cells
  clear hT hM hw1 hx
  go_wp2_with fail
  go_loopw [3] (fun iv wr => wr = w1 ∧ ∃ i : Nat, i ≤ b ∧ iv = .int .i64 (i : Nat)) (fun iv _ => b - (intOf iv).toNat)
  case atStart => exact ⟨rfl, 0, Nat.zero_le _, rfl⟩
  case round =>
    obtain ⟨rfl, i, hi, rfl⟩ := hrel
    by_cases hlt : i < cnt
    · have hltI : (i : Int) < (cnt : Int) := by omega
      obtain ⟨gb, off, k, hv, _, _, hg, hcell⟩ := (HA.out.still HT.out).addr (by rw [bV_len]; omega)
      rw [bV_len] at hv
      injection hv with e1 _ _
      subst e1
      have hx := hcell i _ (bV_get hlt)
      clear hcell
      by_cases hib : i < b
      · rw [H1.out i hib] at hx
        go_wp2_with fail
        go_roundw
        case rel => exact ⟨trivial, i + 1, by omega, by go_num⟩
        case measure => simp [intOf]; omega
      · obtain rfl : i = b := by omega
        rw [H2.out hlt] at hx
        go_wp2_with fail
        go_ret
        exact ⟨rfl, HT.out⟩
    · have hltI : ¬ (i : Int) < (cnt : Int) := by omega
      obtain rfl : i = cnt := by omega
      obtain rfl : b = i := by omega
      go_wp2_with fail
      go_ret
      exact ⟨rfl, HT.out⟩

set_option maxHeartbeats 1000000 in
theorem rsent_calls (f sz cnt s : Nat) (a2 : Option Addr) (n2 k2 : Nat) (sv : Value) (g : Nat → Bool) (w : World) (ha : Reads w sv (bV cnt g)) (hc : cnt ≤ 64) (hb : s ≤ cnt) (h1 : ∀ i, i < s → g i = true) (h2 : s < cnt → g s = false) :
    Calls Try.prog 35 #[.agg #[.int .u32 (f : Nat), .int .i64 (sz : Nat), sv, .slice a2 n2 k2]] w fun e w' => e = .returned (.int .i64 (s : Nat)) ∧ Touch (fun _ => False) w w' := by
  obtain ⟨a1, k1, rfl, hk1, hk2⟩ := ha.form
  unfold maxLen at hk2
  rw [bV_len] at hk1 ha ⊢
  have HA := Lib.hid ha
  have H1 := Lib.hid h1
  have H2 := Lib.hid h2
  clear ha h1 h2
  go_enter Try.func35, Try.ntmps35
  go_upto_region 1 with fail
  obtain ⟨x, hx⟩ : ∃ x, x = w.heap.size := ⟨_, rfl⟩
  rw [← hx]
  generalize hw1 : w.alloc _ = w1
  have hM : MAt w1 x f sz (.slice a1 cnt k1) (.slice a2 n2 k2) := by rw [← hw1, hx]; exact Block.new w _ _
  have hT : Touch (fun _ => False) w w1 := by rw [← hw1]; exact (Touch.refl _ _).alloc _
  have HT := Lib.hid hT
  obtain ⟨c0, c1, c2, c3⟩ := hM.cells
  clear hT hM hw1 hx
  go_wp2_with fail
  go_loopw [3] (fun iv wr => wr = w1 ∧ ∃ i : Nat, i ≤ s ∧ iv = .int .i64 (i : Nat)) (fun iv _ => s - (intOf iv).toNat)
  case atStart => exact ⟨rfl, 0, Nat.zero_le _, rfl⟩
  case round =>
    obtain ⟨rfl, i, hi, rfl⟩ := hrel
    by_cases hlt : i < cnt
    · have hltI : (i : Int) < (cnt : Int) := by omega
      obtain ⟨gb, off, k, hv, _, _, hg, hcell⟩ := (HA.out.still HT.out).addr (by rw [bV_len]; omega)
      rw [bV_len] at hv
      injection hv with e1 _ _
      subst e1
      have hx := hcell i _ (bV_get hlt)
      clear hcell
      by_cases hib : i < s
      · rw [H1.out i hib] at hx
        go_wp2_with fail
        go_roundw
        case rel => exact ⟨trivial, i + 1, by omega, by go_num⟩
        case measure => simp [intOf]; omega
      · obtain rfl : i = s := by omega
        rw [H2.out hlt] at hx
        go_wp2_with fail
        go_ret
        exact ⟨rfl, HT.out⟩
    · have hltI : ¬ (i : Int) < (cnt : Int) := by omega
      obtain rfl : i = cnt := by omega
      obtain rfl : s = i := by omega
      go_wp2_with fail
      go_ret
      exact ⟨rfl, HT.out⟩
end Go.Proofs.Ytjlpggffbmcmnaa
