/- The statement SendPlays over the translated program. -/
import Derived.Test.YtjlpggffbmcmnaaSdF
import Derived.Test.YtjlpggffbmcmnaaSdN
import Derived.Test.YtjlpggffbmcmnaaSdV
import Derived.Test.YtjlpggffbmcmnaaSdOpen
import Derived.Test.YtjlpggffbmcmnaaRegInv4
import Derived.Deep.OwnRows
import Derived.Deep.Cut
import Derived.Deep.CutBlock
namespace Go.Proofs.Ytjlpggffbmcmnaa
open Go Go.RowKit Go.Maps Go.MapKept Go.ChangeMaps
set_option maxRecDepth 100000

theorem p_mask (k : Nat) (hk : k ≤ 62) (m : Int) (hm : m = 2 ^ k - 1) (n : Int) : bits .and .i64 n m = n % 2 ^ k := by
  have h62 : 2 ^ k ≤ 2 ^ 62 := Nat.pow_le_pow_right (by decide) hk
  have hpos : 0 < 2 ^ k := Nat.pow_pos (by decide)
  have hm' : m = ((2 ^ k - 1 : Nat) : Int) := by
    rw [hm]
    have : ((2 : Int) ^ k) = ((2 ^ k : Nat) : Int) := by norm_cast
    rw [this]; omega
  have hkk : (BitVec.ofInt 64 m).toNat = 2 ^ k - 1 := by rw [hm', BitVec.toNat_ofInt]; omega
  have key : (BitVec.ofInt 64 n &&& BitVec.ofInt 64 m).toNat = (n % ((2 ^ 64 : Nat) : Int)).toNat % 2 ^ k := by
    rw [BitVec.toNat_and, BitVec.toNat_ofInt, hkk, Nat.and_two_pow_sub_one_eq_mod]
  show IntKind.i64.wrap ((BitVec.ofInt 64 n &&& BitVec.ofInt 64 m).toNat : Nat) = n % 2 ^ k
  have hd : ((2 ^ k : Nat) : Int) ∣ ((2 ^ 64 : Nat) : Int) := Int.natCast_dvd_natCast.2 (Nat.pow_dvd_pow 2 (by omega))
  have hlt : (n % ((2 ^ 64 : Nat) : Int)).toNat % 2 ^ k < 2 ^ k := Nat.mod_lt _ hpos
  have e : (((n % ((2 ^ 64 : Nat) : Int)).toNat % 2 ^ k : Nat) : Int) = n % ((2 ^ k : Nat) : Int) := by
    rw [Int.natCast_emod, Int.toNat_of_nonneg (Int.emod_nonneg _ (by decide)), Int.emod_emod_of_dvd _ hd]
  rw [key, IntWalk.i64_in _ (by omega), e]
  norm_cast

theorem fold5 (z : Int) : ∃ (r : Int) (c : Nat), z.tmod 5 = r ∧ -5 < r ∧ r < 5 ∧ (r + 5).tmod 5 = c ∧ (r + 5) % 5 = c ∧ c < 5 := by
  have h1 := Int.tmod_lt_of_pos z (show (0 : Int) < 5 by decide)
  have h2 := Int.lt_tmod_of_pos z (show (0 : Int) < 5 by decide)
  refine ⟨z.tmod 5, ((z.tmod 5 + 5) % 5).toNat, rfl, h2, h1, ?_, by omega, by omega⟩
  rw [Int.tmod_eq_emod_of_nonneg (by omega)]; omega
/-- The places that are open, ahead of the place k. -/
def opP (b s : Nat) (A : Nat → Bool) (k : Nat) : List Nat := (List.range k).filter fun i => decide (i < s) && !(decide (i < b) || A i)
theorem opP_succ (b s : Nat) (A : Nat → Bool) (k : Nat) : opP b s A (k + 1) = opP b s A k ++ (if (decide (k < s) && !(decide (k < b) || A k)) = true then [k] else []) := by
  unfold opP
  rw [List.range_succ, List.filter_append]
  by_cases h : (decide (k < s) && !(decide (k < b) || A k)) = true
  · rw [if_pos h, List.filter_cons_of_pos (p := fun i => decide (i < s) && !(decide (i < b) || A i)) (a := k) (l := []) h]; rfl
  · rw [if_neg h, List.filter_cons_of_neg (p := fun i => decide (i < s) && !(decide (i < b) || A i)) (a := k) (l := []) h]; rfl
theorem opP_le (b s : Nat) (A : Nat → Bool) (k : Nat) : (opP b s A k).length ≤ k := by
  unfold opP
  exact Nat.le_trans (List.length_filter_le _ _) (by simp)
/-- They are those that the window tells. -/
theorem opP_open (f b s cnt : Nat) (A : Nat → Bool) (hbs : b ≤ s) (hsc : s ≤ cnt) : (opP b s A cnt).map (numU f) = openK f b A (s - b) := by
  have h1 : ∀ k, k ≤ b → opP b s A k = [] := by
    intro k hk
    induction k with
    | zero => rfl
    | succ k ih => rw [opP_succ, ih (by omega), if_neg (by rw [decide_eq_true (show k < b by omega)]; simp)]; rfl
  have h2 : ∀ k, b + k ≤ s → (opP b s A (b + k)).map (numU f) = openK f b A k := by
    intro k hk
    induction k with
    | zero => rw [Nat.add_zero, h1 b (Nat.le_refl _)]; rfl
    | succ k ih =>
      rw [show b + (k + 1) = b + k + 1 by omega, opP_succ, List.map_append, ih (by omega), openK_succ, decide_eq_true (show b + k < s by omega), decide_eq_false (show ¬ b + k < b by omega), Bool.true_and, Bool.false_or]
      congr 1
      by_cases h : A (b + k) = true
      · rw [if_pos h, h]; rfl
      · rw [if_neg h, if_pos (by simpa using h)]; rfl
  have h3 : ∀ k, opP b s A (s + k) = opP b s A s := by
    intro k
    induction k with
    | zero => rfl
    | succ k ih => rw [show s + (k + 1) = s + k + 1 by omega, opP_succ, ih, if_neg (by rw [decide_eq_false (show ¬ s + k < s by omega)]; simp), List.append_nil]
  have h4 := h2 (s - b) (by omega)
  rw [show b + (s - b) = s by omega] at h4
  rw [← h4, show cnt = s + (cnt - s) by omega, h3]
/-- The reference's window in its box, and its rows, apart from some blocks. -/
structure RefAt (w : World) (x f sz cnt b s : Nat) (A : Nat → Bool) (a1 : Option Addr) (k1 : Nat) (a2 : Option Addr) (k2 : Nat) (S : Nat → Prop) : Prop where
  box : MAt w x f sz (.slice a1 cnt k1) (.slice a2 cnt k2)
  snt : Reads w (.slice a1 cnt k1) (bV cnt fun i => decide (i < s))
  ack : Reads w (.slice a2 cnt k2) (bV cnt fun i => decide (i < b) || A i)
  h1 : ∀ g, (Value.slice a1 cnt k1).ownBlock = some g → ¬ S g
  h2 : ∀ g, (Value.slice a2 cnt k2).ownBlock = some g → ¬ S g
theorem RefAt.kept {T : Nat → Prop} {w w' : World} {x f sz cnt b s : Nat} {A : Nat → Bool} {a1 : Option Addr} {k1 : Nat} {a2 : Option Addr} {k2 : Nat} {S : Nat → Prop} (h : RefAt w x f sz cnt b s A a1 k1 a2 k2 S) (ht : Touch T w w') (hx : ¬ T x) (hS : ∀ g, T g → S g) : RefAt w' x f sz cnt b s A a1 k1 a2 k2 S :=
  ⟨h.box.kept ht hx, h.snt.kept ht (fun g hg e => h.h1 g hg (hS g e)), h.ack.kept ht (fun g hg e => h.h2 g hg (hS g e)), h.h1, h.h2⟩
theorem RefAt.still {w w' : World} {x f sz cnt b s : Nat} {A : Nat → Bool} {a1 : Option Addr} {k1 : Nat} {a2 : Option Addr} {k2 : Nat} {S : Nat → Prop} (h : RefAt w x f sz cnt b s A a1 k1 a2 k2 S) (ht : Touch (fun _ => False) w w') : RefAt w' x f sz cnt b s A a1 k1 a2 k2 S := h.kept ht id (fun _ e => e.elim)

theorem made_bools (n : Nat) : (madeCells #[Value.bool false] n).toList = bV n (fun _ => false) := by
  rw [toList_madeCells_one]
  simp only [bV]
  rw [List.map_const', List.length_range]
theorem made_row {W : World} {g n : Nat} (hn : n ≤ 64) (h : W.heap[g]? = some (.cells (madeCells #[.bool false] n) 4 (0, 0))) : Row W 4 (.slice (some ⟨g, 0, none⟩) n n) (bV n fun _ => false) := by
  have hs : (madeCells #[Value.bool false] n).size = n := by rw [← Array.length_toList, made_bools, bV_len]
  have e : (bV n fun _ => false).length = n := bV_len _ _
  refine .inr ⟨g, 0, n, _, by rw [e], h, by rw [e]; exact Nat.le_refl _, by unfold maxLen; omega, by rw [hs]; omega, ?_⟩
  rw [List.drop_zero, made_bools, e]
  exact List.take_of_length_le (Nat.le_of_eq e)
theorem ref_made {W : World} {xb g1 g2 f sz cnt n : Nat} (hn : cnt ≤ 64) (hx : W.heap[xb]? = some (.cells #[.int .u32 (f : Nat), .int .i64 (sz : Nat), .slice (some ⟨g1, 0, none⟩) cnt cnt, .slice (some ⟨g2, 0, none⟩) cnt cnt] 44 (0, 0)))
    (h1 : W.heap[g1]? = some (.cells (madeCells #[.bool false] cnt) 4 (0, 0))) (h2 : W.heap[g2]? = some (.cells (madeCells #[.bool false] cnt) 4 (0, 0))) (n1 : n ≤ g1 ∧ g1 ≠ xb) (n2 : n ≤ g2 ∧ g2 ≠ xb) :
    RefAt W xb f sz cnt 0 0 (fun _ => false) (some ⟨g1, 0, none⟩) cnt (some ⟨g2, 0, none⟩) cnt (fun g => g < n ∨ g = xb) := by
  refine ⟨hx, ?_, ?_, fun g hg e => ?_, fun g hg e => ?_⟩
  · have := (made_row hn h1).reads
    rw [bV_congr (g' := fun i => decide (i < 0)) (fun i _ => by simp)] at this
    exact this
  · have := (made_row hn h2).reads
    rw [bV_congr (g' := fun i => decide (i < 0) || false) (fun i _ => by simp)] at this
    exact this
  · injection hg with hg; simp at hg; omega
  · injection hg with hg; simp at hg; omega
theorem alloc3 (w : World) (a b c : Obj) : (((w.alloc a).alloc b).alloc c).drew.heap[w.heap.size]? = some a ∧ (((w.alloc a).alloc b).alloc c).drew.heap[w.heap.size + 1]? = some b ∧ (((w.alloc a).alloc b).alloc c).drew.heap[w.heap.size + 1 + 1]? = some c := by
  have s1 : (w.alloc a).heap.size = w.heap.size + 1 := alloc_size w a
  have s2 : ((w.alloc a).alloc b).heap.size = w.heap.size + 1 + 1 := by rw [alloc_size, s1]
  have h0 : (w.alloc a).heap[w.heap.size]? = some a := heap_alloc_new w a
  have h1 : ((w.alloc a).alloc b).heap[w.heap.size + 1]? = some b := by rw [← s1]; exact heap_alloc_new _ b
  have h2 : (((w.alloc a).alloc b).alloc c).heap[w.heap.size + 1 + 1]? = some c := by rw [← s2]; exact heap_alloc_new _ c
  refine ⟨?_, ?_, h2⟩
  · show (((w.alloc a).alloc b).alloc c).heap[w.heap.size]? = _
    rw [Below.heap_alloc _ _ _ (by omega), Below.heap_alloc _ _ _ (by omega)]; exact h0
  · show (((w.alloc a).alloc b).alloc c).heap[w.heap.size + 1]? = _
    rw [Below.heap_alloc _ _ _ (by omega)]; exact h1
theorem touch3 (w : World) (a b c : Obj) : Touch (fun _ => False) w (((w.alloc a).alloc b).alloc c).drew := ((((Touch.refl _ w).alloc _).alloc _).alloc _).drew

/-- What each operation of the last test leaves. -/
def plI (p f sz b s cnt : Nat) (A : Nat → Bool) (a1 : Option Addr) (k1 : Nat) (a2 : Option Addr) (k2 : Nat) (ov : Value) (i : Nat) (v : Value) (W : World) : Prop := match i with
  | 0 => v = .pointer (some ⟨p, 0, none⟩)
  | 1 => Row W 35 v (u32V (openK f b A (s - b)))
  | 2 => v = .agg #[.int .u32 (f : Nat), .int .i64 (sz : Nat), .slice a1 cnt k1, .slice a2 cnt k2]
  | 3 => v = ov
  | 4 => v = .bool true
  | 5 => v = .bool false
  | 6 => v = .bool false
  | 7 => v = .pointer (some ⟨p, 0, none⟩)
  | 8 => v = .int .u32 (numU f b : Nat)
  | 9 => v = .int .u32 (f : Nat)
  | 10 => v = .int .i64 (b : Nat)
  | 11 => v = .int .u32 (b : Nat)
  | 12 => v = .int .u32 (numU f b : Nat)
  | 13 => v = .bool false
  | 14 => v = .bool false
  | 15 => v = .bool false
  | 16 => v = .pointer (some ⟨p, 0, none⟩)
  | 17 => v = .bool ((b : Int) == (cnt : Int))
  | 18 => v = .int .i64 (b : Nat)
  | 19 => v = .int .i64 (cnt : Nat)
  | 20 => v = .bool ((b : Int) == (cnt : Int))
  | 21 => v = .bool false
  | 22 => v = .bool false
  | _ => True
theorem plI_kept {p f sz b s cnt : Nat} {A : Nat → Bool} {a1 : Option Addr} {k1 : Nat} {a2 : Option Addr} {k2 : Nat} {ov : Value} {W W' : World} (hT : Touch (fun _ => False) W W') (j : Nat) (u : Value) (h : plI p f sz b s cnt A a1 k1 a2 k2 ov j u W) : plI p f sz b s cnt A a1 k1 a2 k2 ov j u W' := by
  exact match j, h with
  | 0, h => h
  | 1, h => Row.kept h hT (fun _ _ => id)
  | 2, h => h
  | 3, h => h
  | 4, h => h
  | 5, h => h
  | 6, h => h
  | 7, h => h
  | 8, h => h
  | 9, h => h
  | 10, h => h
  | 11, h => h
  | 12, h => h
  | 13, h => h
  | 14, h => h
  | 15, h => h
  | 16, h => h
  | 17, h => h
  | 18, h => h
  | 19, h => h
  | 20, h => h
  | 21, h => h
  | 22, h => h
  | _ + 23, _ => trivial

set_option maxHeartbeats 4000000 in
theorem splays_calls (f : Nat) (x0 x1 : Int) (l : List ZAct) (v : Value) (w : World) (hf : f < 4294967296) (hl : ZActs w v l) :
    Calls Try.prog 6 #[.int .u32 (f : Nat), .agg #[.int .i64 x0, .int .i64 x1], v] w fun e w' => e = .returned (.bool true) ∧ Touch (fun _ => False) w w' := by
  obtain ⟨al, cap, hv, hc1, hc2⟩ := hl.form
  unfold maxLen at hc2
  have HL := Lib.hid hl
  clear hl
  subst hv
  obtain ⟨cnt, hcnt⟩ : ∃ r : Nat, x0 % 64 = (r : Int) := ⟨(x0 % 64).toNat, by omega⟩
  obtain ⟨z, hz⟩ : ∃ r : Nat, x1 % 32 = (r : Int) := ⟨(x1 % 32).toNat, by omega⟩
  have hand1 : bits .and .i64 x0 63 = (cnt : Int) := by rw [p_mask 6 (by omega) 63 (by decide) x0, ← hcnt]; rfl
  have hand2 : bits .and .i64 x1 31 = (z : Int) := by rw [p_mask 5 (by omega) 31 (by decide) x1, ← hz]; rfl
  have hcl : cnt ≤ 63 := by omega
  have hzl : z ≤ 31 := by omega
  obtain ⟨sz, hsz⟩ : ∃ sz, sz = z + 1 := ⟨_, rfl⟩
  clear hcnt hz
  go_enter Try.func6, Try.ntmps6
  go_wp2_with fail
  refine (speaks24_calls _).mono ?_
  rintro e w1 ⟨rfl, hT1⟩
  have hlt1 : w.heap.size < w1.heap.size := by have := hT1.size; rw [alloc_size] at this; omega
  have b0 : w1.cell? ⟨w.heap.size, 0, none⟩ = some (.int .i64 x0) := hT1.cell (by simp) id
  have b1 : w1.cell? ⟨w.heap.size, 1, none⟩ = some (.int .i64 x1) := hT1.cell (by simp) id
  have HT1 := Lib.hid (((Touch.refl (fun _ => False) w).alloc _).trans hT1)
  clear hT1
  go_upto_region 3 with fail
  go_quiet (fail)
  go_upto_region 4 with fail
  have hs1 : (z : Int) + 1 = (sz : Int) := by omega
  have hs2 : (1 : Int) + (z : Int) = (sz : Int) := by omega
  first | simp only [hs2] | simp only [hs1]
  have hsz1 : 1 ≤ sz := by omega
  have hsz2 : sz ≤ 32 := by omega
  have hT2 : Touch (fun _ => False) w (w1.drewN nq) := HT1.out.drewN nq
  generalize w1.drewN nq = w2 at *
  have HT2 := Lib.hid hT2
  clear hs1 hs2 hT2 hand1 hand2 hzl hsz b0 b1 hlt1 HT1
  go_wp2_with fail
  refine (wnew_calls f cnt sz hf (by omega) hsz1 hsz2 w2).mono ?_
  rintro e w3 ⟨p, mb, rfl, h3, hpm, hT3⟩
  have H3 := Lib.hid h3
  have HPM : Hid (w.heap.size ≤ p ∧ w.heap.size ≤ mb ∧ p < w3.heap.size ∧ mb < w3.heap.size ∧ p ≠ mb) := Lib.hid ⟨Nat.le_trans HT2.out.size hpm.1, Nat.le_trans HT2.out.size hpm.2, h3.lt.1, h3.lt.2, h3.ne⟩
  have HT3 := Lib.hid (HT2.out.trans hT3)
  clear h3 hpm hT3
  go_upto_region 7 with fail
  have hmk : ∀ W, (Instr.makeSlice 42 (.int .i64 (cnt : Int)) (.int .i64 (cnt : Int))).run Try.prog W = .ok (.slice (some ⟨W.heap.size, 0, none⟩) cnt cnt) (W.alloc (.cells (madeCells #[.bool false] cnt) 4)) :=
    fun W => run_make_row' _ _ _ 1 Try.underlying42 Try.infoBool rfl .i64 .i64 cnt (by omega) (by omega) W
  go_cut [11] from 40 to 46 (fun v11 wc => ∃ xb a1 a2, v11 = .pointer (some ⟨xb, 0, none⟩) ∧ RefAt wc xb f sz cnt 0 0 (fun _ => false) a1 cnt a2 cnt (fun g => g < w3.heap.size ∨ g = xb) ∧ w3.heap.size ≤ xb ∧ Touch (fun _ => False) w3 wc)
  case first =>
    go_region
    all_goals
      go_wp2_with fail
    all_goals
      go_meet
      obtain ⟨q0, q1, q2⟩ := alloc3 w3 _ _ _
      exact ⟨_, _, _, rfl, ref_made (by omega) (by first | exact q0 | exact q1 | exact q2) (by first | exact q0 | exact q1 | exact q2) (by first | exact q0 | exact q1 | exact q2) (by omega) (by omega), by omega, touch3 w3 _ _ _⟩
  case rest =>
    obtain ⟨xb, a1, a2, rfl, href, hxb, hTc⟩ := hcut
    have HPX : Hid (w.heap.size ≤ p ∧ w.heap.size ≤ mb ∧ w.heap.size ≤ xb ∧ p ≠ mb ∧ p ≠ xb ∧ mb ≠ xb) := Lib.hid ⟨HPM.out.1, HPM.out.2.1, by have := HT3.out.size; omega, HPM.out.2.2.2.2, by have := HPM.out; omega, by have := HPM.out; omega⟩
    have HW4 := Lib.hid (H3.out.still hTc)
    have HR4 : Hid (RefAt wc xb f sz cnt 0 0 (fun _ => false) a1 cnt a2 cnt (fun g => g = p ∨ g = mb ∨ g = xb)) := Lib.hid ⟨href.box, href.snt, href.ack, fun g hg e => href.h1 g hg (by have := HPM.out; omega), fun g hg e => href.h2 g hg (by have := HPM.out; omega)⟩
    have HT4 := Lib.hid (HT3.out.trans hTc)
    clear href hTc hxb hmk H3 HT3 HT2
    go_wp2_with fail
    go_loopw [12] (fun iv wr => ∃ (k n b s : Nat) (A : Nat → Bool) (a1 : Option Addr) (k1 : Nat) (a2 : Option Addr) (k2 : Nat), iv = .int .i64 (k : Nat) ∧ k ≤ l.length ∧ k ≤ 60 ∧ n ≤ 32 * k ∧ RowKit.Hid (WinAt wr p mb n f cnt sz b s A) ∧ RowKit.Hid (RefAt wr xb f sz cnt b s A a1 k1 a2 k2 (fun g => g = p ∨ g = mb ∨ g = xb)) ∧ RowKit.Hid (Touch (fun j => w.heap.size ≤ j) w wr)) (fun iv _ => 60 - (intOf iv).toNat)
    case atStart => exact ⟨0, 0, 0, 0, fun _ => false, a1, cnt, a2, cnt, rfl, Nat.zero_le _, Nat.zero_le _, Nat.le_refl _, HW4, HR4, Lib.hid (HT4.out.mono (fun _ e => e.elim))⟩
    case round =>
      clear HW4 HR4 HT4
      obtain ⟨k, n, b, s, A, a1, k1, a2, k2, rfl, hk, hk60, hn, HW, HR, HT⟩ := hrel
      by_cases hlt : k < l.length ∧ k < 60
      · obtain ⟨hlt, hlt2⟩ := hlt
        have hltI : (k : Int) < (l.length : Int) := by omega
        have hltI2 : (k : Int) < 60 := by omega
        obtain ⟨g, off, cap', hve, hgl, hok, x0', x1', x2', x3', x4'⟩ := (HL.out.still (touch_new HT.out)).at' hlt
        injection hve with e1 _ e3
        subst e1
        subst e3
        generalize hzk : l[k] = zk at *
        obtain ⟨what, near, raw, upto, bits'⟩ := zk
        simp only at x0' x1' x2' x3' x4'
        obtain ⟨hok1, hok2, hok3, hok4⟩ := hok
        simp only at hok1 hok2 hok3 hok4
        clear hzk
        obtain ⟨yb, hyb⟩ : ∃ y, y = wr.heap.size := ⟨_, rfl⟩
        obtain ⟨r, hr⟩ : ∃ r : Nat, near % 16 = (r : Int) := ⟨(near % 16).toNat, by omega⟩
        have hand : bits .and .i64 near 15 = (r : Int) := by rw [p_mask 4 (by omega) 15 (by decide) near, ← hr]; rfl
        have hr16 : r < 16 := by omega
        clear hr
        have hbc : b ≤ cnt := Nat.le_trans HW.out.bs HW.out.sc
        go_upto_region 12 with fail
        rw [← hyb]
        generalize hw5 : wr.alloc _ = w5
        have hY : Block w5 yb 46 [.int .i64 what, .int .i64 near, .bool raw, .int .u32 (upto : Nat), .int .u32 (bits' : Nat)] := by rw [← hw5, hyb]; exact Block.new wr _ _
        have hT5 : Touch (fun _ => False) wr w5 := by rw [← hw5]; exact (Touch.refl _ _).alloc _
        have hyw : w.heap.size ≤ yb := by rw [hyb]; exact HT.out.size
        have HY := Lib.hid hY
        have HW5 := Lib.hid (HW.out.still hT5)
        have HR5 := Lib.hid (HR.out.still hT5)
        have HT5 := Lib.hid (HT.out.trans (hT5.mono (fun _ e => e.elim)))
        have HYN : Hid (yb ≠ p ∧ yb ≠ mb ∧ yb ≠ xb) := Lib.hid ⟨by have := HW.out.lt; omega, by have := HW.out.lt; omega, by have := Block.lt HR.out.box; omega⟩
        clear hw5 hY hT5 hyb x0' x1' x2' x3' x4' hgl HW HR HT
        have hAb : A b = false := by
          cases e : A b
          · rfl
          · have := HW5.out.hA _ e; omega
        have HB := Lib.hid (fun W (hT : Touch (fun _ => False) w5 W) => rbase_calls f sz cnt b a1 cnt k1 _ _ W (HR5.out.ack.still hT) (by omega) hbc (fun i h => by rw [decide_eq_true h]; rfl) (fun _ => by rw [decide_eq_false (Nat.lt_irrefl b), hAb]; rfl))
        refine wp_region_quiet_touch (fun _ => False) (by kernel_rfl) (by kernel_rfl) ?_
        obtain ⟨m0, m1, m2, m3⟩ := HR5.out.box.cells
        have j0 : ∀ T : Wd (fun _ => False) w5, T.V.cell? ⟨xb, 0, none⟩ = some (.int .u32 (f : Nat)) := fun T => T.ok.cell m0 id
        have j1 : ∀ T : Wd (fun _ => False) w5, T.V.cell? ⟨xb, 1, none⟩ = some (.int .i64 (sz : Nat)) := fun T => T.ok.cell m1 id
        have j2 : ∀ T : Wd (fun _ => False) w5, T.V.cell? ⟨xb, 2, none⟩ = some (.slice a1 cnt k1) := fun T => T.ok.cell m2 id
        have j3 : ∀ T : Wd (fun _ => False) w5, T.V.cell? ⟨xb, 3, none⟩ = some (.slice a2 cnt k2) := fun T => T.ok.cell m3 id
        have j4 : ∀ T : Wd (fun _ => False) w5, T.V.cell? ⟨yb, 1, none⟩ = some (.int .i64 near) := fun T => T.ok.cell (Block.cell HY.out 1) id
        clear m0 m1 m2 m3 hAb
        repeat (go_big_quiet_step ((go_at_call 22; exact quiet_touch (HB.out _ (Wd.ok _)))))
        refine wpQuiet_nil ?_
        intro _ hw6
        obtain ⟨T, hw6e⟩ := hw6
        subst hw6e
        clear j0 j1 j2 j3 j4
        obtain ⟨w6, hw6⟩ : ∃ w6, w6 = T.V := ⟨_, rfl⟩
        rw [← hw6]
        have hT6 : Touch (fun _ => False) w5 w6 := by rw [hw6]; exact T.ok
        clear hw6 T
        have HW6 := Lib.hid (HW5.out.still hT6)
        have HR6 := Lib.hid (HR5.out.still hT6)
        have HY6 := Lib.hid (Block.kept HY.out hT6 id)
        have HT6 := Lib.hid (HT5.out.trans (hT6.mono (fun _ e => e.elim)))
        clear hT6 HW5 HR5 HY HT5 HB
        have y0 : w6.cell? ⟨yb, 0, none⟩ = some (.int .i64 what) := Block.cell HY6.out 0
        have y2 : w6.cell? ⟨yb, 2, none⟩ = some (.bool raw) := Block.cell HY6.out 2
        have y3 : w6.cell? ⟨yb, 3, none⟩ = some (.int .u32 (upto : Nat)) := Block.cell HY6.out 3
        have y4 : w6.cell? ⟨yb, 4, none⟩ = some (.int .u32 (bits' : Nat)) := Block.cell HY6.out 4
        clear hok1 hok2
        go_upto_if 72 with fail
        go_cut [14] from 47 to 162 (fun v14 wx => ∃ U : Nat, U < 4294967296 ∧ v14 = .int .u32 (U : Nat) ∧ wx = w6)
        case first =>
          cases raw
          · go_wp2_with fail
            go_meet
            refine ⟨_, ?_, congrArg (Value.int .u32) (Int.toNat_of_nonneg ?_).symm, rfl⟩ <;> omega
          · go_wp2_with fail
            go_meet
            exact ⟨upto, hok3, rfl, rfl⟩
        case rest =>
          obtain ⟨U, hU, rfl, rfl⟩ := hcut
          obtain ⟨r5, c, hrm, hr1, hr2, hrc, hrc2, hc5⟩ := fold5 what
          go_upto_block 2 with fail
          clear hand y2 y3 hok3 hrm
          go_cut [] from 47 to 162 (fun wx => ∃ (n' b' s' : Nat) (A' : Nat → Bool) (a1' : Option Addr) (k1' : Nat) (a2' : Option Addr) (k2' : Nat), n' ≤ 32 * (k + 1) ∧ WinAt wx p mb n' f cnt sz b' s' A' ∧ RefAt wx xb f sz cnt b' s' A' a1' k1' a2' k2' (fun g => g = p ∨ g = mb ∨ g = xb) ∧ Touch (fun j => w.heap.size ≤ j) w wx)
          case first =>
            obtain ⟨m0, m1, m2, m3⟩ := HR6.out.box.cells
            have hbs := HW6.out.bs
            have hsc := HW6.out.sc
            have hss := HW6.out.ss
            have hb1 : ∀ i, i < b → (decide (i < b) || A i) = true := fun i h => by rw [decide_eq_true h]; rfl
            have hAb : A b = false := by
              cases e : A b
              · rfl
              · have := HW6.out.hA _ e; omega
            have hb2 : b < cnt → (decide (b < b) || A b) = false := fun _ => by rw [decide_eq_false (Nat.lt_irrefl b), hAb]; rfl
            have HBA := Lib.hid (⟨hb1, hb2⟩ : _ ∧ _)
            have hltc := HW6.out.lt
            have hltx : xb < wc.heap.size := Block.lt HR6.out.box
            have HLT := Lib.hid (⟨hltc.1, hltc.2, hltx⟩ : p < wc.heap.size ∧ mb < wc.heap.size ∧ xb < wc.heap.size)
            clear hAb hb1 hb2 hltc hltx
            rcases (show c = 0 ∨ c = 4 ∨ (c ≠ 0 ∧ c ≠ 4) by omega) with hc0 | hc4 | hcn
            · subst hc0
              go_wp2_with fail
              refine (rfresh_calls f sz cnt b s (.slice a1 cnt k1) (.slice a2 cnt k2) _ wc HR6.out.snt HR6.out.ack (by omega) hbc HBA.out.1 HBA.out.2 hbs hsc hss hsz2).mono ?_
              rintro e wa ⟨a3, k3, rr, rfl, hrow, hnew, hrowr, hnewr, hTa⟩
              obtain ⟨qb, hqb⟩ : ∃ q, q = wa.heap.size := ⟨_, rfl⟩
              go_upto_region 22 with fail
              rw [← hqb]
              generalize hwb : wa.alloc _ = wb
              have hQ : MAt wb qb f sz (.slice a3 cnt k3) (.slice a2 cnt k2) := by rw [← hwb, hqb]; exact Block.new wa _ _
              have hTb : Touch (fun _ => False) wc wb := by rw [← hwb]; exact hTa.alloc _
              have hTab : Touch (fun _ => False) wa wb := by rw [← hwb]; exact (Touch.refl _ _).alloc _
              have hqn : wc.heap.size ≤ qb := by rw [hqb]; exact hTa.size
              have HQ := Lib.hid hQ
              have HQN := Lib.hid hqn
              have HWb := Lib.hid (HW6.out.still hTb)
              have HRb := Lib.hid (HR6.out.still hTb)
              have HTb := Lib.hid (HT6.out.trans (hTb.mono (fun _ e => e.elim)))
              have HROW := Lib.hid (⟨hrow.kept hTab (fun _ _ => id), hnew⟩ : _ ∧ _)
              have HRR := Lib.hid (⟨hrowr.kept hTab (fun _ _ => id), hnewr⟩ : _ ∧ _)
              obtain ⟨m0, m1, m2, m3⟩ := HRb.out.box.cells
              clear hwb hQ hTb hTab hqn hqb hrow hnew hrowr hnewr hTa
              have HMX := Lib.hid (⟨m0, m1, m2, m3⟩ : _ ∧ _ ∧ _ ∧ _)
              have HPL : Hid ((List.range (min (b + sz) cnt - s)).map (fun i => numU f (s + i)) = ((List.range (min (b + sz) cnt - s)).map (fun i => s + i)).map (numU f)) := Lib.hid (by rw [List.map_map]; rfl)
              go_cut [108] from 47 to 162 (fun v108 wx => v108 = .bool false ∧ WinAt wx p mb n f cnt sz b (min (b + sz) cnt) A ∧ Touch (fun j => j = p) wb wx)
              case first =>
                go_region_law (first
                  | (go_simp; go_at_call 25; refine (wfresh_calls (HWb.out.still (Touch.refl (fun _ => False) wb).drew)).mono ?_; rintro e wd ⟨rv, rfl, hr1, hr2, hwin, hTd⟩; have m0' := hTd.cell (p := ⟨xb, 0, none⟩) HMX.out.1 (fun e => HPX.out.2.2.2.2.1 e.symm); have m1' := hTd.cell (p := ⟨xb, 1, none⟩) HMX.out.2.1 (fun e => HPX.out.2.2.2.2.1 e.symm); have m2' := hTd.cell (p := ⟨xb, 2, none⟩) HMX.out.2.2.1 (fun e => HPX.out.2.2.2.2.1 e.symm); have m3' := hTd.cell (p := ⟨xb, 3, none⟩) HMX.out.2.2.2 (fun e => HPX.out.2.2.2.2.1 e.symm); have HWD := Lib.hid hwin; have HTD := Lib.hid ((Touch.refl (fun j => j = p) wb).drew.trans hTd); have HRV := Lib.hid hr1; clear hwin hTd hr1 hr2)
                  | (go_simp; go_at_call 24; refine (numbers_calls f sz cnt k1 k2 a1 a2 _ _ ((List.range (min (b + sz) cnt - s)).map (fun i => s + i)) _ hf (by have h := HRV.out.reads; unfold numsL at h; rw [HPL.out] at h; exact h) (by have h := (HRR.out.1.kept HTD.out (fun g hg e => by have := HRR.out.2 g hg; have := HLT.out; omega)).reads; rw [pV_plV] at h; exact h) (fun x hx => by simp at hx; omega) (by simp; omega)).mono ?_; rintro e we ⟨rfl, hTe⟩; have HTE := Lib.hid hTe; clear hTe))
                all_goals
                  go_wp2_with fail
                  go_meet
                  exact ⟨rfl, HWD.out.still HTE.out, HTD.out.trans (HTE.out.mono (fun _ e => e.elim))⟩
              case rest =>
                obtain ⟨rfl, hwin, hTx⟩ := hcut
                have hQx := HQ.out.kept hTx (by have := HQN.out; have := HLT.out; omega)
                have hRx := HRb.out.kept hTx (fun e => HPX.out.2.2.2.2.1 e.symm) (fun g e => Or.inl e)
                obtain ⟨n0, n1, n2, n3⟩ := hQx.cells
                have hMx := hRx.box
                obtain ⟨m0, m1, m2, m3⟩ := hMx.cells
                have f0 := Block.free hMx 0
                have f1 := Block.free hMx 1
                have f2 := Block.free hMx 2
                have f3 := Block.free hMx 3
                have HM4 := Lib.hid (m_set4 (f' := f) (sz' := sz) (sv' := .slice a3 cnt k3) (av' := .slice a2 cnt k2) hMx)
                have hT4 := m_touch4 (w := wc) xb (.int .u32 (f : Nat)) (.int .i64 (sz : Nat)) (.slice a3 cnt k3) (.slice a2 cnt k2)
                have HT4 := Lib.hid hT4
                have HWX := Lib.hid (hwin.kept hT4 HPX.out.2.2.2.2.1 HPX.out.2.2.2.2.2)
                have HROX := Lib.hid (HROW.out.1.kept hTx (fun g hg e => by have := HROW.out.2 g hg; have := HLT.out; omega))
                have HRX := Lib.hid hRx
                have HTX := Lib.hid (HTb.out.trans (hTx.mono (fun j e => by have := HPX.out; omega)))
                clear hQx hRx hMx hT4 hwin hTx
                go_wp2_with fail
                go_meet
                refine ⟨n, b, min (b + sz) cnt, A, a3, k3, a2, k2, by omega, HWX.out, ⟨HM4.out, (HROX.out.kept HT4.out (fun g hg e => by have := HROW.out.2 g hg; have := HLT.out; omega)).reads, HRX.out.ack.kept HT4.out (fun g hg e => HRX.out.h2 g hg (Or.inr (Or.inr e))), fun g hg e => by have := HROW.out.2 g hg; have := HLT.out; omega, HRX.out.h2⟩, HTX.out.trans (HT4.out.mono (fun j e => by have := HPX.out; omega))⟩
            · subst hc4
              go_wp2_with fail
              refine (wforget_calls HW6.out).mono ?_
              rintro e wa ⟨rfl, hwin, hTa⟩
              have hnx : ¬ WnS p mb xb := fun e => by
                have := HPX.out
                rcases e with e | e <;> omega
              have hRa := HR6.out.kept hTa hnx (fun g e => by
                rcases e with e | e
                · exact Or.inl e
                · exact Or.inr (Or.inl e))
              obtain ⟨m0, m1, m2, m3⟩ := hRa.box.cells
              have HRa := Lib.hid hRa
              have HWa := Lib.hid hwin
              have HTa := Lib.hid (HT6.out.trans (hTa.mono (fun j e => by have := HPX.out; rcases e with e | e <;> omega)))
              clear hRa hwin hTa hnx
              go_wp2_with fail
              refine (rforget_calls f sz cnt b a1 cnt k1 (.slice a2 cnt k2) _ wa HRa.out.ack (by omega) hbc HBA.out.1 HBA.out.2).mono ?_
              rintro e we ⟨a3, k3, rfl, hrow, hnew, hTe⟩
              have hRe := HRa.out.still hTe
              have hMx := hRe.box
              obtain ⟨m0, m1, m2, m3⟩ := hMx.cells
              have f0 := Block.free hMx 0
              have f1 := Block.free hMx 1
              have f2 := Block.free hMx 2
              have f3 := Block.free hMx 3
              have HM4 := Lib.hid (m_set4 (f' := f) (sz' := sz) (sv' := .slice a1 cnt k1) (av' := .slice a3 cnt k3) hMx)
              have hT4 := m_touch4 (w := we) xb (.int .u32 (f : Nat)) (.int .i64 (sz : Nat)) (.slice a1 cnt k1) (.slice a3 cnt k3)
              have HT4 := Lib.hid hT4
              have HWX := Lib.hid ((HWa.out.still hTe).kept hT4 HPX.out.2.2.2.2.1 HPX.out.2.2.2.2.2)
              have hlta : p < wa.heap.size ∧ mb < wa.heap.size ∧ xb < wa.heap.size := ⟨HWa.out.lt.1, HWa.out.lt.2, Block.lt HRa.out.box⟩
              have HROW := Lib.hid (⟨hrow, hnew, hlta⟩ : _ ∧ _ ∧ _)
              have HRE := Lib.hid hRe
              have HTE := Lib.hid (HTa.out.trans (hTe.mono (fun j e => e.elim)))
              clear hRe hMx hT4 hrow hnew hTe hlta
              go_wp2_with fail
              go_meet
              refine ⟨n, b, s, fun _ => false, a1, k1, a3, k3, by omega, HWX.out, ⟨HM4.out, HRE.out.snt.kept HT4.out (fun g hg e => HRE.out.h1 g hg (Or.inr (Or.inr e))), ?_, HRE.out.h1, fun g hg e => by have := HROW.out.2.1 g hg; have := HROW.out.2.2; omega⟩, HTE.out.trans (HT4.out.mono (fun j e => by have := HPX.out; omega))⟩
              have h := (HROW.out.1.kept HT4.out (fun g hg e => by have := HROW.out.2.1 g hg; have := HROW.out.2.2; omega)).reads
              rw [bV_congr (g' := fun i => decide (i < b) || false) (fun i _ => by simp)] at h
              exact h
            · have hn0 : ((c : Int) == 0) = false := by simp; omega
              have hn4 : ((c : Int) == 4) = false := by simp; omega
              have hi0 : (c : Int) ≠ 0 := by omega
              have hi4 : (c : Int) ≠ 4 := by omega
              obtain ⟨d, hd, hUd⟩ := numU_at f b U hU
              by_cases hds : d ≤ s - b
              · have hrack := rack_near f sz cnt b s (.slice a1 cnt k1) (.slice a2 cnt k2) A wc HR6.out.snt HR6.out.ack hf (by omega) hbc hbs hsc (by omega) HW6.out.hA d bits' hds hok4
                have HWAK := Lib.hid (fun W hT => wack_calls (HW6.out.still (w' := W) hT) d hds bits' hok4 (by omega))
                rw [← hUd] at hrack HWAK
                generalize (decide (0 < d) || ackN A (b + d) s bits' 32) = nw at *
                have HRK := Lib.hid hrack
                clear hrack hUd hds
                go_wp2_with fail
                refine HRK.out.mono ?_
                rintro e wa ⟨a3, k3, rfl, hrow, hnew, hTa⟩
                obtain ⟨qb, hqb⟩ : ∃ q, q = wa.heap.size := ⟨_, rfl⟩
                go_upto_region 17 with fail
                rw [← hqb]
                generalize hwb : wa.alloc _ = wb
                have hQ : MAt wb qb f sz (.slice a1 cnt k1) (.slice a3 cnt k3) := by rw [← hwb, hqb]; exact Block.new wa _ _
                have hTb : Touch (fun _ => False) wc wb := by rw [← hwb]; exact hTa.alloc _
                have hTab : Touch (fun _ => False) wa wb := by rw [← hwb]; exact (Touch.refl _ _).alloc _
                have hqn : wc.heap.size ≤ qb := by rw [hqb]; exact hTa.size
                have HQ := Lib.hid hQ
                have HQN := Lib.hid hqn
                have HRb := Lib.hid (HR6.out.still hTb)
                have HTb := Lib.hid hTb
                have HROW := Lib.hid (⟨hrow.kept hTab (fun _ _ => id), hnew⟩ : _ ∧ _)
                have y4 := hTb.cell y4 id
                clear hwb hQ hTb hTab hqn hqb hrow hnew hTa m0 m1 m2 m3
                go_wp2_with fail
                refine (HWAK.out _ HTb.out).mono ?_
                rintro e we ⟨rfl, hwin, hTe⟩
                have hnx : ¬ WnS p mb xb := fun e => by
                  have := HPX.out
                  rcases e with e | e <;> omega
                have hnq : ¬ WnS p mb qb := fun e => by
                  have := HLT.out
                  have := HQN.out
                  rcases e with e | e <;> omega
                have hRe := HRb.out.kept hTe hnx (fun g e => by
                  rcases e with e | e
                  · exact Or.inl e
                  · exact Or.inr (Or.inl e))
                obtain ⟨n0, n1, n2, n3⟩ := (HQ.out.kept hTe hnq).cells
                have hMx := hRe.box
                obtain ⟨m0, m1, m2, m3⟩ := hMx.cells
                have f0 := Block.free hMx 0
                have f1 := Block.free hMx 1
                have f2 := Block.free hMx 2
                have f3 := Block.free hMx 3
                have HM4 := Lib.hid (m_set4 (f' := f) (sz' := sz) (sv' := .slice a1 cnt k1) (av' := .slice a3 cnt k3) hMx)
                have hT4 := m_touch4 (w := we) xb (.int .u32 (f : Nat)) (.int .i64 (sz : Nat)) (.slice a1 cnt k1) (.slice a3 cnt k3)
                have HT4 := Lib.hid hT4
                have HWX := Lib.hid (hwin.kept hT4 HPX.out.2.2.2.2.1 HPX.out.2.2.2.2.2)
                have HROX := Lib.hid (HROW.out.1.kept hTe (fun g hg e => by have := HROW.out.2 g hg; have := HLT.out; rcases e with e | e <;> omega))
                have HRE := Lib.hid hRe
                have HTE := Lib.hid ((HT6.out.trans (HTb.out.mono (fun j e => e.elim))).trans (hTe.mono (fun j e => by have := HPX.out; rcases e with e | e <;> omega)))
                clear hRe hMx hT4 hwin hTe hnx hnq
                go_wp2_with fail
                go_meet
                refine ⟨n + 32, b + d, s, ackA A (b + d) s bits' 32, a1, k1, a3, k3, by omega, HWX.out, ⟨HM4.out, HRE.out.snt.kept HT4.out (fun g hg e => HRE.out.h1 g hg (Or.inr (Or.inr e))), (HROX.out.kept HT4.out (fun g hg e => by have := HROW.out.2 g hg; have := HLT.out; omega)).reads, HRE.out.h1, fun g hg e => by have := HROW.out.2 g hg; have := HLT.out; omega⟩, HTE.out.trans (HT4.out.mono (fun j e => by have := HPX.out; omega))⟩
              · have hrack := rack_far f sz cnt b s (.slice a1 cnt k1) (.slice a2 cnt k2) A wc HR6.out.snt HR6.out.ack hf (by omega) hbc hbs hsc (by omega) HW6.out.hA d bits' (by omega) hd
                have HWAK := Lib.hid (fun W hT => wack_far (HW6.out.still (w' := W) hT) d hd (by omega) (bits' : Int))
                rw [← hUd] at hrack HWAK
                have HRK := Lib.hid hrack
                clear hrack hUd hds
                go_wp2_with fail
                refine HRK.out.mono ?_
                rintro e wa ⟨rfl, hTa⟩
                obtain ⟨qb, hqb⟩ : ∃ q, q = wa.heap.size := ⟨_, rfl⟩
                go_upto_region 17 with fail
                rw [← hqb]
                generalize hwb : wa.alloc _ = wb
                have hQ : MAt wb qb f sz (.slice a1 cnt k1) (.slice a2 cnt k2) := by rw [← hwb, hqb]; exact Block.new wa _ _
                have hTb : Touch (fun _ => False) wc wb := by rw [← hwb]; exact hTa.alloc _
                have HQ := Lib.hid hQ
                have HTb := Lib.hid hTb
                have y4 := hTb.cell y4 id
                clear hwb hQ hTb hqb hTa m0 m1 m2 m3
                go_wp2_with fail
                refine (HWAK.out _ HTb.out).mono ?_
                rintro e we ⟨rfl, hTe⟩
                have hTbe := HTb.out.trans hTe
                have hRe := HR6.out.still hTbe
                obtain ⟨n0, n1, n2, n3⟩ := (HQ.out.kept hTe id).cells
                have hMx := hRe.box
                obtain ⟨m0, m1, m2, m3⟩ := hMx.cells
                have f0 := Block.free hMx 0
                have f1 := Block.free hMx 1
                have f2 := Block.free hMx 2
                have f3 := Block.free hMx 3
                have HM4 := Lib.hid (m_set4 (f' := f) (sz' := sz) (sv' := .slice a1 cnt k1) (av' := .slice a2 cnt k2) hMx)
                have hT4 := m_touch4 (w := we) xb (.int .u32 (f : Nat)) (.int .i64 (sz : Nat)) (.slice a1 cnt k1) (.slice a2 cnt k2)
                have HT4 := Lib.hid hT4
                have HWX := Lib.hid ((HW6.out.still hTbe).kept hT4 HPX.out.2.2.2.2.1 HPX.out.2.2.2.2.2)
                have HRE := Lib.hid hRe
                have HTE := Lib.hid (HT6.out.trans (hTbe.mono (fun j e => e.elim)))
                clear hRe hMx hT4 hTe hTbe
                go_wp2_with fail
                go_meet
                refine ⟨n, b, s, A, a1, k1, a2, k2, by omega, HWX.out, ⟨HM4.out, HRE.out.snt.kept HT4.out (fun g hg e => HRE.out.h1 g hg (Or.inr (Or.inr e))), HRE.out.ack.kept HT4.out (fun g hg e => HRE.out.h2 g hg (Or.inr (Or.inr e))), HRE.out.h1, HRE.out.h2⟩, HTE.out.trans (HT4.out.mono (fun j e => by have := HPX.out; omega))⟩
          case rest =>
            obtain ⟨n', b', s', A', a1', k1', a2', k2', hn', hW', hR', hT'⟩ := hcut
            have HW7 := Lib.hid hW'
            have HR7 := Lib.hid hR'
            have HT7 := Lib.hid hT'
            clear hW' hR' hT' HW6 HR6 HT6 y0 y4 HY6 hrc hrc2 hr1 hr2 hn
            have hbc' : b' ≤ cnt := Nat.le_trans HW7.out.bs HW7.out.sc
            have hbs' := HW7.out.bs
            have hsc' := HW7.out.sc
            have hss' := HW7.out.ss
            obtain ⟨j0, hj, hy0, hy1, hy2⟩ := info_parts Try.infoInt
            go_wp2_with fail
            go_loopw [19, 20] (fun rv iv wy => ∃ i : Nat, i ≤ cnt ∧ iv = .int .i64 (i : Nat) ∧ RowKit.Hid (Row wy 3 rv (plV (opP b' s' A' i))) ∧ RowKit.Hid (NewB wc rv) ∧ RowKit.Hid (Touch (fun _ => False) wc wy)) (fun _ iv _ => cnt - (intOf iv).toNat)
            case atStart => exact ⟨0, Nat.zero_le _, rfl, Lib.hid (Row.nil _ _), Lib.hid (NewB.nil wc), Lib.hid (Touch.refl _ _)⟩
            case round =>
              obtain ⟨i, hi, rfl, HO, HN, HTi⟩ := hrel
              have hRi := HR7.out.still HTi.out
              obtain ⟨m0, m1, m2, m3⟩ := hRi.box.cells
              by_cases hic : i < cnt
              · have hicI : (i : Int) < (cnt : Int) := by omega
                obtain ⟨g1, o1, kk1, hv, _, _, _, hcell1⟩ := hRi.snt.addr (by rw [bV_len]; omega)
                rw [bV_len] at hv
                injection hv with e1 _ _
                subst e1
                obtain ⟨g2, o2, kk2, hv, _, _, _, hcell2⟩ := hRi.ack.addr (by rw [bV_len]; omega)
                rw [bV_len] at hv
                injection hv with e2 _ _
                subst e2
                have x1 := hcell1 i _ (bV_get hic)
                have x2 := hcell2 i _ (bV_get hic)
                have HOS := Lib.hid (opP_succ b' s' A' i)
                have HOL := Lib.hid (opP_le b' s' A' i)
                clear hcell1 hcell2 hRi
                by_cases hin : (decide (i < s') && !(decide (i < b') || A' i)) = true
                · have hi1 : decide (i < s') = true := by rw [Bool.and_eq_true] at hin; exact hin.1
                  have hi2 : (decide (i < b') || A' i) = false := by
                    rw [Bool.and_eq_true] at hin
                    cases e : (decide (i < b') || A' i)
                    · rfl
                    · have h := hin.2
                      rw [e] at h
                      exact absurd h (by decide)
                  rw [hi1] at x1
                  rw [hi2] at x2
                  have HOS' := HOS.out
                  rw [if_pos hin] at HOS'
                  have HOT := Lib.hid HOS'
                  clear HOS' hin hi1 hi2
                  obtain ⟨ar, kr, hu, hu1, hu2⟩ := HO.out.form
                  rw [plV_len] at hu hu1
                  obtain ⟨ln, hln⟩ : ∃ x, x = (opP b' s' A' i).length := ⟨_, rfl⟩
                  have hln64 : ln ≤ 64 := by have := HOL.out; omega
                  rw [← hln] at hu hu1
                  have HLN := Lib.hid hln
                  clear hln
                  subst hu
                  go_upto_region 33 with fail
                  go_wp2_with (at_builtin; refine wpList_append_row _ rfl (.tmp 134) (.tmp 136) 22 22 rfl 3 j0 _ 8 Try.underlying22 hj hy0 hy1 hy2 rfl (.slice ar ln kr) (plV (opP b' s' A' i)) rfl (by exact HO.out.kept (S := fun _ => False) ((Touch.refl _ _).alloc _) (fun _ _ => id)) (.slice (some ⟨wr.heap.size, 0, none⟩) 1 1) rfl 1 [.int .i64 (i : Int)] (by exact Src.ofCell Try.underlying22 (heap_alloc_new wr _) rfl) (by rw [plV_len, ← HLN.out]; unfold maxLen; omega) (by rw [plV_len, ← HLN.out]; omega) ?_; intro v4 w4 hrow4 hgrow4 hown4)
                  go_roundw
                  case rel =>
                    refine ⟨i + 1, by omega, by go_num, Lib.hid ?_, Lib.hid ?_, Lib.hid ?_⟩
                    · rw [HOT.out, plV_snoc]; exact hrow4
                    · exact HN.out.grown (wr := wr.alloc (.cells #[.int .i64 (i : Nat)] 3)) hown4 (by have := HTi.out.size; rw [alloc_size]; omega)
                    · exact (HTi.out.alloc _).grown hgrow4 (fun g hg => Or.inr (HN.out g hg))
                  case measure => simp [intOf]; omega
                · have HOS' := HOS.out
                  rw [if_neg hin, List.append_nil] at HOS'
                  have HOT := Lib.hid HOS'
                  have hin' : (decide (i < s') && !(decide (i < b') || A' i)) = false := by simpa using hin
                  clear HOS' hin
                  cases hi1 : decide (i < s') with
                  | false =>
                    rw [hi1] at x1
                    clear hi1 hin'
                    go_wp2_with fail
                    go_roundw
                    case rel => exact ⟨i + 1, by omega, by go_num, Lib.hid (by rw [HOT.out]; exact HO.out), HN, HTi⟩
                    case measure => simp [intOf]; omega
                  | true =>
                    have hi2 : (decide (i < b') || A' i) = true := by
                      rw [hi1, Bool.true_and] at hin'
                      cases e : (decide (i < b') || A' i)
                      · rw [e] at hin'
                        exact absurd hin' (by decide)
                      · rfl
                    rw [hi1] at x1
                    rw [hi2] at x2
                    clear hi1 hi2 hin'
                    go_wp2_with fail
                    go_roundw
                    case rel => exact ⟨i + 1, by omega, by go_num, Lib.hid (by rw [HOT.out]; exact HO.out), HN, HTi⟩
                    case measure => simp [intOf]; omega
              · have hic' : i = cnt := by omega
                have hicI : ¬ (i : Int) < (cnt : Int) := by omega
                have HO' := HO.out
                rw [hic'] at HO'
                have HOR := Lib.hid HO'.reads
                have HWz := Lib.hid (HW7.out.still HTi.out)
                have HRz := Lib.hid hRi
                have hAb : A' b' = false := by
                  cases e : A' b'
                  · rfl
                  · have := HW7.out.hA _ e; omega
                have HB := Lib.hid (fun W (hT : Touch (fun _ => False) wr W) => rbase_calls f sz cnt b' a1' cnt k1' _ _ W (HRz.out.ack.still hT) (by omega) hbc' (fun i h => by rw [decide_eq_true h]; rfl) (fun _ => by rw [decide_eq_false (Nat.lt_irrefl b'), hAb]; rfl))
                clear hAb HO' hRi
                go_wp2_with fail
                refine (HB.out _ (Touch.refl _ _)).mono ?_
                rintro e wz ⟨rfl, hTz⟩
                have HWy := Lib.hid (HWz.out.still hTz)
                have HRy := Lib.hid (HRz.out.still hTz)
                have HOy := Lib.hid (HOR.out.still hTz)
                have HTy := Lib.hid (HT7.out.trans ((HTi.out.trans hTz).mono (fun _ e => e.elim)))
                clear hTz HB m0 m1 m2 m3
                obtain ⟨m0, m1, m2, m3⟩ := HRy.out.box.cells
                have HMX := Lib.hid (⟨m0, m1, m2, m3⟩ : _ ∧ _ ∧ _ ∧ _)
                have hnum : ((f : Int) + (b' : Int)) % 4294967296 = ((numU f b' : Nat) : Int) := by unfold numU; omega
                have hnum2 : IntKind.u32.wrap ((f : Int) + IntKind.u32.wrap (b' : Int)) = ((numU f b' : Nat) : Int) := by
                  rw [IntKind.wrap_u32, IntKind.wrap_u32]; unfold numU; omega
                have hnum3 : ((f : Int) + (b' : Int) % 4294967296) % 4294967296 = ((numU f b' : Nat) : Int) := by unfold numU; omega
                have hdn : decide (b' = cnt) = ((b' : Int) == (cnt : Int)) := by
                  by_cases h : b' = cnt
                  · rw [decide_eq_true h, h]; simp
                  · rw [decide_eq_false h]; symm; simp; omega
                have HDN := Lib.hid hdn
                clear hdn
                have HOP := Lib.hid (opP_open f b' s' cnt A' hbs' hsc')
                have HOPL := Lib.hid (opP_le b' s' A' cnt)
                go_upto_region 35 with fail
                generalize hu19 : u19 = u19x at *
                refine wp_region_inv4 (fun _ W => Touch (fun _ => False) wz W) (plI p f sz b' s' cnt A' a1' k1' a2' k2' u19x) (by kernel_rfl) (by kernel_rfl) (by kernel_rfl) ((Touch.refl _ _).drew) ?_ ?_
                · intro i o hi ls a W hun hcl hdl hC hbase hdone
                  have hlt := op_lt hi
                  obtain ⟨hbd, hbs, hbb⟩ := hbase
                  have b9 : a.tmps[9]?.getD undef = .pointer (some ⟨p, 0, none⟩) := by rw [(hbb 9 (noDst_spec (by kernel_rfl)))]; rfl
                  have b11 : a.tmps[11]?.getD undef = .pointer (some ⟨xb, 0, none⟩) := by rw [(hbb 11 (noDst_spec (by kernel_rfl)))]; rfl
                  have b19 : a.tmps[19]?.getD undef = u19x := by rw [(hbb 19 (noDst_spec (by kernel_rfl)))]; rfl
                  have b0 : a.tmps[0]?.getD undef = .int .u32 (f : Nat) := by rw [(hbb 0 (noDst_spec (by kernel_rfl)))]; rfl
                  have b21 : a.tmps[21]?.getD undef = .int .i64 (b' : Nat) := by rw [(hbb 21 (noDst_spec (by kernel_rfl)))]; rfl
                  have b7 : a.tmps[7]?.getD undef = .int .i64 (cnt : Nat) := by rw [(hbb 7 (noDst_spec (by kernel_rfl)))]; rfl
                  rcases (by simp at hlt; omega : i = 0 ∨ i = 1 ∨ i = 2 ∨ i = 3 ∨ i = 4 ∨ i = 5 ∨ i = 6 ∨ i = 7 ∨ i = 8 ∨ i = 9 ∨ i = 10 ∨ i = 11 ∨ i = 12 ∨ i = 13 ∨ i = 14 ∨ i = 15 ∨ i = 16 ∨ i = 17 ∨ i = 18 ∨ i = 19 ∨ i = 20 ∨ i = 21 ∨ i = 22) with rfl | rfl | rfl | rfl | rfl | rfl | rfl | rfl | rfl | rfl | rfl | rfl | rfl | rfl | rfl | rfl | rfl | rfl | rfl | rfl | rfl | rfl | rfl
                  · simp only [List.getElem?_toArray, List.getElem?_cons_zero, Option.some.injEq] at hi
                    subst hi
                    refine ⟨rfl, ?_⟩
                    refine r4_val (v := .pointer (some ⟨p, 0, none⟩)) ?_ ⟨_, rfl, rfl, hC, fun _ _ h => h⟩
                    simp [execOp, Act.eval, b9]
                  · simp only [List.getElem?_toArray, List.getElem?_cons_zero, List.getElem?_cons_succ, Option.some.injEq] at hi
                    subst hi
                    have t140 : a.tmps[140]?.getD undef = .pointer (some ⟨p, 0, none⟩) := by simpa [valOf, plI] using hdone 0 _ rfl (r4_edge 0 (by kernel_rfl) hdl)
                    refine ⟨rfl, ?_⟩
                    refine r4_call (R := fun r W' => Row W' 35 r (u32V (openK f b' A' (s' - b'))) ∧ Touch (fun _ => False) W W') (f := 30) (args := #[.pointer (some ⟨p, 0, none⟩)]) ?_ ((wopen_calls (HWy.out.still hC)).mono fun e W' h => by obtain ⟨r, he, h1, _, h2⟩ := h; exact ⟨r, he, (⟨h1, h2⟩ : Row W' 35 r (u32V (openK f b' A' (s' - b'))) ∧ Touch (fun _ => False) W W')⟩) (fun v W' hw => ⟨_, rfl, hw.1, hC.trans hw.2, fun j u h => plI_kept hw.2 j u h⟩)
                    simp [execOp, resolve, invoke, Act.eval, t140]
                    try rfl
                  · simp only [List.getElem?_toArray, List.getElem?_cons_zero, List.getElem?_cons_succ, Option.some.injEq] at hi
                    subst hi
                    refine ⟨rfl, ?_⟩
                    obtain ⟨m0, m1, m2, m3⟩ := (HRy.out.still hC).box.cells
                    refine r4_val (v := .agg #[.int .u32 (f : Nat), .int .i64 (sz : Nat), .slice a1' cnt k1', .slice a2' cnt k2']) ?_ ⟨_, rfl, rfl, hC, fun _ _ h => h⟩
                    simp [execOp, Act.eval, b11]
                    try go_simp
                  · simp only [List.getElem?_toArray, List.getElem?_cons_zero, List.getElem?_cons_succ, Option.some.injEq] at hi
                    subst hi
                    refine ⟨rfl, ?_⟩
                    refine r4_val (v := u19x) ?_ ⟨_, rfl, rfl, hC, fun _ _ h => h⟩
                    simp [execOp, Act.eval, b19]
                  · simp only [List.getElem?_toArray, List.getElem?_cons_zero, List.getElem?_cons_succ, Option.some.injEq] at hi
                    subst hi
                    have hro : Row W 35 (a.tmps[141]?.getD undef) (u32V (openK f b' A' (s' - b'))) := by simpa [valOf, plI] using hdone 1 _ rfl (r4_edge 1 (by kernel_rfl) hdl)
                    have t142 : a.tmps[142]?.getD undef = .agg #[.int .u32 (f : Nat), .int .i64 (sz : Nat), .slice a1' cnt k1', .slice a2' cnt k2'] := by simpa [valOf, plI] using hdone 2 _ rfl (r4_edge 2 (by kernel_rfl) hdl)
                    have t143 : a.tmps[143]?.getD undef = u19x := by simpa [valOf, plI] using hdone 3 _ rfl (r4_edge 3 (by kernel_rfl) hdl)
                    refine ⟨rfl, ?_⟩
                    refine r4_call (R := fun r W' => r = .bool true ∧ Touch (fun _ => False) W W') (f := 24) (args := #[a.tmps[141]?.getD undef, .agg #[.int .u32 (f : Nat), .int .i64 (sz : Nat), .slice a1' cnt k1', .slice a2' cnt k2'], u19x]) ?_ ((numbers_calls f sz cnt k1' k2' a1' a2' _ _ (opP b' s' A' cnt) W hf (by rw [HOP.out]; exact hro.reads) (HOy.out.still hC) (fun x hx => by unfold opP at hx; simp at hx; omega) (by have := HOPL.out; omega)).mono fun e W' h => ⟨_, h.1, (⟨rfl, h.2⟩ : (_ : Value) = .bool true ∧ Touch (fun _ => False) W W')⟩) (fun v W' hw => ⟨_, rfl, hw.1, hC.trans hw.2, fun j u h => plI_kept hw.2 j u h⟩)
                    simp [execOp, resolve, invoke, Act.eval, t142, t143]
                    try rfl
                  · simp only [List.getElem?_toArray, List.getElem?_cons_zero, List.getElem?_cons_succ, Option.some.injEq] at hi
                    subst hi
                    have t144 : a.tmps[144]?.getD undef = .bool true := by simpa [valOf, plI] using hdone 4 _ rfl (r4_edge 4 (by kernel_rfl) hdl)
                    refine ⟨rfl, ?_⟩
                    refine r4_val (v := .bool false) ?_ ⟨_, rfl, rfl, hC, fun _ _ h => h⟩
                    simp [execOp, Act.eval, t144]
                    try go_simp
                  · simp only [List.getElem?_toArray, List.getElem?_cons_zero, List.getElem?_cons_succ, Option.some.injEq] at hi
                    subst hi
                    have t145 : a.tmps[145]?.getD undef = .bool false := by simpa [valOf, plI] using hdone 5 _ rfl (r4_edge 5 (by kernel_rfl) hdl)
                    refine ⟨rfl, ?_⟩
                    refine r4_val (v := .bool false) ?_ ⟨_, rfl, rfl, hC, fun _ _ h => h⟩
                    simp [execOp, Act.eval, t145]
                    try go_simp
                  · simp only [List.getElem?_toArray, List.getElem?_cons_zero, List.getElem?_cons_succ, Option.some.injEq] at hi
                    subst hi
                    have t146 : a.tmps[146]?.getD undef = .bool false := by simpa [valOf, plI] using hdone 6 _ rfl (r4_edge 6 (by kernel_rfl) hdl)
                    refine ⟨by simp [Region.wanted, yielded, r4_bool t146], ?_⟩
                    refine r4_val (v := .pointer (some ⟨p, 0, none⟩)) ?_ ⟨_, rfl, rfl, hC, fun _ _ h => h⟩
                    simp [execOp, Act.eval, b9]
                  · simp only [List.getElem?_toArray, List.getElem?_cons_zero, List.getElem?_cons_succ, Option.some.injEq] at hi
                    subst hi
                    have t147 : a.tmps[147]?.getD undef = .pointer (some ⟨p, 0, none⟩) := by simpa [valOf, plI] using hdone 7 _ rfl (r4_edge 7 (by kernel_rfl) hdl)
                    have t146 : a.tmps[146]?.getD undef = .bool false := by simpa [valOf, plI] using hdone 6 _ rfl (r4_edge 6 (by kernel_rfl) hdl)
                    refine ⟨by simp [Region.wanted, yielded, r4_bool t146], ?_⟩
                    refine r4_call (R := fun r W' => r = .int .u32 (numU f b' : Nat) ∧ Touch (fun _ => False) W W') (f := 31) (args := #[.pointer (some ⟨p, 0, none⟩)]) ?_ ((wbase_calls (HWy.out.still hC)).mono fun e W' h => ⟨_, h.1, (⟨rfl, by rw [h.2]; exact Touch.refl _ _⟩ : (_ : Value) = .int .u32 (numU f b' : Nat) ∧ Touch (fun _ => False) W W')⟩) (fun v W' hw => ⟨_, rfl, hw.1, hC.trans hw.2, fun j u h => plI_kept hw.2 j u h⟩)
                    simp [execOp, resolve, invoke, Act.eval, t147]
                    try rfl
                  · simp only [List.getElem?_toArray, List.getElem?_cons_zero, List.getElem?_cons_succ, Option.some.injEq] at hi
                    subst hi
                    have t146 : a.tmps[146]?.getD undef = .bool false := by simpa [valOf, plI] using hdone 6 _ rfl (r4_edge 6 (by kernel_rfl) hdl)
                    refine ⟨by simp [Region.wanted, yielded, r4_bool t146], ?_⟩
                    refine r4_val (v := .int .u32 (f : Nat)) ?_ ⟨_, rfl, rfl, hC, fun _ _ h => h⟩
                    simp [execOp, Act.eval, b0]
                  · simp only [List.getElem?_toArray, List.getElem?_cons_zero, List.getElem?_cons_succ, Option.some.injEq] at hi
                    subst hi
                    have t146 : a.tmps[146]?.getD undef = .bool false := by simpa [valOf, plI] using hdone 6 _ rfl (r4_edge 6 (by kernel_rfl) hdl)
                    refine ⟨by simp [Region.wanted, yielded, r4_bool t146], ?_⟩
                    refine r4_val (v := .int .i64 (b' : Nat)) ?_ ⟨_, rfl, rfl, hC, fun _ _ h => h⟩
                    simp [execOp, Act.eval, b21]
                  · simp only [List.getElem?_toArray, List.getElem?_cons_zero, List.getElem?_cons_succ, Option.some.injEq] at hi
                    subst hi
                    have t150 : a.tmps[150]?.getD undef = .int .i64 (b' : Nat) := by simpa [valOf, plI] using hdone 10 _ rfl (r4_edge 10 (by kernel_rfl) hdl)
                    have t146 : a.tmps[146]?.getD undef = .bool false := by simpa [valOf, plI] using hdone 6 _ rfl (r4_edge 6 (by kernel_rfl) hdl)
                    refine ⟨by simp [Region.wanted, yielded, r4_bool t146], ?_⟩
                    refine r4_val (v := .int .u32 (b' : Nat)) ?_ ⟨_, rfl, rfl, hC, fun _ _ h => h⟩
                    simp [execOp, Act.eval, t150]
                    try go_simp
                    try (rw [IntKind.wrap_u32]; (try unfold numU); omega)
                  · simp only [List.getElem?_toArray, List.getElem?_cons_zero, List.getElem?_cons_succ, Option.some.injEq] at hi
                    subst hi
                    have t149 : a.tmps[149]?.getD undef = .int .u32 (f : Nat) := by simpa [valOf, plI] using hdone 9 _ rfl (r4_edge 9 (by kernel_rfl) hdl)
                    have t151 : a.tmps[151]?.getD undef = .int .u32 (b' : Nat) := by simpa [valOf, plI] using hdone 11 _ rfl (r4_edge 11 (by kernel_rfl) hdl)
                    have t146 : a.tmps[146]?.getD undef = .bool false := by simpa [valOf, plI] using hdone 6 _ rfl (r4_edge 6 (by kernel_rfl) hdl)
                    refine ⟨by simp [Region.wanted, yielded, r4_bool t146], ?_⟩
                    refine r4_val (v := .int .u32 (numU f b' : Nat)) ?_ ⟨_, rfl, rfl, hC, fun _ _ h => h⟩
                    simp [execOp, Act.eval, t149, t151]
                    try go_simp
                    try (rw [IntKind.wrap_u32]; (try unfold numU); omega)
                  · simp only [List.getElem?_toArray, List.getElem?_cons_zero, List.getElem?_cons_succ, Option.some.injEq] at hi
                    subst hi
                    have t148 : a.tmps[148]?.getD undef = .int .u32 (numU f b' : Nat) := by simpa [valOf, plI] using hdone 8 _ rfl (r4_edge 8 (by kernel_rfl) hdl)
                    have t152 : a.tmps[152]?.getD undef = .int .u32 (numU f b' : Nat) := by simpa [valOf, plI] using hdone 12 _ rfl (r4_edge 12 (by kernel_rfl) hdl)
                    have t146 : a.tmps[146]?.getD undef = .bool false := by simpa [valOf, plI] using hdone 6 _ rfl (r4_edge 6 (by kernel_rfl) hdl)
                    refine ⟨by simp [Region.wanted, yielded, r4_bool t146], ?_⟩
                    refine r4_val (v := .bool false) ?_ ⟨_, rfl, rfl, hC, fun _ _ h => h⟩
                    simp [execOp, Act.eval, t148, t152]
                    try go_simp
                    try (rw [IntKind.wrap_u32]; (try unfold numU); omega)
                  · simp only [List.getElem?_toArray, List.getElem?_cons_zero, List.getElem?_cons_succ, Option.some.injEq] at hi
                    subst hi
                    have t146 : a.tmps[146]?.getD undef = .bool false := by simpa [valOf, plI] using hdone 6 _ rfl (r4_edge 6 (by kernel_rfl) hdl)
                    have t153 : a.tmps[153]?.getD undef = .bool false := by simpa [valOf, plI] using hdone 13 _ rfl (r4_edge 13 (by kernel_rfl) hdl)
                    refine ⟨rfl, ?_⟩
                    refine r4_val (v := .bool false) ?_ ⟨_, rfl, rfl, hC, fun _ _ h => h⟩
                    simp [execOp, Act.eval, t146, t153]
                    try go_simp
                  · simp only [List.getElem?_toArray, List.getElem?_cons_zero, List.getElem?_cons_succ, Option.some.injEq] at hi
                    subst hi
                    have t154 : a.tmps[154]?.getD undef = .bool false := by simpa [valOf, plI] using hdone 14 _ rfl (r4_edge 14 (by kernel_rfl) hdl)
                    refine ⟨rfl, ?_⟩
                    refine r4_val (v := .bool false) ?_ ⟨_, rfl, rfl, hC, fun _ _ h => h⟩
                    simp [execOp, Act.eval, t154]
                    try go_simp
                  · simp only [List.getElem?_toArray, List.getElem?_cons_zero, List.getElem?_cons_succ, Option.some.injEq] at hi
                    subst hi
                    have t155 : a.tmps[155]?.getD undef = .bool false := by simpa [valOf, plI] using hdone 15 _ rfl (r4_edge 15 (by kernel_rfl) hdl)
                    refine ⟨by simp [Region.wanted, yielded, r4_bool t155], ?_⟩
                    refine r4_val (v := .pointer (some ⟨p, 0, none⟩)) ?_ ⟨_, rfl, rfl, hC, fun _ _ h => h⟩
                    simp [execOp, Act.eval, b9]
                  · simp only [List.getElem?_toArray, List.getElem?_cons_zero, List.getElem?_cons_succ, Option.some.injEq] at hi
                    subst hi
                    have t156 : a.tmps[156]?.getD undef = .pointer (some ⟨p, 0, none⟩) := by simpa [valOf, plI] using hdone 16 _ rfl (r4_edge 16 (by kernel_rfl) hdl)
                    have t155 : a.tmps[155]?.getD undef = .bool false := by simpa [valOf, plI] using hdone 15 _ rfl (r4_edge 15 (by kernel_rfl) hdl)
                    refine ⟨by simp [Region.wanted, yielded, r4_bool t155], ?_⟩
                    refine r4_call (R := fun r W' => r = .bool ((b' : Int) == (cnt : Int)) ∧ Touch (fun _ => False) W W') (f := 32) (args := #[.pointer (some ⟨p, 0, none⟩)]) ?_ ((wdone_calls (HWy.out.still hC)).mono fun e W' h => ⟨_, h.1, (⟨by rw [HDN.out], by rw [h.2]; exact Touch.refl _ _⟩ : (_ : Value) = .bool ((b' : Int) == (cnt : Int)) ∧ Touch (fun _ => False) W W')⟩) (fun v W' hw => ⟨_, rfl, hw.1, hC.trans hw.2, fun j u h => plI_kept hw.2 j u h⟩)
                    simp [execOp, resolve, invoke, Act.eval, t156]
                    try rfl
                  · simp only [List.getElem?_toArray, List.getElem?_cons_zero, List.getElem?_cons_succ, Option.some.injEq] at hi
                    subst hi
                    have t155 : a.tmps[155]?.getD undef = .bool false := by simpa [valOf, plI] using hdone 15 _ rfl (r4_edge 15 (by kernel_rfl) hdl)
                    refine ⟨by simp [Region.wanted, yielded, r4_bool t155], ?_⟩
                    refine r4_val (v := .int .i64 (b' : Nat)) ?_ ⟨_, rfl, rfl, hC, fun _ _ h => h⟩
                    simp [execOp, Act.eval, b21]
                  · simp only [List.getElem?_toArray, List.getElem?_cons_zero, List.getElem?_cons_succ, Option.some.injEq] at hi
                    subst hi
                    have t155 : a.tmps[155]?.getD undef = .bool false := by simpa [valOf, plI] using hdone 15 _ rfl (r4_edge 15 (by kernel_rfl) hdl)
                    refine ⟨by simp [Region.wanted, yielded, r4_bool t155], ?_⟩
                    refine r4_val (v := .int .i64 (cnt : Nat)) ?_ ⟨_, rfl, rfl, hC, fun _ _ h => h⟩
                    simp [execOp, Act.eval, b7]
                  · simp only [List.getElem?_toArray, List.getElem?_cons_zero, List.getElem?_cons_succ, Option.some.injEq] at hi
                    subst hi
                    have t158 : a.tmps[158]?.getD undef = .int .i64 (b' : Nat) := by simpa [valOf, plI] using hdone 18 _ rfl (r4_edge 18 (by kernel_rfl) hdl)
                    have t159 : a.tmps[159]?.getD undef = .int .i64 (cnt : Nat) := by simpa [valOf, plI] using hdone 19 _ rfl (r4_edge 19 (by kernel_rfl) hdl)
                    have t155 : a.tmps[155]?.getD undef = .bool false := by simpa [valOf, plI] using hdone 15 _ rfl (r4_edge 15 (by kernel_rfl) hdl)
                    refine ⟨by simp [Region.wanted, yielded, r4_bool t155], ?_⟩
                    refine r4_val (v := .bool ((b' : Int) == (cnt : Int))) ?_ ⟨_, rfl, rfl, hC, fun _ _ h => h⟩
                    simp [execOp, Act.eval, t158, t159]
                    try go_simp
                    try (rw [IntKind.wrap_u32]; (try unfold numU); omega)
                  · simp only [List.getElem?_toArray, List.getElem?_cons_zero, List.getElem?_cons_succ, Option.some.injEq] at hi
                    subst hi
                    have t157 : a.tmps[157]?.getD undef = .bool ((b' : Int) == (cnt : Int)) := by simpa [valOf, plI] using hdone 17 _ rfl (r4_edge 17 (by kernel_rfl) hdl)
                    have t160 : a.tmps[160]?.getD undef = .bool ((b' : Int) == (cnt : Int)) := by simpa [valOf, plI] using hdone 20 _ rfl (r4_edge 20 (by kernel_rfl) hdl)
                    have t155 : a.tmps[155]?.getD undef = .bool false := by simpa [valOf, plI] using hdone 15 _ rfl (r4_edge 15 (by kernel_rfl) hdl)
                    refine ⟨by simp [Region.wanted, yielded, r4_bool t155], ?_⟩
                    refine r4_val (v := .bool false) ?_ ⟨_, rfl, rfl, hC, fun _ _ h => h⟩
                    simp [execOp, Act.eval, t157, t160]
                    try go_simp
                    try (rw [IntKind.wrap_u32]; (try unfold numU); omega)
                  · simp only [List.getElem?_toArray, List.getElem?_cons_zero, List.getElem?_cons_succ, Option.some.injEq] at hi
                    subst hi
                    have t155 : a.tmps[155]?.getD undef = .bool false := by simpa [valOf, plI] using hdone 15 _ rfl (r4_edge 15 (by kernel_rfl) hdl)
                    have t161 : a.tmps[161]?.getD undef = .bool false := by simpa [valOf, plI] using hdone 21 _ rfl (r4_edge 21 (by kernel_rfl) hdl)
                    refine ⟨rfl, ?_⟩
                    refine r4_val (v := .bool false) ?_ ⟨_, rfl, rfl, hC, fun _ _ h => h⟩
                    simp [execOp, Act.eval, t155, t161]
                    try go_simp
                · intro ls a W hall hC hbase hdone
                  have hTW := Lib.hid hC
                  have hx : a.tmps.getD 162 undef = .bool false := hdone 22 _ rfl
                  obtain ⟨hbd, hbs, hbb⟩ := hbase
                  clear hall hdone hC
                  obtain ⟨⟨lst⟩, df⟩ := a
                  have hl : lst.length = 163 := hbs
                  clear hbs
                  obtain ⟨y0, l0, rfl, hl0⟩ := r4_cons (n := 162) hl
                  clear hl
                  obtain ⟨y1, l1, rfl, hl1⟩ := r4_cons (n := 161) hl0
                  clear hl0
                  obtain ⟨y2, l2, rfl, hl2⟩ := r4_cons (n := 160) hl1
                  clear hl1
                  obtain ⟨y3, l3, rfl, hl3⟩ := r4_cons (n := 159) hl2
                  clear hl2
                  obtain ⟨y4, l4, rfl, hl4⟩ := r4_cons (n := 158) hl3
                  clear hl3
                  obtain ⟨y5, l5, rfl, hl5⟩ := r4_cons (n := 157) hl4
                  clear hl4
                  obtain ⟨y6, l6, rfl, hl6⟩ := r4_cons (n := 156) hl5
                  clear hl5
                  obtain ⟨y7, l7, rfl, hl7⟩ := r4_cons (n := 155) hl6
                  clear hl6
                  obtain ⟨y8, l8, rfl, hl8⟩ := r4_cons (n := 154) hl7
                  clear hl7
                  obtain ⟨y9, l9, rfl, hl9⟩ := r4_cons (n := 153) hl8
                  clear hl8
                  obtain ⟨y10, l10, rfl, hl10⟩ := r4_cons (n := 152) hl9
                  clear hl9
                  obtain ⟨y11, l11, rfl, hl11⟩ := r4_cons (n := 151) hl10
                  clear hl10
                  obtain ⟨y12, l12, rfl, hl12⟩ := r4_cons (n := 150) hl11
                  clear hl11
                  obtain ⟨y13, l13, rfl, hl13⟩ := r4_cons (n := 149) hl12
                  clear hl12
                  obtain ⟨y14, l14, rfl, hl14⟩ := r4_cons (n := 148) hl13
                  clear hl13
                  obtain ⟨y15, l15, rfl, hl15⟩ := r4_cons (n := 147) hl14
                  clear hl14
                  obtain ⟨y16, l16, rfl, hl16⟩ := r4_cons (n := 146) hl15
                  clear hl15
                  obtain ⟨y17, l17, rfl, hl17⟩ := r4_cons (n := 145) hl16
                  clear hl16
                  obtain ⟨y18, l18, rfl, hl18⟩ := r4_cons (n := 144) hl17
                  clear hl17
                  obtain ⟨y19, l19, rfl, hl19⟩ := r4_cons (n := 143) hl18
                  clear hl18
                  obtain ⟨y20, l20, rfl, hl20⟩ := r4_cons (n := 142) hl19
                  clear hl19
                  obtain ⟨y21, l21, rfl, hl21⟩ := r4_cons (n := 141) hl20
                  clear hl20
                  obtain ⟨y22, l22, rfl, hl22⟩ := r4_cons (n := 140) hl21
                  clear hl21
                  obtain ⟨y23, l23, rfl, hl23⟩ := r4_cons (n := 139) hl22
                  clear hl22
                  obtain ⟨y24, l24, rfl, hl24⟩ := r4_cons (n := 138) hl23
                  clear hl23
                  obtain ⟨y25, l25, rfl, hl25⟩ := r4_cons (n := 137) hl24
                  clear hl24
                  obtain ⟨y26, l26, rfl, hl26⟩ := r4_cons (n := 136) hl25
                  clear hl25
                  obtain ⟨y27, l27, rfl, hl27⟩ := r4_cons (n := 135) hl26
                  clear hl26
                  obtain ⟨y28, l28, rfl, hl28⟩ := r4_cons (n := 134) hl27
                  clear hl27
                  obtain ⟨y29, l29, rfl, hl29⟩ := r4_cons (n := 133) hl28
                  clear hl28
                  obtain ⟨y30, l30, rfl, hl30⟩ := r4_cons (n := 132) hl29
                  clear hl29
                  obtain ⟨y31, l31, rfl, hl31⟩ := r4_cons (n := 131) hl30
                  clear hl30
                  obtain ⟨y32, l32, rfl, hl32⟩ := r4_cons (n := 130) hl31
                  clear hl31
                  obtain ⟨y33, l33, rfl, hl33⟩ := r4_cons (n := 129) hl32
                  clear hl32
                  obtain ⟨y34, l34, rfl, hl34⟩ := r4_cons (n := 128) hl33
                  clear hl33
                  obtain ⟨y35, l35, rfl, hl35⟩ := r4_cons (n := 127) hl34
                  clear hl34
                  obtain ⟨y36, l36, rfl, hl36⟩ := r4_cons (n := 126) hl35
                  clear hl35
                  obtain ⟨y37, l37, rfl, hl37⟩ := r4_cons (n := 125) hl36
                  clear hl36
                  obtain ⟨y38, l38, rfl, hl38⟩ := r4_cons (n := 124) hl37
                  clear hl37
                  obtain ⟨y39, l39, rfl, hl39⟩ := r4_cons (n := 123) hl38
                  clear hl38
                  obtain ⟨y40, l40, rfl, hl40⟩ := r4_cons (n := 122) hl39
                  clear hl39
                  obtain ⟨y41, l41, rfl, hl41⟩ := r4_cons (n := 121) hl40
                  clear hl40
                  obtain ⟨y42, l42, rfl, hl42⟩ := r4_cons (n := 120) hl41
                  clear hl41
                  obtain ⟨y43, l43, rfl, hl43⟩ := r4_cons (n := 119) hl42
                  clear hl42
                  obtain ⟨y44, l44, rfl, hl44⟩ := r4_cons (n := 118) hl43
                  clear hl43
                  obtain ⟨y45, l45, rfl, hl45⟩ := r4_cons (n := 117) hl44
                  clear hl44
                  obtain ⟨y46, l46, rfl, hl46⟩ := r4_cons (n := 116) hl45
                  clear hl45
                  obtain ⟨y47, l47, rfl, hl47⟩ := r4_cons (n := 115) hl46
                  clear hl46
                  obtain ⟨y48, l48, rfl, hl48⟩ := r4_cons (n := 114) hl47
                  clear hl47
                  obtain ⟨y49, l49, rfl, hl49⟩ := r4_cons (n := 113) hl48
                  clear hl48
                  obtain ⟨y50, l50, rfl, hl50⟩ := r4_cons (n := 112) hl49
                  clear hl49
                  obtain ⟨y51, l51, rfl, hl51⟩ := r4_cons (n := 111) hl50
                  clear hl50
                  obtain ⟨y52, l52, rfl, hl52⟩ := r4_cons (n := 110) hl51
                  clear hl51
                  obtain ⟨y53, l53, rfl, hl53⟩ := r4_cons (n := 109) hl52
                  clear hl52
                  obtain ⟨y54, l54, rfl, hl54⟩ := r4_cons (n := 108) hl53
                  clear hl53
                  obtain ⟨y55, l55, rfl, hl55⟩ := r4_cons (n := 107) hl54
                  clear hl54
                  obtain ⟨y56, l56, rfl, hl56⟩ := r4_cons (n := 106) hl55
                  clear hl55
                  obtain ⟨y57, l57, rfl, hl57⟩ := r4_cons (n := 105) hl56
                  clear hl56
                  obtain ⟨y58, l58, rfl, hl58⟩ := r4_cons (n := 104) hl57
                  clear hl57
                  obtain ⟨y59, l59, rfl, hl59⟩ := r4_cons (n := 103) hl58
                  clear hl58
                  obtain ⟨y60, l60, rfl, hl60⟩ := r4_cons (n := 102) hl59
                  clear hl59
                  obtain ⟨y61, l61, rfl, hl61⟩ := r4_cons (n := 101) hl60
                  clear hl60
                  obtain ⟨y62, l62, rfl, hl62⟩ := r4_cons (n := 100) hl61
                  clear hl61
                  obtain ⟨y63, l63, rfl, hl63⟩ := r4_cons (n := 99) hl62
                  clear hl62
                  obtain ⟨y64, l64, rfl, hl64⟩ := r4_cons (n := 98) hl63
                  clear hl63
                  obtain ⟨y65, l65, rfl, hl65⟩ := r4_cons (n := 97) hl64
                  clear hl64
                  obtain ⟨y66, l66, rfl, hl66⟩ := r4_cons (n := 96) hl65
                  clear hl65
                  obtain ⟨y67, l67, rfl, hl67⟩ := r4_cons (n := 95) hl66
                  clear hl66
                  obtain ⟨y68, l68, rfl, hl68⟩ := r4_cons (n := 94) hl67
                  clear hl67
                  obtain ⟨y69, l69, rfl, hl69⟩ := r4_cons (n := 93) hl68
                  clear hl68
                  obtain ⟨y70, l70, rfl, hl70⟩ := r4_cons (n := 92) hl69
                  clear hl69
                  obtain ⟨y71, l71, rfl, hl71⟩ := r4_cons (n := 91) hl70
                  clear hl70
                  obtain ⟨y72, l72, rfl, hl72⟩ := r4_cons (n := 90) hl71
                  clear hl71
                  obtain ⟨y73, l73, rfl, hl73⟩ := r4_cons (n := 89) hl72
                  clear hl72
                  obtain ⟨y74, l74, rfl, hl74⟩ := r4_cons (n := 88) hl73
                  clear hl73
                  obtain ⟨y75, l75, rfl, hl75⟩ := r4_cons (n := 87) hl74
                  clear hl74
                  obtain ⟨y76, l76, rfl, hl76⟩ := r4_cons (n := 86) hl75
                  clear hl75
                  obtain ⟨y77, l77, rfl, hl77⟩ := r4_cons (n := 85) hl76
                  clear hl76
                  obtain ⟨y78, l78, rfl, hl78⟩ := r4_cons (n := 84) hl77
                  clear hl77
                  obtain ⟨y79, l79, rfl, hl79⟩ := r4_cons (n := 83) hl78
                  clear hl78
                  obtain ⟨y80, l80, rfl, hl80⟩ := r4_cons (n := 82) hl79
                  clear hl79
                  obtain ⟨y81, l81, rfl, hl81⟩ := r4_cons (n := 81) hl80
                  clear hl80
                  obtain ⟨y82, l82, rfl, hl82⟩ := r4_cons (n := 80) hl81
                  clear hl81
                  obtain ⟨y83, l83, rfl, hl83⟩ := r4_cons (n := 79) hl82
                  clear hl82
                  obtain ⟨y84, l84, rfl, hl84⟩ := r4_cons (n := 78) hl83
                  clear hl83
                  obtain ⟨y85, l85, rfl, hl85⟩ := r4_cons (n := 77) hl84
                  clear hl84
                  obtain ⟨y86, l86, rfl, hl86⟩ := r4_cons (n := 76) hl85
                  clear hl85
                  obtain ⟨y87, l87, rfl, hl87⟩ := r4_cons (n := 75) hl86
                  clear hl86
                  obtain ⟨y88, l88, rfl, hl88⟩ := r4_cons (n := 74) hl87
                  clear hl87
                  obtain ⟨y89, l89, rfl, hl89⟩ := r4_cons (n := 73) hl88
                  clear hl88
                  obtain ⟨y90, l90, rfl, hl90⟩ := r4_cons (n := 72) hl89
                  clear hl89
                  obtain ⟨y91, l91, rfl, hl91⟩ := r4_cons (n := 71) hl90
                  clear hl90
                  obtain ⟨y92, l92, rfl, hl92⟩ := r4_cons (n := 70) hl91
                  clear hl91
                  obtain ⟨y93, l93, rfl, hl93⟩ := r4_cons (n := 69) hl92
                  clear hl92
                  obtain ⟨y94, l94, rfl, hl94⟩ := r4_cons (n := 68) hl93
                  clear hl93
                  obtain ⟨y95, l95, rfl, hl95⟩ := r4_cons (n := 67) hl94
                  clear hl94
                  obtain ⟨y96, l96, rfl, hl96⟩ := r4_cons (n := 66) hl95
                  clear hl95
                  obtain ⟨y97, l97, rfl, hl97⟩ := r4_cons (n := 65) hl96
                  clear hl96
                  obtain ⟨y98, l98, rfl, hl98⟩ := r4_cons (n := 64) hl97
                  clear hl97
                  obtain ⟨y99, l99, rfl, hl99⟩ := r4_cons (n := 63) hl98
                  clear hl98
                  obtain ⟨y100, l100, rfl, hl100⟩ := r4_cons (n := 62) hl99
                  clear hl99
                  obtain ⟨y101, l101, rfl, hl101⟩ := r4_cons (n := 61) hl100
                  clear hl100
                  obtain ⟨y102, l102, rfl, hl102⟩ := r4_cons (n := 60) hl101
                  clear hl101
                  obtain ⟨y103, l103, rfl, hl103⟩ := r4_cons (n := 59) hl102
                  clear hl102
                  obtain ⟨y104, l104, rfl, hl104⟩ := r4_cons (n := 58) hl103
                  clear hl103
                  obtain ⟨y105, l105, rfl, hl105⟩ := r4_cons (n := 57) hl104
                  clear hl104
                  obtain ⟨y106, l106, rfl, hl106⟩ := r4_cons (n := 56) hl105
                  clear hl105
                  obtain ⟨y107, l107, rfl, hl107⟩ := r4_cons (n := 55) hl106
                  clear hl106
                  obtain ⟨y108, l108, rfl, hl108⟩ := r4_cons (n := 54) hl107
                  clear hl107
                  obtain ⟨y109, l109, rfl, hl109⟩ := r4_cons (n := 53) hl108
                  clear hl108
                  obtain ⟨y110, l110, rfl, hl110⟩ := r4_cons (n := 52) hl109
                  clear hl109
                  obtain ⟨y111, l111, rfl, hl111⟩ := r4_cons (n := 51) hl110
                  clear hl110
                  obtain ⟨y112, l112, rfl, hl112⟩ := r4_cons (n := 50) hl111
                  clear hl111
                  obtain ⟨y113, l113, rfl, hl113⟩ := r4_cons (n := 49) hl112
                  clear hl112
                  obtain ⟨y114, l114, rfl, hl114⟩ := r4_cons (n := 48) hl113
                  clear hl113
                  obtain ⟨y115, l115, rfl, hl115⟩ := r4_cons (n := 47) hl114
                  clear hl114
                  obtain ⟨y116, l116, rfl, hl116⟩ := r4_cons (n := 46) hl115
                  clear hl115
                  obtain ⟨y117, l117, rfl, hl117⟩ := r4_cons (n := 45) hl116
                  clear hl116
                  obtain ⟨y118, l118, rfl, hl118⟩ := r4_cons (n := 44) hl117
                  clear hl117
                  obtain ⟨y119, l119, rfl, hl119⟩ := r4_cons (n := 43) hl118
                  clear hl118
                  obtain ⟨y120, l120, rfl, hl120⟩ := r4_cons (n := 42) hl119
                  clear hl119
                  obtain ⟨y121, l121, rfl, hl121⟩ := r4_cons (n := 41) hl120
                  clear hl120
                  obtain ⟨y122, l122, rfl, hl122⟩ := r4_cons (n := 40) hl121
                  clear hl121
                  obtain ⟨y123, l123, rfl, hl123⟩ := r4_cons (n := 39) hl122
                  clear hl122
                  obtain ⟨y124, l124, rfl, hl124⟩ := r4_cons (n := 38) hl123
                  clear hl123
                  obtain ⟨y125, l125, rfl, hl125⟩ := r4_cons (n := 37) hl124
                  clear hl124
                  obtain ⟨y126, l126, rfl, hl126⟩ := r4_cons (n := 36) hl125
                  clear hl125
                  obtain ⟨y127, l127, rfl, hl127⟩ := r4_cons (n := 35) hl126
                  clear hl126
                  obtain ⟨y128, l128, rfl, hl128⟩ := r4_cons (n := 34) hl127
                  clear hl127
                  obtain ⟨y129, l129, rfl, hl129⟩ := r4_cons (n := 33) hl128
                  clear hl128
                  obtain ⟨y130, l130, rfl, hl130⟩ := r4_cons (n := 32) hl129
                  clear hl129
                  obtain ⟨y131, l131, rfl, hl131⟩ := r4_cons (n := 31) hl130
                  clear hl130
                  obtain ⟨y132, l132, rfl, hl132⟩ := r4_cons (n := 30) hl131
                  clear hl131
                  obtain ⟨y133, l133, rfl, hl133⟩ := r4_cons (n := 29) hl132
                  clear hl132
                  obtain ⟨y134, l134, rfl, hl134⟩ := r4_cons (n := 28) hl133
                  clear hl133
                  obtain ⟨y135, l135, rfl, hl135⟩ := r4_cons (n := 27) hl134
                  clear hl134
                  obtain ⟨y136, l136, rfl, hl136⟩ := r4_cons (n := 26) hl135
                  clear hl135
                  obtain ⟨y137, l137, rfl, hl137⟩ := r4_cons (n := 25) hl136
                  clear hl136
                  obtain ⟨y138, l138, rfl, hl138⟩ := r4_cons (n := 24) hl137
                  clear hl137
                  obtain ⟨y139, l139, rfl, hl139⟩ := r4_cons (n := 23) hl138
                  clear hl138
                  obtain ⟨y140, l140, rfl, hl140⟩ := r4_cons (n := 22) hl139
                  clear hl139
                  obtain ⟨y141, l141, rfl, hl141⟩ := r4_cons (n := 21) hl140
                  clear hl140
                  obtain ⟨y142, l142, rfl, hl142⟩ := r4_cons (n := 20) hl141
                  clear hl141
                  obtain ⟨y143, l143, rfl, hl143⟩ := r4_cons (n := 19) hl142
                  clear hl142
                  obtain ⟨y144, l144, rfl, hl144⟩ := r4_cons (n := 18) hl143
                  clear hl143
                  obtain ⟨y145, l145, rfl, hl145⟩ := r4_cons (n := 17) hl144
                  clear hl144
                  obtain ⟨y146, l146, rfl, hl146⟩ := r4_cons (n := 16) hl145
                  clear hl145
                  obtain ⟨y147, l147, rfl, hl147⟩ := r4_cons (n := 15) hl146
                  clear hl146
                  obtain ⟨y148, l148, rfl, hl148⟩ := r4_cons (n := 14) hl147
                  clear hl147
                  obtain ⟨y149, l149, rfl, hl149⟩ := r4_cons (n := 13) hl148
                  clear hl148
                  obtain ⟨y150, l150, rfl, hl150⟩ := r4_cons (n := 12) hl149
                  clear hl149
                  obtain ⟨y151, l151, rfl, hl151⟩ := r4_cons (n := 11) hl150
                  clear hl150
                  obtain ⟨y152, l152, rfl, hl152⟩ := r4_cons (n := 10) hl151
                  clear hl151
                  obtain ⟨y153, l153, rfl, hl153⟩ := r4_cons (n := 9) hl152
                  clear hl152
                  obtain ⟨y154, l154, rfl, hl154⟩ := r4_cons (n := 8) hl153
                  clear hl153
                  obtain ⟨y155, l155, rfl, hl155⟩ := r4_cons (n := 7) hl154
                  clear hl154
                  obtain ⟨y156, l156, rfl, hl156⟩ := r4_cons (n := 6) hl155
                  clear hl155
                  obtain ⟨y157, l157, rfl, hl157⟩ := r4_cons (n := 5) hl156
                  clear hl156
                  obtain ⟨y158, l158, rfl, hl158⟩ := r4_cons (n := 4) hl157
                  clear hl157
                  obtain ⟨y159, l159, rfl, hl159⟩ := r4_cons (n := 3) hl158
                  clear hl158
                  obtain ⟨y160, l160, rfl, hl160⟩ := r4_cons (n := 2) hl159
                  clear hl159
                  obtain ⟨y161, l161, rfl, hl161⟩ := r4_cons (n := 1) hl160
                  clear hl160
                  obtain ⟨y162, l162, rfl, hl162⟩ := r4_cons (n := 0) hl161
                  clear hl161
                  obtain rfl := List.eq_nil_of_length_eq_zero hl162
                  have hx2 : y162 = .bool false := hx
                  subst hx2
                  clear hx hl162
                  have eq0 := hbb 0 (noDst_spec (by kernel_rfl))
                  simp only [List.getElem?_toArray, List.getElem?_cons_zero, Option.some.injEq] at eq0
                  subst eq0
                  have eq1 := hbb 1 (noDst_spec (by kernel_rfl))
                  simp only [List.getElem?_toArray, List.getElem?_cons_zero, List.getElem?_cons_succ, Option.some.injEq] at eq1
                  subst eq1
                  have eq2 := hbb 2 (noDst_spec (by kernel_rfl))
                  simp only [List.getElem?_toArray, List.getElem?_cons_zero, List.getElem?_cons_succ, Option.some.injEq] at eq2
                  subst eq2
                  have eq3 := hbb 3 (noDst_spec (by kernel_rfl))
                  simp only [List.getElem?_toArray, List.getElem?_cons_zero, List.getElem?_cons_succ, Option.some.injEq] at eq3
                  subst eq3
                  have eq4 := hbb 4 (noDst_spec (by kernel_rfl))
                  simp only [List.getElem?_toArray, List.getElem?_cons_zero, List.getElem?_cons_succ, Option.some.injEq] at eq4
                  subst eq4
                  have eq5 := hbb 5 (noDst_spec (by kernel_rfl))
                  simp only [List.getElem?_toArray, List.getElem?_cons_zero, List.getElem?_cons_succ, Option.some.injEq] at eq5
                  subst eq5
                  have eq6 := hbb 6 (noDst_spec (by kernel_rfl))
                  simp only [List.getElem?_toArray, List.getElem?_cons_zero, List.getElem?_cons_succ, Option.some.injEq] at eq6
                  subst eq6
                  have eq7 := hbb 7 (noDst_spec (by kernel_rfl))
                  simp only [List.getElem?_toArray, List.getElem?_cons_zero, List.getElem?_cons_succ, Option.some.injEq] at eq7
                  subst eq7
                  have eq8 := hbb 8 (noDst_spec (by kernel_rfl))
                  simp only [List.getElem?_toArray, List.getElem?_cons_zero, List.getElem?_cons_succ, Option.some.injEq] at eq8
                  subst eq8
                  have eq9 := hbb 9 (noDst_spec (by kernel_rfl))
                  simp only [List.getElem?_toArray, List.getElem?_cons_zero, List.getElem?_cons_succ, Option.some.injEq] at eq9
                  subst eq9
                  have eq10 := hbb 10 (noDst_spec (by kernel_rfl))
                  simp only [List.getElem?_toArray, List.getElem?_cons_zero, List.getElem?_cons_succ, Option.some.injEq] at eq10
                  subst eq10
                  have eq11 := hbb 11 (noDst_spec (by kernel_rfl))
                  simp only [List.getElem?_toArray, List.getElem?_cons_zero, List.getElem?_cons_succ, Option.some.injEq] at eq11
                  subst eq11
                  have eq12 := hbb 12 (noDst_spec (by kernel_rfl))
                  simp only [List.getElem?_toArray, List.getElem?_cons_zero, List.getElem?_cons_succ, Option.some.injEq] at eq12
                  subst eq12
                  have eq13 := hbb 13 (noDst_spec (by kernel_rfl))
                  simp only [List.getElem?_toArray, List.getElem?_cons_zero, List.getElem?_cons_succ, Option.some.injEq] at eq13
                  subst eq13
                  have eq14 := hbb 14 (noDst_spec (by kernel_rfl))
                  simp only [List.getElem?_toArray, List.getElem?_cons_zero, List.getElem?_cons_succ, Option.some.injEq] at eq14
                  subst eq14
                  have eq15 := hbb 15 (noDst_spec (by kernel_rfl))
                  simp only [List.getElem?_toArray, List.getElem?_cons_zero, List.getElem?_cons_succ, Option.some.injEq] at eq15
                  subst eq15
                  have eq16 := hbb 16 (noDst_spec (by kernel_rfl))
                  simp only [List.getElem?_toArray, List.getElem?_cons_zero, List.getElem?_cons_succ, Option.some.injEq] at eq16
                  subst eq16
                  have eq17 := hbb 17 (noDst_spec (by kernel_rfl))
                  simp only [List.getElem?_toArray, List.getElem?_cons_zero, List.getElem?_cons_succ, Option.some.injEq] at eq17
                  subst eq17
                  have eq18 := hbb 18 (noDst_spec (by kernel_rfl))
                  simp only [List.getElem?_toArray, List.getElem?_cons_zero, List.getElem?_cons_succ, Option.some.injEq] at eq18
                  subst eq18
                  have eq19 := hbb 19 (noDst_spec (by kernel_rfl))
                  simp only [List.getElem?_toArray, List.getElem?_cons_zero, List.getElem?_cons_succ, Option.some.injEq] at eq19
                  subst eq19
                  have eq20 := hbb 20 (noDst_spec (by kernel_rfl))
                  simp only [List.getElem?_toArray, List.getElem?_cons_zero, List.getElem?_cons_succ, Option.some.injEq] at eq20
                  subst eq20
                  have eq21 := hbb 21 (noDst_spec (by kernel_rfl))
                  simp only [List.getElem?_toArray, List.getElem?_cons_zero, List.getElem?_cons_succ, Option.some.injEq] at eq21
                  subst eq21
                  have eq22 := hbb 22 (noDst_spec (by kernel_rfl))
                  simp only [List.getElem?_toArray, List.getElem?_cons_zero, List.getElem?_cons_succ, Option.some.injEq] at eq22
                  subst eq22
                  have eq23 := hbb 23 (noDst_spec (by kernel_rfl))
                  simp only [List.getElem?_toArray, List.getElem?_cons_zero, List.getElem?_cons_succ, Option.some.injEq] at eq23
                  subst eq23
                  have eq24 := hbb 24 (noDst_spec (by kernel_rfl))
                  simp only [List.getElem?_toArray, List.getElem?_cons_zero, List.getElem?_cons_succ, Option.some.injEq] at eq24
                  subst eq24
                  have eq25 := hbb 25 (noDst_spec (by kernel_rfl))
                  simp only [List.getElem?_toArray, List.getElem?_cons_zero, List.getElem?_cons_succ, Option.some.injEq] at eq25
                  subst eq25
                  have eq26 := hbb 26 (noDst_spec (by kernel_rfl))
                  simp only [List.getElem?_toArray, List.getElem?_cons_zero, List.getElem?_cons_succ, Option.some.injEq] at eq26
                  subst eq26
                  have eq27 := hbb 27 (noDst_spec (by kernel_rfl))
                  simp only [List.getElem?_toArray, List.getElem?_cons_zero, List.getElem?_cons_succ, Option.some.injEq] at eq27
                  subst eq27
                  have eq28 := hbb 28 (noDst_spec (by kernel_rfl))
                  simp only [List.getElem?_toArray, List.getElem?_cons_zero, List.getElem?_cons_succ, Option.some.injEq] at eq28
                  subst eq28
                  have eq29 := hbb 29 (noDst_spec (by kernel_rfl))
                  simp only [List.getElem?_toArray, List.getElem?_cons_zero, List.getElem?_cons_succ, Option.some.injEq] at eq29
                  subst eq29
                  have eq30 := hbb 30 (noDst_spec (by kernel_rfl))
                  simp only [List.getElem?_toArray, List.getElem?_cons_zero, List.getElem?_cons_succ, Option.some.injEq] at eq30
                  subst eq30
                  have eq31 := hbb 31 (noDst_spec (by kernel_rfl))
                  simp only [List.getElem?_toArray, List.getElem?_cons_zero, List.getElem?_cons_succ, Option.some.injEq] at eq31
                  subst eq31
                  have eq32 := hbb 32 (noDst_spec (by kernel_rfl))
                  simp only [List.getElem?_toArray, List.getElem?_cons_zero, List.getElem?_cons_succ, Option.some.injEq] at eq32
                  subst eq32
                  have eq33 := hbb 33 (noDst_spec (by kernel_rfl))
                  simp only [List.getElem?_toArray, List.getElem?_cons_zero, List.getElem?_cons_succ, Option.some.injEq] at eq33
                  subst eq33
                  have eq34 := hbb 34 (noDst_spec (by kernel_rfl))
                  simp only [List.getElem?_toArray, List.getElem?_cons_zero, List.getElem?_cons_succ, Option.some.injEq] at eq34
                  subst eq34
                  have eq35 := hbb 35 (noDst_spec (by kernel_rfl))
                  simp only [List.getElem?_toArray, List.getElem?_cons_zero, List.getElem?_cons_succ, Option.some.injEq] at eq35
                  subst eq35
                  have eq36 := hbb 36 (noDst_spec (by kernel_rfl))
                  simp only [List.getElem?_toArray, List.getElem?_cons_zero, List.getElem?_cons_succ, Option.some.injEq] at eq36
                  subst eq36
                  have eq37 := hbb 37 (noDst_spec (by kernel_rfl))
                  simp only [List.getElem?_toArray, List.getElem?_cons_zero, List.getElem?_cons_succ, Option.some.injEq] at eq37
                  subst eq37
                  have eq38 := hbb 38 (noDst_spec (by kernel_rfl))
                  simp only [List.getElem?_toArray, List.getElem?_cons_zero, List.getElem?_cons_succ, Option.some.injEq] at eq38
                  subst eq38
                  have eq39 := hbb 39 (noDst_spec (by kernel_rfl))
                  simp only [List.getElem?_toArray, List.getElem?_cons_zero, List.getElem?_cons_succ, Option.some.injEq] at eq39
                  subst eq39
                  have eq40 := hbb 40 (noDst_spec (by kernel_rfl))
                  simp only [List.getElem?_toArray, List.getElem?_cons_zero, List.getElem?_cons_succ, Option.some.injEq] at eq40
                  subst eq40
                  have eq41 := hbb 41 (noDst_spec (by kernel_rfl))
                  simp only [List.getElem?_toArray, List.getElem?_cons_zero, List.getElem?_cons_succ, Option.some.injEq] at eq41
                  subst eq41
                  have eq42 := hbb 42 (noDst_spec (by kernel_rfl))
                  simp only [List.getElem?_toArray, List.getElem?_cons_zero, List.getElem?_cons_succ, Option.some.injEq] at eq42
                  subst eq42
                  have eq43 := hbb 43 (noDst_spec (by kernel_rfl))
                  simp only [List.getElem?_toArray, List.getElem?_cons_zero, List.getElem?_cons_succ, Option.some.injEq] at eq43
                  subst eq43
                  have eq44 := hbb 44 (noDst_spec (by kernel_rfl))
                  simp only [List.getElem?_toArray, List.getElem?_cons_zero, List.getElem?_cons_succ, Option.some.injEq] at eq44
                  subst eq44
                  have eq45 := hbb 45 (noDst_spec (by kernel_rfl))
                  simp only [List.getElem?_toArray, List.getElem?_cons_zero, List.getElem?_cons_succ, Option.some.injEq] at eq45
                  subst eq45
                  have eq46 := hbb 46 (noDst_spec (by kernel_rfl))
                  simp only [List.getElem?_toArray, List.getElem?_cons_zero, List.getElem?_cons_succ, Option.some.injEq] at eq46
                  subst eq46
                  have eq47 := hbb 47 (noDst_spec (by kernel_rfl))
                  simp only [List.getElem?_toArray, List.getElem?_cons_zero, List.getElem?_cons_succ, Option.some.injEq] at eq47
                  subst eq47
                  have eq48 := hbb 48 (noDst_spec (by kernel_rfl))
                  simp only [List.getElem?_toArray, List.getElem?_cons_zero, List.getElem?_cons_succ, Option.some.injEq] at eq48
                  subst eq48
                  have eq49 := hbb 49 (noDst_spec (by kernel_rfl))
                  simp only [List.getElem?_toArray, List.getElem?_cons_zero, List.getElem?_cons_succ, Option.some.injEq] at eq49
                  subst eq49
                  have eq50 := hbb 50 (noDst_spec (by kernel_rfl))
                  simp only [List.getElem?_toArray, List.getElem?_cons_zero, List.getElem?_cons_succ, Option.some.injEq] at eq50
                  subst eq50
                  have eq51 := hbb 51 (noDst_spec (by kernel_rfl))
                  simp only [List.getElem?_toArray, List.getElem?_cons_zero, List.getElem?_cons_succ, Option.some.injEq] at eq51
                  subst eq51
                  have eq52 := hbb 52 (noDst_spec (by kernel_rfl))
                  simp only [List.getElem?_toArray, List.getElem?_cons_zero, List.getElem?_cons_succ, Option.some.injEq] at eq52
                  subst eq52
                  have eq53 := hbb 53 (noDst_spec (by kernel_rfl))
                  simp only [List.getElem?_toArray, List.getElem?_cons_zero, List.getElem?_cons_succ, Option.some.injEq] at eq53
                  subst eq53
                  have eq54 := hbb 54 (noDst_spec (by kernel_rfl))
                  simp only [List.getElem?_toArray, List.getElem?_cons_zero, List.getElem?_cons_succ, Option.some.injEq] at eq54
                  subst eq54
                  have eq55 := hbb 55 (noDst_spec (by kernel_rfl))
                  simp only [List.getElem?_toArray, List.getElem?_cons_zero, List.getElem?_cons_succ, Option.some.injEq] at eq55
                  subst eq55
                  have eq56 := hbb 56 (noDst_spec (by kernel_rfl))
                  simp only [List.getElem?_toArray, List.getElem?_cons_zero, List.getElem?_cons_succ, Option.some.injEq] at eq56
                  subst eq56
                  have eq57 := hbb 57 (noDst_spec (by kernel_rfl))
                  simp only [List.getElem?_toArray, List.getElem?_cons_zero, List.getElem?_cons_succ, Option.some.injEq] at eq57
                  subst eq57
                  have eq58 := hbb 58 (noDst_spec (by kernel_rfl))
                  simp only [List.getElem?_toArray, List.getElem?_cons_zero, List.getElem?_cons_succ, Option.some.injEq] at eq58
                  subst eq58
                  have eq59 := hbb 59 (noDst_spec (by kernel_rfl))
                  simp only [List.getElem?_toArray, List.getElem?_cons_zero, List.getElem?_cons_succ, Option.some.injEq] at eq59
                  subst eq59
                  have eq60 := hbb 60 (noDst_spec (by kernel_rfl))
                  simp only [List.getElem?_toArray, List.getElem?_cons_zero, List.getElem?_cons_succ, Option.some.injEq] at eq60
                  subst eq60
                  have eq61 := hbb 61 (noDst_spec (by kernel_rfl))
                  simp only [List.getElem?_toArray, List.getElem?_cons_zero, List.getElem?_cons_succ, Option.some.injEq] at eq61
                  subst eq61
                  have eq62 := hbb 62 (noDst_spec (by kernel_rfl))
                  simp only [List.getElem?_toArray, List.getElem?_cons_zero, List.getElem?_cons_succ, Option.some.injEq] at eq62
                  subst eq62
                  have eq63 := hbb 63 (noDst_spec (by kernel_rfl))
                  simp only [List.getElem?_toArray, List.getElem?_cons_zero, List.getElem?_cons_succ, Option.some.injEq] at eq63
                  subst eq63
                  have eq64 := hbb 64 (noDst_spec (by kernel_rfl))
                  simp only [List.getElem?_toArray, List.getElem?_cons_zero, List.getElem?_cons_succ, Option.some.injEq] at eq64
                  subst eq64
                  have eq65 := hbb 65 (noDst_spec (by kernel_rfl))
                  simp only [List.getElem?_toArray, List.getElem?_cons_zero, List.getElem?_cons_succ, Option.some.injEq] at eq65
                  subst eq65
                  have eq66 := hbb 66 (noDst_spec (by kernel_rfl))
                  simp only [List.getElem?_toArray, List.getElem?_cons_zero, List.getElem?_cons_succ, Option.some.injEq] at eq66
                  subst eq66
                  have eq67 := hbb 67 (noDst_spec (by kernel_rfl))
                  simp only [List.getElem?_toArray, List.getElem?_cons_zero, List.getElem?_cons_succ, Option.some.injEq] at eq67
                  subst eq67
                  have eq68 := hbb 68 (noDst_spec (by kernel_rfl))
                  simp only [List.getElem?_toArray, List.getElem?_cons_zero, List.getElem?_cons_succ, Option.some.injEq] at eq68
                  subst eq68
                  have eq69 := hbb 69 (noDst_spec (by kernel_rfl))
                  simp only [List.getElem?_toArray, List.getElem?_cons_zero, List.getElem?_cons_succ, Option.some.injEq] at eq69
                  subst eq69
                  have eq70 := hbb 70 (noDst_spec (by kernel_rfl))
                  simp only [List.getElem?_toArray, List.getElem?_cons_zero, List.getElem?_cons_succ, Option.some.injEq] at eq70
                  subst eq70
                  have eq71 := hbb 71 (noDst_spec (by kernel_rfl))
                  simp only [List.getElem?_toArray, List.getElem?_cons_zero, List.getElem?_cons_succ, Option.some.injEq] at eq71
                  subst eq71
                  have eq72 := hbb 72 (noDst_spec (by kernel_rfl))
                  simp only [List.getElem?_toArray, List.getElem?_cons_zero, List.getElem?_cons_succ, Option.some.injEq] at eq72
                  subst eq72
                  have eq73 := hbb 73 (noDst_spec (by kernel_rfl))
                  simp only [List.getElem?_toArray, List.getElem?_cons_zero, List.getElem?_cons_succ, Option.some.injEq] at eq73
                  subst eq73
                  have eq74 := hbb 74 (noDst_spec (by kernel_rfl))
                  simp only [List.getElem?_toArray, List.getElem?_cons_zero, List.getElem?_cons_succ, Option.some.injEq] at eq74
                  subst eq74
                  have eq75 := hbb 75 (noDst_spec (by kernel_rfl))
                  simp only [List.getElem?_toArray, List.getElem?_cons_zero, List.getElem?_cons_succ, Option.some.injEq] at eq75
                  subst eq75
                  have eq76 := hbb 76 (noDst_spec (by kernel_rfl))
                  simp only [List.getElem?_toArray, List.getElem?_cons_zero, List.getElem?_cons_succ, Option.some.injEq] at eq76
                  subst eq76
                  have eq77 := hbb 77 (noDst_spec (by kernel_rfl))
                  simp only [List.getElem?_toArray, List.getElem?_cons_zero, List.getElem?_cons_succ, Option.some.injEq] at eq77
                  subst eq77
                  have eq78 := hbb 78 (noDst_spec (by kernel_rfl))
                  simp only [List.getElem?_toArray, List.getElem?_cons_zero, List.getElem?_cons_succ, Option.some.injEq] at eq78
                  subst eq78
                  have eq79 := hbb 79 (noDst_spec (by kernel_rfl))
                  simp only [List.getElem?_toArray, List.getElem?_cons_zero, List.getElem?_cons_succ, Option.some.injEq] at eq79
                  subst eq79
                  have eq80 := hbb 80 (noDst_spec (by kernel_rfl))
                  simp only [List.getElem?_toArray, List.getElem?_cons_zero, List.getElem?_cons_succ, Option.some.injEq] at eq80
                  subst eq80
                  have eq81 := hbb 81 (noDst_spec (by kernel_rfl))
                  simp only [List.getElem?_toArray, List.getElem?_cons_zero, List.getElem?_cons_succ, Option.some.injEq] at eq81
                  subst eq81
                  have eq82 := hbb 82 (noDst_spec (by kernel_rfl))
                  simp only [List.getElem?_toArray, List.getElem?_cons_zero, List.getElem?_cons_succ, Option.some.injEq] at eq82
                  subst eq82
                  have eq83 := hbb 83 (noDst_spec (by kernel_rfl))
                  simp only [List.getElem?_toArray, List.getElem?_cons_zero, List.getElem?_cons_succ, Option.some.injEq] at eq83
                  subst eq83
                  have eq84 := hbb 84 (noDst_spec (by kernel_rfl))
                  simp only [List.getElem?_toArray, List.getElem?_cons_zero, List.getElem?_cons_succ, Option.some.injEq] at eq84
                  subst eq84
                  have eq85 := hbb 85 (noDst_spec (by kernel_rfl))
                  simp only [List.getElem?_toArray, List.getElem?_cons_zero, List.getElem?_cons_succ, Option.some.injEq] at eq85
                  subst eq85
                  have eq86 := hbb 86 (noDst_spec (by kernel_rfl))
                  simp only [List.getElem?_toArray, List.getElem?_cons_zero, List.getElem?_cons_succ, Option.some.injEq] at eq86
                  subst eq86
                  have eq87 := hbb 87 (noDst_spec (by kernel_rfl))
                  simp only [List.getElem?_toArray, List.getElem?_cons_zero, List.getElem?_cons_succ, Option.some.injEq] at eq87
                  subst eq87
                  have eq88 := hbb 88 (noDst_spec (by kernel_rfl))
                  simp only [List.getElem?_toArray, List.getElem?_cons_zero, List.getElem?_cons_succ, Option.some.injEq] at eq88
                  subst eq88
                  have eq89 := hbb 89 (noDst_spec (by kernel_rfl))
                  simp only [List.getElem?_toArray, List.getElem?_cons_zero, List.getElem?_cons_succ, Option.some.injEq] at eq89
                  subst eq89
                  have eq90 := hbb 90 (noDst_spec (by kernel_rfl))
                  simp only [List.getElem?_toArray, List.getElem?_cons_zero, List.getElem?_cons_succ, Option.some.injEq] at eq90
                  subst eq90
                  have eq91 := hbb 91 (noDst_spec (by kernel_rfl))
                  simp only [List.getElem?_toArray, List.getElem?_cons_zero, List.getElem?_cons_succ, Option.some.injEq] at eq91
                  subst eq91
                  have eq92 := hbb 92 (noDst_spec (by kernel_rfl))
                  simp only [List.getElem?_toArray, List.getElem?_cons_zero, List.getElem?_cons_succ, Option.some.injEq] at eq92
                  subst eq92
                  have eq93 := hbb 93 (noDst_spec (by kernel_rfl))
                  simp only [List.getElem?_toArray, List.getElem?_cons_zero, List.getElem?_cons_succ, Option.some.injEq] at eq93
                  subst eq93
                  have eq94 := hbb 94 (noDst_spec (by kernel_rfl))
                  simp only [List.getElem?_toArray, List.getElem?_cons_zero, List.getElem?_cons_succ, Option.some.injEq] at eq94
                  subst eq94
                  have eq95 := hbb 95 (noDst_spec (by kernel_rfl))
                  simp only [List.getElem?_toArray, List.getElem?_cons_zero, List.getElem?_cons_succ, Option.some.injEq] at eq95
                  subst eq95
                  have eq96 := hbb 96 (noDst_spec (by kernel_rfl))
                  simp only [List.getElem?_toArray, List.getElem?_cons_zero, List.getElem?_cons_succ, Option.some.injEq] at eq96
                  subst eq96
                  have eq97 := hbb 97 (noDst_spec (by kernel_rfl))
                  simp only [List.getElem?_toArray, List.getElem?_cons_zero, List.getElem?_cons_succ, Option.some.injEq] at eq97
                  subst eq97
                  have eq98 := hbb 98 (noDst_spec (by kernel_rfl))
                  simp only [List.getElem?_toArray, List.getElem?_cons_zero, List.getElem?_cons_succ, Option.some.injEq] at eq98
                  subst eq98
                  have eq99 := hbb 99 (noDst_spec (by kernel_rfl))
                  simp only [List.getElem?_toArray, List.getElem?_cons_zero, List.getElem?_cons_succ, Option.some.injEq] at eq99
                  subst eq99
                  have eq100 := hbb 100 (noDst_spec (by kernel_rfl))
                  simp only [List.getElem?_toArray, List.getElem?_cons_zero, List.getElem?_cons_succ, Option.some.injEq] at eq100
                  subst eq100
                  have eq101 := hbb 101 (noDst_spec (by kernel_rfl))
                  simp only [List.getElem?_toArray, List.getElem?_cons_zero, List.getElem?_cons_succ, Option.some.injEq] at eq101
                  subst eq101
                  have eq102 := hbb 102 (noDst_spec (by kernel_rfl))
                  simp only [List.getElem?_toArray, List.getElem?_cons_zero, List.getElem?_cons_succ, Option.some.injEq] at eq102
                  subst eq102
                  have eq103 := hbb 103 (noDst_spec (by kernel_rfl))
                  simp only [List.getElem?_toArray, List.getElem?_cons_zero, List.getElem?_cons_succ, Option.some.injEq] at eq103
                  subst eq103
                  have eq104 := hbb 104 (noDst_spec (by kernel_rfl))
                  simp only [List.getElem?_toArray, List.getElem?_cons_zero, List.getElem?_cons_succ, Option.some.injEq] at eq104
                  subst eq104
                  have eq105 := hbb 105 (noDst_spec (by kernel_rfl))
                  simp only [List.getElem?_toArray, List.getElem?_cons_zero, List.getElem?_cons_succ, Option.some.injEq] at eq105
                  subst eq105
                  have eq106 := hbb 106 (noDst_spec (by kernel_rfl))
                  simp only [List.getElem?_toArray, List.getElem?_cons_zero, List.getElem?_cons_succ, Option.some.injEq] at eq106
                  subst eq106
                  have eq107 := hbb 107 (noDst_spec (by kernel_rfl))
                  simp only [List.getElem?_toArray, List.getElem?_cons_zero, List.getElem?_cons_succ, Option.some.injEq] at eq107
                  subst eq107
                  have eq108 := hbb 108 (noDst_spec (by kernel_rfl))
                  simp only [List.getElem?_toArray, List.getElem?_cons_zero, List.getElem?_cons_succ, Option.some.injEq] at eq108
                  subst eq108
                  have eq109 := hbb 109 (noDst_spec (by kernel_rfl))
                  simp only [List.getElem?_toArray, List.getElem?_cons_zero, List.getElem?_cons_succ, Option.some.injEq] at eq109
                  subst eq109
                  have eq110 := hbb 110 (noDst_spec (by kernel_rfl))
                  simp only [List.getElem?_toArray, List.getElem?_cons_zero, List.getElem?_cons_succ, Option.some.injEq] at eq110
                  subst eq110
                  have eq111 := hbb 111 (noDst_spec (by kernel_rfl))
                  simp only [List.getElem?_toArray, List.getElem?_cons_zero, List.getElem?_cons_succ, Option.some.injEq] at eq111
                  subst eq111
                  have eq112 := hbb 112 (noDst_spec (by kernel_rfl))
                  simp only [List.getElem?_toArray, List.getElem?_cons_zero, List.getElem?_cons_succ, Option.some.injEq] at eq112
                  subst eq112
                  have eq113 := hbb 113 (noDst_spec (by kernel_rfl))
                  simp only [List.getElem?_toArray, List.getElem?_cons_zero, List.getElem?_cons_succ, Option.some.injEq] at eq113
                  subst eq113
                  have eq114 := hbb 114 (noDst_spec (by kernel_rfl))
                  simp only [List.getElem?_toArray, List.getElem?_cons_zero, List.getElem?_cons_succ, Option.some.injEq] at eq114
                  subst eq114
                  have eq115 := hbb 115 (noDst_spec (by kernel_rfl))
                  simp only [List.getElem?_toArray, List.getElem?_cons_zero, List.getElem?_cons_succ, Option.some.injEq] at eq115
                  subst eq115
                  have eq116 := hbb 116 (noDst_spec (by kernel_rfl))
                  simp only [List.getElem?_toArray, List.getElem?_cons_zero, List.getElem?_cons_succ, Option.some.injEq] at eq116
                  subst eq116
                  have eq117 := hbb 117 (noDst_spec (by kernel_rfl))
                  simp only [List.getElem?_toArray, List.getElem?_cons_zero, List.getElem?_cons_succ, Option.some.injEq] at eq117
                  subst eq117
                  have eq118 := hbb 118 (noDst_spec (by kernel_rfl))
                  simp only [List.getElem?_toArray, List.getElem?_cons_zero, List.getElem?_cons_succ, Option.some.injEq] at eq118
                  subst eq118
                  have eq119 := hbb 119 (noDst_spec (by kernel_rfl))
                  simp only [List.getElem?_toArray, List.getElem?_cons_zero, List.getElem?_cons_succ, Option.some.injEq] at eq119
                  subst eq119
                  have eq120 := hbb 120 (noDst_spec (by kernel_rfl))
                  simp only [List.getElem?_toArray, List.getElem?_cons_zero, List.getElem?_cons_succ, Option.some.injEq] at eq120
                  subst eq120
                  have eq121 := hbb 121 (noDst_spec (by kernel_rfl))
                  simp only [List.getElem?_toArray, List.getElem?_cons_zero, List.getElem?_cons_succ, Option.some.injEq] at eq121
                  subst eq121
                  have eq122 := hbb 122 (noDst_spec (by kernel_rfl))
                  simp only [List.getElem?_toArray, List.getElem?_cons_zero, List.getElem?_cons_succ, Option.some.injEq] at eq122
                  subst eq122
                  have eq123 := hbb 123 (noDst_spec (by kernel_rfl))
                  simp only [List.getElem?_toArray, List.getElem?_cons_zero, List.getElem?_cons_succ, Option.some.injEq] at eq123
                  subst eq123
                  have eq124 := hbb 124 (noDst_spec (by kernel_rfl))
                  simp only [List.getElem?_toArray, List.getElem?_cons_zero, List.getElem?_cons_succ, Option.some.injEq] at eq124
                  subst eq124
                  have eq125 := hbb 125 (noDst_spec (by kernel_rfl))
                  simp only [List.getElem?_toArray, List.getElem?_cons_zero, List.getElem?_cons_succ, Option.some.injEq] at eq125
                  subst eq125
                  have eq126 := hbb 126 (noDst_spec (by kernel_rfl))
                  simp only [List.getElem?_toArray, List.getElem?_cons_zero, List.getElem?_cons_succ, Option.some.injEq] at eq126
                  subst eq126
                  have eq127 := hbb 127 (noDst_spec (by kernel_rfl))
                  simp only [List.getElem?_toArray, List.getElem?_cons_zero, List.getElem?_cons_succ, Option.some.injEq] at eq127
                  subst eq127
                  have eq128 := hbb 128 (noDst_spec (by kernel_rfl))
                  simp only [List.getElem?_toArray, List.getElem?_cons_zero, List.getElem?_cons_succ, Option.some.injEq] at eq128
                  subst eq128
                  have eq129 := hbb 129 (noDst_spec (by kernel_rfl))
                  simp only [List.getElem?_toArray, List.getElem?_cons_zero, List.getElem?_cons_succ, Option.some.injEq] at eq129
                  subst eq129
                  have eq130 := hbb 130 (noDst_spec (by kernel_rfl))
                  simp only [List.getElem?_toArray, List.getElem?_cons_zero, List.getElem?_cons_succ, Option.some.injEq] at eq130
                  subst eq130
                  have eq131 := hbb 131 (noDst_spec (by kernel_rfl))
                  simp only [List.getElem?_toArray, List.getElem?_cons_zero, List.getElem?_cons_succ, Option.some.injEq] at eq131
                  subst eq131
                  have eq132 := hbb 132 (noDst_spec (by kernel_rfl))
                  simp only [List.getElem?_toArray, List.getElem?_cons_zero, List.getElem?_cons_succ, Option.some.injEq] at eq132
                  subst eq132
                  have eq133 := hbb 133 (noDst_spec (by kernel_rfl))
                  simp only [List.getElem?_toArray, List.getElem?_cons_zero, List.getElem?_cons_succ, Option.some.injEq] at eq133
                  subst eq133
                  have eq134 := hbb 134 (noDst_spec (by kernel_rfl))
                  simp only [List.getElem?_toArray, List.getElem?_cons_zero, List.getElem?_cons_succ, Option.some.injEq] at eq134
                  subst eq134
                  have eq135 := hbb 135 (noDst_spec (by kernel_rfl))
                  simp only [List.getElem?_toArray, List.getElem?_cons_zero, List.getElem?_cons_succ, Option.some.injEq] at eq135
                  subst eq135
                  have eq136 := hbb 136 (noDst_spec (by kernel_rfl))
                  simp only [List.getElem?_toArray, List.getElem?_cons_zero, List.getElem?_cons_succ, Option.some.injEq] at eq136
                  subst eq136
                  have eq137 := hbb 137 (noDst_spec (by kernel_rfl))
                  simp only [List.getElem?_toArray, List.getElem?_cons_zero, List.getElem?_cons_succ, Option.some.injEq] at eq137
                  subst eq137
                  have eq138 := hbb 138 (noDst_spec (by kernel_rfl))
                  simp only [List.getElem?_toArray, List.getElem?_cons_zero, List.getElem?_cons_succ, Option.some.injEq] at eq138
                  subst eq138
                  have eq139 := hbb 139 (noDst_spec (by kernel_rfl))
                  simp only [List.getElem?_toArray, List.getElem?_cons_zero, List.getElem?_cons_succ, Option.some.injEq] at eq139
                  subst eq139
                  obtain rfl : df = [] := hbd
                  clear hbb
                  rename_i hKK _q _j
                  dsimp only [Exit.then]
                  refine hKK _ W ?_
                  have ht : ∀ q : List Value, Array.mk q = List.toArray q := fun _ => rfl
                  rw [ht]
                  go_wp2_with fail
                  go_roundw
                  case rel => exact ⟨k + 1, n', b', s', A', a1', k1', a2', k2', by go_num, by omega, by omega, hn', Lib.hid (HWy.out.still hTW.out), Lib.hid (HRy.out.still hTW.out), Lib.hid (HTy.out.trans (hTW.out.mono (fun _ e => e.elim)))⟩
                  case measure => simp [intOf]; omega
      · by_cases h : k < l.length
        · have h1 : (k : Int) < (l.length : Int) := by omega
          have h2 : ¬ (k : Int) < 60 := by omega
          clear hlt
          go_wp2_with fail
          go_ret
          exact ⟨rfl, touch_new HT.out⟩
        · have h1 : ¬ (k : Int) < (l.length : Int) := by omega
          clear hlt
          go_wp2_with fail
          go_ret
          exact ⟨rfl, touch_new HT.out⟩
end Go.Proofs.Ytjlpggffbmcmnaa
