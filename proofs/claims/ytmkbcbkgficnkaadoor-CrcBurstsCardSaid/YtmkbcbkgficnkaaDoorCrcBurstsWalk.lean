/- The walk of the statement CrcBursts over the translated program. -/
import Derived.Test.YtmkbcbkgficnkaaDoorCrcS
import Derived.Deep.RegionWith
import Derived.Laws.MakeOwn
import Derived.Laws.IdiomStrings
namespace Go.Proofs.YtmkbcbkgficnkaaDoor
open Go Go.RowKit

/-- Bytes that a string was turned into: its row bears a mark behind its end. -/
def BufAt (w : World) (G : Nat) (e : List UInt8) : Prop :=
  ∃ cur : Array Value, w.heap[G]? = some (.cells cur 5 (cur.size, cur.size + 1)) ∧ e.length ≤ cur.size ∧ cur.toList.take e.length = byteVs e

theorem BufAt.cell {w : World} {G : Nat} {e : List UInt8} (h : BufAt w G e) {j : Nat} (hj : j < e.length) : w.cell? ⟨G, j, none⟩ = some (.int .u8 (e[j].toNat : Int)) := by
  obtain ⟨cur, h1, h2, h3⟩ := h
  rw [cell_of_row w G j cur _ _ h1, ← Array.getElem?_toList]
  have h4 := congrArg (fun l => l[j]?) h3
  simp only [List.getElem?_take, if_pos hj] at h4
  rw [h4]
  simp [byteVs, hj]
theorem BufAt.free {w : World} {G : Nat} {e : List UInt8} (h : BufAt w G e) {j : Nat} (hj : j < e.length) : w.frozen? ⟨G, j, none⟩ = false := by
  obtain ⟨cur, h1, h2, _⟩ := h
  simp only [World.frozen?, h1]
  simp
  omega
theorem BufAt.set {w : World} {G : Nat} {e : List UInt8} (h : BufAt w G e) (j : Nat) (x : UInt8) : BufAt (w.setCell ⟨G, j, none⟩ (.int .u8 (x.toNat : Int))) G (e.set j x) := by
  obtain ⟨cur, h1, h2, h3⟩ := h
  refine ⟨cur.setIfInBounds j (.int .u8 (x.toNat : Int)), by rw [heap_setCell_same _ h1]; simp, by simpa using h2, ?_⟩
  rw [Array.toList_setIfInBounds, List.length_set, List.take_set, h3]
  simp [byteVs, List.map_set]
theorem BufAt.kept {S : Nat → Prop} {w w' : World} {G : Nat} {e : List UInt8} (h : BufAt w G e) (ht : Touch S w w') (hn : ¬ S G) : BufAt w' G e := by
  obtain ⟨cur, h1, h2⟩ := h
  exact ⟨cur, (ht.block G (Array.getElem?_eq_some_iff.1 h1).1 hn).trans h1, h2⟩
theorem BufAt.new (w : World) (s : ByteArray) (cap : Nat) : BufAt (w.alloc (.cells (bytesRow s cap) 5 ((bytesRow s cap).size, (bytesRow s cap).size + 1))) w.heap.size s.data.toList := by
  refine ⟨_, heap_alloc_new w _, ?_, ?_⟩
  · simp [bytesRow]
  · simp [bytesRow, byteVs]

theorem getN_set (e : List UInt8) (j r : Nat) (hj : j < e.length) (hr : r < 8) : getN (e.set j (UInt8.ofNat (e[j].toNat ^^^ 2 ^ r))) = getN e ^^^ 2 ^ (8 * j + r) := by
  induction e generalizing j with
  | nil => cases hj
  | cons c t ih =>
    have hc : c.toNat < 2 ^ 8 := c.toNat_lt
    have h2r : 2 ^ r < 2 ^ 8 := Nat.pow_lt_pow_right (by decide) hr
    cases j with
    | zero =>
      simp only [List.set_cons_zero, List.getElem_cons_zero, getN_cons_xor]
      have hx : c.toNat ^^^ 2 ^ r < 2 ^ 8 := Nat.xor_lt_two_pow hc h2r
      rw [UInt8.toNat_ofNat_of_lt' hx, Nat.mul_zero, Nat.zero_add, Nat.xor_assoc, Nat.xor_assoc, Nat.xor_comm (2 ^ r)]
    | succ j =>
      simp only [List.set_cons_succ, List.getElem_cons_succ, getN_cons_xor]
      rw [ih j (by simpa using hj), show 8 * (j + 1) + r = 8 * j + r + 8 by omega, Nat.pow_add 2 (8 * j + r) 8]
      generalize 2 ^ (8 * j + r) = q
      rw [← Nat.shiftLeft_eq, ← Nat.shiftLeft_eq (getN t), ← Nat.shiftLeft_eq q, Nat.shiftLeft_xor_distrib, Nat.xor_assoc]

theorem burst_step (burst k bit : Nat) (h : burst / 2 ^ k % 2 = 1) : burst % 2 ^ (k + 1) * 2 ^ bit = (burst % 2 ^ k * 2 ^ bit) ^^^ 2 ^ (bit + k) := by
  rw [mod_step, h, Nat.mul_one, Nat.add_comm bit k, Nat.pow_add]
  have h1 : burst % 2 ^ k + 2 ^ k = burst % 2 ^ k ^^^ 2 ^ k := by
    have h2 : burst % 2 ^ k < 2 ^ k := Nat.mod_lt _ (Nat.two_pow_pos k)
    apply Nat.eq_of_testBit_eq
    intro i
    rw [Nat.add_comm, Nat.testBit_xor, Nat.testBit_two_pow]
    by_cases hi : k = i
    · subst hi
      rw [Nat.testBit_two_pow_add_eq, Nat.testBit_lt_two_pow h2]; simp
    · by_cases hlt : i < k
      · rw [Nat.testBit_two_pow_add_gt hlt]; simp [hi]
      · have hki : k < i := by omega
        have h3 : 2 ^ k + burst % 2 ^ k < 2 ^ i := Nat.lt_of_lt_of_le (show _ < 2 ^ (k + 1) by rw [Nat.pow_succ]; omega) (Nat.pow_le_pow_right (by decide) hki)
        rw [Nat.testBit_lt_two_pow h3, Nat.testBit_lt_two_pow (Nat.lt_trans (by omega) h3)]; simp [hi]
  rw [h1, ← Nat.shiftLeft_eq, ← Nat.shiftLeft_eq, ← Nat.shiftLeft_eq, Nat.shiftLeft_xor_distrib]
theorem burst_stay (burst k bit : Nat) (h : burst / 2 ^ k % 2 ≠ 1) : burst % 2 ^ (k + 1) * 2 ^ bit = burst % 2 ^ k * 2 ^ bit := by
  rw [mod_step, show burst / 2 ^ k % 2 = 0 by omega, Nat.mul_zero, Nat.add_zero]

theorem bit_val (at_ : Int) (n : Nat) (hn : 5 ≤ n) : ∃ (r : Int) (k : Nat), at_.tmod (8 * (n : Int) - 32) = r ∧ -(8 * (n : Int) - 32) < r ∧ r < 8 * (n : Int) - 32 ∧ (r + 8 * n - 32) % (8 * (n : Int) - 32) = k ∧ k + 32 < 8 * n := by
  have h1 := Int.tmod_lt_of_pos at_ (show (0 : Int) < 8 * (n : Int) - 32 by omega)
  have h2 : -(8 * (n : Int) - 32) < at_.tmod (8 * (n : Int) - 32) := Int.lt_tmod_of_pos at_ (by omega)
  have h3 := Int.emod_nonneg (at_.tmod (8 * (n : Int) - 32) + 8 * n - 32) (show 8 * (n : Int) - 32 ≠ 0 by omega)
  have h4 := Int.emod_lt_of_pos (at_.tmod (8 * (n : Int) - 32) + 8 * n - 32) (show (0 : Int) < 8 * (n : Int) - 32 by omega)
  refine ⟨at_.tmod (8 * (n : Int) - 32), ((at_.tmod (8 * (n : Int) - 32) + 8 * n - 32) % (8 * (n : Int) - 32)).toNat, rfl, h2, h1, by omega, by omega⟩

def BurstInv (w : World) (G : Nat) (a : List UInt8) (bit burst : Nat) (i : Value) (wr : World) : Prop :=
  ∃ (k : Nat) (e : List UInt8), i = .int .i64 (k : Nat) ∧ k ≤ 32 ∧ e.length = a.length ∧ getN e = getN a ^^^ burst % 2 ^ k * 2 ^ bit ∧ BufAt wr G e ∧ Touch (fun _ => False) w wr

set_option maxHeartbeats 1600000 in
theorem bursts_s (s : ByteArray) (at_ : Int) (burst : Nat) (w : World) (hp : PowAt w) (hb : burst < 4294967296) (h0 : burst ≠ 0) (hs : s.size ≤ 500) :
    Calls Tryd.prog 5 #[.string s, .int .i64 at_, .int .u32 burst] w fun e w' => e = .returned (.bool true) ∧ Touch (fun _ => False) w w' := by
  go_enter Tryd.func5, Tryd.ntmps5
  go_wp2_with fail
  refine (speaks_calls _ hp).mono ?_
  rintro e w1 ⟨rfl, hT1⟩
  have hp1 := hp.kept hT1
  go_wp2_with fail
  have hsz : (s ++ ⟨#[49, 50, 51, 52, 53]⟩ : ByteArray).size = s.size + 5 := by simp [ByteArray.size_append]; rfl
  generalize (s ++ ⟨#[49, 50, 51, 52, 53]⟩ : ByteArray) = t at hsz ⊢
  rw [run_bytes_of_string w1 9 32 5 t Tryd.underlying9 Tryd.underlying32 Tryd.underlying5]
  have hB := BufAt.new w1.drew t (grownCap w1 t.size 0 5)
  have hT2 := hT1.drew.alloc (.cells (bytesRow t (grownCap w1 t.size 0 5)) 5 ((bytesRow t (grownCap w1 t.size 0 5)).size, (bytesRow t (grownCap w1 t.size 0 5)).size + 1))
  have hGw : w.heap.size ≤ w1.heap.size := hT1.size
  change BufAt _ w1.heap.size _ at hB
  generalize w1.drew.alloc (.cells (bytesRow t (grownCap w1 t.size 0 5)) 5 ((bytesRow t (grownCap w1 t.size 0 5)).size, (bytesRow t (grownCap w1 t.size 0 5)).size + 1)) = w2 at hB hT2 ⊢
  generalize grownCap w1 t.size 0 5 = cap
  generalize w1.heap.size = G at hB hGw ⊢
  have htl := data_length t
  obtain ⟨n, hn⟩ : ∃ n, n = t.size := ⟨_, rfl⟩
  rw [← hn] at htl hsz ⊢
  have hn5 : 5 ≤ n ∧ n ≤ 505 := by omega
  have HN := Lib.hid (And.intro hsz hn)
  clear hsz hn
  obtain ⟨r, bit, hr, hr1, hr2, hbit, hbit2⟩ := bit_val at_ n (by omega)
  go_wp2_with fail
  rw [hbit]
  clear hr hbit hr1 hr2
  go_loopw [9] (BurstInv w G t.data.toList bit burst) (fun i _ => 32 - (intOf i).toNat)
  case atStart => exact ⟨0, t.data.toList, rfl, by omega, rfl, by rw [Nat.pow_zero, Nat.mod_one, Nat.zero_mul, Nat.xor_zero], hB, hT2⟩
  case round =>
    obtain ⟨k, e, rfl, hk, hel, hge, hBe, hTe⟩ := hrel
    have HGE := Lib.hid hge
    clear hge
    by_cases hlt : k < 32
    · have hb1 : bits .and .u32 ((burst : Int) / 2 ^ k) 1 = ((burst / 2 ^ k % 2 : Nat) : Int) := by
        rw [show (burst : Int) / 2 ^ k = ((burst / 2 ^ k : Nat) : Int) by simp]
        exact and1_u32 _ (Nat.lt_of_le_of_lt (Nat.div_le_self _ _) hb)
      by_cases h1 : burst / 2 ^ k % 2 = 1
      · rw [h1] at hb1
        obtain ⟨j, hj1⟩ : ∃ j, j = (bit + k) / 8 := ⟨_, rfl⟩
        obtain ⟨m, hm1⟩ : ∃ m, m = (bit + k) % 8 := ⟨_, rfl⟩
        have hq : ((bit : Int) + k) / 8 = (j : Int) := by omega
        have hr : ((bit : Int) + k) % 8 = (m : Int) := by omega
        have hjn : j < n := by omega
        have hm8 : m < 8 := by omega
        have hj : j < e.length := by omega
        have hc := hBe.cell hj
        have hf := hBe.free hj
        have hx := e[j].toNat_lt
        have hgs := Lib.hid (getN_set e j m hj hm8)
        have HJ := Lib.hid (show 8 * j + m = bit + k by omega)
        clear hj1 hm1
        generalize hev : e[j].toNat = ev at hc hx hgs
        clear hev
        go_wp2_with fail
        go_region
        go_wp2_with fail
        go_roundw
        case rel =>
          have hxv : bits .xor .u8 (ev : Int) ((2 : Int) ^ m % 256) = ((UInt8.ofNat (ev ^^^ 2 ^ m)).toNat : Int) := by
            have h2 : 2 ^ m < 2 ^ 8 := Nat.pow_lt_pow_right (by decide) hm8
            have h3 : (2 : Int) ^ m % 256 = ((2 ^ m : Nat) : Int) := by
              rw [show (2 : Int) ^ m = ((2 ^ m : Nat) : Int) by simp]
              generalize 2 ^ m = q at h2
              omega
            rw [h3, u8_xor_nat _ _ hx h2, UInt8.toNat_ofNat_of_lt' (Nat.xor_lt_two_pow (n := 8) hx h2)]
          rw [hxv]
          refine ⟨k + 1, e.set j (UInt8.ofNat (ev ^^^ 2 ^ m)), by go_num, by omega, by rw [List.length_set]; exact hel, by rw [hgs.out, HGE.out, HJ.out, burst_step _ _ _ h1, Nat.xor_assoc], ?_, ?_⟩
          · exact (hBe.set j _).kept (Touch.refl (fun _ => False) _).drew id
          · exact (hTe.setCell (.inr (by have := hT2; omega)) _).drew
        case measure => simp [intOf]; omega
      · have h2 : burst / 2 ^ k % 2 = 0 := by omega
        rw [h2] at hb1
        go_wp2_with fail
        go_roundw
        case rel => exact ⟨k + 1, e, by go_num, by omega, hel, by rw [burst_stay _ _ _ h1]; exact HGE.out, hBe, hTe⟩
        case measure => simp [intOf]; omega
    · have hk2 : k = 32 := by omega
      subst hk2
      go_wp2_with fail
      refine (make_calls _).mono ?_
      rintro e1 w3 ⟨rfl, ht3, hT3⟩
      have hB3 := hBe.kept hT3 id
      have hT := hTe.trans hT3
      generalize wr.heap.size = B at ht3 ⊢
      clear hBe hTe hT3
      have hcv : ∀ W : World, BufAt W G e → (convert 32 9 (.slice (some ⟨G, 0, none⟩) n cap)).run Tryd.prog W = .ok (.string ⟨e.toArray⟩) W := fun W h => by
        have := run_convert_bytes_back (P := Tryd.prog) W 32 9 5 ⟨G, 0, none⟩ cap e Tryd.underlying32 Tryd.underlying5 Tryd.underlying9 (fun j hj => by
          have h1 := h.cell hj
          have h2 : (⟨G, 0, none⟩ : Addr).add j = ⟨G, j, none⟩ := by
            by_cases h0 : j = 0
            · subst h0; simp [Addr.add]
            · simp [Addr.add, h0]
          rw [h2]; exact h1)
        rwa [hel.trans htl] at this
      have hne : moreN 0 e ≠ moreN 0 t.data.toList := burst_ne _ _ bit burst (by rw [hel]) (by rw [HGE.out, Nat.mod_eq_of_lt (by omega)]) hb h0 (by omega)
      have hse : (⟨e.toArray⟩ : ByteArray).size = n := by rw [← hel.trans htl]; rfl
      have s1 := fun (W : World) (h : TabAt W B) => sum_calls B ⟨e.toArray⟩ W h (by omega)
      have s2 := fun (W : World) (h : TabAt W B) => sum_calls B t W h (by have := HN.out; omega)
      rw [show (⟨e.toArray⟩ : ByteArray).data.toList = e from rfl] at s1
      generalize moreN 0 e = x at hne s1
      generalize moreN 0 t.data.toList = y at hne s2
      generalize (⟨e.toArray⟩ : ByteArray) = es at hcv hse s1
      have S1 := Lib.hid s1
      have S2 := Lib.hid s2
      have HT3 := Lib.hid ht3
      have hcv3 := hcv _ hB3
      clear s1 s2 hB3 ht3 hcv
      go_wp2_with fail
      refine (S1.out _ HT3.out).mono ?_
      rintro e1 w4 ⟨rfl, n4, rfl⟩
      go_wp2_with fail
      refine (S2.out _ (HT3.out.drewN n4)).mono ?_
      rintro e1 w5 ⟨rfl, n5, rfl⟩
      go_wp2_with fail
      have hbx : ((x : Int) != (y : Int)) = true := bne_iff_ne.2 (by intro h; exact hne (by omega))
      go_ret
      exact ⟨ret1 (congrArg Value.bool hbx), hT.drewN _⟩
set_option maxHeartbeats 1600000 in
theorem bursts_l (s : ByteArray) (at_ : Int) (burst : Nat) (w : World) (hp : PowAt w) (hb : burst < 4294967296) (h0 : burst ≠ 0) (hs : 500 < s.size) (hs2 : s.size ≤ 9223372036854775807) :
    Calls Tryd.prog 5 #[.string s, .int .i64 at_, .int .u32 burst] w fun e w' => e = .returned (.bool true) ∧ Touch (fun _ => False) w w' := by
  go_enter Tryd.func5, Tryd.ntmps5
  go_wp2_with fail
  refine (speaks_calls _ hp).mono ?_
  rintro e w1 ⟨rfl, hT1⟩
  have hp1 := hp.kept hT1
  go_wp2_with fail
  have hs' : (s.extract 0 500).size = 500 := by simp; omega
  generalize s.extract 0 500 = s' at hs' ⊢
  have hsz : (s' ++ ⟨#[49, 50, 51, 52, 53]⟩ : ByteArray).size = s'.size + 5 := by simp [ByteArray.size_append]; rfl
  generalize (s' ++ ⟨#[49, 50, 51, 52, 53]⟩ : ByteArray) = t at hsz ⊢
  rw [run_bytes_of_string w1 9 32 5 t Tryd.underlying9 Tryd.underlying32 Tryd.underlying5]
  have hB := BufAt.new w1.drew t (grownCap w1 t.size 0 5)
  have hT2 := hT1.drew.alloc (.cells (bytesRow t (grownCap w1 t.size 0 5)) 5 ((bytesRow t (grownCap w1 t.size 0 5)).size, (bytesRow t (grownCap w1 t.size 0 5)).size + 1))
  have hGw : w.heap.size ≤ w1.heap.size := hT1.size
  change BufAt _ w1.heap.size _ at hB
  generalize w1.drew.alloc (.cells (bytesRow t (grownCap w1 t.size 0 5)) 5 ((bytesRow t (grownCap w1 t.size 0 5)).size, (bytesRow t (grownCap w1 t.size 0 5)).size + 1)) = w2 at hB hT2 ⊢
  generalize grownCap w1 t.size 0 5 = cap
  generalize w1.heap.size = G at hB hGw ⊢
  have htl := data_length t
  obtain ⟨n, hn⟩ : ∃ n, n = t.size := ⟨_, rfl⟩
  rw [← hn] at htl hsz ⊢
  have hn5 : 5 ≤ n ∧ n ≤ 505 := by omega
  have HN := Lib.hid (And.intro hsz hn)
  clear hsz hn
  obtain ⟨r, bit, hr, hr1, hr2, hbit, hbit2⟩ := bit_val at_ n (by omega)
  go_wp2_with fail
  rw [hbit]
  clear hr hbit hr1 hr2
  go_loopw [9] (BurstInv w G t.data.toList bit burst) (fun i _ => 32 - (intOf i).toNat)
  case atStart => exact ⟨0, t.data.toList, rfl, by omega, rfl, by rw [Nat.pow_zero, Nat.mod_one, Nat.zero_mul, Nat.xor_zero], hB, hT2⟩
  case round =>
    obtain ⟨k, e, rfl, hk, hel, hge, hBe, hTe⟩ := hrel
    have HGE := Lib.hid hge
    clear hge
    by_cases hlt : k < 32
    · have hb1 : bits .and .u32 ((burst : Int) / 2 ^ k) 1 = ((burst / 2 ^ k % 2 : Nat) : Int) := by
        rw [show (burst : Int) / 2 ^ k = ((burst / 2 ^ k : Nat) : Int) by simp]
        exact and1_u32 _ (Nat.lt_of_le_of_lt (Nat.div_le_self _ _) hb)
      by_cases h1 : burst / 2 ^ k % 2 = 1
      · rw [h1] at hb1
        obtain ⟨j, hj1⟩ : ∃ j, j = (bit + k) / 8 := ⟨_, rfl⟩
        obtain ⟨m, hm1⟩ : ∃ m, m = (bit + k) % 8 := ⟨_, rfl⟩
        have hq : ((bit : Int) + k) / 8 = (j : Int) := by omega
        have hr : ((bit : Int) + k) % 8 = (m : Int) := by omega
        have hjn : j < n := by omega
        have hm8 : m < 8 := by omega
        have hj : j < e.length := by omega
        have hc := hBe.cell hj
        have hf := hBe.free hj
        have hx := e[j].toNat_lt
        have hgs := Lib.hid (getN_set e j m hj hm8)
        have HJ := Lib.hid (show 8 * j + m = bit + k by omega)
        clear hj1 hm1
        generalize hev : e[j].toNat = ev at hc hx hgs
        clear hev
        go_wp2_with fail
        go_region
        go_wp2_with fail
        go_roundw
        case rel =>
          have hxv : bits .xor .u8 (ev : Int) ((2 : Int) ^ m % 256) = ((UInt8.ofNat (ev ^^^ 2 ^ m)).toNat : Int) := by
            have h2 : 2 ^ m < 2 ^ 8 := Nat.pow_lt_pow_right (by decide) hm8
            have h3 : (2 : Int) ^ m % 256 = ((2 ^ m : Nat) : Int) := by
              rw [show (2 : Int) ^ m = ((2 ^ m : Nat) : Int) by simp]
              generalize 2 ^ m = q at h2
              omega
            rw [h3, u8_xor_nat _ _ hx h2, UInt8.toNat_ofNat_of_lt' (Nat.xor_lt_two_pow (n := 8) hx h2)]
          rw [hxv]
          refine ⟨k + 1, e.set j (UInt8.ofNat (ev ^^^ 2 ^ m)), by go_num, by omega, by rw [List.length_set]; exact hel, by rw [hgs.out, HGE.out, HJ.out, burst_step _ _ _ h1, Nat.xor_assoc], ?_, ?_⟩
          · exact (hBe.set j _).kept (Touch.refl (fun _ => False) _).drew id
          · exact (hTe.setCell (.inr (by have := hT2; omega)) _).drew
        case measure => simp [intOf]; omega
      · have h2 : burst / 2 ^ k % 2 = 0 := by omega
        rw [h2] at hb1
        go_wp2_with fail
        go_roundw
        case rel => exact ⟨k + 1, e, by go_num, by omega, hel, by rw [burst_stay _ _ _ h1]; exact HGE.out, hBe, hTe⟩
        case measure => simp [intOf]; omega
    · have hk2 : k = 32 := by omega
      subst hk2
      go_wp2_with fail
      refine (make_calls _).mono ?_
      rintro e1 w3 ⟨rfl, ht3, hT3⟩
      have hB3 := hBe.kept hT3 id
      have hT := hTe.trans hT3
      generalize wr.heap.size = B at ht3 ⊢
      clear hBe hTe hT3
      have hcv : ∀ W : World, BufAt W G e → (convert 32 9 (.slice (some ⟨G, 0, none⟩) n cap)).run Tryd.prog W = .ok (.string ⟨e.toArray⟩) W := fun W h => by
        have := run_convert_bytes_back (P := Tryd.prog) W 32 9 5 ⟨G, 0, none⟩ cap e Tryd.underlying32 Tryd.underlying5 Tryd.underlying9 (fun j hj => by
          have h1 := h.cell hj
          have h2 : (⟨G, 0, none⟩ : Addr).add j = ⟨G, j, none⟩ := by
            by_cases h0 : j = 0
            · subst h0; simp [Addr.add]
            · simp [Addr.add, h0]
          rw [h2]; exact h1)
        rwa [hel.trans htl] at this
      have hne : moreN 0 e ≠ moreN 0 t.data.toList := burst_ne _ _ bit burst (by rw [hel]) (by rw [HGE.out, Nat.mod_eq_of_lt (by omega)]) hb h0 (by omega)
      have hse : (⟨e.toArray⟩ : ByteArray).size = n := by rw [← hel.trans htl]; rfl
      have s1 := fun (W : World) (h : TabAt W B) => sum_calls B ⟨e.toArray⟩ W h (by omega)
      have s2 := fun (W : World) (h : TabAt W B) => sum_calls B t W h (by have := HN.out; omega)
      rw [show (⟨e.toArray⟩ : ByteArray).data.toList = e from rfl] at s1
      generalize moreN 0 e = x at hne s1
      generalize moreN 0 t.data.toList = y at hne s2
      generalize (⟨e.toArray⟩ : ByteArray) = es at hcv hse s1
      have S1 := Lib.hid s1
      have S2 := Lib.hid s2
      have HT3 := Lib.hid ht3
      have hcv3 := hcv _ hB3
      clear s1 s2 hB3 ht3 hcv
      go_wp2_with fail
      refine (S1.out _ HT3.out).mono ?_
      rintro e1 w4 ⟨rfl, n4, rfl⟩
      go_wp2_with fail
      refine (S2.out _ (HT3.out.drewN n4)).mono ?_
      rintro e1 w5 ⟨rfl, n5, rfl⟩
      go_wp2_with fail
      have hbx : ((x : Int) != (y : Int)) = true := bne_iff_ne.2 (by intro h; exact hne (by omega))
      go_ret
      exact ⟨ret1 (congrArg Value.bool hbx), hT.drewN _⟩

set_option maxHeartbeats 400000 in
theorem bursts_0 (s : ByteArray) (at_ : Int) (w : World) (hp : PowAt w) :
    Calls Tryd.prog 5 #[.string s, .int .i64 at_, .int .u32 0] w fun e w' => e = .returned (.bool true) ∧ Touch (fun _ => False) w w' := by
  go_enter Tryd.func5, Tryd.ntmps5
  go_wp2_with fail
  refine (speaks_calls _ hp).mono ?_
  rintro e w1 ⟨rfl, hT1⟩
  have hp1 := hp.kept hT1
  go_wp2_with fail
  refine (speaks_calls _ hp1).mono ?_
  rintro e w2 ⟨rfl, hT2⟩
  go_wp2_with fail
  go_ret
  exact ⟨rfl, hT1.trans hT2⟩

theorem bursts_any (s : ByteArray) (at_ : Int) (burst : Nat) (w : World) (hp : PowAt w) (hb : burst < 4294967296) (hs : s.size ≤ 9223372036854775807) :
    Calls Tryd.prog 5 #[.string s, .int .i64 at_, .int .u32 burst] w fun e w' => e = .returned (.bool true) ∧ Touch (fun _ => False) w w' := by
  by_cases h0 : burst = 0
  · subst h0
    exact bursts_0 s at_ w hp
  · by_cases h1 : s.size ≤ 500
    · exact bursts_s s at_ burst w hp hb h0 h1
    · exact bursts_l s at_ burst w hp hb h0 (by omega) hs

end Go.Proofs.YtmkbcbkgficnkaaDoor
