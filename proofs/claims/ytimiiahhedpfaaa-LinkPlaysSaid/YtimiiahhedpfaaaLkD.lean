/- Contracts of package link, fourth part: turned, Spoil. -/
import Derived.Test.YtimiiahhedpfaaaLkC
import Derived.Test.YtimiiahhedpfaaaPack
import Derived.Test.YtimiiahhedpfaaaCrcNum
import Derived.Laws.BitsAllLaws
import Derived.Laws.IdiomStrings
import Derived.Laws.MakeOwn
import Derived.Deep.RegionWith
namespace Go.Proofs.Ytimiiahhedpfaaa
open Go Go.RowKit Go.Conc
set_option maxRecDepth 100000

theorem lk_data (s : ByteArray) : s.data.toList.length = s.size := Array.length_toList
theorem lk_and1 (s : Nat) (h : s < 4294967296) : bits .and .u32 (s : Int) 1 = ((s % 2 : Nat) : Int) := by
  rw [show (1 : Int) = ((1 : Nat) : Int) from rfl, u32_and_nat s 1 h (by decide), Nat.and_one_is_mod]
theorem leB_of_getN (l : List UInt8) : leB l.length (getN l) = l := by
  induction l with
  | nil => rfl
  | cons c r ih =>
    have hc := c.toNat_lt
    show leB (r.length + 1) (c.toNat + 256 * getN r) = _
    rw [leB, show (c.toNat + 256 * getN r) % 256 = c.toNat by omega, show (c.toNat + 256 * getN r) / 256 = getN r by omega, ih]
    simp

/-- Bytes that a string was turned into: its row bears a mark behind its end. -/
def BufL (w : World) (G : Nat) (e : List UInt8) : Prop :=
  ∃ cur : Array Value, w.heap[G]? = some (.cells cur 5 (cur.size, cur.size + 1)) ∧ e.length ≤ cur.size ∧ cur.toList.take e.length = byteVs e
theorem BufL.cell {w : World} {G : Nat} {e : List UInt8} (h : BufL w G e) {j : Nat} (hj : j < e.length) : w.cell? ⟨G, j, none⟩ = some (.int .u8 (e[j].toNat : Int)) := by
  obtain ⟨cur, h1, h2, h3⟩ := h
  rw [cell_of_row w G j cur _ _ h1, ← Array.getElem?_toList]
  have h4 := congrArg (fun l => l[j]?) h3
  simp only [List.getElem?_take, if_pos hj] at h4
  rw [h4]
  simp [byteVs, hj]
theorem BufL.free {w : World} {G : Nat} {e : List UInt8} (h : BufL w G e) {j : Nat} (hj : j < e.length) : w.frozen? ⟨G, j, none⟩ = false := by
  obtain ⟨cur, h1, h2, _⟩ := h
  simp only [World.frozen?, h1]
  simp
  omega
theorem BufL.set {w : World} {G : Nat} {e : List UInt8} (h : BufL w G e) (j : Nat) (x : UInt8) : BufL (w.setCell ⟨G, j, none⟩ (.int .u8 (x.toNat : Int))) G (e.set j x) := by
  obtain ⟨cur, h1, h2, h3⟩ := h
  refine ⟨cur.setIfInBounds j (.int .u8 (x.toNat : Int)), by rw [heap_setCell_same _ h1]; simp, by simpa using h2, ?_⟩
  rw [Array.toList_setIfInBounds, List.length_set, List.take_set, h3]
  simp [byteVs, List.map_set]
theorem BufL.kept {S : Nat → Prop} {w w' : World} {G : Nat} {e : List UInt8} (h : BufL w G e) (ht : Touch S w w') (hn : ¬ S G) : BufL w' G e := by
  obtain ⟨cur, h1, h2⟩ := h
  exact ⟨cur, (ht.block G (Array.getElem?_eq_some_iff.1 h1).1 hn).trans h1, h2⟩
theorem BufL.new (w : World) (s : ByteArray) (cap : Nat) : BufL (w.alloc (.cells (bytesRow s cap) 5 ((bytesRow s cap).size, (bytesRow s cap).size + 1))) w.heap.size s.data.toList := by
  refine ⟨_, heap_alloc_new w _, ?_, ?_⟩
  · simp [bytesRow]
  · simp [bytesRow, byteVs]

theorem getN_setL (e : List UInt8) (j r : Nat) (hj : j < e.length) (hr : r < 8) : getN (e.set j (UInt8.ofNat (e[j].toNat ^^^ 2 ^ r))) = getN e ^^^ 2 ^ (8 * j + r) := by
  induction e generalizing j with
  | nil => cases hj
  | cons c t ih =>
    have hc : c.toNat < 2 ^ 8 := c.toNat_lt
    have h2r : 2 ^ r < 2 ^ 8 := Nat.pow_lt_pow_right (by decide) hr
    cases j with
    | zero =>
      simp only [List.set_cons_zero, List.getElem_cons_zero, getN_cons_xor]
      have hx : c.toNat ^^^ 2 ^ r < 2 ^ 8 := Nat.xor_lt_two_pow hc h2r
      rw [UInt8.toNat_ofNat_of_lt' hx, Nat.mul_zero, Nat.zero_add, Nat.xor_assoc, Nat.xor_assoc, Nat.xor_comm (2 ^ r)]
    | succ j =>
      simp only [List.set_cons_succ, List.getElem_cons_succ, getN_cons_xor]
      rw [ih j (by simpa using hj), show 8 * (j + 1) + r = 8 * j + r + 8 by omega, Nat.pow_add 2 (8 * j + r) 8]
      generalize 2 ^ (8 * j + r) = q
      rw [← Nat.shiftLeft_eq, ← Nat.shiftLeft_eq (getN t), ← Nat.shiftLeft_eq q, Nat.shiftLeft_xor_distrib, Nat.xor_assoc]

/-- Is the bit i hit by the first K of v's bits, from one on? -/
def hitB (a : Int) (v K i : Nat) : Bool := decide (a ≤ i ∧ (i : Int) < a + K) && v.testBit ((i : Int) - a).toNat
/-- The bits that are hit, of so many. -/
def hitN (n : Nat) (a : Int) (v K : Nat) : Nat := packF (hitB a v K) n
theorem hitN_zero (n : Nat) (a : Int) (v : Nat) : hitN n a v 0 = 0 := by
  unfold hitN
  rw [packF_congr (g' := fun _ => false) (fun k _ => by unfold hitB; rw [decide_eq_false (by omega)]; rfl)]
  induction n with
  | zero => rfl
  | succ n ih => exact ih
theorem hitN_stay (n : Nat) (a : Int) (v K : Nat) (h : v.testBit K = false ∨ a + K < 0 ∨ (n : Int) ≤ a + K) : hitN n a v (K + 1) = hitN n a v K := by
  refine packF_congr fun i hi => ?_
  unfold hitB
  by_cases e : a ≤ i ∧ (i : Int) < a + K
  · rw [decide_eq_true e, decide_eq_true (show a ≤ i ∧ (i : Int) < a + (K + 1 : Nat) by omega)]
  · by_cases e2 : a ≤ i ∧ (i : Int) < a + (K + 1 : Nat)
    · rw [decide_eq_false e, decide_eq_true e2]
      have ei : (i : Int) = a + K := by omega
      rcases h with h | h | h
      · rw [show ((i : Int) - a).toNat = K by omega, h]; rfl
      · omega
      · omega
    · rw [decide_eq_false e, decide_eq_false e2]
theorem hitN_step (n : Nat) (a : Int) (v K i : Nat) (h : v.testBit K = true) (hi : (i : Int) = a + K) (hn : i < n) : hitN n a v (K + 1) = hitN n a v K ^^^ 2 ^ i := by
  apply Nat.eq_of_testBit_eq
  intro q
  unfold hitN
  rw [Nat.testBit_xor, packF_bit, packF_bit, Nat.testBit_two_pow]
  unfold hitB
  by_cases e : q = i
  · subst e
    rw [decide_eq_true hn, decide_eq_true (show a ≤ q ∧ (q : Int) < a + (K + 1 : Nat) by omega), decide_eq_false (show ¬ (a ≤ q ∧ (q : Int) < a + K) by omega), show ((q : Int) - a).toNat = K by omega, h]
    simp
  · rw [decide_eq_false (show ¬ i = q from fun h => e h.symm), Bool.xor_false]
    by_cases e2 : a ≤ q ∧ (q : Int) < a + K
    · rw [decide_eq_true e2, decide_eq_true (show a ≤ q ∧ (q : Int) < a + (K + 1 : Nat) by omega)]
    · rw [decide_eq_false e2, decide_eq_false (show ¬ (a ≤ q ∧ (q : Int) < a + (K + 1 : Nat)) by omega)]
/-- A text of which some bits are turned. -/
def turnT (s : ByteArray) (a : Int) (v : Nat) : ByteArray := ⟨(leB s.size (getN s.data.toList ^^^ hitN (8 * s.size) a v 32)).toArray⟩
theorem turnT_size (s : ByteArray) (a : Int) (v : Nat) : (turnT s a v).size = s.size := by
  show (leB _ _).toArray.size = _
  rw [List.size_toArray, leB_length]
theorem turnT_getN (s : ByteArray) (a : Int) (v : Nat) : getN (turnT s a v).data.toList = getN s.data.toList ^^^ hitN (8 * s.size) a v 32 := by
  show getN (leB _ _) = _
  rw [getN_leB, Nat.mod_eq_of_lt]
  have h1 := getN_lt s.data.toList
  rw [lk_data, pow_256] at h1
  rw [pow_256]
  exact Nat.xor_lt_two_pow h1 (packF_lt _ _)
theorem turnT_twice (s : ByteArray) (a : Int) (v : Nat) : turnT (turnT s a v) a v = s := by
  have h : turnT (turnT s a v) a v = ⟨(leB s.size (getN (turnT s a v).data.toList ^^^ hitN (8 * s.size) a v 32)).toArray⟩ := by
    show (⟨(leB (turnT s a v).size _).toArray⟩ : ByteArray) = _
    rw [turnT_size]
  rw [h, turnT_getN, Nat.xor_assoc, Nat.xor_self, Nat.xor_zero]
  have h2 := leB_of_getN s.data.toList
  rw [lk_data] at h2
  rw [h2]

theorem tdiv8 (I : Nat) : ((I : Int)).tdiv 8 = ((I / 8 : Nat) : Int) := by
  rw [Int.tdiv_eq_ediv_of_nonneg (by omega)]; omega

set_option maxHeartbeats 4000000 in
theorem turned_calls (s : ByteArray) (a : Int) (v : Nat) (w : World) (hs : s.size ≤ 1000000) (ha : -9223372036854775808 ≤ a ∧ a ≤ 9223372036854775807) (hv : v < 4294967296) :
    Calls Try.prog 42 #[.string s, .int .i64 a, .int .u32 (v : Nat)] w fun e w' => e = .returned (.string (turnT s a v)) ∧ Touch (fun _ => False) w w' := by
  go_enter Try.func42, Try.ntmps42
  go_wp2_with fail
  rw [run_bytes_of_string w 9 56 5 s Try.underlying9 Try.underlying56 Try.underlying5]
  have hB := BufL.new w.drew s (grownCap w s.size 0 5)
  have hT2 : Touch (fun _ => False) w _ := ((Touch.refl (fun _ => False) w).drew).alloc (.cells (bytesRow s (grownCap w s.size 0 5)) 5 ((bytesRow s (grownCap w s.size 0 5)).size, (bytesRow s (grownCap w s.size 0 5)).size + 1))
  change BufL _ w.heap.size _ at hB
  generalize w.drew.alloc (.cells (bytesRow s (grownCap w s.size 0 5)) 5 ((bytesRow s (grownCap w s.size 0 5)).size, (bytesRow s (grownCap w s.size 0 5)).size + 1)) = w2 at hB hT2 ⊢
  generalize grownCap w s.size 0 5 = cap
  obtain ⟨G, hG⟩ : ∃ G, G = w.heap.size := ⟨_, rfl⟩
  rw [← hG] at hB ⊢
  have htl := lk_data s
  obtain ⟨n, hn⟩ : ∃ n, n = s.size := ⟨_, rfl⟩
  rw [← hn] at htl hs ⊢
  have HN := Lib.hid hn
  have HG := Lib.hid hG
  clear hn hG
  go_wp2_with fail
  go_loopw [12] (fun iv wr => ∃ (k : Nat) (e : List UInt8), iv = .int .i64 (k : Nat) ∧ k ≤ 32 ∧ e.length = n ∧ RowKit.Hid (getN e = getN s.data.toList ^^^ hitN (8 * n) a v k) ∧ RowKit.Hid (BufL wr G e) ∧ RowKit.Hid (Touch (fun _ => False) w wr)) (fun i _ => 32 - (intOf i).toNat)
  case atStart => exact ⟨0, s.data.toList, rfl, by omega, htl, Lib.hid (by rw [hitN_zero, Nat.xor_zero]), Lib.hid hB, Lib.hid hT2⟩
  case round =>
    clear hB hT2
    obtain ⟨k, e, rfl, hk, hel, HGE, HBe, HTe⟩ := hrel
    by_cases hlt : k < 32
    · have hltI : (k : Int) < 32 := by omega
      have hb1 : bits .and .u32 ((v : Int) / 2 ^ k) 1 = ((v / 2 ^ k % 2 : Nat) : Int) := by
        rw [show (v : Int) / 2 ^ k = ((v / 2 ^ k : Nat) : Int) by simp]
        exact lk_and1 _ (Nat.lt_of_le_of_lt (Nat.div_le_self _ _) hv)
      have htb : v.testBit k = decide (v / 2 ^ k % 2 = 1) := by rw [Nat.testBit_eq_decide_div_mod_eq]
      by_cases h1 : v / 2 ^ k % 2 = 1
      · rw [h1] at hb1 htb
        rw [decide_eq_true rfl] at htb
        have ha1 := ha.1
        have ha2 := ha.2
        by_cases hov : 9223372036854775807 < a + k
        · have HST := Lib.hid (hitN_stay (8 * n) a v k (Or.inr (Or.inr (by omega))))
          have hw : wrap64 (a + (k : Int)) = a + k - 18446744073709551616 := by unfold wrap64; omega
          obtain ⟨t, ht⟩ : ∃ t : Int, t = a + k - 18446744073709551616 := ⟨_, rfl⟩
          rw [← ht] at hw
          have ht0 : ¬ 0 ≤ t := by omega
          have htd : decide (0 ≤ t) = false := decide_eq_false ht0
          clear ht htb h1 hov
          go_wp2_with fail
          go_roundw
          case rel => exact ⟨k + 1, e, by go_num, by omega, hel, Lib.hid (by rw [HST.out]; exact HGE.out), HBe, HTe⟩
          case measure => simp [intOf]; omega
        · have hno : a + (k : Int) ≤ 9223372036854775807 := by omega
          by_cases hneg : a + (k : Int) < 0
          · have HST := Lib.hid (hitN_stay (8 * n) a v k (Or.inr (Or.inl hneg)))
            obtain ⟨t, ht⟩ : ∃ t : Int, a + (k : Int) = t := ⟨_, rfl⟩
            have ht0 : t < 0 := by omega
            have ht1 : -9223372036854775808 ≤ t := by omega
            have htd : decide (0 ≤ t) = false := decide_eq_false (by omega)
            clear htb h1 hov hno hneg
            go_wp2_with fail
            go_roundw
            case rel => exact ⟨k + 1, e, by go_num, by omega, hel, Lib.hid (by rw [HST.out]; exact HGE.out), HBe, HTe⟩
            case measure => simp [intOf]; omega
          · obtain ⟨I, hI⟩ : ∃ I : Nat, a + (k : Int) = (I : Int) := ⟨(a + (k : Int)).toNat, by omega⟩
            have hIl : I ≤ 9223372036854775807 := by omega
            obtain ⟨j, hj1⟩ : ∃ j, j = I / 8 := ⟨_, rfl⟩
            have hq : (I : Int) / 8 = (j : Int) := by omega
            by_cases hjn : j < n
            · have HST := Lib.hid (hitN_step (8 * n) a v k I htb hI.symm (by omega))
              have hjI : (j : Int) < (n : Int) := by omega
              obtain ⟨m, hm1⟩ : ∃ m, m = I % 8 := ⟨_, rfl⟩
              have hr : (I : Int) % 8 = (m : Int) := by omega
              have hm8 : m < 8 := by omega
              have hj : j < e.length := by omega
              have hc := HBe.out.cell hj
              have hf := HBe.out.free hj
              have hx := e[j].toNat_lt
              have hgs := Lib.hid (getN_setL e j m hj hm8)
              have HJ := Lib.hid (show 8 * j + m = I by omega)
              clear hj1 hm1 htb h1 hov hno hneg
              generalize hev : e[j].toNat = ev at hc hx hgs
              clear hev
              go_wp2_with fail
              go_region
              go_wp2_with fail
              go_roundw
              case rel =>
                have hxv : bits .xor .u8 (ev : Int) ((2 : Int) ^ m % 256) = ((UInt8.ofNat (ev ^^^ 2 ^ m)).toNat : Int) := by
                  have h2 : 2 ^ m < 2 ^ 8 := Nat.pow_lt_pow_right (by decide) hm8
                  have h3 : (2 : Int) ^ m % 256 = ((2 ^ m : Nat) : Int) := by
                    rw [show (2 : Int) ^ m = ((2 ^ m : Nat) : Int) by simp]
                    generalize 2 ^ m = q at h2
                    omega
                  rw [h3, u8_xor_nat _ _ hx h2, UInt8.toNat_ofNat_of_lt' (Nat.xor_lt_two_pow (n := 8) hx h2)]
                rw [hxv]
                refine ⟨k + 1, e.set j (UInt8.ofNat (ev ^^^ 2 ^ m)), by go_num, by omega, by rw [List.length_set]; exact hel, Lib.hid (by rw [hgs.out, HGE.out, HJ.out, HST.out, Nat.xor_assoc]), Lib.hid ?_, Lib.hid ?_⟩
                · exact (HBe.out.set j _).kept (Touch.refl (fun _ => False) _).drew id
                · exact (HTe.out.setCell (.inr (by rw [HG.out]; exact Nat.le_refl _)) _).drew
              case measure => simp [intOf]; omega
            · have HST := Lib.hid (hitN_stay (8 * n) a v k (Or.inr (Or.inr (by omega))))
              have hjI : ¬ (j : Int) < (n : Int) := by omega
              clear hj1 htb h1 hov hno hneg
              go_wp2_with fail
              go_roundw
              case rel => exact ⟨k + 1, e, by go_num, by omega, hel, Lib.hid (by rw [HST.out]; exact HGE.out), HBe, HTe⟩
              case measure => simp [intOf]; omega
      · have h2 : v / 2 ^ k % 2 = 0 := by omega
        rw [h2] at hb1 htb
        have HST := Lib.hid (hitN_stay (8 * n) a v k (Or.inl htb))
        clear htb h1 h2
        go_wp2_with fail
        go_roundw
        case rel => exact ⟨k + 1, e, by go_num, by omega, hel, Lib.hid (by rw [HST.out]; exact HGE.out), HBe, HTe⟩
        case measure => simp [intOf]; omega
    · obtain rfl : k = 32 := by omega
      have hltI : ¬ (32 : Int) < 32 := by omega
      have hcv : (convert 56 9 (.slice (some ⟨G, 0, none⟩) n cap)).run Try.prog wr = .ok (.string ⟨e.toArray⟩) wr := by
        have := run_convert_bytes_back (P := Try.prog) wr 56 9 5 ⟨G, 0, none⟩ cap e Try.underlying56 Try.underlying5 Try.underlying9 (fun j hj => by
          have h1 := HBe.out.cell hj
          have h2 : (⟨G, 0, none⟩ : Addr).add j = ⟨G, j, none⟩ := by
            by_cases h0 : j = 0
            · subst h0; simp [Addr.add]
            · simp [Addr.add, h0]
          rw [h2]; exact h1)
        rwa [hel] at this
      have HE : Hid ((⟨e.toArray⟩ : ByteArray) = turnT s a v) := Lib.hid (by
        have h1 := leB_of_getN e
        rw [hel, HGE.out, HN.out] at h1
        unfold turnT
        rw [h1])
      rw [HE.out] at hcv
      clear hk hlt
      go_wp2_with fail
      go_ret
      exact ⟨rfl, HTe.out⟩

theorem spoil_calls {w : World} {p : Nat} {c : Nat → Nat} {L : Nat → List ByteArray} (h : LinkAt w p c L) (y : Nat) (hy : y < 2) {t : ByteArray} {l : List ByteArray} (hl : L y = t :: l) (ht : t.size ≤ 1000000) (a : Int) (v : Nat) (ha : -9223372036854775808 ≤ a ∧ a ≤ 9223372036854775807) (hv : v < 4294967296) :
    Calls Try.prog 33 #[.pointer (some ⟨p, 0, none⟩), .int .i64 (y : Nat), .int .i64 a, .int .u32 (v : Nat)] w fun e w' => e = .returned (.bool true) ∧ LinkAt w' p c (setL L y (turnT t a v :: l)) ∧ Touch (fun k => k = c y) w w' := by
  have hle := h.le y hy
  rw [hl, List.length_cons] at hle
  have HA := Lib.hid ha
  clear ha
  go_enter Try.func33, Try.ntmps33
  go_wp2_with fail
  refine (take_some h y hy hl).mono ?_
  rintro e w1 ⟨rfl, h1, ht1⟩
  go_wp2_with fail
  refine (turned_calls t a v w1 ht HA.out hv).mono ?_
  rintro e w2 ⟨rfl, ht2⟩
  have h2 := h1.still ht2
  go_wp2_with fail
  refine (first_calls h2 y hy (turnT t a v) (by rw [setL_at]; omega)).mono ?_
  rintro e w3 ⟨rfl, h3, ht3⟩
  go_wp2_with fail
  go_ret
  rw [setL_set, setL_at] at h3
  exact ⟨rfl, h3, (ht1.trans (ht2.mono (fun _ e => e.elim))).trans ht3⟩
end Go.Proofs.Ytimiiahhedpfaaa
