/- The walk of layer 12's statement of names of as many bytes as may be, and of one more. -/
import Derived.Test.YtlchjjkfffndgaaDoorNamL
import Derived.Laws.MakeOwn
import Derived.Laws.BitsAllLaws
namespace Go.Proofs.YtlchjjkfffndgaaDoor
open Go Go.RowKit
set_option maxRecDepth 100000

theorem Tryd.info5 : (Tryd.prog.info? 5).map (fun i => (i.zero, i.size, i.bytes)) = some (some (.int .u8 0), 1, 1) := by kernel_rfl

theorem i64_and7 (n : Int) : bits .and .i64 n 7 = n % 8 := by
  have hk : (BitVec.ofInt 64 7).toNat = 2 ^ 3 - 1 := by decide
  have key : (BitVec.ofInt 64 n &&& BitVec.ofInt 64 7).toNat = (n % ((2 ^ 64 : Nat) : Int)).toNat % 2 ^ 3 := by
    rw [BitVec.toNat_and, BitVec.toNat_ofInt, hk, Nat.and_two_pow_sub_one_eq_mod]
  show IntKind.i64.wrap ((BitVec.ofInt 64 n &&& BitVec.ofInt 64 7).toNat : Nat) = n % 8
  rw [key, IntKind.wrap_i64]
  omega
theorem u8_and15 (c : Nat) (h : c < 256) : bits .and .u8 (c : Int) 15 = ((c % 16 : Nat) : Int) := by
  have := u8_and_nat c 15 h (by decide)
  rw [show c &&& 15 = c % 2 ^ 4 from Nat.and_two_pow_sub_one_eq_mod c 4] at this
  exact this

theorem made_bytes (n : Nat) : (madeCells (Value.int .u8 0).cells (n * 1)) = (byteVs (List.replicate n 0)).toArray := by
  simp only [madeCells, Value.cells, byteVs, List.map_replicate]
  apply Array.ext
  · simp
  · intro i h1 h2
    simp [Nat.mod_one]

/-- A slice of n bytes, the first of them one letter. -/
def repX (n i : Nat) (d : UInt8) : List UInt8 := List.replicate i d ++ List.replicate (n - i) 0
theorem repX_length (n i : Nat) (d : UInt8) (h : i ≤ n) : (repX n i d).length = n := by simp [repX]; omega
theorem repX_set (n i : Nat) (d : UInt8) (h : i < n) : (byteVs (repX n i d)).set i (.int .u8 d.toNat) = byteVs (repX n (i + 1) d) := by
  unfold byteVs
  rw [show (Value.int .u8 d.toNat) = (fun c : UInt8 => Value.int .u8 c.toNat) d from rfl, ← List.map_set]
  congr 1
  unfold repX
  obtain ⟨m, hm⟩ : ∃ m, n - i = m + 1 := ⟨n - i - 1, by omega⟩
  rw [hm, show n - (i + 1) = m by omega, List.set_append_right _ _ (by simp), show List.replicate (i + 1) d = List.replicate i d ++ [d] from List.replicate_succ']
  simp [List.replicate_succ]

set_option maxHeartbeats 2000000 in
theorem long_calls (z : Int) (c : Nat) (w : World) (hc : c < 256) (hT : Tabs w) : Calls Tryd.prog 5 #[.int .i64 z, .int .u8 c] w fun e w' => e = .returned (.bool true) ∧ Touch (fun _ => False) w w' := by
  have ha := i64_and7 z
  obtain ⟨q, hq⟩ : ∃ q : Nat, z % 8 = q := ⟨(z % 8).toNat, by omega⟩
  have hq8 : q < 8 := by omega
  rw [hq] at ha
  clear hq
  obtain ⟨d, hd⟩ : ∃ d : UInt8, d.toNat = 97 + c % 16 := ⟨UInt8.ofNat (97 + c % 16), by simp; omega⟩
  have hb := u8_and15 c hc
  obtain ⟨g, hg⟩ : ∃ g : Nat, c % 16 = g := ⟨_, rfl⟩
  have hg16 : g < 16 := by omega
  rw [hg] at hb hd
  clear hg
  obtain ⟨n, hn⟩ : ∃ n : Nat, n = 65530 + q := ⟨_, rfl⟩
  have HNQ : RowKit.Hid ((n : Int) = 65530 + (q : Int)) := Lib.hid (by omega)
  have hnq : (65530 : Int) + (q : Int) = (n : Int) := by omega
  have hn1 : 65530 ≤ n := by omega
  have hn2 : n ≤ 65537 := by omega
  have hn3 : (n : Int) ≤ 65537 := by omega
  have hn4 : (65530 : Int) ≤ (n : Int) := by omega
  clear hn
  have HSP := Lib.hid (speaks12_calls w hT)
  obtain ⟨i0, hi, hz0, hz1, hz2⟩ := info_parts Tryd.info5
  have HM : RowKit.Hid (∀ W : World, (Instr.makeSlice 31 (.int .i64 n) (.int .i64 n)).run Tryd.prog W = .ok (.slice (some ⟨W.heap.size, 0, none⟩) n n) (W.alloc (.cells (byteVs (List.replicate n 0)).toArray 5))) := Lib.hid (fun W => by
    have h := run_makeSlice (P := Tryd.prog) W 31 5 i0 _ Tryd.underlying31 hi hz0 .i64 .i64 (n : Int) (n : Int) (by omega) (by omega) (by rw [hz1]; omega) (by rw [hz2]; omega) (by omega)
    rw [Int.toNat_natCast, hz1, made_bytes] at h
    exact h)
  clear hi hz0 hz1 hz2
  go_enter Tryd.func5, Tryd.ntmps5
  go_upto_region 4 with (go_at_call 8; refine HSP.out.mono ?_; rintro e w1 ⟨rfl, ht1⟩)
  have hmk := HM.out w1
  go_wp2
  have hrow0 : Row (w1.alloc (.cells (byteVs (List.replicate n 0)).toArray 5)) 5 (.slice (some ⟨w1.heap.size, 0, none⟩) n n) (byteVs (repX n 0 d)) :=
    .inr ⟨w1.heap.size, 0, n, _, by rw [byteVs_length, repX_length n 0 d (by omega)], heap_alloc_new w1 _, by rw [byteVs_length, repX_length n 0 d (by omega)]; exact Nat.le_refl _, by unfold maxLen; omega, by simp [byteVs_length], by simp [repX]⟩
  have hT0 := ht1.alloc (.cells (byteVs (List.replicate n 0)).toArray 5)
  have hwB : w.heap.size ≤ w1.heap.size := ht1.size
  clear hmk HM ht1
  generalize w1.alloc (.cells (byteVs (List.replicate n 0)).toArray 5) = wb at *
  obtain ⟨B, hB⟩ : ∃ B, w1.heap.size = B := ⟨_, rfl⟩
  rw [hB] at hrow0 hwB ⊢
  clear hB
  have HROW0 := Lib.hid hrow0
  have HT0 := Lib.hid hT0
  clear hrow0 hT0
  have HD : RowKit.Hid ((d.toNat : Int) = 97 + (g : Int)) := Lib.hid (by omega)
  go_loopw [6] (fun i wr => ∃ k : Nat, k ≤ n ∧ i = .int .i64 (k : Int) ∧ Row wr 5 (.slice (some ⟨B, 0, none⟩) n n) (byteVs (repX n k d)) ∧ Touch (fun b => b = B) wb wr) (fun i _ => n - (intOf i).toNat)
  case atStart => exact ⟨0, Nat.zero_le _, rfl, HROW0.out, Touch.refl _ _⟩
  case round =>
    obtain ⟨k, hk, rfl, hrow, htr⟩ := hrel
    have HR := Lib.hid hrow
    have HTR := Lib.hid htr
    clear hrow htr
    by_cases hlt : k < n
    · have hk1 : (k : Int) < (n : Int) := by omega
      have hfr : wr.frozen? ⟨B, k, none⟩ = false := by have := HR.out.free (k := k); rwa [Nat.zero_add] at this
      have hcl : ∃ u, wr.cell? ⟨B, k, none⟩ = some u := by
        have h1 := HR.out.cells.2 k _ (List.getElem?_eq_getElem (by rw [byteVs_length, repX_length n k d (by omega)]; exact hlt))
        rw [Nat.zero_add] at h1
        exact ⟨_, h1⟩
      obtain ⟨u, hcl⟩ := hcl
      go_wp2
      go_roundw
      case rel =>
        refine ⟨k + 1, by omega, by go_num, ?_, HTR.out.setCell (.inl rfl) _⟩
        have := HR.out.set hlt (.int .u8 d.toNat)
        rw [repX_set n k d hlt, Nat.zero_add, HD.out] at this
        exact this
      case measure => simp [intOf]; omega
    · obtain rfl : k = n := by omega
      have hcv := run_bytes_row (P := Tryd.prog) wr 31 5 9 Tryd.underlying31 Tryd.underlying5 Tryd.underlying9 HR.out
      obtain ⟨F, hF⟩ : ∃ F : ByteArray, F = ⟨(repX k k d).toArray⟩ := ⟨_, rfl⟩
      rw [← hF] at hcv
      have hFl : F.data.toList = List.replicate k d := by rw [hF]; simp [repX]
      have hFs : F.size = k := by
        show F.data.size = k
        rw [← Array.length_toList, hFl]; simp
      have hch := rep_check F d (by rw [hFl, hFs]) (by omega) (by omega) (by omega)
      have hTT : Touch (fun _ => False) w wr := HT0.out.trans' HTR.out (fun i e => by subst e; exact .inr hwB)
      have HC := Lib.hid (fun W (h : Tabs W) => check_calls F W (by omega) h)
      rw [hch, hFs] at HC
      have HTT := Lib.hid hTT
      clear hch hFl hFs hF hTT
      by_cases hle : k ≤ 65535
      · rw [show (if decide (k ≤ 65535) = true then (0 : Int) else 9) = 0 by simp [hle]] at HC
        have hle' : (k : Int) ≤ 65535 := by omega
        go_wp2_with (go_at_call 9; refine (HC.out _ (hT.kept HTT.out)).mono ?_; rintro e w3 ⟨rfl, ht3⟩)
        go_ret
        exact ⟨rfl, HTT.out.trans ht3⟩
      · rw [show (if decide (k ≤ 65535) = true then (0 : Int) else 9) = 9 by simp [hle]] at HC
        have hle' : ¬ (k : Int) ≤ 65535 := by omega
        go_wp2_with (go_at_call 9; refine (HC.out _ (hT.kept HTT.out)).mono ?_; rintro e w3 ⟨rfl, ht3⟩)
        go_ret
        exact ⟨ret_bool (by simp; omega), HTT.out.trans ht3⟩
end Go.Proofs.YtlchjjkfffndgaaDoor
