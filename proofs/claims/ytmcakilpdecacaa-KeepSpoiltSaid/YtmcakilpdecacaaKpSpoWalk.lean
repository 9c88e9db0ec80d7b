/- The statement KeepSpoilt over the translated program. -/
import Derived.Test.YtmcakilpdecacaaKpX
import Derived.Deep.RegionWith
import Derived.Laws.MakeOwn
import Derived.Laws.IdiomStrings
namespace Go.Proofs.Ytmcakilpdecacaa
open Go Go.RowKit Go.Maps
set_option maxRecDepth 100000

set_option maxHeartbeats 800000 in
theorem kopen_bad {w : World} {b lb mb c n : Nat} {L : List UInt8} {C : List Ent} {t : Nat} (h : DkAt w b lb mb c n L C t (-1) true) (hn9 : 9 ≤ n) (hC : ∀ j, j < 8 → readS L C (0 + j) = ⟨(sec L (0 + j)).toArray⟩) {N se ep a m : Nat} {nt : ByteArray} {dn : Bool} (hN : N < 1000000) (hS : LogSecs (secsOf L 0 8) N nt.data.toList) (hz : a ≤ (n - 8) * 64) (hne : moreN 0 (imgL L C (8 * 64 + 0) a) ≠ m)
    (hlast : ∀ W gb, LogAt W gb b 0 8 N nt false → Calls Try.prog 69 #[.pointer (some ⟨gb, 0, none⟩)] W fun e w' => e = .returned (.tuple #[stV se ep a m dn, .bool true]) ∧ Touch (fun _ => False) W w') :
    Calls Try.prog 40 #[.pointer (some ⟨b, 0, none⟩)] w fun e w' => e = .returned (.tuple #[.pointer none, .int .i64 7]) ∧ Touch (fun _ => False) w w' := by
  have hn2 := h.n2
  have d1 : decide ((n : Int) < 9) = false := decide_eq_false (by omega)
  have d1' : decide (n < 9) = false := decide_eq_false (by omega)
  have H := Lib.hid h
  have hlo := open2_calls h 0 8 (by omega) (by omega) hC
  rw [hS.last hN, ba_self] at hlo
  have HLO := Lib.hid hlo
  have HLA := Lib.hid hlast
  unfold stV at HLA
  obtain ⟨m', hm'⟩ : ∃ m', moreN 0 (imgL L C (8 * 64 + 0) a) = m' := ⟨_, rfl⟩
  rw [hm'] at hne
  have hneI : ((m' : Int) != (m : Int)) = true := by rw [bne_iff_ne]; omega
  obtain ⟨u, hu⟩ : ∃ u : Nat, n - 8 = u := ⟨_, rfl⟩
  have huI : (n : Int) - 8 = (u : Int) := by omega
  have hwu : IntKind.i64.wrap ((n : Int) - 8) = (u : Int) := by rw [huI]; exact IntWalk.i64_in _ (by omega)
  have hwu2 : IntKind.i64.wrap (u : Int) = (u : Int) := IntWalk.i64_in _ (by omega)
  have HQ := Lib.hid (⟨hm', hu⟩ : _ ∧ _)
  clear h hlo hlast hS hC
  go_enter Try.func40, Try.ntmps40
  go_wp2_with (go_at_call 49; refine (sectors_calls H.out).mono ?_; rintro e w' ⟨rfl, rfl⟩)
  refine HLO.out.mono ?_
  rintro e w1 ⟨gb, rfl, hV, hgb, hT1⟩
  have HV := Lib.hid hV
  have HT1 := Lib.hid hT1
  clear hV hT1 hgb
  go_wp2_with fail
  refine (HLA.out w1 gb HV.out).mono ?_
  rintro e w2 ⟨rfl, hT2⟩
  have HT2 := Lib.hid (HT1.out.trans hT2)
  clear hT2
  go_upto_region 11 with fail
  have hTa := (Touch.refl (fun _ => False) w2).alloc (.cells #[.int .u32 se, .int .u32 ep, .int .i64 a, .int .u32 m, .bool dn] 82)
  have hbx : NBox (w2.alloc (.cells #[.int .u32 se, .int .u32 ep, .int .i64 a, .int .u32 m, .bool dn] 82)) w2.heap.size se ep a m dn := Block.new w2 82 [.int .u32 se, .int .u32 ep, .int .i64 a, .int .u32 m, .bool dn]
  have hV3 := H.out.still (HT2.out.trans hTa)
  have hT3 := HT2.out.trans hTa
  generalize w2.alloc (.cells #[.int .u32 se, .int .u32 ep, .int .i64 a, .int .u32 m, .bool dn] 82) = w3 at hTa hbx hV3 hT3 ⊢
  generalize w2.heap.size = sb at hbx ⊢
  obtain ⟨y0, y1, y2, y3, y4⟩ := hbx.cells
  have HBX := Lib.hid hbx
  have HV3 := Lib.hid hV3
  have HT3 := Lib.hid hT3
  have HNEW : Hid (∀ W, Touch (fun _ => False) w3 W → Calls Try.prog 27 #[.pointer (some ⟨b, 0, none⟩), .int .i64 8, .int .i64 u, .int .i64 a] W fun e w' => ∃ fb, e = .returned (.tuple #[.pointer (some ⟨fb, 0, none⟩), .int .i64 0]) ∧ FlAt w' fb b 8 (u * 64) a ∧ W.heap.size ≤ fb ∧ Touch (fun _ => False) W w') := Lib.hid (fun W hW => stnew_calls (hV3.still hW) 8 u a (by omega) (by omega) (by rw [← hu]; exact hz))
  clear hTa hbx hV3 hT3 hu hm'
  go_region_law (first
    | (go_simp; go_at_call 49; refine (sectors_calls (HV3.out.still (Touch.refl (fun _ => False) w3).drew)).mono ?_; rintro e w' ⟨rfl, rfl⟩)
    | (go_simp; go_at_call 27; refine (HNEW.out _ (Touch.refl (fun _ => False) w3).drew).mono ?_; rintro e w4 ⟨fb, rfl, hF4, hfb, hT4⟩; have HF4 := Lib.hid hF4; have HFB := Lib.hid hfb; have HT4 : Hid (Touch (fun _ => False) w3 w4) := Lib.hid ((Touch.refl (fun _ => False) w3).drew.trans hT4); clear hF4 hfb hT4))
  all_goals
    have y0 := HT4.out.cell y0 id
    have y1 := HT4.out.cell y1 id
    have y2 := HT4.out.cell y2 id
    have y3 := HT4.out.cell y3 id
    have y4 := HT4.out.cell y4 id
    have hsum := stsum_any (by rw [ba_of_size, imgL_len]; have := HV3.out.n2; omega) (stread_calls (HV3.out.still HT4.out) HF4.out (by rw [← HQ.out.2]; omega) (by rw [← HQ.out.2]; exact hz) 0 a (by omega))
    rw [ba_of, HQ.out.1] at hsum
    have HSUM := Lib.hid hsum
    clear hsum
    go_wp2_with fail
    refine HSUM.out.mono ?_
    rintro e w5 ⟨rfl, hT5⟩
    have y0 := hT5.cell y0 id
    have y1 := hT5.cell y1 id
    have y2 := hT5.cell y2 id
    have y3 := hT5.cell y3 id
    have y4 := hT5.cell y4 id
    have HT5 := Lib.hid hT5
    clear hT5
    go_wp2_with fail
    go_ret2
    exact ⟨rfl, (HT3.out.trans HT4.out).trans HT5.out⟩

/-- Bytes that a string was turned into: its row bears a mark behind its end. -/
def BufAt (w : World) (G : Nat) (e : List UInt8) : Prop :=
  ∃ cur : Array Value, w.heap[G]? = some (.cells cur 5 (cur.size, cur.size + 1)) ∧ e.length ≤ cur.size ∧ cur.toList.take e.length = byteVs e

theorem BufAt.cell {w : World} {G : Nat} {e : List UInt8} (h : BufAt w G e) {j : Nat} (hj : j < e.length) : w.cell? ⟨G, j, none⟩ = some (.int .u8 (e[j].toNat : Int)) := by
  obtain ⟨cur, h1, h2, h3⟩ := h
  rw [cell_of_row w G j cur _ _ h1, ← Array.getElem?_toList]
  have h4 := congrArg (fun l => l[j]?) h3
  simp only [List.getElem?_take, if_pos hj] at h4
  rw [h4]
  simp [byteVs, hj]
theorem BufAt.free {w : World} {G : Nat} {e : List UInt8} (h : BufAt w G e) {j : Nat} (hj : j < e.length) : w.frozen? ⟨G, j, none⟩ = false := by
  obtain ⟨cur, h1, h2, _⟩ := h
  simp only [World.frozen?, h1]
  simp
  omega
theorem BufAt.set {w : World} {G : Nat} {e : List UInt8} (h : BufAt w G e) (j : Nat) (x : UInt8) : BufAt (w.setCell ⟨G, j, none⟩ (.int .u8 (x.toNat : Int))) G (e.set j x) := by
  obtain ⟨cur, h1, h2, h3⟩ := h
  refine ⟨cur.setIfInBounds j (.int .u8 (x.toNat : Int)), by rw [heap_setCell_same _ h1]; simp, by simpa using h2, ?_⟩
  rw [Array.toList_setIfInBounds, List.length_set, List.take_set, h3]
  simp [byteVs, List.map_set]
theorem BufAt.kept {S : Nat → Prop} {w w' : World} {G : Nat} {e : List UInt8} (h : BufAt w G e) (ht : Touch S w w') (hn : ¬ S G) : BufAt w' G e := by
  obtain ⟨cur, h1, h2⟩ := h
  exact ⟨cur, (ht.block G (Array.getElem?_eq_some_iff.1 h1).1 hn).trans h1, h2⟩
theorem BufAt.new (w : World) (s : ByteArray) (cap : Nat) : BufAt (w.alloc (.cells (bytesRow s cap) 5 ((bytesRow s cap).size, (bytesRow s cap).size + 1))) w.heap.size s.data.toList := by
  refine ⟨_, heap_alloc_new w _, ?_, ?_⟩
  · simp [bytesRow]
  · simp [bytesRow, byteVs]

theorem kp_rem (z : Int) (n : Nat) (hn : 0 < n) : ∃ (r : Int) (i : Nat), z.tmod (n : Int) = r ∧ -(n : Int) < r ∧ r < n ∧ (r + n).tmod (n : Int) = i ∧ (r + n) % (n : Int) = i ∧ i < n := by
  have hn' : (0 : Int) < (n : Int) := by omega
  have h1 := Int.tmod_lt_of_pos z hn'
  have h2 := Int.lt_tmod_of_pos z hn'
  have h3 : 0 ≤ z.tmod (n : Int) + n := by omega
  have h4 := Int.emod_nonneg (z.tmod (n : Int) + n) (show (n : Int) ≠ 0 by omega)
  have h5 := Int.emod_lt_of_pos (z.tmod (n : Int) + n) hn'
  exact ⟨z.tmod n, ((z.tmod n + n) % n).toNat, rfl, h2, h1, by rw [Int.tmod_eq_emod_of_nonneg h3]; omega, by omega, by omega⟩

/-- The image where one byte of a sector is another one. -/
theorem img_flip {n i : Nat} {L : List UInt8} {A : List UInt8} (hL : L.length = n * 64) (h : Holds L [] (8 * 64) A) (hi : i < A.length) (hfit : 8 * 64 + A.length ≤ n * 64) (y : UInt8) (t : Nat) :
    imgL L (putE [] (8 + i / 64) ⟨((readS L [] (8 + i / 64)).data.toList.set (i % 64) y).toArray⟩ t) (8 * 64 + 0) A.length = A.set i y := by
  apply List.ext_getElem (by rw [imgL_len, List.length_set])
  intro j h1 h2
  rw [imgL_len] at h1
  simp only [imgL, List.getElem_map, List.getElem_range]
  have h3 := h.at' h1
  rw [List.getD_eq_getElem?_getD, List.getElem?_eq_getElem h1] at h3
  have h3 : imgB L [] (8 * 64 + j) = A[j] := h3
  have hsz : (readS L [] (8 + i / 64)).size = 64 := readS_size hL (fun e he => by cases he) (by omega)
  have hll := ba_len (readS L [] (8 + i / 64))
  unfold imgB at h3 ⊢
  rw [show (8 * 64 + 0 + j) / 64 = (8 * 64 + j) / 64 by omega, show (8 * 64 + 0 + j) % 64 = (8 * 64 + j) % 64 by omega]
  by_cases hs : (8 * 64 + j) / 64 = 8 + i / 64
  · rw [hs, rput_same]
    rw [hs] at h3
    show (((readS L [] (8 + i / 64)).data.toList.set (i % 64) y)).getD _ 0 = _
    rw [List.getD_eq_getElem?_getD, List.getElem?_set, List.getElem_set]
    by_cases hq : i % 64 = (8 * 64 + j) % 64
    · rw [if_pos hq, if_pos (by omega), if_pos (by omega)]; rfl
    · rw [if_neg hq, if_neg (by omega), ← h3, List.getD_eq_getElem?_getD]
  · rw [rput_other _ _ hs, h3, List.getElem_set, if_neg (by omega)]
theorem set_ne (A : List UInt8) (i : Nat) (hi : i < A.length) : moreN 0 (A.set i (A[i] ^^^ 1)) ≠ moreN 0 A := by
  have h1 : A.set i (A[i] ^^^ 1) = A.take i ++ (A[i] ^^^ 1) :: A.drop (i + 1) := by rw [List.set_eq_take_append_cons_drop, if_pos hi]
  have h2 : A = A.take i ++ A[i] :: A.drop (i + 1) := by rw [List.getElem_cons_drop, List.take_append_drop]
  have h3 := bit_ne (A.take i) (A.drop (i + 1)) A[i]
  rw [← h1, ← h2] at h3
  exact h3

set_option maxHeartbeats 2000000 in
theorem kspoilt_calls (s0 : ByteArray) (z : Int) (w : World) (hs0 : s0.size ≤ 9223372036854775807) :
    Calls Try.prog 8 #[.string s0, .int .i64 z] w fun e w' => e = .returned (.bool true) ∧ Touch (fun _ => False) w w' := by
  obtain ⟨k, hk⟩ : ∃ k, k = min s0.size 200 := ⟨_, rfl⟩
  obtain ⟨T, hT⟩ : ∃ T, s0.extract 0 k = T := ⟨_, rfl⟩
  have hTs : T.size = k := by rw [← hT, ByteArray.size_extract]; omega
  have hk1 : min (s0.size : Int) 200 = (k : Int) := by omega
  have hk3 : (if (200 : Int) < (s0.size : Int) then (200 : Int) else (s0.size : Int)) = (k : Int) := by split <;> omega
  have hk2 : (k : Int) ≤ (s0.size : Int) := by omega
  have hk0 : (0 : Int) ≤ (k : Int) := by omega
  have hk200 : k ≤ 200 := by omega
  have hbig : (9223372036854775807 < k + 1) = False := eq_false (by omega)
  obtain ⟨A, hA⟩ : ∃ A, T ++ (⟨#[120]⟩ : ByteArray) = A := ⟨_, rfl⟩
  obtain ⟨n1, hn1⟩ : ∃ n1, A.size = n1 := ⟨_, rfl⟩
  have hn1k : n1 = k + 1 := by rw [← hn1, ← hA, ByteArray.size_append, hTs]; rfl
  have hn1I : (A.size : Int) = (n1 : Int) := by omega
  have hkI : (k : Int) + 1 = (n1 : Int) := by omega
  have hwk : IntKind.i64.wrap (n1 : Int) = (n1 : Int) := IntWalk.i64_in _ (by omega)
  have hp1 : 0 < n1 := by omega
  have hn201 : n1 ≤ 201 := by omega
  obtain ⟨r, i, hr, hr1, hr2, hi, hi', hi2⟩ := kp_rem z n1 hp1
  have hwr : IntKind.i64.wrap (r + (n1 : Int)) = r + (n1 : Int) := IntWalk.i64_in _ (by omega)
  have hn10 : ¬ (n1 : Int) = 0 := by omega
  obtain ⟨x, hx⟩ : ∃ x : Nat, i / 64 = x := ⟨_, rfl⟩
  obtain ⟨q, hq⟩ : ∃ q : Nat, i % 64 = q := ⟨_, rfl⟩
  obtain ⟨p, hp⟩ : ∃ p : Nat, 8 + x = p := ⟨_, rfl⟩
  have hpI : (8 : Int) + (x : Int) = (p : Int) := by omega
  have hwx : IntKind.i64.wrap (x : Int) = (x : Int) := IntWalk.i64_in _ (by omega)
  have hwp : IntKind.i64.wrap (p : Int) = (p : Int) := IntWalk.i64_in _ (by omega)
  have hdiv : (i : Int).tdiv 64 = (x : Int) := by rw [← hx]; exact Int.ofNat_tdiv i 64
  have hdiv2 : (i : Int) / 64 = (x : Int) := by omega
  have hmod : (i : Int).tmod 64 = (q : Int) := by rw [← hq]; exact Int.ofNat_tmod i 64
  have hmod2 : (i : Int) % 64 = (q : Int) := by omega
  have hq64 : q < 64 := by omega
  have hp16 : p < 16 := by omega
  have HQ := Lib.hid (⟨hn1, hx, hq, hp, hn1k⟩ : _ ∧ _ ∧ _ ∧ _ ∧ _)
  clear hk hx hq hp hn1k
  go_enter Try.func8, Try.ntmps8
  go_wp2_with fail
  refine (speaks20_calls w).mono ?_
  rintro e w0 ⟨rfl, hT0⟩
  go_wp2_with fail
  refine (new_calls 16 w0 (by omega) (by omega)).mono ?_
  rintro e w1 ⟨b, lb, mb, rfl, hD1, hN, hT1⟩
  have HD1 := Lib.hid hD1
  have HNB := Lib.hid hN
  clear hD1 hN
  go_wp2_with fail
  refine (kopen_fresh HD1.out (by omega)).mono ?_
  rintro e w2 ⟨gb, fb, kb, rfl, hK2, hgs, hT2⟩
  have HK2 := Lib.hid hK2
  have HS : Hid (∀ k, DkS b lb mb k ∨ k = gb ∨ k = fb ∨ k = kb → w.heap.size ≤ k) := Lib.hid (fun k hk => by
    have := HNB.out; have := hT0.size; have := hT1.size
    rcases hk with (h | h | h) | h | h | h <;> omega)
  have HT2 := Lib.hid ((hT0.trans hT1).trans hT2)
  clear hK2 hgs hT0 hT1 hT2
  go_wp2_with fail
  have hap := kappend_calls HK2.out A (by simp; omega) (by omega) (by omega)
  refine hap.mono ?_
  clear hap
  rintro e w3 ⟨rfl, ⟨L3, t3, ht3, hK3⟩, hT3⟩
  rw [List.nil_append] at hK3
  have HK3 := Lib.hid hK3
  have HT3 := Lib.hid (HT2.out.from hT3 HS.out)
  clear hK3 hT3
  go_wp2_with fail
  trace_state
  have hrd := read_ok HK3.out.duo.live.disk p hp16
  obtain ⟨S, hS⟩ : ∃ S, readS L3 [] p = S := ⟨_, rfl⟩
  have hSz : S.size = 64 := by rw [← hS]; exact readS_size HK3.out.duo.live.disk.len (fun e he => by cases he) hp16
  rw [hS] at hrd
  refine hrd.mono ?_
  clear hrd
  rintro e w4 ⟨rfl, hT4⟩
  have HK4 := Lib.hid (HK3.out.still hT4)
  have HT4 := Lib.hid (HT3.out.trans hT4)
  have HSS := Lib.hid hS
  have hSI : (S.size : Int) = 64 := by omega
  clear hT4 hS
  go_wp2_with fail
  rw [run_bytes_of_string w4 9 78 5 S Try.underlying9 Try.underlying78 Try.underlying5]
  have hB := BufAt.new w4.drew S (grownCap w4 S.size 0 5)
  have hTa := (Touch.refl (fun _ => False) w4).drew.alloc (.cells (bytesRow S (grownCap w4 S.size 0 5)) 5 ((bytesRow S (grownCap w4 S.size 0 5)).size, (bytesRow S (grownCap w4 S.size 0 5)).size + 1))
  change BufAt _ w4.heap.size _ at hB
  generalize w4.drew.alloc (.cells (bytesRow S (grownCap w4 S.size 0 5)) 5 ((bytesRow S (grownCap w4 S.size 0 5)).size, (bytesRow S (grownCap w4 S.size 0 5)).size + 1)) = w5 at hB hTa ⊢
  generalize grownCap w4 S.size 0 5 = cap
  generalize hG : w4.heap.size = G at hB ⊢
  have hlen : S.data.toList.length = 64 := by rw [ba_len, hSz]
  have hqS : q < S.data.toList.length := by omega
  have hc := hB.cell hqS
  have hf := hB.free hqS
  obtain ⟨y, hy⟩ : ∃ y, S.data.toList[q] = y := ⟨_, rfl⟩
  rw [hy] at hc
  have hxy := y.toNat_lt
  have hxor : bits .xor .u8 (y.toNat : Int) 1 = ((y ^^^ 1).toNat : Int) := by
    have := u8_xor_nat y.toNat 1 hxy (by decide)
    rw [UInt8.toNat_xor]
    exact this
  have HB := Lib.hid hB
  have HTA := Lib.hid hTa
  have hy' : S.data.toList[q]? = some y := by rw [List.getElem?_eq_getElem hqS, hy]
  have HY := Lib.hid (⟨hy', hG⟩ : _ ∧ _)
  have hqI : (q : Int) < 64 := by omega
  have hq0I : (0 : Int) ≤ (q : Int) := by omega
  rw [hSz]
  clear hB hTa hlen hy hy' hqS hG hxy
  go_upto_region 12 with fail
  have hx1 : ((y ^^^ 1).toNat : Int) = ((y.toNat ^^^ 1 : Nat) : Int) := by rw [UInt8.toNat_xor]; rfl
  have hB6 : BufAt (w5.setCell ⟨G, q, none⟩ (.int .u8 ((y.toNat ^^^ 1 : Nat) : Int))) G (S.data.toList.set q (y ^^^ 1)) := by
    rw [← hx1]; exact HB.out.set q (y ^^^ 1)
  have hT6 : Touch (fun k => k = G) w5 (w5.setCell ⟨G, q, none⟩ (.int .u8 ((y.toNat ^^^ 1 : Nat) : Int))) := (Touch.refl (fun k => k = G) w5).setCell (p := ⟨G, q, none⟩) (.inl rfl) _
  generalize w5.setCell ⟨G, q, none⟩ (.int .u8 ((y.toNat ^^^ 1 : Nat) : Int)) = w6 at hB6 hT6 ⊢
  have hlt4 := HK4.out.duo.live.disk.lt
  have hGd : ¬ (b = G) ∧ ¬ (lb = G) ∧ ¬ (mb = G) := by have := HY.out.2; omega
  have hD6 := (HK4.out.duo.live.disk.still HTA.out).kept hT6 hGd.1 hGd.2.1 hGd.2.2
  have hGw : w.heap.size ≤ G := by rw [← HY.out.2]; exact HT4.out.size
  have hT06 : Touch (fun _ => False) w w6 := (HT4.out.trans HTA.out).trans' hT6 (fun i hi => .inr (hi ▸ hGw))
  obtain ⟨e2, he2⟩ : ∃ e2, S.data.toList.set q (y ^^^ 1) = e2 := ⟨_, rfl⟩
  have hel : e2.length = 64 := by rw [← he2, List.length_set, ba_len, hSz]
  rw [he2] at hB6
  have hcv : (convert 78 9 (.slice (some ⟨G, 0, none⟩) 64 cap)).run Try.prog w6 = .ok (.string ⟨e2.toArray⟩) w6 := by
    have := run_convert_bytes_back (P := Try.prog) w6 78 9 5 ⟨G, 0, none⟩ cap e2 Try.underlying78 Try.underlying5 Try.underlying9 (fun j hj => by
      have h1 := hB6.cell hj
      have h2 : (⟨G, 0, none⟩ : Addr).add j = ⟨G, j, none⟩ := by
        by_cases h0 : j = 0
        · subst h0; simp [Addr.add]
        · simp [Addr.add, h0]
      rw [h2]; exact h1)
    rwa [hel] at this
  obtain ⟨S2, hS2⟩ : ∃ S2 : ByteArray, ⟨e2.toArray⟩ = S2 := ⟨_, rfl⟩
  rw [hS2] at hcv
  have hS2z : S2.size = 64 := by rw [← hS2, ba_of_size, hel]
  have HD6 := Lib.hid hD6
  have HT6 := Lib.hid hT06
  have HE := Lib.hid (⟨he2, hS2⟩ : _ ∧ _)
  have HBB := Lib.hid hB6
  clear hB6 hT6 hD6 hT06 he2 hS2 hlt4 hGd hGw hc hf hxor hx1
  go_wp2_with (go_at_call 19; refine (write_ok HD6.out p S2 hS2z hp16 (by decide) (by omega)).mono ?_; rintro e w7 ⟨rfl, hD7, hT7⟩; have HD7 := Lib.hid hD7; have HT7 : Hid (Touch (fun _ => False) w w7) := Lib.hid (HT6.out.from hT7 (fun k hk => HS.out k (.inl hk))); clear hD7 hT7)
  obtain ⟨hq1, hq2, hq3, hq4, hq5⟩ := HQ.out
  obtain ⟨he2, hS2⟩ := HE.out
  have hAl : A.data.toList.length = n1 := by rw [ba_len, hq1]
  have hiA : i < A.data.toList.length := by omega
  have hLl := HK4.out.duo.live.disk.len
  have hHo := HK4.out.duo.holds
  have hflip := img_flip (i := i) hLl hHo hiA (by omega) (y ^^^ 1) (t3 + 1)
  have hiy : y = A.data.toList[i] := by
    have h1 := hHo.at' hiA
    rw [List.getD_eq_getElem?_getD, List.getElem?_eq_getElem hiA] at h1
    have h2 : imgB L3 [] (8 * 64 + i) = A.data.toList[i] := h1
    unfold imgB at h2
    rw [show (8 * 64 + i) / 64 = p by omega, show (8 * 64 + i) % 64 = q by omega, HSS.out, List.getD_eq_getElem?_getD, HY.out.1] at h2
    exact h2
  rw [show 8 + i / 64 = p by omega, hq3, HSS.out, he2, hS2] at hflip
  have hne : moreN 0 (imgL L3 (putE [] p S2 (t3 + 1)) (8 * 64 + 0) A.data.toList.length) ≠ moreN 0 A.data.toList := by
    rw [hflip, hiy]; exact set_ne _ i hiA
  have hnote := HK4.out.note
  have hbd := kopen_bad HD7.out (by omega) (fun j hj => by rw [rput_other _ _ (by omega)]; rfl) (by omega) HK4.out.duo.live.secs (a := A.data.toList.length) (m := moreN 0 A.data.toList) (by rw [hAl]; omega) hne (fun W gb hL => lastOf_any hL (by omega) hnote (by omega) (by omega) (by rw [hAl]; omega))
  have HBD := Lib.hid hbd
  clear hbd hne hflip hHo hLl hiA hAl hiy hnote he2 hS2 hq1 hq2 hq3 hq4 hq5
  refine HBD.out.mono ?_
  rintro e w8 ⟨rfl, hT8⟩
  go_wp2_with fail
  go_ret
  exact ⟨rfl, HT7.out.trans hT8⟩

end Go.Proofs.Ytmcakilpdecacaa
