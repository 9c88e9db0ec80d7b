
/- Contracts of package lz's tokens over the translated program: Good and Expand, by lists. -/
import Derived.Test.YtbjkoepldccaaaaLzA
import Derived.Test.YtbjkoepldccaaaaBuf
namespace Go.Proofs.Ytbjkoepldccaaaa
open Go Go.RowKit
set_option maxRecDepth 100000
set_option maxRecDepth 100000

/-- A token: its byte, its length, how far back. -/
structure Tok where
  b : UInt8
  n : Int
  d : Int
def tokA (t : Tok) : Array Value := #[.int .u8 (t.b.toNat : Nat), .int .i64 t.n, .int .i64 t.d]

/-- May it be? -/
def goodB (t : Tok) : Bool := if t.n = 0 then decide (t.d = 0) else decide (t.b.toNat = 0 ∧ 3 ≤ t.n ∧ t.n ≤ 258 ∧ 1 ≤ t.d ∧ t.d ≤ 32768)

/-- A slice of tokens, to be read. -/
def Toks (w : World) (v : Value) (l : List Tok) : Prop :=
  ∃ a cap, v = .slice a l.length cap ∧ l.length ≤ cap ∧ cap ≤ maxLen ∧ (l = [] ∨ ∃ g off, a = some ⟨g, off, none⟩ ∧ ∀ j t, l[j]? = some t →
    w.cell? ⟨g, off + j * 3, none⟩ = some (.int .u8 (t.b.toNat : Nat)) ∧ w.cell? ⟨g, off + j * 3 + 1, none⟩ = some (.int .i64 t.n) ∧ w.cell? ⟨g, off + j * 3 + 2, none⟩ = some (.int .i64 t.d))

theorem Toks.kept {S : Nat → Prop} {w w' : World} {v : Value} {l : List Tok} (h : Toks w v l) (ht : Touch S w w') (hn : ∀ g, v.ownBlock = some g → ¬ S g) : Toks w' v l := by
  obtain ⟨a, cap, rfl, h1, h2, h3⟩ := h
  refine ⟨a, cap, rfl, h1, h2, ?_⟩
  rcases h3 with h3 | ⟨g, off, rfl, h3⟩
  · exact .inl h3
  · exact .inr ⟨g, off, rfl, fun j t ht' => ⟨ht.cell (h3 j t ht').1 (hn g rfl), ht.cell (h3 j t ht').2.1 (hn g rfl), ht.cell (h3 j t ht').2.2 (hn g rfl)⟩⟩
theorem Toks.still {w w' : World} {v : Value} {l : List Tok} (h : Toks w v l) (ht : Touch (fun _ => False) w w') : Toks w' v l := h.kept ht (fun _ _ => id)

/-- One token more. -/
def copyL : Nat → Nat → List UInt8 → List UInt8
  | 0, _, b => b
  | n + 1, d, b => copyL n d (b ++ [b.getD (b.length - d) 0])
def tellL (t : Tok) (b : List UInt8) : List UInt8 := if t.n = 0 then b ++ [t.b] else copyL t.n.toNat t.d.toNat b
/-- What tokens make of the bytes ahead of them. -/
def expandL (b : List UInt8) : List Tok → Option (List UInt8)
  | [] => some b
  | t :: r => if goodB t = true ∧ t.d ≤ b.length then expandL (tellL t b) r else none

/-- What Expand answers. -/
def expV (n : Nat) (o : Option (List UInt8)) : Value :=
  match o with
  | some r => .tuple #[.string ⟨(r.drop n).toArray⟩, .bool true]
  | none => .tuple #[.string ⟨#[]⟩, .bool false]

theorem copyL_snoc (k d : Nat) (b : List UInt8) : copyL (k + 1) d b = copyL k d b ++ [(copyL k d b).getD ((copyL k d b).length - d) 0] := by
  induction k generalizing b with
  | zero => rfl
  | succ k ih => exact ih _
theorem copyL_length (k d : Nat) (b : List UInt8) : (copyL k d b).length = b.length + k := by
  induction k generalizing b with
  | zero => rfl
  | succ k ih => rw [copyL, ih, List.length_append]; simp; omega

theorem Try.infoU8 : (Try.prog.info? 5).map (fun i => (i.zero, i.size, i.bytes)) = some (some (.int .u8 0), 1, 1) := by kernel_rfl
/-- The bytes from some place on, as a string. -/
theorem run_convert_buf {P : Program} (w : World) (src e dst : TypeId) (hs : P.underlying src = some (.slice e)) (he : P.underlying e = some (.int .u8)) (hd : P.underlying dst = some .string)
    {g n cap q : Nat} {e0 : TypeId} {X : List UInt8} (h : Buf w e0 (.slice (some ⟨g, 0, none⟩) n cap) (byteVs X)) (hq : q ≤ X.length) :
    (convert src dst (.slice (some ⟨g, q, none⟩) (n - q) (cap - q))).run P w = .ok (.string ⟨(X.drop q).toArray⟩) w := by
  obtain ⟨h1, h2⟩ := h.cells
  rw [byteVs_length] at h1
  subst h1
  have := run_convert_bytes_back (P := P) w src dst e ⟨g, q, none⟩ (cap - q) (X.drop q) hs he hd (fun j hj => by
    have hj' : j < X.length - q := by simpa using hj
    have h3 := h2 (q + j) (.int .u8 ((X[q + j]).toNat : Nat)) (by simp [byteVs, show q + j < X.length by omega])
    have h4 : (⟨g, q, none⟩ : Addr).add j = ⟨g, q + j, none⟩ := by
      by_cases h0 : j = 0
      · subst h0; simp [Addr.add]
      · simp [Addr.add, h0]
    rw [h4, h3]
    simp)
  rwa [List.length_drop] at this
theorem run_convert_buf2 {P : Program} (w : World) (src e dst : TypeId) (hs : P.underlying src = some (.slice e)) (he : P.underlying e = some (.int .u8)) (hd : P.underlying dst = some .string)
    {g n cap q : Nat} {e0 : TypeId} {X : List UInt8} (h : Buf w e0 (.slice (some ⟨g, 0, none⟩) n cap) (byteVs X)) (hq : X.length ≤ q) (c : Nat) (o : Nat) :
    (convert src dst (.slice (some ⟨g, o, none⟩) (n - q) c)).run P w = .ok (.string ⟨(X.drop q).toArray⟩) w := by
  obtain ⟨h1, h2⟩ := h.cells
  rw [byteVs_length] at h1
  subst h1
  have := run_convert_bytes_back (P := P) w src dst e ⟨g, o, none⟩ c (X.drop q) hs he hd (fun j hj => by
    have hj' : j < X.length - q := by simpa using hj
    omega)
  rwa [List.length_drop] at this

theorem ret1 {a b : Value} (h : a = b) : Ending.returned a = .returned b := by rw [h]

theorem data_length (s : ByteArray) : s.data.toList.length = s.size := Array.length_toList

theorem good_calls (t : Tok) (w : World) : Calls Try.prog 16 #[.agg (tokA t)] w fun e w' => e = .returned (.bool (goodB t)) ∧ Touch (fun _ => False) w w' := by
  obtain ⟨b, n, d⟩ := t
  unfold tokA goodB
  have hb := b.toNat_lt
  have H1 := Lib.hid (fun W => islen_calls n W)
  have H2 := Lib.hid (fun W => isdist_calls d W)
  simp only
  generalize b.toNat = c at hb ⊢
  by_cases hn : n = 0
  · subst hn
    go_enter Try.func16, Try.ntmps16
    go_wp2_with fail
    go_ret
    exact ⟨ret1 (congrArg Value.bool (by by_cases hd : d = 0 <;> simp [hd])), (Touch.refl _ _).alloc _⟩
  · by_cases hc : c = 0
    · subst hc
      have hne : ¬ (n = 0) := hn
      by_cases h3 : 3 ≤ n ∧ n ≤ 258
      · have e3 : (decide (3 ≤ n ∧ n ≤ 258)) = true := decide_eq_true h3
        rw [e3] at H1
        go_enter Try.func16, Try.ntmps16
        go_wp2_with (first | (go_at_call 20; refine (H1.out _).mono ?_; rintro e w1 ⟨rfl, rfl⟩) | (go_at_call 21; refine (H2.out _).mono ?_; rintro e w1 ⟨rfl, rfl⟩))
        go_ret
        exact ⟨ret1 (congrArg Value.bool (by simp)), (Touch.refl _ _).alloc _⟩
      · have e3 : (decide (3 ≤ n ∧ n ≤ 258)) = false := decide_eq_false h3
        rw [e3] at H1
        go_enter Try.func16, Try.ntmps16
        go_wp2_with (first | (go_at_call 20; refine (H1.out _).mono ?_; rintro e w1 ⟨rfl, rfl⟩) | (go_at_call 21; refine (H2.out _).mono ?_; rintro e w1 ⟨rfl, rfl⟩))
        go_ret
        exact ⟨ret1 (congrArg Value.bool (by simp; omega)), (Touch.refl _ _).alloc _⟩
    · have hc0 : (c : Int) ≠ 0 := by omega
      go_enter Try.func16, Try.ntmps16
      go_wp2_with fail
      go_ret
      exact ⟨ret1 (congrArg Value.bool (by simp)), (Touch.refl _ _).alloc _⟩

set_option maxHeartbeats 1000000 in
theorem expand_calls (s : ByteArray) (l : List Tok) (v : Value) (w : World) (hv : Toks w v l) (hs : s.size ≤ 32768) (hl : l.length ≤ 1000) :
    Calls Try.prog 11 #[.string s, v] w fun e w' => e = .returned (expV s.size (expandL s.data.toList l)) ∧ Touch (fun _ => False) w w' := by
  obtain ⟨i0, hi, hz0, hz1, hz2⟩ := info_parts Try.infoU8
  obtain ⟨a, cap, rfl, hlc, hcm, hcell⟩ := hv
  go_enter Try.func11, Try.ntmps11
  go_wp2_with fail
  rw [run_bytes_of_string w 9 35 5 s Try.underlying9 Try.underlying35 Try.underlying5]
  have hcg := grownCap_ge w s.size 0 5
  have hcl := grownCap_le_maxLen w s.size 0 5 (by unfold maxLen; omega)
  have hB := Buf.new w.drew 5 s (grownCap w s.size 0 5) hcg hcl
  have hT := (Touch.refl (fun _ => False) w).drew.alloc (.cells (bytesRow s (grownCap w s.size 0 5)) 5 ((bytesRow s (grownCap w s.size 0 5)).size, (bytesRow s (grownCap w s.size 0 5)).size + 1))
  change Buf _ _ (.slice (some ⟨w.heap.size, 0, none⟩) _ _) _ at hB
  generalize w.drew.alloc (.cells (bytesRow s (grownCap w s.size 0 5)) 5 ((bytesRow s (grownCap w s.size 0 5)).size, (bytesRow s (grownCap w s.size 0 5)).size + 1)) = w2 at hB hT ⊢
  generalize grownCap w s.size 0 5 = cap2 at hB
  obtain ⟨G, hG⟩ : ∃ G, w.heap.size = G := ⟨_, rfl⟩
  rw [hG] at hB ⊢
  clear hcg hcl
  go_wp2_with fail
  go_loopw [4, 5, 7, 9, 20] (fun rs ro vb _ i wr => rs = .string ⟨#[]⟩ ∧ ro = .bool false ∧ ∃ (k : Nat) (X : List UInt8), k ≤ l.length ∧ i = .int .i64 (k : Nat) ∧ expandL s.data.toList l = expandL X (l.drop k) ∧ X.length ≤ s.size + 258 * k ∧ s.size ≤ X.length ∧ Buf wr 5 vb (byteVs X) ∧ (∀ g, vb.ownBlock = some g → w.heap.size ≤ g) ∧ Touch (fun _ => False) w wr) (fun _ _ _ _ i _ => l.length - (intOf i).toNat)
  case atStart => exact ⟨rfl, rfl, 0, s.data.toList, Nat.zero_le _, rfl, rfl, Nat.le_of_eq (data_length s), Nat.le_of_eq (data_length s).symm, hB, fun g hg => by injection hg with hg; rw [← hg]; exact Nat.le_of_eq hG, hT⟩
  case round =>
    clear hB hT hG
    obtain ⟨rfl, rfl, k, X, hk, rfl, hex, hX1, hX2, hbuf, hfr, hT⟩ := hrel
    obtain ⟨gb, capb, hvb, hc1, hc2, hgl⟩ := hbuf.form
    rw [byteVs_length] at hvb hc1
    subst hvb
    by_cases hlt : k < l.length
    · rcases hcell with rfl | ⟨g, off, rfl, hcell⟩
      · simp at hlt
      obtain ⟨t, ht⟩ : ∃ t, t = l[k] := ⟨_, rfl⟩
      have hlk : l[k]? = some t := by rw [ht]; exact List.getElem?_eq_getElem hlt
      have hdr : l.drop k = t :: l.drop (k + 1) := by rw [ht]; exact List.drop_eq_getElem_cons hlt
      rw [hdr] at hex
      obtain ⟨a0, a1, a2⟩ := hcell k t hlk
      have b0 := hT.cell a0 id
      have b1 := hT.cell a1 id
      have b2 := hT.cell a2 id
      have HG := Lib.hid (fun W => good_calls t W)
      unfold tokA at HG
      have hk0 : (0 : Int) ≤ (k : Int) := by omega
      have hk1 : (k : Int) < (l.length : Int) := by omega
      clear hcell a0 a1 a2 hdr ht
      go_wp2_with fail
      refine (HG.out _).mono ?_
      rintro e w3 ⟨rfl, ht3⟩
      obtain ⟨hlt3, hb3⟩ := box_kept ht3
      have hT3 := ((hT.alloc _).trans ht3)
      have hbuf3 := hbuf.kept ((Touch.refl (fun _ => False) wr).alloc (.cells #[.int .u8 (t.b.toNat : Nat), .int .i64 t.n, .int .i64 t.d] 33) |>.trans ht3) (fun _ _ => id)
      clear b0 b1 b2 HG ht3 hbuf hT
      have hne : gb ≠ wr.heap.size := by omega
      generalize wr.heap.size = B at hlt3 hb3 hgl hne ⊢
      obtain ⟨c0, c1, c2, f0, f1, f2⟩ := box_cells hb3
      by_cases hg : goodB t = true
      · rw [hg]
        by_cases hd : t.d ≤ X.length
        · have hex2 : expandL s.data.toList l = expandL (tellL t X) (l.drop (k + 1)) := by rw [hex, expandL, if_pos ⟨hg, hd⟩]
          have HEX := Lib.hid hex2
          clear hex hex2
          by_cases hn : t.n = 0
          · have htl : tellL t X = X ++ [t.b] := if_pos hn
            rw [htl] at HEX
            have hfr2 : w.heap.size ≤ gb := hfr gb rfl
            go_wp2_with (at_builtin; refine wpList_append_buf _ rfl (.tmp 37) (.tmp 40) 35 35 rfl 5 i0 _ 1 Try.underlying35 hi hz0 hz1 hz2 rfl (.slice (some ⟨gb, 0, none⟩) X.length capb) (byteVs X) rfl (hbuf3.kept ((Touch.refl (fun _ => False) w3).alloc _) (fun _ _ => id)) (.slice (some ⟨w3.heap.size, 0, none⟩) 1 1) rfl 1 [.int .u8 (t.b.toNat : Nat)] (Src.ofCell Try.underlying35 (heap_alloc_new w3 _) rfl) (by rw [byteVs_length]; unfold maxLen; omega) (by rw [byteVs_length]; omega) ?_; intro v4 w4 hb4 hg4 ho4; obtain ⟨g4, cap4, hv4, hc4, hc4', hgl4⟩ := hb4.form; rw [List.length_append, byteVs_length] at hv4; subst hv4; have q1 := (hg4.block B (by simp; omega) (by simp [Value.ownBlock]; omega)).trans ((heap_alloc_old _ _ hlt3).trans hb3); obtain ⟨c0', c1', c2', f0', f1', f2'⟩ := box_cells q1; clear c0 c1 c2 f0 f1 f2)
            have hT4 := (hT3.alloc (.cells #[.int .u8 (t.b.toNat : Nat)] 5)).grown hg4 (fun g hg => .inr (by have hg2 : gb = g := Option.some.inj hg; omega))
            have hfr4 : w.heap.size ≤ g4 := by
              rcases ho4 with h | h
              · have h2 : g4 = gb := Option.some.inj h
                omega
              · have h2 : g4 = (w3.alloc (.cells #[.int .u8 (t.b.toNat : Nat)] 5)).heap.size := Option.some.inj h
                have := hT3.size
                simp at h2
                omega
            clear hb3 q1 c0' c1' c2' f0' f1' f2' hg4 ho4 hbuf3
            go_loopw [7, 44] (fun vb j wr => vb = .slice (some ⟨g4, 0, none⟩) (X.length + 1) cap4 ∧ j = .int .i64 0 ∧ wr = w4) (fun _ _ _ => 0)
            case atStart => exact ⟨rfl, rfl, rfl⟩
            case round =>
              obtain ⟨rfl, rfl, rfl⟩ := hrel
              go_wp2_with fail
              go_roundw
              case rel =>
                rw [← byteVs_length X] at hb4
                refine ⟨rfl, rfl, k + 1, X ++ [t.b], by omega, by go_num, HEX.out, by simp; omega, by simp; omega, ?_, fun g hg => by have hg2 : g4 = g := Option.some.inj hg; omega, hT4⟩
                have e : (byteVs X).length = X.length := byteVs_length X
                rw [byteVs_append]
                simpa [e, byteVs] using hb4
              case measure => simp [intOf]; omega
          · have hgn : 3 ≤ t.n ∧ t.n ≤ 258 ∧ 1 ≤ t.d := by
              unfold goodB at hg
              rw [if_neg hn] at hg
              have := of_decide_eq_true hg
              omega
            obtain ⟨m, hm⟩ : ∃ m : Nat, t.n = m := ⟨t.n.toNat, by omega⟩
            obtain ⟨d, hdd⟩ : ∃ d : Nat, t.d = d := ⟨t.d.toNat, by omega⟩
            have htl : tellL t X = copyL m d X := by
              unfold tellL
              rw [if_neg hn, hm, hdd]
              rfl
            rw [htl] at HEX
            rw [hm, hdd] at hb3
            rw [hm] at c1
            rw [hdd] at c2
            rw [hm, hdd] at hgn
            rw [hdd] at hd
            rw [hm] at hn
            rw [hm, hdd]
            clear htl hm hdd hg
            have hfr2 : w.heap.size ≤ gb := hfr gb rfl
            have hBw : w.heap.size ≤ B := by omega
            have em : ((m : Int) == 0) = false := beq_eq_false_iff_ne.2 hn
            have ed : decide (X.length < d) = false := decide_eq_false (by omega)
            have ed2 : decide ((X.length : Int) < (d : Int)) = false := decide_eq_false (by omega)
            go_wp2_with fail
            clear c0 c1 c2 f0 f1 f2
            go_loopw [7, 44] (fun vb j wr => ∃ (q : Nat), q ≤ m ∧ j = .int .i64 (q : Nat) ∧ Buf wr 5 vb (byteVs (copyL q d X)) ∧ (∀ g, vb.ownBlock = some g → w.heap.size ≤ g ∧ g ≠ B) ∧ Touch (fun _ => False) w wr ∧ B < wr.heap.size ∧ wr.heap[B]? = some (.cells #[.int .u8 (t.b.toNat : Nat), .int .i64 (m : Nat), .int .i64 (d : Nat)] 33)) (fun _ j _ => m - (intOf j).toNat)
            case atStart => exact ⟨0, Nat.zero_le _, rfl, hbuf3, fun g hg => by have hg2 : gb = g := Option.some.inj hg; omega, hT3, hlt3, hb3⟩
            case round =>
              clear hbuf3 hfr hT3 hlt3 hb3
              obtain ⟨q, hq, rfl, hbuf3, hfr, hT3, hlt3, hb3⟩ := hrel
              have hlq := copyL_length q d X
              obtain ⟨g5, cap5, hv5, hc5, hc5', hgl5⟩ := hbuf3.form
              rw [byteVs_length, hlq] at hv5 hc5
              subst hv5
              obtain ⟨c0, c1, c2, f0, f1, f2⟩ := box_cells hb3
              obtain ⟨hfr5, hne5⟩ := hfr g5 rfl
              by_cases hqm : q < m
              · have hp : (X.length : Int) + (q : Int) - (d : Int) = ((X.length + q - d : Nat) : Int) := by omega
                have hp0 : X.length + q - d < X.length + q := by omega
                have hcell := (Buf.cells hbuf3).2 (X.length + q - d) (.int .u8 (((copyL q d X).getD (X.length + q - d) 0).toNat : Nat)) (by
                  simp only [byteVs, List.getElem?_map]
                  rw [List.getElem?_eq_getElem (by rw [hlq]; exact hp0)]
                  simp [List.getD, List.getElem?_eq_getElem (show X.length + q - d < (copyL q d X).length by rw [hlq]; exact hp0)])
                have hsn := copyL_snoc q d X
                rw [hlq] at hsn
                have HSN := Lib.hid hsn
                have HLQ := Lib.hid hlq
                clear hsn hlq
                generalize copyL q d X = Y at hbuf3 hcell HSN HLQ
                generalize Y.getD (X.length + q - d) 0 = y at hcell HSN
                generalize X.length + q - d = p at hp hp0 hcell
                have hp1 : (p : Int) < (X.length : Int) + (q : Int) := by omega
                have hp2 : (0 : Int) ≤ (p : Int) := by omega
                go_wp2_with (at_builtin; refine wpList_append_buf _ rfl (.tmp 46) (.tmp 55) 35 35 rfl 5 i0 _ 1 Try.underlying35 hi hz0 hz1 hz2 rfl (.slice (some ⟨g5, 0, none⟩) (X.length + q) cap5) (byteVs Y) rfl (hbuf3.kept ((Touch.refl (fun _ => False) wr).alloc _) (fun _ _ => id)) (.slice (some ⟨wr.heap.size, 0, none⟩) 1 1) rfl 1 [.int .u8 (y.toNat : Nat)] (Src.ofCell Try.underlying35 (heap_alloc_new wr _) rfl) (by rw [byteVs_length, HLQ.out]; unfold maxLen; omega) (by rw [byteVs_length, HLQ.out]; omega) ?_; intro v4 w4 hb4 hg4 ho4; obtain ⟨g4, cap4, hv4, hc4, hc4', hgl4⟩ := hb4.form; rw [List.length_append, byteVs_length, HLQ.out] at hv4; subst hv4; have q1 := (hg4.block B (by simp; omega) (by simp [Value.ownBlock]; omega)).trans ((heap_alloc_old _ _ hlt3).trans hb3); clear c0 c1 c2 f0 f1 f2)
                have hT4 := (hT3.alloc (.cells #[.int .u8 (y.toNat : Nat)] 5)).grown hg4 (fun g hg => .inr (by have hg2 : g5 = g := Option.some.inj hg; omega))
                have hfr4 : w.heap.size ≤ g4 ∧ g4 ≠ B := by
                  rcases ho4 with h | h
                  · have h2 : g4 = g5 := Option.some.inj h
                    omega
                  · have h2 : g4 = (wr.alloc (.cells #[.int .u8 (y.toNat : Nat)] 5)).heap.size := Option.some.inj h
                    have := hT3.size
                    simp at h2
                    omega
                have hlt4 : B < w4.heap.size := by have := hg4.size; simp at this; omega
                clear hb3 hg4 ho4 hbuf3 hT3
                go_roundw
                case rel =>
                  refine ⟨q + 1, by omega, by go_num, ?_, fun g hg => by have hg2 : g4 = g := Option.some.inj hg; rw [← hg2]; exact hfr4, hT4, hlt4, q1⟩
                  rw [HSN.out, byteVs_append]
                  exact hb4
                case measure => simp [intOf]; omega
              · obtain rfl : q = m := by omega
                have hfr5' : ∀ g, (Value.slice (some ⟨g5, 0, none⟩) (X.length + q) cap5).ownBlock = some g → w.heap.size ≤ g := fun g hg => (hfr g hg).1
                have HLQ := Lib.hid hlq
                clear c0 c1 c2 f0 f1 f2 hb3 hlq hfr
                go_wp2_with fail
                go_roundw
                case rel => exact ⟨rfl, rfl, k + 1, copyL q d X, by omega, by go_num, HEX.out, by rw [HLQ.out]; omega, by rw [HLQ.out]; omega, hbuf3, hfr5', hT3⟩
                case measure => simp [intOf]; omega
        · have hex2 : expandL s.data.toList l = none := by rw [hex, expandL, if_neg (fun h => hd h.2)]
          have HEX := Lib.hid hex2
          have hd' : (X.length : Int) < t.d := by omega
          clear hex hex2 hd
          go_wp2_with fail
          go_ret2
          rw [HEX.out]
          exact ⟨rfl, hT3⟩
      · have hex2 : expandL s.data.toList l = none := by rw [hex, expandL, if_neg (fun h => hg h.1)]
        have hg' : goodB t = false := by simpa using hg
        have HEX := Lib.hid hex2
        rw [hg']
        clear hex hex2 hg hg'
        go_wp2_with fail
        go_ret2
        rw [HEX.out]
        exact ⟨rfl, hT3⟩
    · obtain rfl : k = l.length := by omega
      rw [List.drop_length] at hex
      have hex2 : expandL s.data.toList l = some X := hex
      have HEX := Lib.hid hex2
      clear hex hex2
      have hcv := run_convert_buf (P := Try.prog) wr 35 5 9 Try.underlying35 Try.underlying5 Try.underlying9 hbuf hX2
      have HCV := Lib.hid hcv
      clear hcv
      go_wp2_with fail
      all_goals first
        | rw [HCV.out]
        | rw [run_convert_buf2 (P := Try.prog) wr 35 5 9 Try.underlying35 Try.underlying5 Try.underlying9 (q := s.size) hbuf (by omega) 0 0]
      all_goals go_wp2_with fail
      all_goals
        go_ret2
        rw [HEX.out]
        exact ⟨rfl, hT⟩
end Go.Proofs.Ytbjkoepldccaaaa
