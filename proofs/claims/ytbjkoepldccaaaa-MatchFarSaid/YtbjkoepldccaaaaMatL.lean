/- Package match's bytesOf over the translated program: each byte is a token. -/
import Derived.Test.YtbjkoepldccaaaaMatK
import Derived.OwnWalk
namespace Go.Proofs.Ytbjkoepldccaaaa
open Go Go.RowKit Go.Maps
set_option maxRecDepth 100000

def byteT (x : UInt8) : Tok := ⟨x, 0, 0⟩
/-- Of a text's bytes the first ones are told. -/
def upT (X : List UInt8) (k : Nat) : List Tok := (List.range X.length).map fun j => if j < k then byteT (X.getD j 0) else byteT 0
theorem upT_len (X : List UInt8) (k : Nat) : (upT X k).length = X.length := by simp [upT]
theorem upT_get (X : List UInt8) (k j : Nat) (t : Tok) (h : (upT X k)[j]? = some t) : j < X.length ∧ t = if j < k then byteT (X.getD j 0) else byteT 0 := by
  have hj : j < X.length := by
    have := (List.getElem?_eq_some_iff.1 h).1
    rw [upT_len] at this
    exact this
  refine ⟨hj, ?_⟩
  unfold upT at h
  rw [List.getElem?_map, List.getElem?_range hj] at h
  exact (Option.some.inj h).symm
theorem upT_at (X : List UInt8) (k j : Nat) (hj : j < X.length) : (upT X k)[j]? = some (if j < k then byteT (X.getD j 0) else byteT 0) := by
  unfold upT
  rw [List.getElem?_map, List.getElem?_range hj]
  rfl
theorem upT_all (X : List UInt8) : upT X X.length = X.map byteT := by
  refine List.ext_getElem? (fun j => ?_)
  rcases Nat.lt_or_ge j X.length with h | h
  · rw [upT_at X _ j h, if_pos h, List.getElem?_map, List.getElem?_eq_getElem h, List.getD_eq_getElem?_getD, List.getElem?_eq_getElem h]
    rfl
  · rw [List.getElem?_eq_none (by rw [upT_len]; exact h), List.getElem?_eq_none (by simp; exact h)]

theorem addr_ne3 {g i j : Nat} (h : i ≠ j) : (⟨g, i, none⟩ : Addr) ≠ ⟨g, j, none⟩ := by
  intro e
  injection e with _ e
  exact h e
theorem Toks.cells {w : World} {g n cap : Nat} {l : List Tok} (h : Toks w (.slice (some ⟨g, 0, none⟩) n cap) l) (k : Nat) (t : Tok) (hk : l[k]? = some t) :
    w.cell? ⟨g, k * 3, none⟩ = some (.int .u8 (t.b.toNat : Nat)) ∧ w.cell? ⟨g, k * 3 + 1, none⟩ = some (.int .i64 t.n) ∧ w.cell? ⟨g, k * 3 + 2, none⟩ = some (.int .i64 t.d) := by
  obtain ⟨a, cap', he, h1, h2, h3⟩ := h
  cases he
  rcases h3 with rfl | ⟨g', off, ha, hc⟩
  · simp at hk
  · cases ha
    have := hc k t hk
    rw [Nat.zero_add] at this
    exact this
theorem Toks.put {w : World} {g n cap : Nat} {X : List UInt8} {k : Nat} (h : Toks w (.slice (some ⟨g, 0, none⟩) n cap) (upT X k)) (hk : k < X.length) :
    Toks (w.setCell ⟨g, k * 3, none⟩ (.int .u8 ((X.getD k 0).toNat : Nat))) (.slice (some ⟨g, 0, none⟩) n cap) (upT X (k + 1)) := by
  have hc0 := h.cells k _ (upT_at X k k hk)
  have hc := fun j t ht => h.cells j t ht
  obtain ⟨a, cap', he, h1, h2, h3⟩ := h
  cases he
  refine ⟨_, cap, by rw [upT_len, upT_len], by rw [upT_len] at h1 ⊢; exact h1, h2, .inr ⟨g, 0, rfl, fun j t ht => ?_⟩⟩
  rw [Nat.zero_add]
  obtain ⟨hj, rfl⟩ := upT_get X _ j t ht
  have h0 := hc j _ (upT_at X k j hj)
  by_cases e : j = k
  · subst e
    rw [if_pos (by omega)]
    rw [if_neg (by omega)] at h0
    exact ⟨World.cell?_setCell_same _ _ _ hc0.1, (World.cell?_setCell_other _ _ _ _ (addr_ne3 (by omega))).trans h0.2.1, (World.cell?_setCell_other _ _ _ _ (addr_ne3 (by omega))).trans h0.2.2⟩
  · have e2 : (if j < k + 1 then byteT (X.getD j 0) else byteT 0) = if j < k then byteT (X.getD j 0) else byteT 0 := by
      by_cases hjk : j < k
      · rw [if_pos hjk, if_pos (by omega)]
      · rw [if_neg hjk, if_neg (by omega)]
    rw [e2]
    exact ⟨(World.cell?_setCell_other _ _ _ _ (addr_ne3 (by omega))).trans h0.1, (World.cell?_setCell_other _ _ _ _ (addr_ne3 (by omega))).trans h0.2.1, (World.cell?_setCell_other _ _ _ _ (addr_ne3 (by omega))).trans h0.2.2⟩
theorem toksV_get (l : List Tok) (j : Nat) (x : Tok) (h : l[j]? = some x) : (toksV l)[j * 3]? = some (.int .u8 (x.b.toNat : Nat)) ∧ (toksV l)[j * 3 + 1]? = some (.int .i64 x.n) ∧ (toksV l)[j * 3 + 2]? = some (.int .i64 x.d) := by
  induction l generalizing j with
  | nil => simp at h
  | cons y l ih =>
    have e : toksV (y :: l) = tokV y ++ toksV l := by simp [toksV]
    rw [e]
    cases j with
    | zero =>
      obtain rfl : y = x := by simpa using h
      simp [tokV]
    | succ j =>
      have := ih j (by simpa using h)
      have hl : (tokV y).length = 3 := rfl
      rw [List.getElem?_append_right (by omega), List.getElem?_append_right (by omega), List.getElem?_append_right (by omega), hl, show (j + 1) * 3 - 3 = j * 3 by omega, show (j + 1) * 3 + 1 - 3 = j * 3 + 1 by omega, show (j + 1) * 3 + 2 - 3 = j * 3 + 2 by omega]
      exact this
theorem Toks.of_own {w : World} {base : Nat} {e : TypeId} {v : Value} {n : Nat} {xs : List Tok} (h : w.ownsRow base e 3 v n (toksV xs)) : Toks w v xs := by
  have hl : xs.length = n := by have := h.1; rw [toksV_length] at this; omega
  subst hl
  rcases h.2 with ⟨rfl, h0⟩ | ⟨g, cap, cur, rfl, _, hh, h1, h2, h3, h4⟩
  · obtain rfl : xs = [] := List.eq_nil_of_length_eq_zero h0
    exact ⟨none, 0, rfl, Nat.le_refl _, Nat.zero_le _, .inl rfl⟩
  · refine ⟨_, cap, rfl, h1, h2, .inr ⟨g, 0, rfl, fun j x hx => ?_⟩⟩
    have hj : j < xs.length := (List.getElem?_eq_some_iff.1 hx).1
    have hg := toksV_get xs j x hx
    rw [← h4] at hg
    rw [List.getElem?_take, if_pos (by omega), List.getElem?_take, if_pos (by omega), List.getElem?_take, if_pos (by omega), Array.getElem?_toList, Array.getElem?_toList, Array.getElem?_toList] at hg
    rw [cell_of_row w g _ cur e (0, 0) hh, cell_of_row w g _ cur e (0, 0) hh, cell_of_row w g _ cur e (0, 0) hh]
    simpa using hg
theorem made_toks (n : Nat) : (madeCells #[.int .u8 0, .int .i64 0, .int .i64 0] (n * 3)).toList = toksV (List.replicate n (byteT 0)) := by
  refine List.ext_getElem? (fun i => ?_)
  rcases Nat.lt_or_ge i (n * 3) with h | h
  · have hj : (List.replicate n (byteT 0))[i / 3]? = some (byteT 0) := by rw [List.getElem?_replicate, if_pos (by omega)]
    obtain ⟨g0, g1, g2⟩ := toksV_get _ _ _ hj
    have hl : (madeCells #[.int .u8 0, .int .i64 0, .int .i64 0] (n * 3)).toList[i]? = some (#[Value.int .u8 0, Value.int .i64 0, Value.int .i64 0][i % 3]!) := by
      simp [madeCells, h]
    rw [hl]
    have h3 : i % 3 = 0 ∨ i % 3 = 1 ∨ i % 3 = 2 := by omega
    rcases h3 with e | e | e
    · rw [show i / 3 * 3 = i by omega] at g0
      rw [g0, e]; rfl
    · rw [show i / 3 * 3 + 1 = i by omega] at g1
      rw [g1, e]; rfl
    · rw [show i / 3 * 3 + 2 = i by omega] at g2
      rw [g2, e]; rfl
  · rw [List.getElem?_eq_none (by simp [size_madeCells]; omega), List.getElem?_eq_none (by rw [toksV_length]; simp; omega)]
theorem upT_zero (X : List UInt8) : upT X 0 = List.replicate X.length (byteT 0) := by
  refine List.ext_getElem? (fun j => ?_)
  rcases Nat.lt_or_ge j X.length with h | h
  · rw [upT_at X _ j h, if_neg (by omega), List.getElem?_replicate, if_pos h]
  · rw [List.getElem?_eq_none (by rw [upT_len]; exact h), List.getElem?_eq_none (by simp; exact h)]

set_option maxHeartbeats 1000000 in
theorem bytesOf_calls (s : ByteArray) (w : World) (hs : s.size ≤ 1000000) :
    Calls Try.prog 14 #[.string s] w fun e w' => (∃ v, e = .returned v ∧ Toks w' v (s.data.toList.map byteT) ∧ ∀ g, v.ownBlock = some g → w.heap.size ≤ g) ∧ Touch (fun _ => False) w w' := by
  obtain ⟨i0, hi, hz0, hz1, hz2⟩ := info_parts Try.infoT
  have hX := data_length s
  go_enter Try.func14, Try.ntmps14
  go_wp2_with (at_make; refine wpList_make_full _ rfl (.tmp 6) (.tmp 6) 26 rfl w.heap.size 33 i0 _ 3 Try.underlying26 hi hz0 hz1 .i64 .i64 _ _ s.size rfl rfl rfl rfl (by rw [hz2]; omega) (by unfold maxLen; omega) (Nat.le_refl _) ?_; intro w2 hown hgrow)
  have hrow : w2.ownsRow w.heap.size 33 3 (.slice (some ⟨w.heap.size, 0, none⟩) s.size s.size) s.size (toksV (upT s.data.toList 0)) := by
    rw [upT_zero, hX, ← made_toks]
    exact hown
  have hT2 : Touch (fun _ => False) w w2 := (Touch.refl (fun _ => False) w).grown hgrow (fun k h => by cases h)
  have HTK := Lib.hid (Toks.of_own hrow)
  have hfz : ∀ k, w2.frozen? ⟨w.heap.size, k, none⟩ = false := fun k => by
    rcases hown.2 with ⟨h, _⟩ | ⟨g, cap, cur, h, _, hh, _⟩
    · cases h
    · cases h
      simp [World.frozen?, hh]
  have HFZ := Lib.hid hfz
  have HT2 := Lib.hid hT2
  clear hrow hT2 hown hgrow hfz
  obtain ⟨G, hG⟩ : ∃ G, w.heap.size = G := ⟨_, rfl⟩
  rw [hG] at HTK HFZ ⊢
  have HG := Lib.hid hG
  clear hG
  go_loopw [10] (fun i wr => ∃ k : Nat, k ≤ s.size ∧ i = .int .i64 (k : Nat) ∧ RowKit.Hid (Toks wr (.slice (some ⟨G, 0, none⟩) s.size s.size) (upT s.data.toList k)) ∧ RowKit.Hid (∀ k, wr.frozen? ⟨G, k, none⟩ = false) ∧ RowKit.Hid (Touch (fun _ => False) w wr)) (fun i _ => s.size - (intOf i).toNat)
  case atStart => exact ⟨0, Nat.zero_le _, rfl, HTK, HFZ, HT2⟩
  case round =>
    obtain ⟨k, hk, rfl, HK, HF, HT⟩ := hrel
    clear HTK HFZ HT2
    by_cases hlt : k < s.size
    · have hk0 : (0 : Int) ≤ (k : Int) := by omega
      have hk1 : (k : Int) < (s.size : Int) := by omega
      obtain ⟨c0, c1, c2⟩ := HK.out.cells k _ (upT_at s.data.toList k k (by omega))
      have hf := HF.out (k * 3)
      obtain ⟨x, hx⟩ : ∃ x, x = s.data.toList.getD k 0 := ⟨_, rfl⟩
      have hbx : s[k] = x := by rw [hx]; exact byte_at s k hlt
      have HX := Lib.hid hx
      clear hx
      go_wp2_with fail
      go_roundw
      case rel =>
        have hP := HK.out.put (by omega : k < s.data.toList.length)
        rw [← HX.out] at hP
        exact ⟨k + 1, by omega, by go_num, Lib.hid hP, Lib.hid (fun j => by rw [World.frozen?_setCell]; exact HF.out j), Lib.hid (HT.out.setCell (.inr (Nat.le_of_eq HG.out)) _)⟩
      case measure => simp [intOf]; omega
    · have hk1 : (s.size : Int) ≤ (k : Int) := by omega
      obtain rfl : k = s.size := by omega
      go_wp2_with fail
      go_ret
      exact ⟨⟨_, rfl, by rw [← upT_all, hX]; exact HK.out, fun g hg => by have h9 : G = g := Option.some.inj hg; have := HG.out; omega⟩, HT.out⟩
end Go.Proofs.Ytbjkoepldccaaaa
