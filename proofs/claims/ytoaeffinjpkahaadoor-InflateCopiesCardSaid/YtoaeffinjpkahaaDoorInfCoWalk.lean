/- The statement InflateCopies over the translated program. -/
import Derived.Test.YtoaeffinjpkahaaDoorInfQc
import Derived.Test.YtoaeffinjpkahaaDoorInfO
namespace Go.Proofs.YtoaeffinjpkahaaDoor
set_option linter.unusedSimpArgs false
set_option linter.unusedVariables false
open Go Go.RowKit
set_option maxRecDepth 100000

theorem cut_num (n : Int) (N : Nat) (hN : N ≤ 700) : ∃ (r : Int) (k : Nat), n.tmod ((N : Int) + 1) = r ∧ -701 < r ∧ r < 701 ∧ (r + (N : Int) + 1).tmod ((N : Int) + 1) = (k : Int) ∧ k ≤ N := by
  have h1 := Int.tmod_lt_of_pos n (b := (N : Int) + 1) (by omega)
  have h2 : -((N : Int) + 1) < n.tmod ((N : Int) + 1) := by
    have h3 := Int.tmod_lt_of_pos (-n) (b := (N : Int) + 1) (by omega)
    rw [Int.neg_tmod] at h3
    omega
  have h4 : 0 ≤ (n.tmod ((N : Int) + 1) + (N : Int) + 1).tmod ((N : Int) + 1) := Int.tmod_nonneg _ (by omega)
  have h5 := Int.tmod_lt_of_pos (n.tmod ((N : Int) + 1) + (N : Int) + 1) (b := (N : Int) + 1) (by omega)
  exact ⟨_, ((n.tmod ((N : Int) + 1) + (N : Int) + 1).tmod ((N : Int) + 1)).toNat, rfl, by omega, by omega, by rw [Int.toNat_of_nonneg h4], by omega⟩

theorem PiecesAt.kept {w w' : World} {v : Value} {l : List (Nat × Int)} (h : PiecesAt w v l) (ht : Touch (fun _ => False) w w') : PiecesAt w' v l := by
  obtain ⟨a, cap, e, h1, h2, h3, h4⟩ := h
  refine ⟨a, cap, e, h1, h2, h3, ?_⟩
  rcases h4 with h4 | ⟨g, off, e1, h5, h6⟩
  · exact .inl h4
  · exact .inr ⟨g, off, e1, Nat.lt_of_lt_of_le h5 ht.size, fun i p hp => ⟨ht.cell (h6 i p hp).1 id, ht.cell (h6 i p hp).2 id⟩⟩

theorem fresh_trans {F : Nat → Prop} {w a c : World} (ht : Touch (fun _ => False) w a) (h : Touch F a c) (hF : ∀ k, F k → w.heap.size ≤ k) : Touch (fun _ => False) w c :=
  ht.trans' h (fun k hk => .inr (hF k hk))
theorem TabsI.lt {w : World} (h : TabsI w) : 1 < w.heap.size ∧ 2 < w.heap.size :=
  ⟨World.block_lt_of_cell? w ⟨_, 0, none⟩ (h.ord 0 16 rfl), World.block_lt_of_cell? w ⟨_, 0, none⟩ (h.rep 0 3 rfl)⟩
theorem bytes_back (A : ByteArray) : (⟨A.data.toList.toArray⟩ : ByteArray) = A := by simp
/-- Feed as plain data, with what it does to the numbers. -/
structure FeedP (d : DS) (t : ByteArray) (B : Nat) (A : ByteArray) (e : Nat) (d' : DS) : Prop where
  eq : feedQ d t.data.toList = (A.data.toList, e, d')
  ok : OkD d'
  sz : szD d' (B + 4800 * t.size)
  told : toldD d' = toldD d + A.size
  bad : e ≠ 0 → ∃ n, d' = .bad e n
  came : cameD d' ≤ cameD d + t.size
theorem feedp {d : DS} (hk : OkD d) {B : Nat} (hz : szD d B) (t : ByteArray) : ∃ A e d', FeedP d t B A e d' := by
  obtain ⟨h1, h2, h3⟩ := feedQ_ok hk t.data.toList
  have h4 := feedQ_sz hk hz t.data.toList
  have h5 := feedQ_came hk t.data.toList
  rw [data_length] at h4 h5
  refine ⟨⟨(feedQ d t.data.toList).1.toArray⟩, (feedQ d t.data.toList).2.1, (feedQ d t.data.toList).2.2, rfl, h1, h4, ?_, h3, h5⟩
  rw [h2]
  show _ = _ + (feedQ d t.data.toList).1.toArray.size
  rw [List.size_toArray]
theorem szD.mono {d : DS} {B B' : Nat} (h : szD d B) (hB : B ≤ B') : szD d B' := by
  cases d with
  | run q => exact ⟨by have := h.1; omega, by have := h.2.1; omega, by have := h.2.2; omega⟩
  | fin c t r => exact ⟨by have := h.1; omega, by have := h.2.1; omega, by have := h.2.2; omega⟩
  | bad r t => exact Nat.le_trans h hB
theorem toldD_le {d : DS} {B : Nat} (h : szD d B) : toldD d ≤ B := by
  cases d with
  | run q => have := h.2.1; show q.told ≤ B; omega
  | fin c t r => exact h.2.1
  | bad r t => exact h
theorem FeedP.calls {F : Nat → Prop} {w : World} {b : Nat} {d : DS} {B : Nat} {t A : ByteArray} {e : Nat} {d' : DS} (hp : FeedP d t B A e d') (h : DecD F w b d) (hk : OkD d) (hz : szD d B) (hB : B + 4800 * t.size < 900000000) (hT : TabsI w) (hU1 : ¬ F 1) (hU2 : ¬ F 2) :
    Calls Tryd.prog 10 #[.pointer (some ⟨b, 0, none⟩), .string t] w fun e' w' => e' = .returned (.tuple #[.string A, .int .i64 (e : Nat)]) ∧ StopAt F w b d' w' := by
  have h1 := dfeed h hk hz t hB hT hU1 hU2
  rw [hp.eq, bytes_back] at h1
  exact h1
/-- Fresh blocks alone: what a decoder that came since w may write. -/
def Fr (w : World) (F : Nat → Prop) : Prop := ∀ k, F k → w.heap.size ≤ k
theorem Fr.or {w w1 : World} {F : Nat → Prop} (h : Fr w F) (hs : w.heap.size ≤ w1.heap.size) : Fr w (fun k => F k ∨ w1.heap.size ≤ k) := fun k hk => by
  rcases hk with e | e
  · exact h k e
  · omega

set_option maxHeartbeats 4000000 in
theorem co_calls (l : List (Nat × Int)) (v : Value) (S : ByteArray) (n : Int) (w : World) (h : PiecesAt w v l) (hS : S.size ≤ 9223372036854775807) (hn : -9223372036854775808 ≤ n ∧ n ≤ 9223372036854775807) (hT : TabsI w) :
    Calls Tryd.prog 3 #[v, .string S, .int .i64 n] w fun e w' => e = .returned (.bool true) ∧ Touch (fun _ => False) w w' := by
  have HS := Lib.hid (And.intro h (And.intro hS hT))
  obtain ⟨a, cap, rfl, h⟩ := h
  clear hS hT h
  go_enter Tryd.func3, Tryd.ntmps3
  go_wp2_with fail
  refine (speaks7_calls _).mono ?_
  rintro e w1 ⟨rfl, hT1⟩
  have HT1 := Lib.hid hT1
  clear hT1
  go_wp2_with fail
  refine (stream_calls l _ S _ (HS.out.1.kept HT1.out) HS.out.2.1).mono ?_
  rintro e w2 ⟨T, rfl, hsz, hT2⟩
  have HT2 := Lib.hid (HT1.out.trans hT2)
  clear hT2 HT1
  obtain ⟨r, k, hr1, hr2, hr3, hr4, hk⟩ := cut_num n T.size hsz
  go_wp2_with fail
  refine (inew_q w2).mono ?_
  rintro e w3 ⟨b, rfl, hb, hD, hT3⟩
  have hw2 := HT2.out.size
  have hF0 : Fr w (fun k => w2.heap.size ≤ k) := fun k hk => by omega
  have hTw3 := HT2.out.trans hT3
  have hgl := HS.out.2.2.lt
  obtain ⟨A1, e1, d1, hp1⟩ := feedp okd0 szd0 (T.extract 0 k)
  have hs1 : (T.extract 0 k).size = k := by simp; omega
  have hs2 : (T.extract k T.size).size = T.size - k := by simp
  have hFd1 := hp1.calls hD okd0 szd0 (by omega) (HS.out.2.2.kept hTw3 id id) (fun h => by have := hF0 _ h; omega) (fun h => by have := hF0 _ h; omega)
  have hz1 : szD d1 4000000 := hp1.sz.mono (by omega)
  have HP := Lib.hid (And.intro hp1 (And.intro hz1 (And.intro hF0 (And.intro hTw3 (And.intro hgl (And.intro hs1 hs2))))))
  have HF := Lib.hid hFd1
  clear hb hD hT3 hr1 hr4 hr2 hr3 hw2 hF0 hTw3 hgl hp1 hs1 hs2 hFd1 hz1 HT2
  go_wp2_with fail
  refine HF.out.mono ?_
  rintro e w4 ⟨rfl, hD1, hT4⟩
  clear HF
  obtain ⟨hp1, hz1, hF0, hTw3, hgl, hs1, hs2⟩ := HP.out
  have hF1 : Fr w (fun k => (fun k => w2.heap.size ≤ k) k ∨ w3.heap.size ≤ k) := hF0.or hTw3.size
  have hTw4 := fresh_trans hTw3 hT4 hF0
  have hcp := dcopy hD1 hp1.ok hz1 (by decide) (fun c t r e => by
    have h1 := hp1.came
    have h2 := hp1.ok
    rw [e] at h1 h2
    have h1' : c ≤ 0 + (T.extract 0 k).size := h1
    have h2' : r.length ≤ c := h2
    omega)
  have HC := Lib.hid hcp
  have H1 := Lib.hid (And.intro hF1 hTw4)
  clear hcp hF1 hTw4 hp1 hz1 hF0 hTw3 hgl hs1 hs2 hD1 hT4
  go_wp2_with fail
  refine HC.out.mono ?_
  rintro e w5 ⟨c, rfl, F1, F2, hDc, hDb, hF1, hF2, hF1b, hT5⟩
  clear HC
  obtain ⟨hp1, hz1, hF0, hTw3, hgl, hs1, hs2⟩ := HP.out
  obtain ⟨hFF, hTw4⟩ := H1.out
  obtain ⟨A2, e2, d2, hp2⟩ := feedp hp1.ok hz1 (T.extract k T.size)
  have hz2 : szD d2 8000000 := hp2.sz.mono (by omega)
  have hTw5 := fresh_trans hTw4 hT5 (fun k hk => hFF k hk.1)
  have hf1 : Fr w F1 := fun k hk => by
    rcases hF1b k hk with e | e
    · exact hFF k e.1
    · have := hTw4.size; omega
  have hf2 : Fr w F2 := fun k hk => by have := hF2 k hk; have := hTw4.size; omega
  have hFc := hp2.calls hDc hp1.ok hz1 (by omega) (HS.out.2.2.kept hTw5 id id) (fun h => by have := hf2 _ h; omega) (fun h => by have := hf2 _ h; omega)
  have HP2 := Lib.hid (And.intro hp2 (And.intro hz2 (And.intro hTw5 (And.intro hf1 (And.intro hf2 (And.intro hDb hF1))))))
  have HF := Lib.hid hFc
  clear H1 hFF hTw4 hp1 hz1 hF0 hTw3 hgl hs1 hs2 hp2 hz2 hTw5 hf1 hf2 hDb hF1 hFc hDc hF2 hF1b hT5
  go_wp2_with fail
  refine HF.out.mono ?_
  rintro e w6 ⟨rfl, hDc6, hT6⟩
  clear HF
  obtain ⟨hp2, hz2, hTw5, hf1, hf2, hDb, hF1⟩ := HP2.out
  have hDb6 := hDb w6 hT6
  have hTw6 := fresh_trans hTw5 hT6 hf2
  have ht1 : toldD d1 = A1.size := by rw [HP.out.1.told]; exact Nat.zero_add _
  have ht2 : toldD d2 = A1.size + A2.size := by rw [hp2.told, ht1]
  have hb2 : A1.size + A2.size ≤ 8000000 := by rw [← ht2]; exact toldD_le hz2
  obtain ⟨N, hN⟩ : ∃ N, N = A1.size + A2.size := ⟨_, rfl⟩
  have hadd : (A1.size : Int) + (A2.size : Int) = (N : Int) := by omega
  rw [← hN] at ht2 hb2
  have hb1 : A1.size ≤ 8000000 := by omega
  have hb12 : A2.size ≤ 8000000 := by omega
  have htold1 := fun W (hT : Touch (fun _ => False) w6 W) => itold_view ((hDb6.view HP.out.1.ok).still hT)
  have htold2 := fun W (hT : Touch (fun _ => False) w6 W) => itold_view ((hDc6.view hp2.ok).still hT)
  rw [ht1] at htold1
  rw [ht2] at htold2
  have H6 := Lib.hid (And.intro htold1 (And.intro htold2 (And.intro hTw6 (And.intro hT6 hDc6))))
  clear hp2 hz2 hTw5 hf1 hf2 hDb hF1 hDc6 hT6 hDb6 hTw6 ht1 ht2 hN htold1 htold2
  go_wp2_with fail
  refine (H6.out.1 _ (Touch.refl _ _)).mono ?_
  rintro e w7 ⟨rfl, hT7⟩
  have HT7 := Lib.hid hT7
  clear hT7
  go_wp2_with fail
  refine (H6.out.2.1 _ HT7.out).mono ?_
  rintro e w8 ⟨rfl, hT8⟩
  have HT8 := Lib.hid (HT7.out.trans hT8)
  clear hT8 HT7
  obtain ⟨hp2, hz2, hTw5, hf1, hf2, hDb, hF1⟩ := HP2.out
  obtain ⟨_, _, hTw6, hT6, hDc6⟩ := H6.out
  have hDb8 := hDb w8 (hT6.trans' HT8.out (fun _ e => e.elim))
  have hTw8 := hTw6.trans HT8.out
  have hgl := HP.out.2.2.2.2.1
  have hs2 := HP.out.2.2.2.2.2.2
  have hFb := hp2.calls hDb8 HP.out.1.ok HP.out.2.1 (by omega) (HS.out.2.2.kept hTw8 id id) (fun h => by have := hf1 _ h; omega) (fun h => by have := hf1 _ h; omega)
  have HF := Lib.hid hFb
  have H8 := Lib.hid (And.intro hTw8 hDc6)
  clear hp2 hz2 hTw5 hf1 hf2 hDb hF1 hTw6 hT6 hDc6 hDb8 hTw8 hgl hs2 hFb H6
  go_wp2_with fail
  refine HF.out.mono ?_
  rintro e w9 ⟨rfl, hDb9, hT9⟩
  clear HF
  obtain ⟨hp2, hz2, hTw5, hf1, hf2, hDb, hF1⟩ := HP2.out
  have hVc : ViewD w9 c d2 := H8.out.2.viewk hp2.ok (HT8.out.mono (fun _ e => e.elim) |>.trans hT9) (fun k hk hk1 => by
    obtain ⟨q1, q2⟩ := hF1 k hk1
    rcases hk with e | e
    · exact q2 e
    · omega)
  have hVb := hDb9.view hp2.ok
  have hTw9 := fresh_trans H8.out.1 hT9 hf1
  have H9 := Lib.hid (And.intro hVb (And.intro hVc hTw9))
  clear hp2 hz2 hTw5 hf1 hf2 hDb hF1 hDb9 hT9 hVc hVb hTw9 H8 HT8
  have hu2 : ∀ W (hT : Touch (fun _ => False) w9 W) x, ViewD w9 x d2 → Calls Tryd.prog 14 #[.pointer (some ⟨x, 0, none⟩)] W fun e w' => e = .returned (.int .i64 (usedD d2)) ∧ Touch (fun _ => False) W w' := fun W hT x hx => iused_view (hx.still hT) HP2.out.1.ok HP2.out.2.1 (by decide)
  have HU := Lib.hid hu2
  clear hu2
  generalize usedD d2 = u2 at HU
  go_wp2_with fail
  refine (idone_view H9.out.1).mono ?_
  rintro e w10 ⟨rfl, rfl⟩
  go_wp2_with fail
  refine (idone_view H9.out.2.1).mono ?_
  rintro e w10 ⟨rfl, rfl⟩
  generalize doneD d2 = b2
  go_wp2_with fail
  refine (HU.out _ (Touch.refl _ _) _ H9.out.1).mono ?_
  rintro e w10 ⟨rfl, hT10⟩
  have H10 := Lib.hid hT10
  clear hT10
  go_wp2_with fail
  refine (HU.out _ H10.out _ H9.out.2.1).mono ?_
  rintro e w11 ⟨rfl, hT11⟩
  have H11 := Lib.hid (H10.out.trans hT11)
  clear hT11 H10
  go_wp2_with fail
  refine (irest_view (H9.out.1.still H11.out)).mono ?_
  rintro e w12 ⟨rfl, rfl⟩
  go_wp2_with fail
  refine (irest_view (H9.out.2.1.still H11.out)).mono ?_
  rintro e w12 ⟨rfl, rfl⟩
  generalize (⟨(restD d2).toArray⟩ : ByteArray) = R2
  have hend : e1 = 0 ∨ e1 ≠ 0 ∧ e2 = e1 ∧ A2 = ⟨#[]⟩ := by
    by_cases h0 : e1 = 0
    · exact .inl h0
    · obtain ⟨m, hm⟩ := HP.out.1.bad h0
      have he := HP2.out.1.eq
      rw [hm] at he
      have he' : (([] : List UInt8), e1, DS.bad e1 m) = (A2.data.toList, e2, d2) := he
      refine .inr ⟨h0, (congrArg (fun x => x.2.1) he').symm, ?_⟩
      have h3 : [] = A2.data.toList := congrArg (fun x => x.1) he'
      rw [← bytes_back A2, ← h3]
  have HT := Lib.hid (H9.out.2.2.trans H11.out)
  clear H9 H11 HU HP HP2 HS
  rcases hend with h0 | ⟨h0, h1, h2⟩
  · have h0' : (e1 : Int) = 0 := by omega
    clear h0
    go_wp2_with fail
    refine (icopy_nil w11).mono ?_
    rintro e w12 ⟨rfl, rfl⟩
    go_wp2_with fail
    refine (itold_nil w11).mono ?_
    rintro e w12 ⟨rfl, rfl⟩
    go_wp2_with fail
    go_ret
    exact ⟨rfl, HT.out⟩
  · have h0' : ¬ (e1 : Int) = 0 := by omega
    subst h1 h2
    clear h0
    go_wp2_with fail
    refine (icopy_nil w11).mono ?_
    rintro e w12 ⟨rfl, rfl⟩
    go_wp2_with fail
    refine (itold_nil w11).mono ?_
    rintro e w12 ⟨rfl, rfl⟩
    go_wp2_with fail
    go_ret
    exact ⟨rfl, HT.out⟩
end Go.Proofs.YtoaeffinjpkahaaDoor
