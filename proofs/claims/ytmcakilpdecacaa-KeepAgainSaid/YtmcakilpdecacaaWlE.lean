/- Contracts of package wal, fourth part: Open, Note. -/
import Derived.Test.YtmcakilpdecacaaWlD
namespace Go.Proofs.Ytmcakilpdecacaa
open Go Go.RowKit Go.Maps
set_option maxRecDepth 100000

theorem ensV_at (es : List (Nat × List UInt8)) (j : Nat) (hj : j < es.length) : (ensV es)[j * 2]? = some (.int .u64 (es[j].1 : Nat)) ∧ (ensV es)[j * 2 + 1]? = some (.string ⟨es[j].2.toArray⟩) := by
  induction es generalizing j with
  | nil => simp at hj
  | cons e r ih =>
    have e1 : ensV (e :: r) = .int .u64 (e.1 : Nat) :: .string ⟨e.2.toArray⟩ :: ensV r := by simp [ensV, enV]
    rw [e1]
    match j, hj with
    | 0, _ => exact ⟨rfl, rfl⟩
    | j + 1, hj =>
      have h2 : (j + 1) * 2 = j * 2 + 1 + 1 := by omega
      rw [h2]
      exact ih j (by simpa using hj)
theorem lastFrom_snoc (l0 : Nat × List UInt8) (es : List (Nat × List UInt8)) (e : Nat × List UInt8) : lastFrom l0 (es ++ [e]) = if (lastFrom l0 es).1 < e.1 then e else lastFrom l0 es := by simp only [lastFrom, List.foldl_append, List.foldl_cons, List.foldl_nil]; rfl
theorem ents_lt {secs : List (List UInt8)} : ∀ e ∈ secs.filterMap entOf, e.1 < 18446744073709551616 := fun e he => by
  obtain ⟨S, _, h1⟩ := List.mem_filterMap.1 he
  obtain ⟨_, h2, _, _⟩ := ent_some h1
  rw [← h2]
  exact getN_lt8 _ (by simp; omega)
theorem LogAt.last {w : World} {gb b at' sn N : Nat} {note : ByteArray} {fl : Bool} (h : LogAt w gb b at' sn N note fl) (M : Nat) (t : ByteArray) : LogAt ((w.setCell ⟨gb, 3, none⟩ (.int .u64 M)).setCell ⟨gb, 4, none⟩ (.string t)) gb b at' sn M t fl :=
  (h.set 3 (.int .u64 M)).set 4 (.string t)

set_option maxHeartbeats 1000000 in
theorem open_calls {w : World} {b lb mb c n : Nat} {L : List UInt8} {t : Nat} {f : Int} (h : DkAt w b lb mb c n L [] t f true) (at' sn : Nat) (h2 : 2 ≤ sn) (hfit : at' + sn ≤ n) :
    Calls Try.prog 68 #[.pointer (some ⟨b, 0, none⟩), .int .i64 at', .int .i64 sn] w fun e w' => ∃ gb, e = .returned (.tuple #[.pointer (some ⟨gb, 0, none⟩), .int .i64 0]) ∧ LogAt w' gb b at' sn (lastOf ((secsOf L at' sn).filterMap entOf)).1 ⟨(lastOf ((secsOf L at' sn).filterMap entOf)).2.toArray⟩ false ∧ w.heap.size ≤ gb ∧ Touch (fun _ => False) w w' := by
  have hn2 := h.n2
  have H := Lib.hid h
  clear h
  have hI1 : ¬ ((sn : Int) < 2) := by omega
  have hI2 : IntKind.i64.wrap ((n : Int) - (sn : Int)) = (n : Int) - (sn : Int) := IntWalk.i64_in _ (by omega)
  have hI3 : ¬ ((n : Int) - (sn : Int) < (at' : Int)) := by omega
  go_enter Try.func68, Try.ntmps68
  go_wp2_with (go_at_call 49; refine (sectors_calls H.out).mono ?_; rintro e w' ⟨rfl, rfl⟩)
  have hLn : LogAt (w.alloc (.cells #[.pointer (some ⟨b, 0, none⟩), .int .i64 at', .int .i64 sn, .int .u64 0, .string ⟨#[]⟩, .bool false] 138)) w.heap.size b at' sn 0 ⟨#[]⟩ false := heap_alloc_new w _
  have hTn := (Touch.refl (fun _ => False) w).alloc (.cells #[.pointer (some ⟨b, 0, none⟩), .int .i64 at', .int .i64 sn, .int .u64 0, .string ⟨#[]⟩, .bool false] 138)
  refine (slots_calls (H.out.still hTn) hLn hfit).mono ?_
  rintro e w1 ⟨sv, k, rfl, hO, hk, hT1⟩
  have hL1 : LogAt w1 w.heap.size b at' sn 0 ⟨#[]⟩ false := hLn.kept hT1 id
  have hT01 := hTn.trans hT1
  have hlts := ents_lt (secs := secsOf L at' sn)
  have hk2 : k ≤ 65536 := by rw [hk]; exact Nat.le_trans (List.length_filterMap_le _ _) (by rw [secsOf_len]; omega)
  obtain ⟨gb, hgb⟩ : ∃ gb, w.heap.size = gb := ⟨_, rfl⟩
  have hgs : gb < w1.heap.size := by rw [← hgb]; exact hL1.lt
  have hOb := own_base hO
  rw [show (w.alloc (.cells #[.pointer (some ⟨b, 0, none⟩), .int .i64 at', .int .i64 sn, .int .u64 0, .string ⟨#[]⟩, .bool false] 138)).heap.size = w.heap.size + 1 from Array.size_push .., hgb] at hO hOb
  rw [hgb] at hL1
  obtain ⟨es, hes⟩ : ∃ es, (secsOf L at' sn).filterMap entOf = es := ⟨_, rfl⟩
  rw [hes] at hO hk hlts
  have HE : Hid ((lastOf ((secsOf L at' sn).filterMap entOf)) = lastFrom (0, []) es) := Lib.hid (by rw [hes]; rfl)
  clear hes
  obtain ⟨a, cap, hv, hc1, hc2⟩ := own_form hO
  subst hv
  have HO := Lib.hid hO
  have HK := Lib.hid hk
  have HL1 := Lib.hid hL1
  have HT1 := Lib.hid hT01
  have HB := Lib.hid hOb
  have HG := Lib.hid hgb
  rw [hgb]
  clear hO hk hL1 hLn hTn hT1 hT01 hOb hgb
  go_wp2_with fail
  go_loopw [12, 46] (fun _ i wr => ∃ j : Nat, i = .int .i64 j ∧ j ≤ k ∧ LogAt wr gb b at' sn (lastFrom (0, []) (es.take j)).1 ⟨(lastFrom (0, []) (es.take j)).2.toArray⟩ false ∧ (lastFrom (0, []) (es.take j)).1 < 18446744073709551616 ∧ Touch (fun g => g = gb) w1 wr) (fun _ i _ => k - (intOf i).toNat)
  case atStart => exact ⟨0, rfl, Nat.zero_le _, by simpa [lastFrom] using HL1.out, by simp [lastFrom], Touch.refl _ _⟩
  case round =>
    obtain ⟨j, rfl, hj, hL, hN, hTr⟩ := hrel
    by_cases hlt : j < k
    · have hjI : (j : Int) < (k : Int) := by omega
      obtain ⟨g, cap', hv, hgb2, hcell⟩ := own_cell HO.out (by omega)
      cases hv
      have hgne : ¬ (g = gb) := by omega
      have hje : j < es.length := by rw [← HK.out]; exact hlt
      obtain ⟨u0, u1⟩ := ensV_at es j hje
      have x0 := hTr.cell (hcell _ _ u0) hgne
      have x1 := hTr.cell (hcell _ _ u1) hgne
      have HS : Hid (lastFrom (0, []) (es.take (j + 1)) = if (lastFrom (0, []) (es.take j)).1 < es[j].1 then es[j] else lastFrom (0, []) (es.take j)) := Lib.hid (by rw [List.take_succ_eq_append_getElem hje, lastFrom_snoc])
      have hel := hlts _ (List.getElem_mem hje)
      generalize lastFrom (0, []) (es.take j) = l at hL hN HS
      generalize es[j] = e at x0 x1 HS hel
      have q0 : wr.cell? ⟨gb, 3, none⟩ = some (.int .u64 (l.1 : Nat)) := hL.cell 3
      have q1 : wr.cell? ⟨gb, 4, none⟩ = some (.string ⟨l.2.toArray⟩) := hL.cell 4
      have q3 := hL.free 3
      have q4 := hL.free 4
      have hgr : gb < wr.heap.size := hL.lt
      have HL := Lib.hid hL
      clear hL u0 u1 hcell
      go_upto_region 12 with fail
      go_quiet (fail)
      by_cases hgt : (l.1 : Int) < (e.1 : Int)
      · go_wp2_with fail
        go_roundw
        case rel =>
          refine ⟨j + 1, by go_num, by omega, ?_, ?_, ?_⟩
          · rw [HS.out, if_pos (by omega)]
            exact LogAt.last (HL.out.kept (((Touch.refl (fun _ => False) wr).alloc _).drewN _) id) _ _
          · rw [HS.out, if_pos (by omega)]; exact hel
          · exact (((hTr.alloc _).drewN _).setCell (p := ⟨gb, 3, none⟩) (Or.inl rfl) _).setCell (p := ⟨gb, 4, none⟩) (Or.inl rfl) _
        case measure => simp [intOf]; omega
      · go_wp2_with fail
        go_roundw
        case rel =>
          refine ⟨j + 1, by go_num, by omega, ?_, ?_, ?_⟩
          · rw [HS.out, if_neg (by omega)]
            exact HL.out.kept (((Touch.refl (fun _ => False) wr).alloc _).drewN _) id
          · rw [HS.out, if_neg (by omega)]; exact hN
          · exact (hTr.alloc _).drewN _
        case measure => simp [intOf]; omega
    · obtain rfl : j = k := by omega
      have hfull : es.take j = es := List.take_of_length_le (by rw [HK.out]; exact Nat.le_refl _)
      rw [hfull] at hL
      have HL := Lib.hid hL
      clear hL
      go_wp2_with fail
      go_ret2
      exact ⟨gb, rfl, by rw [HE.out]; exact HL.out, Nat.le_of_eq HG.out, HT1.out.trans' hTr (fun i hi => .inr (by have := HG.out; omega))⟩

theorem note_nil (w : World) : Calls Try.prog 87 #[.pointer none] w fun e w' => e = .returned (.tuple #[.string ⟨#[]⟩, .int .u64 0]) ∧ Touch (fun _ => False) w w' := by
  go_enter Try.func87, Try.ntmps87
  go_wp2_with fail
  go_ret2
  exact ⟨rfl, Touch.refl _ _⟩
theorem note_calls {w : World} {gb b at' sn N : Nat} {note : ByteArray} {fl : Bool} (h : LogAt w gb b at' sn N note fl) : Calls Try.prog 87 #[.pointer (some ⟨gb, 0, none⟩)] w fun e w' => e = .returned (.tuple #[.string note, .int .u64 N]) ∧ Touch (fun _ => False) w w' := by
  have q3 : w.cell? ⟨gb, 3, none⟩ = some (.int .u64 N) := h.cell 3
  have q4 : w.cell? ⟨gb, 4, none⟩ = some (.string note) := h.cell 4
  clear h
  go_enter Try.func87, Try.ntmps87
  go_upto_region 3 with fail
  go_quiet (fail)
  go_wp2_with fail
  go_ret2
  exact ⟨rfl, (Touch.refl _ _).drewN _⟩

end Go.Proofs.Ytmcakilpdecacaa
