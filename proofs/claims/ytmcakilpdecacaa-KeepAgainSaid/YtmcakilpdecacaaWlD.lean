/- Contracts of package wal, third part: a log in memory, its slots. -/
import Derived.Test.YtmcakilpdecacaaWlC
namespace Go.Proofs.Ytmcakilpdecacaa
open Go Go.RowKit Go.Maps
set_option maxRecDepth 100000

theorem own_still {w w' : World} {base : Nat} {e : TypeId} {k : Nat} {v : Value} {n : Nat} {xs : List Value} {S : Nat → Prop} (h : w.ownsRow base e k v n xs) (ht : Touch S w w') (hn : ∀ g, v.ownBlock = some g → ¬ S g) : w'.ownsRow base e k v n xs := by
  refine ⟨h.1, ?_⟩
  rcases h.2 with h1 | ⟨g, cap, cur, h1, h2, h3, h4⟩
  · exact .inl h1
  · refine .inr ⟨g, cap, cur, h1, h2, ?_, h4⟩
    rw [ht.block g (Array.getElem?_eq_some_iff.1 h3).1 (hn g (by rw [h1]; rfl))]
    exact h3
theorem own_weaken {w : World} {base base' : Nat} {e : TypeId} {k : Nat} {v : Value} {n : Nat} {xs : List Value} (h : w.ownsRow base e k v n xs) (hb : base' ≤ base) : w.ownsRow base' e k v n xs := by
  refine ⟨h.1, ?_⟩
  rcases h.2 with h1 | ⟨g, cap, cur, h1, h2, h3⟩
  · exact .inl h1
  · exact .inr ⟨g, cap, cur, h1, Nat.le_trans hb h2, h3⟩
theorem own_base {w : World} {base : Nat} {e : TypeId} {k : Nat} {v : Value} {n : Nat} {xs : List Value} (h : w.ownsRow base e k v n xs) : ∀ g, v.ownBlock = some g → base ≤ g := by
  intro g hg
  rcases h.2 with ⟨h1, _⟩ | ⟨g', cap, cur, h1, h2, _⟩
  · subst h1; cases hg
  · subst h1
    have : g' = g := by simpa [Value.ownBlock] using hg
    omega
theorem own_form {w : World} {base : Nat} {e : TypeId} {k : Nat} {v : Value} {n : Nat} {xs : List Value} (h : w.ownsRow base e k v n xs) : ∃ a cap, v = .slice a n cap ∧ n ≤ cap ∧ cap ≤ maxLen := by
  rcases h.2 with ⟨h1, h2⟩ | ⟨g, cap, cur, h1, _, _, h3, h4, _⟩
  · exact ⟨none, 0, by rw [h1, h2], by omega, Nat.zero_le _⟩
  · exact ⟨_, cap, h1, h3, h4⟩
theorem own_cell {w : World} {base : Nat} {e : TypeId} {k : Nat} {v : Value} {n : Nat} {xs : List Value} (h : w.ownsRow base e k v n xs) (h0 : 0 < n) : ∃ g cap, v = .slice (some ⟨g, 0, none⟩) n cap ∧ base ≤ g ∧ ∀ j u, xs[j]? = some u → w.cell? ⟨g, j, none⟩ = some u := by
  rcases h.2 with ⟨_, h1⟩ | ⟨g, cap, cur, h1, hb, h2, h3, h4, h5, h6⟩
  · omega
  · refine ⟨g, cap, h1, hb, fun j u hu => ?_⟩
    rw [cell_of_row w g j cur e (0, 0) h2]
    rw [← h6, List.getElem?_take] at hu
    split at hu
    · rw [Array.getElem?_toList] at hu; exact hu
    · cases hu

/-- An entry's two cells. -/
def enV (e : Nat × List UInt8) : List Value := [.int .u64 (e.1 : Nat), .string ⟨e.2.toArray⟩]
def ensV (es : List (Nat × List UInt8)) : List Value := es.flatMap enV
theorem ensV_len (es : List (Nat × List UInt8)) : (ensV es).length = es.length * 2 := by
  induction es with
  | nil => rfl
  | cons e r ih => simp only [ensV, List.flatMap_cons, List.length_append, List.length_cons] at ih ⊢; rw [ih]; simp [enV]; omega
theorem ensV_snoc (es : List (Nat × List UInt8)) (e : Nat × List UInt8) : ensV (es ++ [e]) = ensV es ++ enV e := by simp [ensV]
theorem Try.infoEn : (Try.prog.info? 136).map (fun i => (i.zero, i.size, i.bytes)) = some (some (.agg #[.int .u64 0, .string ⟨#[]⟩]), 2, 24) := by kernel_rfl

theorem new_en {w : World} {b : Nat} {t : TypeId} {e : Nat × List UInt8} (h : w.heap[b]? = some (.cells #[.int .u64 (e.1 : Nat), .string ⟨e.2.toArray⟩] t)) : ∀ j u, (enV e)[j]? = some u → w.cell? ((⟨b, 0, none⟩ : Addr).add j) = some u := by
  intro j u hu
  rw [add_plain, Nat.zero_add, cell_of_row w b j _ _ _ h]
  match j, hu with
  | 0, hu => simpa [enV] using hu
  | 1, hu => simpa [enV] using hu
theorem en_one (e : Nat × List UInt8) : ∀ u ∈ enV e, u.oneCell' = true := by
  intro u hu
  simp [enV] at hu
  rcases hu with rfl | rfl <;> rfl
/-- A log's six cells. -/
def LogAt (w : World) (gb b at' sn N : Nat) (note : ByteArray) (failed : Bool) : Prop :=
  Block w gb 138 [.pointer (some ⟨b, 0, none⟩), .int .i64 at', .int .i64 sn, .int .u64 N, .string note, .bool failed]

/-- A log's sectors as they last. -/
def secsOf (L : List UInt8) (at' sn : Nat) : List (List UInt8) := (List.range sn).map fun j => sec L (at' + j)
theorem secsOf_len (L : List UInt8) (at' sn : Nat) : (secsOf L at' sn).length = sn := by simp [secsOf]
theorem secsOf_take (L : List UInt8) (at' sn k : Nat) (hk : k < sn) : (secsOf L at' sn).take (k + 1) = (secsOf L at' sn).take k ++ [sec L (at' + k)] := by
  rw [List.take_succ_eq_append_getElem (by rw [secsOf_len]; exact hk)]
  simp [secsOf]

set_option maxHeartbeats 1000000 in
theorem slots_calls {w : World} {b lb mb c n : Nat} {L : List UInt8} {t : Nat} {f : Int} (h : DkAt w b lb mb c n L [] t f true) {gb at' sn N : Nat} {note : ByteArray} {fl : Bool} (hL : LogAt w gb b at' sn N note fl) (hfit : at' + sn ≤ n) :
    Calls Try.prog 86 #[.pointer (some ⟨gb, 0, none⟩)] w fun e w' => ∃ v k, e = .returned (.tuple #[v, .int .i64 0]) ∧ w'.ownsRow w.heap.size 136 2 v k (ensV ((secsOf L at' sn).filterMap entOf)) ∧ k = ((secsOf L at' sn).filterMap entOf).length ∧ Touch (fun _ => False) w w' := by
  have hn2 := h.n2
  have H := Lib.hid h
  have HL := Lib.hid hL
  clear h hL
  obtain ⟨i0, hi, hz0, hz1, hz2⟩ := info_parts Try.infoEn
  go_enter Try.func86, Try.ntmps86
  go_wp2_with fail
  refine (make_calls w).mono ?_
  rintro e w1 ⟨rfl, hT, hT1⟩
  have HT := Lib.hid hT
  have hD1 := H.out.still hT1
  have hL1 : Block w1 gb 138 _ := HL.out.kept hT1 id
  have q2 : w1.cell? ⟨gb, 2, none⟩ = some (.int .i64 sn) := hL1.cell 2
  have HD1 := Lib.hid hD1
  have HL1 := Lib.hid hL1
  clear hT hD1 hL1
  go_wp2_with fail
  have hsn : sn ≤ 65536 := by omega
  go_loopw [4, 6, 16] (fun v4 _ i wr => ∃ j k : Nat, i = .int .i64 j ∧ j ≤ sn ∧ k ≤ j ∧ wr.ownsRow w1.heap.size 136 2 v4 k (ensV (((secsOf L at' sn).take j).filterMap entOf)) ∧ k = (((secsOf L at' sn).take j).filterMap entOf).length ∧ Touch (fun _ => False) w1 wr) (fun _ _ i _ => sn - (intOf i).toNat)
  case atStart => exact ⟨0, 0, rfl, Nat.zero_le _, Nat.zero_le _, World.ownsRow_nil _ _ _ _, by simp, Touch.refl _ _⟩
  case round =>
    obtain ⟨j, k, rfl, hj, hkj, hO, hkl, hTr⟩ := hrel
    by_cases hlt : j < sn
    · have hjI : (j : Int) < (sn : Int) := by omega
      have hD := HD1.out.still hTr
      have hL : Block wr gb 138 _ := HL1.out.kept hTr id
      have q0 : wr.cell? ⟨gb, 0, none⟩ = some (.pointer (some ⟨b, 0, none⟩)) := hL.cell 0
      have q1 : wr.cell? ⟨gb, 1, none⟩ = some (.int .i64 at') := hL.cell 1
      obtain ⟨p, hp⟩ : ∃ p : Nat, at' + j = p := ⟨_, rfl⟩
      have hpI : (at' : Int) + (j : Int) = (p : Int) := by omega
      have hpw : IntKind.i64.wrap ((p : Nat) : Int) = (p : Int) := IntWalk.i64_in _ (by omega)
      have hpn : p < n := by omega
      have HDr := Lib.hid hD
      have HP := Lib.hid hp
      have HO := Lib.hid (⟨hO, hkl⟩ : _ ∧ _)
      have HQ : Hid (wr.cell? ⟨gb, 0, none⟩ = some (.pointer (some ⟨b, 0, none⟩)) ∧ wr.cell? ⟨gb, 1, none⟩ = some (.int .i64 at')) := Lib.hid ⟨q0, q1⟩
      clear hD hL hp hO hkl q2
      have HRD : Hid (∀ W, Touch (fun _ => False) wr W → Calls Try.prog 42 #[.pointer (some ⟨b, 0, none⟩), .int .i64 p] W fun e w' => e = .returned (.tuple #[.string (readS L [] p), .int .i64 0]) ∧ Touch (fun _ => False) W w') := Lib.hid (fun W hT => read_ok (HDr.out.still hT) p hpn)
      have HSS : Hid (readS L [] p = ⟨(sec L p).toArray⟩) := Lib.hid rfl
      generalize readS L [] p = SS at HRD HSS
      go_upto_region 6 with fail
      go_cut [7, 8] from 19 to 32 (fun v7 v8 wx => v7 = .string SS ∧ v8 = .int .i64 0 ∧ Touch (fun _ => False) wr wx)
      case first =>
        go_region_law (go_simp; go_at_call 42; refine (HRD.out wr.drew ((Touch.refl (fun _ => False) wr).drew)).mono ?_; rintro e wa ⟨rfl, hTp⟩; have r0 := hTp.cell (p := ⟨gb, 0, none⟩) HQ.out.1 id; have r1 := hTp.cell (p := ⟨gb, 1, none⟩) HQ.out.2 id)
        all_goals
          go_wp2_with fail
          go_meet
          exact ⟨rfl, rfl, (Touch.refl (fun _ => False) wr).drew.trans hTp⟩
      case rest =>
        obtain ⟨rfl, rfl, hTc⟩ := hcut
        have hsz : SS.size = 64 := by rw [HSS.out]; show (sec L p).toArray.size = 64; simp [sec_len H.out.len hpn]
        have hen := entryOf_calls SS hsz w.heap.size wc (HT.out.kept (hTr.trans hTc) id)
        rw [show SS.data.toList = sec L p by rw [HSS.out]] at hen
        have hTrc := hTr.trans hTc
        have HTK : Hid ((secsOf L at' sn).take (j + 1) = (secsOf L at' sn).take j ++ [sec L p]) := Lib.hid (by rw [secsOf_take _ _ _ _ hlt, HP.out])
        clear hsz q0 q1 hpI hpw
        cases hE : entOf (sec L p) with
        | none =>
          rw [hE] at hen
          unfold entV at hen
          simp only at hen
          have HE := Lib.hid hE
          clear hE
          go_wp2_with fail
          refine hen.mono ?_
          rintro e wd ⟨rfl, hTd⟩
          go_wp2_with fail
          go_roundw
          case rel =>
            refine ⟨j + 1, k, by go_num, by omega, by omega, ?_, ?_, (hTrc.trans hTd).alloc _⟩
            · rw [HTK.out, List.filterMap_append, List.filterMap_cons, HE.out, List.filterMap_nil, List.append_nil]
              exact own_still HO.out.1 ((hTc.trans hTd).alloc _) (fun _ _ => id)
            · rw [HTK.out, List.filterMap_append, List.filterMap_cons, HE.out, List.filterMap_nil, List.append_nil]
              exact HO.out.2
          case measure => simp [intOf]; omega
        | some e =>
          rw [hE] at hen
          unfold entV at hen
          simp only at hen
          have HE := Lib.hid hE
          clear hE
          obtain ⟨aa, ca, hv, _, _⟩ := own_form HO.out.1
          subst hv
          go_wp2_with fail
          refine hen.mono ?_
          rintro e' wd ⟨rfl, hTd⟩
          have hTcd := hTc.trans hTd
          have hsz1 : (wd.alloc (.cells #[.int .u64 (e.1 : Nat), .string ⟨e.2.toArray⟩] 136)).heap.size = wd.heap.size + 1 := Array.size_push ..
          have hnew : ((wd.alloc (.cells #[.int .u64 (e.1 : Nat), .string ⟨e.2.toArray⟩] 136)).alloc (.cells #[.int .u64 (e.1 : Nat), .string ⟨e.2.toArray⟩] 136)).heap[wd.heap.size + 1]? = some (.cells #[.int .u64 (e.1 : Nat), .string ⟨e.2.toArray⟩] 136) := by
            rw [← hsz1]; exact heap_alloc_new _ _
          have hTn : Touch (fun _ => False) wr ((wd.alloc (.cells #[.int .u64 (e.1 : Nat), .string ⟨e.2.toArray⟩] 136)).alloc (.cells #[.int .u64 (e.1 : Nat), .string ⟨e.2.toArray⟩] 136)) := (hTcd.alloc _).alloc _
          have hOn := own_still HO.out.1 hTn (fun _ _ => id)
          have hnb := hTn.size
          have hwb := hTr.size
          have hwb1 := hT1.size
          have HN := Lib.hid (⟨hnew, hOn, hTn⟩ : _ ∧ _ ∧ _)
          clear hnew hOn hTn
          go_wp2_with (at_builtin; refine wpList_append_own_at _ rfl (.tmp 43) (.tmp 45) 139 rfl w1.heap.size 136 i0 _ 2 24 Try.underlying139 hi hz0 hz1 hz2 rfl (by decide) (.slice aa k ca) k _ rfl HN.out.2.1 ⟨wd.heap.size + 1, 0, none⟩ 1 1 (enV e) rfl rfl (new_en HN.out.1) (en_one e) (by unfold maxLen; omega) (by omega) (by omega) ?_; intro v2 w2 hrow2 hgrow _ hown2)
          go_roundw
          case rel =>
            refine ⟨j + 1, k + 1, by go_num, by omega, by omega, ?_, ?_, ?_⟩
            · rw [HTK.out, List.filterMap_append, List.filterMap_cons, HE.out, List.filterMap_nil, ensV_snoc]
              exact hrow2
            · rw [HTK.out, List.filterMap_append, List.filterMap_cons, HE.out, List.filterMap_nil, List.length_append, ← HO.out.2]
              rfl
            · have := own_base HO.out.1
              exact ((hTr.trans HN.out.2.2).trans' (Touch.of_grown hgrow) (fun i hi => .inr (by have := this i hi.symm; omega)))
          case measure => simp [intOf]; omega
    · obtain rfl : j = sn := by omega
      have hfull : (secsOf L at' j).take j = secsOf L at' j := List.take_of_length_le (by rw [secsOf_len]; exact Nat.le_refl _)
      rw [hfull] at hO hkl
      have HO := Lib.hid (⟨hO, hkl⟩ : _ ∧ _)
      clear hO hkl hfull
      go_wp2_with fail
      go_ret2
      exact ⟨_, k, rfl, own_weaken HO.out.1 hT1.size, HO.out.2, hT1.trans hTr⟩

end Go.Proofs.Ytmcakilpdecacaa
