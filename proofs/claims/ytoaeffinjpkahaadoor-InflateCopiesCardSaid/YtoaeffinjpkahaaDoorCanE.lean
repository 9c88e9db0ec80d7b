
/- Contract of package canon's numbering of words over the translated program. -/
import Derived.Test.YtoaeffinjpkahaaDoorCanD
namespace Go.Proofs.YtoaeffinjpkahaaDoor
set_option linter.unusedSimpArgs false
set_option linter.unusedVariables false
open Go Go.RowKit
set_option maxRecDepth 100000

def u64Vs (l : List Nat) : List Value := l.map fun b => Value.int .u64 (b : Nat)
theorem u64Vs_length (l : List Nat) : (u64Vs l).length = l.length := by simp [u64Vs]
/-- A symbol's word, the bit that comes first the lowest. -/
def wordN (ls : List Nat) (s : Nat) : Nat := numN (wordH (ls.getD s 0) (codeN ls s))
def wordsL (ls : List Nat) : List Nat := (List.range ls.length).map (wordN ls)
theorem Tryd.info29 : (Tryd.prog.info? 45).map (fun i => (i.zero, i.size, i.bytes)) = some (some (.int .u64 0), 1, 8) := by kernel_rfl
theorem made_u64 (n : Nat) : (madeCells (Value.int .u64 0).cells (n * 1)).toList = u64Vs (List.replicate n 0) := by
  rw [Nat.mul_one, show (Value.int .u64 0).cells = #[Value.int .u64 0] from rfl, toList_madeCells_one]
  simp [u64Vs]

set_option maxHeartbeats 800000 in
theorem words_calls (b g : Nat) (ls os : List Nat) (vl : Value) (lg : Nat) (w : World) (h15 : ∀ x ∈ ls, x ≤ 15) (hn : ls.length ≤ 288) (hk : kraftN ls ≤ 32768)
    (h : CodeRaw w b vl (.slice none 0 0) (.slice (some ⟨g, 0, none⟩) (startN ls 16) (startN ls 16)) (cntN ls) lg) (hv : Reads w vl (intVs ls)) (hvb : vl.ownBlock ≠ some b)
    (ho : Row w 3 (.slice (some ⟨g, 0, none⟩) (startN ls 16) (startN ls 16)) (intVs os)) (hgb : g ≠ b) (hos : ∀ s, s < ls.length → ls.getD s 0 ≠ 0 → os[posN ls s]? = some s) :
    Calls Tryd.prog 115 #[.pointer (some ⟨b, 0, none⟩)] w fun e w' => e = .returned (.tuple #[]) ∧ ∃ (q : Nat), w.heap.size ≤ q ∧
      CodeRaw w' b vl (.slice (some ⟨q, 0, none⟩) ls.length ls.length) (.slice (some ⟨g, 0, none⟩) (startN ls 16) (startN ls 16)) (cntN ls) lg ∧ Row w' 45 (.slice (some ⟨q, 0, none⟩) ls.length ls.length) (u64Vs (wordsL ls)) ∧
      Touch (fun k => k = b) w w' := by
  obtain ⟨i0, hi, hz0, hz1, hz2⟩ := info_parts Tryd.info29
  have hlt := h.lt
  obtain ⟨al, capl, hvl, hcl1, hcl2⟩ := hv.form
  rw [intVs_length] at hvl hcl1
  unfold maxLen at hcl2
  have hcell : ∀ j, (hj : j < ls.length) → ∃ g off, al = some ⟨g, off, none⟩ ∧ g ≠ b ∧ g < w.heap.size ∧ ∀ W, Touch (fun k => k = b) w W → W.cell? ⟨g, off + j, none⟩ = some (.int .i64 (ls.getD j 0 : Nat)) := fun j hj => by
    obtain ⟨g, off, cap', he, _, _, hgs, hc⟩ := hv.addr (by rw [intVs_length]; omega)
    rw [hvl] at he
    injection he with he1 _ _
    subst he1
    have hgb : g ≠ b := fun e => hvb (by rw [hvl, ← e]; rfl)
    exact ⟨g, off, rfl, hgb, hgs, fun W hW => hW.cell (hc j _ (by simp [intVs, hj])) hgb⟩
  subst hvl
  clear hv hvb
  have H15 := Lib.hid h15
  have HT := Lib.hid (start_le ls 16)
  have hTl := start_le ls 16
  have ho2 : ∀ k s, os[k]? = some s → ∀ W, Touch (fun k => k = b) w W → W.cell? ⟨g, k, none⟩ = some (.int .i64 (s : Nat)) := fun k s hks W hW => by
    have := (Row.cells ho).2 k (.int .i64 (s : Nat)) (by simp [intVs, hks])
    rw [Nat.zero_add] at this
    exact hW.cell this hgb
  have hgw : g < w.heap.size := ho.lt g rfl
  have HO := Lib.hid ho2
  have HOS := Lib.hid hos
  have HK := Lib.hid hk
  have hRaw := Lib.hid h
  have e0 := h.c0
  have e1 := h.c1
  have f1 := h.ff 1
  clear ho ho2 hos h15 hk h
  generalize hTT : startN ls 16 = T at hTl hRaw ⊢
  have HTT := Lib.hid hTT
  clear hTT
  go_enter Tryd.func115, Tryd.ntmps115
  go_wp2_with (at_make; refine wpList_make_full _ rfl (.tmp 11) (.tmp 11) 149 rfl w.heap.size 45 i0 _ 1 Tryd.underlying149 hi hz0 hz1 .i64 .i64 _ _ ls.length rfl rfl rfl rfl (by rw [hz2]; omega) (by unfold maxLen; omega) (Nat.le_refl _) ?_; intro w2 hown hgrow; rw [made_u64] at hown; have hR2 := hRaw.out.kept ((Touch.refl (fun _ => False) w).grown hgrow (fun k h => by cases h)) id; have e18 := hR2.c18; have e1' := hR2.c1; have f1' := hR2.ff 1)
  have hqb : b ≠ w.heap.size := by omega
  have hrow0 := Row.of_own hown
  have hTg := (Touch.refl (fun k => k = b) w).grown hgrow (fun k h => by cases h)
  have hrow1 := hrow0.kept ((Touch.refl (fun k => k = b) w2).setCell (p := ⟨b, 1, none⟩) (Or.inl rfl) (.slice (some ⟨w.heap.size, 0, none⟩) ls.length ls.length)) (fun g hg => by simp [Value.ownBlock] at hg; omega)
  have hR3 := hR2.set1 (.slice (some ⟨w.heap.size, 0, none⟩) ls.length ls.length)
  have hT2 := hTg.setCell (p := ⟨b, 1, none⟩) (Or.inl rfl) (.slice (some ⟨w.heap.size, 0, none⟩) ls.length ls.length)
  clear hown hrow0 hgrow hTg hR2 e0 e1 f1 e18 e1' f1' hRaw
  go_loopw [2, 3, 5, 20] (fun x y _ i wr => ∃ (k W L : Nat) (ws : List Nat), k ≤ T ∧ i = .int .i64 k ∧ x = .int .u64 W ∧ y = .int .i64 L ∧ L ≤ 15 ∧ W ≤ 32768 ∧ ws.length = ls.length ∧
    (∀ s, s < ls.length → ls.getD s 0 ≠ 0 → posN ls s = k → L ≤ ls.getD s 0 ∧ W * 2 ^ (ls.getD s 0 - L) = codeN ls s) ∧ (∀ s, s < ls.length → ws[s]? = some (if ls.getD s 0 ≠ 0 ∧ posN ls s < k then wordN ls s else 0)) ∧
    CodeRaw wr b (.slice al ls.length capl) (.slice (some ⟨w.heap.size, 0, none⟩) ls.length ls.length) (.slice (some ⟨g, 0, none⟩) T T) (cntN ls) lg ∧ Row wr 45 (.slice (some ⟨w.heap.size, 0, none⟩) ls.length ls.length) (u64Vs ws) ∧ Touch (fun k => k = b) w wr) (fun _ _ _ i _ => T - (intOf i).toNat)
  case atStart =>
    refine ⟨0, 0, 0, List.replicate ls.length 0, Nat.zero_le _, rfl, rfl, rfl, by omega, by omega, by simp, fun s hs h0 hp => ⟨Nat.zero_le _, by rw [Nat.zero_mul, code_first ls s hp]⟩, fun s hs => ?_, hR3, hrow1, hT2⟩
    rw [if_neg (fun h => Nat.not_lt_zero _ h.2), List.getElem?_replicate, if_pos hs]
  case round =>
    clear hrow1 hR3 hT2
    obtain ⟨k, W, L, ws, hk, rfl, rfl, rfl, hL, hW, hwl, hcode, hws, hR, hrow, hT⟩ := hrel
    by_cases hltk : k < T
    · obtain ⟨s, hs, h0, hs15, hps⟩ := pos_onto ls k (by rw [HTT.out]; exact hltk)
      obtain ⟨hLs, hval⟩ := hcode s hs h0 hps
      have hcs := code_fits ls s hs h0 H15.out HK.out
      have hos := HO.out k s (by rw [← hps]; exact HOS.out s hs h0) wr hT
      obtain ⟨ga, offa, rfl, hgab, hgas, hc⟩ := hcell s hs
      have hcs' := hc wr hT
      have HWN := Lib.hid (show wordN ls s = numN (wordH (ls.getD s 0) (codeN ls s)) from rfl)
      have HNX := Lib.hid (fun t (ht : t < ls.length) (t0 : ls.getD t 0 ≠ 0) (hp : posN ls t = k + 1) => code_next ls hs h0 ht t0 (by rw [hps]; exact hp))
      generalize hx : ls.getD s 0 = x at hLs hval hcs hcs' hs15 HWN h0 HNX
      generalize hcd : codeN ls s = cd at hval hcs HWN HNX
      have HX := Lib.hid hx
      have HPS := Lib.hid hps
      have HV := Lib.hid hval
      have hcd2 : cd < 32768 := Nat.lt_of_lt_of_le hcs (Nat.le_trans (Nat.pow_le_pow_right (by decide) hs15) (by decide))
      have e18 := hR.c18
      have e0 := hR.c0
      have e1 := hR.c1
      have hfr := hrow.free (k := s)
      have hcr := (Row.cells hrow).2 s _ (by rw [u64Vs, List.getElem?_map, hws s hs]; rfl)
      rw [Nat.zero_add] at hfr hcr
      generalize hold : (if ls.getD s 0 ≠ 0 ∧ posN ls s < k then wordN ls s else 0) = old at hcr
      have hset := Lib.hid (hrow.set (k := s) hs (.int .u64 (wordN ls s : Nat)))
      rw [HWN.out] at hset
      have HWS := Lib.hid hws
      have HR := Lib.hid hR
      have HT2 := Lib.hid hT
      have hsub : (x : Int) - (L : Int) = ((x - L : Nat) : Int) := by omega
      have hturn := Lib.hid (fun W => turned_calls cd x W (by omega) hs15)
      have hshl : IntKind.u64.wrap ((W : Int) * 2 ^ (x - L)) = (cd : Int) := by
        rw [← hval, show (W : Int) * 2 ^ (x - L) = ((W * 2 ^ (x - L) : Nat) : Int) by simp, wrap_u64_in _ (by omega)]
      clear hx hcd hps hval hcode hws hR hrow hT hc hcell hold HOS HO
      go_wp2_with fail
      clear hshl
      go_region_with (first | (go_at_call 141; refine (hturn.out _).mono ?_; rintro e w' ⟨rfl, rfl⟩))
      all_goals
        go_wp2
        go_roundw
        case rel =>
          have hws2 := HWS.out
          have hT2 := HT2.out
          refine ⟨k + 1, cd + 1, x, ws.set s (wordN ls s), by omega, by go_num, by go_num, rfl, hs15, by omega, by simpa using hwl, fun t ht t0 hp => ?_, fun t ht => ?_, ?_, ?_, ?_⟩
          · obtain ⟨k1, k2⟩ := HNX.out t ht t0 hp
            exact ⟨k1, k2.symm⟩
          · by_cases e : t = s
            · subst e
              rw [List.getElem?_set_self (by omega), if_pos ⟨by rw [HX.out]; exact h0, by rw [HPS.out]; omega⟩]
            · rw [List.getElem?_set_ne (fun e2 => e e2.symm), hws2 t ht]
              congr 1
              by_cases t0 : ls.getD t 0 = 0
              · rw [if_neg (fun h => h.1 t0), if_neg (fun h => h.1 t0)]
              · have hne : posN ls t ≠ k := fun e2 => e (pos_inj ls ht hs t0 (by rw [HX.out]; exact h0) (by rw [HPS.out]; exact e2))
                by_cases hlt2 : posN ls t < k
                · rw [if_pos ⟨t0, hlt2⟩, if_pos ⟨t0, by omega⟩]
                · rw [if_neg (fun h => hlt2 h.2), if_neg (fun h => hlt2 (by omega))]
          · exact HR.out.kept (((Touch.refl (fun j => j = w.heap.size) _).setCell (p := ⟨w.heap.size, s, none⟩) (.inl rfl) _).drew) (by omega)
          · have h1 := (hset.out.kept (Touch.refl (fun _ => False) _).drew (fun _ _ => id))
            rw [show (u64Vs ws).set s (.int .u64 (numN (wordH x cd) : Nat)) = u64Vs (ws.set s (wordN ls s)) by rw [HWN.out]; simp [u64Vs, List.map_set]] at h1
            simpa using h1
          · exact (hT2.setCell (p := ⟨w.heap.size, s, none⟩) (.inr (Nat.le_refl _)) _).drew
        case measure => simp [intOf]; omega
    · obtain rfl : k = T := by omega
      go_wp2
      go_end0
      refine ⟨rfl, w.heap.size, Nat.le_refl _, hR, ?_, hT⟩
      have e : ws = wordsL ls := by
        apply List.ext_getElem?
        intro s
        by_cases hs : s < ls.length
        · rw [hws s hs]
          unfold wordsL
          rw [List.getElem?_map, List.getElem?_range hs]
          by_cases h0 : ls.getD s 0 = 0
          · rw [if_neg (fun h => h.1 h0)]
            show some 0 = some (wordN ls s)
            unfold wordN
            rw [h0]
            rfl
          · rw [if_pos ⟨h0, by rw [← HTT.out]; exact pos_lt ls s hs h0 (mem_15 ls H15.out s hs)⟩]
            rfl
        · rw [List.getElem?_eq_none (by omega), List.getElem?_eq_none (by unfold wordsL; simp; omega)]
      rw [← e]
      exact hrow
end Go.Proofs.YtoaeffinjpkahaaDoor
