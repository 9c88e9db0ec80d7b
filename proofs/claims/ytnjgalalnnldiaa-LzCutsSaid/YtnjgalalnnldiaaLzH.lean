/- The contract of package lz's Cut over the translated program. -/
import Derived.Test.YtnjgalalnnldiaaLzG
namespace Go.Proofs.Ytnjgalalnnldiaa
open Go Go.RowKit
set_option maxRecDepth 100000

theorem Toks.upto {w : World} {a : Option Addr} {n cap k : Nat} {l : List Tok} (h : Toks w (.slice a n cap) l) (hk : k ≤ l.length) : Toks w (.slice a k cap) (l.take k) := by
  obtain ⟨a', cap', he, h1, h2, h3⟩ := h
  cases he
  have hl : (l.take k).length = k := by rw [List.length_take]; omega
  refine ⟨a, cap, by rw [hl], by omega, h2, ?_⟩
  rcases h3 with rfl | ⟨g, off, ha, hc⟩
  · exact .inl (by simp)
  · refine .inr ⟨g, off, ha, fun j t ht => hc j t ?_⟩
    rw [List.getElem?_take] at ht
    split at ht
    · exact ht
    · cases ht
theorem Toks.behind {w : World} {a : Option Addr} {n cap k : Nat} {l : List Tok} (h : Toks w (.slice a n cap) l) (hk : k ≤ l.length) : Toks w (.slice (Option.map (fun x => x.add (k * 3)) a) (n - k) (cap - k)) (l.drop k) := by
  obtain ⟨a', cap', he, h1, h2, h3⟩ := h
  cases he
  refine ⟨_, _, by rw [List.length_drop], by rw [List.length_drop]; omega, by omega, ?_⟩
  rcases h3 with rfl | ⟨g, off, ha, hc⟩
  · exact .inl (by simp)
  · subst ha
    refine .inr ⟨g, off + k * 3, by rw [Option.map_some, add_plain], fun j t ht => ?_⟩
    rw [List.getElem?_drop] at ht
    have := hc (k + j) t ht
    rw [show off + k * 3 + j * 3 = off + (k + j) * 3 by omega]
    exact this
theorem Toks.none_behind {w : World} {a : Option Addr} {n cap k : Nat} {l : List Tok} (h : Toks w (.slice a n cap) l) (hk : l.length ≤ k) (c : Nat) (hc : c ≤ maxLen) : Toks w (.slice a (n - k) c) (l.drop k) := by
  obtain ⟨a', cap', he, h1, h2, h3⟩ := h
  cases he
  have e : l.drop k = [] := List.drop_eq_nil_of_le hk
  exact ⟨a, c, by rw [e, show l.length - k = 0 by omega]; rfl, by rw [e]; exact Nat.zero_le _, hc, .inl e⟩

/-- What Cut answers. -/
def CutOut (o : Option (List Tok × List Tok)) (w : World) (e : Ending) (w' : World) : Prop :=
  match o with
  | none => e = .returned (.tuple #[.slice none 0 0, .slice none 0 0, .bool false]) ∧ Touch (fun _ => False) w w'
  | some p => ∃ va vb, e = .returned (.tuple #[va, vb, .bool true]) ∧ Toks w' va p.1 ∧ Toks w' vb p.2 ∧ Touch (fun _ => False) w w'

theorem cut_neg (v : Value) (n : Int) (w : World) (h : n < 0) :
    Calls Try.prog 15 #[v, .int .i64 n] w (CutOut none w) := by
  go_enter Try.func15, Try.ntmps15
  go_wp2_with fail
  go_ret3
  exact ⟨rfl, Touch.refl _ _⟩
theorem cut_over (l : List Tok) (v : Value) (n : Int) (w : World) (hv : Toks w v l) (hl : l.length ≤ 100) (h : coverZ l < n) (h0 : 0 ≤ n) :
    Calls Try.prog 15 #[v, .int .i64 n] w (CutOut none w) := by
  have HC := Lib.hid (cover_calls l v w hv hl)
  have h1 : ¬ (n < 0) := by omega
  clear hv
  generalize coverZ l = z at HC h
  go_enter Try.func15, Try.ntmps15
  go_wp2_with fail
  refine HC.out.mono ?_
  rintro e w1 ⟨rfl, ht1⟩
  go_wp2_with fail
  go_ret3
  exact ⟨rfl, ht1⟩

/-- Two slices that were made one behind the other lie apart. -/
theorem two_own {w w1 : World} {e : TypeId} {b0 b1 n m : Nat} {va vb : Value} {xs ys : List Value} (h1 : w.ownsRow b0 e 3 va n xs) (h2 : w1.ownsRow b1 e 3 vb m ys) (hb : w.heap.size ≤ b1) : ∀ g, va.ownBlock = some g → vb.ownBlock ≠ some g := by
  intro g hg e
  have := own_lt h1 g hg
  have := own_base h2 g e
  omega
theorem own_down {w : World} {e : TypeId} {b0 b1 n : Nat} {v : Value} {xs : List Value} (h : w.ownsRow b1 e 3 v n xs) (hb : b0 ≤ b1) : w.ownsRow b0 e 3 v n xs := by
  refine ⟨h.1, ?_⟩
  rcases h.2 with h2 | ⟨g, cap, cur, rfl, hb', r⟩
  · exact .inl h2
  · exact .inr ⟨g, cap, cur, rfl, Nat.le_trans hb hb', r⟩
theorem Toks.head3 {w : World} {g n cap : Nat} {t : Tok} {r : List Tok} (h : Toks w (.slice (some ⟨g, 0, none⟩) n cap) (t :: r)) : w.cell? ⟨g, 0, none⟩ = some (.int .u8 (t.b.toNat : Nat)) ∧ w.cell? ⟨g, 1, none⟩ = some (.int .i64 t.n) ∧ w.cell? ⟨g, 2, none⟩ = some (.int .i64 t.d) := by
  obtain ⟨a, cap', he, h1, h2, h3⟩ := h
  cases he
  rcases h3 with h3 | ⟨g', off, ha, hc⟩
  · cases h3
  · cases ha
    exact hc 0 t rfl
theorem own_addr {w : World} {e : TypeId} {base n : Nat} {v : Value} {xs : List Value} (h : w.ownsRow base e 3 v n xs) (hn : 0 < n) : ∃ g cap cur, v = .slice (some ⟨g, 0, none⟩) n cap ∧ base ≤ g ∧ w.heap[g]? = some (.cells cur e (0, 0)) := by
  rcases h.2 with ⟨_, h0⟩ | ⟨g, cap, cur, hv, hb, hh, _⟩
  · omega
  · exact ⟨g, cap, cur, hv, hb, hh⟩
/-- The first one's length is another one. -/
theorem Toks.set1 {w : World} {g n cap : Nat} {t : Tok} {r : List Tok} (h : Toks w (.slice (some ⟨g, 0, none⟩) n cap) (t :: r)) (m : Int) : Toks (w.setCell ⟨g, 1, none⟩ (.int .i64 m)) (.slice (some ⟨g, 0, none⟩) n cap) (⟨t.b, m, t.d⟩ :: r) := by
  obtain ⟨a, cap', he, h1, h2, h3⟩ := h
  cases he
  refine ⟨_, cap, rfl, h1, h2, .inr ⟨g, 0, rfl, fun j x hx => ?_⟩⟩
  rcases h3 with h3 | ⟨g', off, ha, hc⟩
  · cases h3
  · cases ha
    cases j with
    | zero =>
      obtain ⟨c0, c1, c2⟩ := hc 0 t rfl
      obtain rfl : (⟨t.b, m, t.d⟩ : Tok) = x := by simpa using hx
      exact ⟨(World.cell?_setCell_other _ _ _ _ (addr_ne (by omega))).trans c0, World.cell?_setCell_same _ _ _ c1, (World.cell?_setCell_other _ _ _ _ (addr_ne (by omega))).trans c2⟩
    | succ j =>
      obtain ⟨c0, c1, c2⟩ := hc (j + 1) x (by simpa using hx)
      exact ⟨(World.cell?_setCell_other _ _ _ _ (addr_ne (by omega))).trans c0, (World.cell?_setCell_other _ _ _ _ (addr_ne (by omega))).trans c1, (World.cell?_setCell_other _ _ _ _ (addr_ne (by omega))).trans c2⟩

set_option maxHeartbeats 2000000 in
theorem cut_in (l : List Tok) (v : Value) (m : Nat) (w : World) (hv : Toks w v l) (hl : l.length ≤ 100) (hg : allGood l = true) (hm : m ≤ coverN l) :
    Calls Try.prog 15 #[v, .int .i64 (m : Nat)] w (CutOut (cutL l m) w) := by
  have HC := Lib.hid (cover_calls l v w hv hl)
  have hz : coverZ l = (coverN l : Nat) := by unfold coverZ; rw [hg]; rfl
  rw [hz] at HC
  have hcl := coverN_le hg
  have HL := Lib.hid (fun k => coverN_take_le l k)
  have HG := Lib.hid hg
  have HV := Lib.hid hv
  have hC0 : coverN l = coverN (l.take l.length) := by rw [List.take_length]
  have HC0 := Lib.hid hC0
  generalize hcn : coverN l = C at HC hm HL hcl
  have HCN := Lib.hid hcn
  clear hcn hC0
  clear hz hg
  obtain ⟨a, cap, rfl, hlc, hcm, hcell⟩ := hv
  have hm1 : ¬ ((m : Int) < 0) := by omega
  have hm2 : decide (C < m) = false := decide_eq_false (by omega)
  go_enter Try.func15, Try.ntmps15
  go_wp2_with fail
  refine HC.out.mono ?_
  rintro e w1 ⟨rfl, ht1⟩
  go_wp2_with fail
  go_loopw [7, 8] (fun wh lf wr => ∃ (k : Nat), k ≤ l.length ∧ wh = .int .i64 (k : Nat) ∧ coverN (l.take k) ≤ m ∧ lf = .int .i64 (m - coverN (l.take k) : Nat) ∧ Touch (fun _ => False) w wr) (fun wh _ _ => l.length - (intOf wh).toNat)
  case atStart => exact ⟨0, Nat.zero_le _, rfl, by simp [coverN], by simp [coverN], ht1⟩
  case round =>
    obtain ⟨k, hk, rfl, hkm, rfl, hT⟩ := hrel
    clear ht1 HC
    obtain ⟨lf, hlf⟩ : ∃ lf, lf = m - coverN (l.take k) := ⟨_, rfl⟩
    rw [← hlf]
    by_cases hlt : k < l.length
    · rcases hcell with rfl | ⟨g, off, rfl, hcell⟩
      · simp at hlt
      obtain ⟨t, ht⟩ : ∃ t, t = l[k] := ⟨_, rfl⟩
      have hlk2 : l[k]? = some t := by rw [ht]; exact List.getElem?_eq_getElem hlt
      have hgt : goodB t = true := by rw [ht]; exact allGood_at HG.out k hlt
      have hcs := coverN_take_succ l k hlt
      rw [← ht] at hcs
      have HCS := Lib.hid hcs
      have HTD := Lib.hid (fun W => told_calls t W hgt)
      unfold tokA at HTD
      have htl := toldN_le hgt
      have htp := toldN_pos t
      have HGT := Lib.hid hgt
      have HLK := Lib.hid hlk2
      have HTK := Lib.hid ht
      have HLF := Lib.hid hlf
      have HCELL := Lib.hid hcell
      obtain ⟨a0, a1, a2⟩ := hcell k t hlk2
      have b0 := hT.cell a0 id
      have b1 := hT.cell a1 id
      have b2 := hT.cell a2 id
      have hk0 : (0 : Int) ≤ (k : Int) := by omega
      have hk1 : (k : Int) < (l.length : Int) := by omega
      have hlfb : lf ≤ 25800 := by omega
      clear hcell a0 a1 a2 hlk2 hgt ht
      generalize hd : toldN t = d at HTD HCS htl htp hcs
      have HD := Lib.hid hd
      clear hd
      by_cases hin : d ≤ lf
      · have hin' : (d : Int) ≤ (lf : Int) := by omega
        clear hcs hlf
        go_wp2_with fail
        refine (HTD.out _).mono ?_
        rintro e w2 ⟨rfl, ht2⟩
        have c0 := ht2.cell b0 id
        have c1 := ht2.cell b1 id
        have c2 := ht2.cell b2 id
        have hT2 := hT.trans ht2
        clear ht2 b0 b1 b2 hT
        go_wp2_with fail
        refine (HTD.out _).mono ?_
        rintro e w3 ⟨rfl, ht3⟩
        have hT3 := hT2.trans ht3
        clear ht3 c0 c1 c2 hT2
        go_wp2_with fail
        go_roundw
        case rel => exact ⟨k + 1, by omega, by go_num, by have := HCS.out; have := HLF.out; omega, congrArg (Value.int .i64) (by have := HCS.out; have := HLF.out; omega), hT3⟩
        case measure => simp [intOf]; omega
      · have hin' : ¬ (d : Int) ≤ (lf : Int) := by omega
        clear hcs hlf
        go_wp2_with fail
        refine (HTD.out _).mono ?_
        rintro e w2 ⟨rfl, ht2⟩
        have hT2 := hT.trans ht2
        clear ht2 b0 b1 b2 hT
        by_cases h0 : lf = 0
        · subst h0
          have hwh := cutL_whole l k m hk (by have := HLF.out; omega)
          have HWH := Lib.hid hwh
          have hck : decide (cap = k) = false := decide_eq_false (by omega)
          clear hwh
          go_wp2_with fail
          go_upto_region 7 with fail
          go_cut [9, 10] (fun va vb wx => wx.ownsRow w.heap.size 37 3 va k (toksV (l.take k)) ∧ wx.ownsRow w.heap.size 37 3 vb (l.length - k) (toksV (l.drop k)) ∧ (∀ g, va.ownBlock = some g → vb.ownBlock ≠ some g) ∧ Touch (fun _ => False) w wx)
          case first =>
            have HC1 := Lib.hid (fun W (hW : Touch (fun _ => False) w W) => clone_toks _ _ W ((HV.out.upto hk).still hW) (by rw [List.length_take]; omega))
            have HC2 := Lib.hid (fun W (hW : Touch (fun _ => False) w W) => clone_toks (l.drop k) (.slice (some ⟨g, off + k * 3, none⟩) (l.length - k) (cap - k)) W ((by have := HV.out.behind hk; rwa [Option.map_some, add_plain] at this : Toks w _ _).still hW) (by rw [List.length_drop]; omega))
            have hlt1 : (l.take k).length = k := by rw [List.length_take]; omega
            have hlt2 : (l.drop k).length = l.length - k := List.length_drop ..
            rw [hlt1] at HC1
            rw [hlt2] at HC2
            clear hlt1 hlt2
            go_region_with (first
              | (go_at_call_of 32 (Value.slice (some ⟨g, off, none⟩) k cap); refine (HC1.out _ (by first | exact hT2 | exact hT2.drew)).mono ?_; rintro e w3 ⟨r3, rfl, hr3, ht3⟩; obtain ⟨ra3, rc3, hre3⟩ := own_form hr3; subst hre3; have hT3 : Touch (fun _ => False) w w3 := (by first | exact hT2.trans ht3 | exact (hT2.drew).trans ht3))
              | (go_at_call_of 32 (Value.slice (some ⟨g, off + k * 3, none⟩) (l.length - k) (cap - k)); refine (HC2.out _ (by first | exact hT3 | exact hT3.drew)).mono ?_; rintro e w4 ⟨r4, rfl, hr4, ht4⟩; obtain ⟨ra4, rc4, hre4⟩ := own_form hr4; subst hre4))
            all_goals go_wp2_with fail
            all_goals
              go_meet
              exact ⟨own_down (own_still hr3 (by first | exact ht4 | exact ((Touch.refl _ _).drew).trans ht4) (fun _ _ => id)) hT2.size, own_down hr4 hT3.size, two_own hr3 hr4 (Nat.le_refl _), by first | exact hT3.trans ht4 | exact (hT3.drew).trans ht4⟩
          case rest =>
            obtain ⟨hA, hB, hne, hTc⟩ := hcut
            have hA2 := Toks.of_own hA
            have hB2 := Toks.of_own hB
            clear hA hB hne
            go_wp2_with fail
            go_ret3
            rw [HWH.out]
            exact ⟨_, _, rfl, hA2, hB2, hTc⟩
        · have hlf0 : ((lf : Int) == 0) = false := beq_eq_false_iff_ne.2 (by omega)
          have hwi := cutL_within l k m hlt lf (by omega) (by have := HLF.out; omega) (by rw [← HTK.out, HD.out]; omega)
          rw [← HTK.out] at hwi
          have HWI := Lib.hid hwi
          clear hwi
          go_wp2_with fail
          go_upto_region 7 with fail
          go_cut [9, 10] (fun va vb wx => wx.ownsRow w.heap.size 37 3 va k (toksV (l.take k)) ∧ wx.ownsRow w.heap.size 37 3 vb (l.length - k) (toksV (l.drop k)) ∧ (∀ g, va.ownBlock = some g → vb.ownBlock ≠ some g) ∧ Touch (fun _ => False) w wx)
          case first =>
            have HC1 := Lib.hid (fun W (hW : Touch (fun _ => False) w W) => clone_toks _ _ W ((HV.out.upto hk).still hW) (by rw [List.length_take]; omega))
            have HC2 := Lib.hid (fun W (hW : Touch (fun _ => False) w W) => clone_toks (l.drop k) (.slice (some ⟨g, off + k * 3, none⟩) (l.length - k) (cap - k)) W ((by have := HV.out.behind hk; rwa [Option.map_some, add_plain] at this : Toks w _ _).still hW) (by rw [List.length_drop]; omega))
            have hlt1 : (l.take k).length = k := by rw [List.length_take]; omega
            have hlt2 : (l.drop k).length = l.length - k := List.length_drop ..
            rw [hlt1] at HC1
            rw [hlt2] at HC2
            clear hlt1 hlt2
            go_region_with (first
              | (go_at_call_of 32 (Value.slice (some ⟨g, off, none⟩) k cap); refine (HC1.out _ (by first | exact hT2 | exact hT2.drew)).mono ?_; rintro e w3 ⟨r3, rfl, hr3, ht3⟩; obtain ⟨ra3, rc3, hre3⟩ := own_form hr3; subst hre3; have hT3 : Touch (fun _ => False) w w3 := (by first | exact hT2.trans ht3 | exact (hT2.drew).trans ht3))
              | (go_at_call_of 32 (Value.slice (some ⟨g, off + k * 3, none⟩) (l.length - k) (cap - k)); refine (HC2.out _ (by first | exact hT3 | exact hT3.drew)).mono ?_; rintro e w4 ⟨r4, rfl, hr4, ht4⟩; obtain ⟨ra4, rc4, hre4⟩ := own_form hr4; subst hre4))
            all_goals go_wp2_with fail
            all_goals
              go_meet
              exact ⟨own_down (own_still hr3 (by first | exact ht4 | exact ((Touch.refl _ _).drew).trans ht4) (fun _ _ => id)) hT2.size, own_down hr4 hT3.size, two_own hr3 hr4 (Nat.le_refl _), by first | exact hT3.trans ht4 | exact (hT3.drew).trans ht4⟩
          case rest =>
            obtain ⟨hA, hB, hne, hTc⟩ := hcut
            have HDR : l.drop k = t :: l.drop (k + 1) := by rw [HTK.out]; exact List.drop_eq_getElem_cons hlt
            rw [HDR] at hB
            clear HDR
            obtain ⟨gb, capb, curb, hvb, hgb, hhb⟩ := own_addr hB (by omega)
            subst hvb
            obtain ⟨aa, ca, hva⟩ := own_form hA
            subst hva
            have hBT := Toks.of_own hB
            have hlt0 : 0 < l.length - k := by omega
            have hfb : wc.frozen? ⟨gb, 1, none⟩ = false := by simp [World.frozen?, hhb]
            have hbl : gb < wc.heap.size := (Array.getElem?_eq_some_iff.1 hhb).1
            obtain ⟨p0, p1, p2⟩ := hBT.head3
            clear hB hhb
            have HA := Lib.hid hA
            have HBT := Lib.hid hBT
            have HNE := Lib.hid hne
            have HTC := Lib.hid hTc
            clear hA hBT hne hTc
            have hn0 := good_n HGT.out
            have hdn : (d : Int) ≤ max 1 t.n := by have := HD.out; unfold toldN at this; omega
            have hnl : (lf : Int) ≤ t.n := by omega
            have hn1 : t.n ≤ 258 := hn0.2
            have hn2 : 0 ≤ t.n := hn0.1
            have hdb : gb ≠ wc.heap.size := by omega
            have hdb' : wc.heap.size ≠ gb := by omega
            clear hn0 hdn
            obtain ⟨wa, rfl⟩ : ∃ x, x = wc := ⟨wc, rfl⟩
            go_upto_region 12 with fail
            go_cut [] (fun wx => wx.heap[wa.heap.size]? = some (.cells #[.int .u8 (t.b.toNat : Nat), .int .i64 (lf : Nat), .int .i64 t.d] 37) ∧ Toks wx (.slice (some ⟨gb, 0, none⟩) (l.length - k) capb) (tailT t lf :: l.drop (k + 1)) ∧ wx.ownsRow w.heap.size 37 3 (.slice aa k ca) k (toksV (l.take k)) ∧ Touch (fun _ => False) w wx)
            case first =>
              go_wp2_with fail
              go_meet
              have hsz : (wa.setCell ⟨gb, 1, none⟩ (.int .i64 (t.n - (lf : Nat)))).heap.size = wa.heap.size := by simp [World.setCell]
              have hbn := heap_alloc_new (wa.setCell ⟨gb, 1, none⟩ (.int .i64 (t.n - (lf : Nat)))) (.cells #[.int .u8 (t.b.toNat : Nat), .int .i64 (lf : Nat), .int .i64 t.d] 37)
              rw [hsz] at hbn
              exact ⟨hbn, (HBT.out.set1 (t.n - (lf : Nat))).still ((Touch.refl (fun _ => False) _).alloc _), own_still HA.out (S := fun i => i = gb) (((Touch.refl (fun i => i = gb) wa).setCell (.inl rfl) _).alloc _) (fun g hg e => HNE.out g hg (by rw [e]; rfl)), (HTC.out.setCell (.inr hgb) _).alloc _⟩
            case rest =>
              have HG1 : RowKit.Hid (∀ W, Calls Try.prog 33 #[.agg #[.int .u8 (t.b.toNat : Nat), .int .i64 (lf : Nat), .int .i64 t.d]] W fun e w' => e = .returned (.bool (goodB (headT t lf))) ∧ Touch (fun _ => False) W w') := Lib.hid (fun W => good_calls (headT t lf) W)
              have HG2 : RowKit.Hid (∀ W, Calls Try.prog 33 #[.agg #[.int .u8 (t.b.toNat : Nat), .int .i64 (t.n - (lf : Nat)), .int .i64 t.d]] W fun e w' => e = .returned (.bool (goodB (tailT t lf))) ∧ Touch (fun _ => False) W w') := Lib.hid (fun W => good_calls (tailT t lf) W)
              clear p0 p1 p2 hfb HA HBT HTC
              obtain ⟨hbx, hBT, hA, hTc⟩ := hcut
              have hBl : wa.heap.size < wc.heap.size := (Array.getElem?_eq_some_iff.1 hbx).1
              generalize wa.heap.size = B at hbx hBl hdb hdb'
              obtain ⟨x0, x1, x2, _, _, _⟩ := box_cells hbx
              have p0 := hBT.head3.1
              have p1 : wc.cell? ⟨gb, 1, none⟩ = some (.int .i64 (t.n - (lf : Nat))) := hBT.head3.2.1
              have p2 : wc.cell? ⟨gb, 2, none⟩ = some (.int .i64 t.d) := hBT.head3.2.2
              have HBT := Lib.hid hBT
              have HA := Lib.hid hA
              have HTC := Lib.hid hTc
              have HBX := Lib.hid hbx
              clear hBT hA hTc hbx
              by_cases g1 : goodB (headT t lf) = true
              · rw [g1] at HG1
                by_cases g2 : goodB (tailT t lf) = true
                · rw [g2] at HG2
                  have hres : cutL l m = some (l.take k ++ [headT t lf], tailT t lf :: l.drop (k + 1)) := by rw [HWI.out, if_pos ⟨g1, g2⟩]
                  have HRES := Lib.hid hres
                  clear g1 g2 hres
                  go_wp2_with fail
                  refine (HG1.out _).mono ?_
                  rintro e w6 ⟨rfl, ht6⟩
                  have q0 := ht6.cell p0 id
                  have q1 := ht6.cell p1 id
                  have q2 := ht6.cell p2 id
                  have y0 := ht6.cell x0 id
                  have y1 := ht6.cell x1 id
                  have y2 := ht6.cell x2 id
                  clear p0 p1 p2 x0 x1 x2
                  go_wp2_with fail
                  refine (HG2.out _).mono ?_
                  rintro e w7 ⟨rfl, ht7⟩
                  have z0 := ht7.cell y0 id
                  have z1 := ht7.cell y1 id
                  have z2 := ht7.cell y2 id
                  have ht67 := ht6.trans ht7
                  have hA7 := own_still HA.out ht67 (fun _ _ => id)
                  have hB7 := HBT.out.still ht67
                  have hT7 := HTC.out.trans ht67
                  have hb7 := hT7.size
                  clear q0 q1 q2 y0 y1 y2 ht6 ht7
                  obtain ⟨i0, hi, hz0, hz1, hz2⟩ := info_parts Try.infoT
                  have hone : ∀ u ∈ tokV (headT t lf), u.oneCell' = true := by
                    intro u hu
                    simp [tokV] at hu
                    rcases hu with rfl | rfl | rfl <;> rfl
                  have hkl : k ≤ 100 := by omega
                  go_wp2_with (at_builtin; refine wpList_append_own_at _ rfl (.tmp 78) (.tmp 80) 35 rfl w.heap.size 37 i0 _ 3 24 Try.underlying35 hi hz0 hz1 hz2 rfl (by decide) (.slice aa k ca) k (toksV (l.take k)) rfl (by exact own_still hA7 ((Touch.refl (fun _ => False) w7).alloc _) (fun _ _ => id)) ⟨w7.heap.size, 0, none⟩ 1 1 (tokV (headT t lf)) rfl rfl (by exact new_at (x := headT t lf) (heap_alloc_new w7 _)) hone (by unfold maxLen; omega) (by omega) (by simp; omega) ?_; intro v2 w2 hrow2 hgrow _ hown2)
                  go_ret3
                  rw [HRES.out]
                  have hT8 := (hT7.alloc _).grown hgrow (fun j hj => .inr (own_base hA7 j hj))
                  refine ⟨_, _, rfl, ?_, ?_, hT8⟩
                  · refine Toks.of_own (base := w.heap.size) (e := 37) (n := k + 1) ?_
                    rw [toksV_append, show toksV [headT t lf] = tokV (headT t lf) by simp [toksV]]
                    exact hrow2
                  · exact hB7.kept (S := fun i => some i = (Value.slice aa k ca).ownBlock) (((Touch.refl _ w7).alloc _).grown hgrow (fun j hj => .inl hj.symm)) (fun g hg e => HNE.out g e.symm hg)
                · have g2' : goodB (tailT t lf) = false := by simpa using g2
                  rw [g2'] at HG2
                  have hres : cutL l m = none := by rw [HWI.out, if_neg (fun h => g2 h.2)]
                  have HRES := Lib.hid hres
                  clear g1 g2 g2' hres
                  go_wp2_with fail
                  refine (HG1.out _).mono ?_
                  rintro e w6 ⟨rfl, ht6⟩
                  have q0 := ht6.cell p0 id
                  have q1 := ht6.cell p1 id
                  have q2 := ht6.cell p2 id
                  clear p0 p1 p2 x0 x1 x2
                  go_wp2_with fail
                  refine (HG2.out _).mono ?_
                  rintro e w7 ⟨rfl, ht7⟩
                  go_wp2_with fail
                  go_ret3
                  rw [HRES.out]
                  exact ⟨rfl, (HTC.out.trans ht6).trans ht7⟩
              · have g1' : goodB (headT t lf) = false := by simpa using g1
                rw [g1'] at HG1
                have hres : cutL l m = none := by rw [HWI.out, if_neg (fun h => g1 h.1)]
                have HRES := Lib.hid hres
                clear g1 g1' hres
                go_wp2_with fail
                refine (HG1.out _).mono ?_
                rintro e w6 ⟨rfl, ht6⟩
                go_wp2_with fail
                go_ret3
                rw [HRES.out]
                exact ⟨rfl, HTC.out.trans ht6⟩
    · obtain rfl : k = l.length := by omega
      have hck0 : lf = 0 := by have := HC0.out; have := HCN.out; omega
      subst hck0
      have hwh := cutL_whole l l.length m hk (by omega)
      rw [List.take_length, List.drop_length] at hwh
      have HWH := Lib.hid hwh
      have HC1 := Lib.hid (fun W (hW : Touch (fun _ => False) w W) => clone_toks l _ W (HV.out.still hW) hl)
      have HCE := Lib.hid (fun (x : Option Addr) (c : Nat) (W : World) (hc : c ≤ maxLen) => clone_toks [] (.slice x 0 c) W ⟨x, c, rfl, Nat.zero_le _, hc, .inl rfl⟩ (by decide))
      have HCM := Lib.hid hcm
      clear hwh hlf
      have hform : (∃ x : Addr, a = some x) ∨ a = none := by cases a with | none => exact .inr rfl | some x => exact .inl ⟨x, rfl⟩
      clear hcell
      go_wp2_with fail
      rcases hform with ⟨x, rfl⟩ | rfl
      all_goals
        by_cases hcap : cap = l.length
      all_goals first
        | subst hcap
        | (have hck : l.length < cap := by omega
           have hck2 : (l.length : Int) < (cap : Int) := by omega)
      all_goals
        go_upto_region 7 with fail
        go_cut [9, 10] (fun va vb wx => wx.ownsRow w.heap.size 37 3 va l.length (toksV l) ∧ wx.ownsRow w.heap.size 37 3 vb 0 (toksV []) ∧ (∀ g, va.ownBlock = some g → vb.ownBlock ≠ some g) ∧ Touch (fun _ => False) w wx)
        case first =>
          go_region_with (first
            | (go_at_call_of 32 (l.length); refine (HC1.out _ (by first | exact hT | exact hT.drew)).mono ?_; rintro e w3 ⟨r3, rfl, hr3, ht3⟩; obtain ⟨ra3, rc3, hre3⟩ := own_form hr3; subst hre3; have hT3 : Touch (fun _ => False) w w3 := (by first | exact hT.trans ht3 | exact (hT.drew).trans ht3))
            | (go_at_call 32; refine (HCE.out _ _ _ (by have := HCM.out; first | exact this | (clear HC1 HCE; omega))).mono ?_; rintro e w4 ⟨r4, rfl, hr4, ht4⟩; obtain ⟨ra4, rc4, hre4⟩ := own_form hr4; subst hre4))
          all_goals go_wp2_with fail
          all_goals
            go_meet
            exact ⟨own_down (own_still hr3 (by first | exact ht4 | exact ((Touch.refl _ _).drew).trans ht4) (fun _ _ => id)) hT.size, own_down hr4 hT3.size, two_own hr3 hr4 (Nat.le_refl _), by first | exact hT3.trans ht4 | exact (hT3.drew).trans ht4⟩
        case rest =>
          obtain ⟨hA, hB, hne, hTc⟩ := hcut
          have hA2 := Toks.of_own hA
          have hB2 := Toks.of_own hB
          clear hA hB hne
          go_wp2_with fail
          go_ret3
          rw [HWH.out]
          exact ⟨_, _, rfl, hA2, hB2, hTc⟩
end Go.Proofs.Ytnjgalalnnldiaa
