/- Package match's newFinder over the translated program. -/
import Derived.Test.YtbjkoepldccaaaaMatD
import Derived.Deep.CutBlock
import Derived.Deep.DeepCutAuto
namespace Go.Proofs.Ytbjkoepldccaaaa
open Go Go.RowKit Go.Maps
set_option maxRecDepth 100000

theorem idxW (gb hv : Nat) (h0 : (0 : Int) ≤ (hv : Int)) (h1 : (hv : Int) < 65536) (W : World) : (Instr.indexAt 48 (.pointer (some ⟨gb, 0, none⟩)) (.int .u32 (hv : Int))).run Try.prog W = .ok (.pointer (some ⟨gb, hv, none⟩)) W := by
  have hu : Try.prog.underlying 48 = some (.array 65536 4) := by kernel_rfl
  have hl : Try.prog.arrayLen 48 = 65536 := by simp only [Program.arrayLen, hu]
  have he : Try.prog.elem 48 = 4 := by simp only [Program.elem, hu]
  have hu2 : Try.prog.underlying 48 = some (.array (Try.prog.arrayLen 48) (Try.prog.elem 48)) := by rw [hl, he, hu]
  obtain ⟨i1, hi1, hs1⟩ : ∃ i, Try.prog.info? 4 = some i ∧ i.size = 1 := by
    have h : (Try.prog.info? 4).map (fun i => i.size) = some 1 := by kernel_rfl
    exact Option.map_eq_some_iff.1 h
  rw [run_indexAt_array (h := hu2), hl, he, if_pos ⟨h0, h1⟩]
  simp [sizeOf, typeInfo, hi1, hs1, Addr.add]
  try exact fun h => h.symm
/-- The zero of an array of 65536 Booleans, as the program's table has it. -/
def aggOf : Option Value → Array Value
  | some (.agg cs) => cs
  | _ => #[]
def isAggO : Option Value → Bool
  | some (.agg _) => true
  | _ => false
theorem isAggO_some {o : Option Value} (h : isAggO o = true) : o = some (.agg (aggOf o)) := by
  match o, h with
  | some (.agg cs), _ => rfl
noncomputable def zsW : Array Value := aggOf ((Try.prog.info? 48).bind (·.zero))
theorem zeroW (w : World) : (zeroValue 48).run Try.prog w = .ok (.agg zsW) w := by
  have h : isAggO ((Try.prog.info? 48).bind (·.zero)) = true := by kernel_rfl
  have h2 := isAggO_some h
  obtain ⟨i, hi, hz⟩ := Option.bind_eq_some_iff.1 h2
  have h3 : i.zero = some (.agg zsW) := hz
  simp [zeroValue, typeInfo, hi, h3]
def isB : Value → Bool
  | .bool _ => true
  | _ => false
def allB : List Value → Nat → Bool
  | [], n => n == 65536
  | v :: r, n => isB v && allB r (n + 1)
set_option maxRecDepth 1000000 in
theorem zsW_all : allB zsW.toList 0 = true := by decide +kernel
theorem allB_facts (l : List Value) : ∀ n, allB l n = true → l.length + n = 65536 ∧ ∀ v ∈ l, isB v = true := by
  induction l with
  | nil => intro n h; simp [allB] at h; exact ⟨by simpa using h, fun v hv => by cases hv⟩
  | cons x r ih =>
    intro n h
    rw [allB, Bool.and_eq_true] at h
    obtain ⟨h1, h2⟩ := ih (n + 1) h.2
    refine ⟨by rw [List.length_cons]; omega, fun v hv => ?_⟩
    rcases List.mem_cons.1 hv with e | e
    · rw [e]; exact h.1
    · exact h2 v e
/-- The array of what is wanted: Booleans, of which some are known to be true. -/
def Wants (w : World) (g : Nat) (hs : Nat → Prop) : Prop :=
  ∃ cs : Array Value, w.heap[g]? = some (.cells cs 48 (0, 0)) ∧ cs.size = 65536 ∧ (∀ i, i < 65536 → ∃ b, cs[i]? = some (.bool b)) ∧ ∀ i, i < 65536 → hs i → cs[i]? = some (.bool true)
theorem zeroW_ex : ∃ zs : Array Value, (∀ w, (zeroValue 48).run Try.prog w = .ok (.agg zs) w) ∧ allB zs.toList 0 = true := ⟨zsW, zeroW, zsW_all⟩
theorem Wants.new (w : World) (zs : Array Value) (h : allB zs.toList 0 = true) (hs : Nat → Prop) (hh : ∀ k, ¬ hs k) : Wants (w.alloc (.cells zs 48)) w.heap.size hs := by
  obtain ⟨h1, h2⟩ := allB_facts _ 0 h
  refine ⟨zs, heap_alloc_new w _, by simpa using h1, fun i hi => ?_, fun i _ h => absurd h (hh i)⟩
  have hl : i < zs.size := by rw [show zs.size = 65536 by simpa using h1]; exact hi
  have hm := h2 zs[i] (by rw [← Array.getElem_toList hl]; exact List.getElem_mem _)
  rw [Array.getElem?_eq_getElem hl]
  match hv : zs[i], hm with
  | .bool b, _ => exact ⟨b, rfl⟩
theorem Wants.kept {S : Nat → Prop} {w w' : World} {g : Nat} {hs : Nat → Prop} (h : Wants w g hs) (ht : Touch S w w') (hn : ¬ S g) : Wants w' g hs := by
  obtain ⟨cs, h1, r⟩ := h
  exact ⟨cs, (ht.block g (Array.getElem?_eq_some_iff.1 h1).1 hn).trans h1, r⟩
theorem Wants.cell {w : World} {g : Nat} {hs : Nat → Prop} (h : Wants w g hs) (i : Nat) (hi : i < 65536) : ∃ b, w.cell? ⟨g, i, none⟩ = some (.bool b) ∧ w.frozen? ⟨g, i, none⟩ = false ∧ (hs i → b = true) := by
  obtain ⟨cs, h1, h2, h3, h4⟩ := h
  obtain ⟨b, hb⟩ := h3 i hi
  refine ⟨b, by rw [cell_of_row w g i cs _ (0, 0) h1]; exact hb, by simp [World.frozen?, h1], fun hh => ?_⟩
  have := (h4 i hi hh).symm.trans hb
  injection this with this
  injection this with this
  exact this.symm
theorem Wants.mark {w : World} {g : Nat} {hs : Nat → Prop} (h : Wants w g hs) (i : Nat) (hi : i < 65536) : Wants (w.setCell ⟨g, i, none⟩ (.bool true)) g fun k => hs k ∨ k = i := by
  obtain ⟨cs, h1, h2, h3, h4⟩ := h
  refine ⟨cs.setIfInBounds i (.bool true), heap_setCell_same _ h1, by simpa using h2, fun k hk => ?_, fun k hk hh => ?_⟩
  · by_cases e : i = k
    · subst e; exact ⟨true, by simp [h2, hi]⟩
    · rw [Array.getElem?_setIfInBounds_ne e]; exact h3 k hk
  · by_cases e : i = k
    · subst e; simp [h2, hi]
    · rw [Array.getElem?_setIfInBounds_ne e]
      exact h4 k hk (hh.elim id (fun e2 => absurd e2.symm e))

theorem made_zs (n : Nat) : (madeCells (Value.int .i64 0).cells (n * 1)).toList = zsV (List.replicate n 0) := by
  rw [Nat.mul_one, show (Value.int .i64 0).cells = #[Value.int .i64 0] from rfl, toList_madeCells_one]
  simp [zsV]
theorem box4 {w : World} {b : Nat} {x0 x1 x2 x3 : Value} {t : TypeId} (h : w.heap[b]? = some (.cells #[x0, x1, x2, x3] t)) :
    (w.cell? ⟨b, 0, none⟩ = some x0 ∧ w.cell? ⟨b, 1, none⟩ = some x1 ∧ w.cell? ⟨b, 2, none⟩ = some x2 ∧ w.cell? ⟨b, 3, none⟩ = some x3) ∧ w.frozen? ⟨b, 3, none⟩ = false := by
  refine ⟨⟨?_, ?_, ?_, ?_⟩, by simp [World.frozen?, h]⟩
  all_goals rw [cell_of_row w b _ _ _ _ h]; rfl
/-- A new finder, to which no place is known. -/
theorem FAt.first {w w2 : World} {T : ByteArray} {n : Nat} (hg : ((w.alloc (.map #[] 0)).alloc (.cells #[.string T, .int .i64 (n : Nat), .map (some w.heap.size), .slice none 0 0] 44)).grownBy w2 none)
    (hown : w2.ownsRow (w.heap.size + 1 + 1) 3 1 (.slice (some ⟨w.heap.size + 1 + 1, 0, none⟩) T.size T.size) T.size (zsV (List.replicate T.size 0))) :
    FAt (w2.setCell ⟨w.heap.size + 1, 3, none⟩ (.slice (some ⟨w.heap.size + 1 + 1, 0, none⟩) T.size T.size)) (w.heap.size + 1) T n w.heap.size (w.heap.size + 1 + 1) [] ∧
    Touch (fun _ => False) w (w2.setCell ⟨w.heap.size + 1, 3, none⟩ (.slice (some ⟨w.heap.size + 1 + 1, 0, none⟩) T.size T.size)) := by
  have hb : w2.heap[w.heap.size + 1]? = some (.cells #[.string T, .int .i64 (n : Nat), .map (some w.heap.size), .slice none 0 0] 44) := by
    rw [hg.block (w.heap.size + 1) (by simp) (by simp)]
    have := heap_alloc_new (w.alloc (.map #[] 0)) (.cells #[.string T, .int .i64 (n : Nat), .map (some w.heap.size), .slice none 0 0] 44)
    simpa using this
  obtain ⟨⟨c0, c1, c2, c3⟩, _⟩ := box4 hb
  have hm0 := World.ownsMap_made (H := Unit) w Try.prog 49 (plainElem Try.prog 3)
  have hm1 := ((hm0.alloc (.cells #[.string T, .int .i64 (n : Nat), .map (some w.heap.size), .slice none 0 0] 44)).kept hg (by simp)).setCell (a := ⟨w.heap.size + 1, 3, none⟩) (by show w.heap.size ≠ w.heap.size + 1; omega) (.slice (some ⟨w.heap.size + 1 + 1, 0, none⟩) T.size T.size)
  have hrow := (Row.of_own hown).kept (S := fun k => k = w.heap.size + 1) ((Touch.refl (fun k => k = w.heap.size + 1) w2).setCell (p := ⟨w.heap.size + 1, 3, none⟩) (.inl rfl) (.slice (some ⟨w.heap.size + 1 + 1, 0, none⟩) T.size T.size)) (fun g hg' e => by
    have h9 : w.heap.size + 1 + 1 = g := Option.some.inj hg'
    omega)
  refine ⟨⟨(World.cell?_setCell_other _ _ _ _ (addr_ne (by omega))).trans c0, (World.cell?_setCell_other _ _ _ _ (addr_ne (by omega))).trans c1, (World.cell?_setCell_other _ _ _ _ (addr_ne (by omega))).trans c2, World.cell?_setCell_same _ _ _ c3, (fun p hp => by cases hp), List.Pairwise.nil, ⟨_, hm1, fun h hh => ⟨rfl, rfl⟩⟩, ⟨List.replicate T.size 0, by simp, hrow, trivial⟩, by omega, by omega, by omega⟩, ?_⟩
  exact ((((Touch.refl _ w).alloc _).alloc _).grown hg (fun k h => by cases h)).setCell (.inr (by show w.heap.size ≤ w.heap.size + 1; omega)) _

/-- Which hashes are wanted: those of the text's places. -/
def wantH (T : ByteArray) (fr m : Nat) (k : Nat) : Prop := ∃ i, i < m ∧ hashN T.data.toList (fr + i) = k

set_option maxHeartbeats 2000000 in
theorem newFinder_calls (ahead s A T : ByteArray) (w : World) (h3 : 3 ≤ s.size) (hs : s.size ≤ 300000) (hah : ahead.size ≤ 100000) (hA : A = ahead.extract (ahead.size - 32768) ahead.size) (hTe : T = A ++ s) :
    Calls Try.prog 12 #[.string ahead, .string s] w fun e w' => (∃ b mb pb ps, e = .returned (.pointer (some ⟨b, 0, none⟩)) ∧ FAt w' b T A.size mb pb ps ∧ (w.heap.size ≤ b ∧ w.heap.size ≤ mb ∧ w.heap.size ≤ pb) ∧ (∀ p ∈ ps, p < A.size) ∧
      (∀ p, p < A.size → wantH T A.size (s.size - 2) (hashN T.data.toList p) → p ∈ ps)) ∧ Touch (fun _ => False) w w' := by
  obtain ⟨zs, hz, hzb⟩ := zeroW_ex
  have HZB := Lib.hid hzb
  clear hzb
  have hmm := @run_makeMap Try.prog
  obtain ⟨i0, hi, hz0, hz1, hz2⟩ := info_parts (show (Try.prog.info? 3).map (fun i => (i.zero, i.size, i.bytes)) = some (some (.int .i64 0), 1, 8) by kernel_rfl)
  have HNEAR := Lib.hid (fun W => near_calls ahead W (by omega))
  rw [← hA] at HNEAR
  have hAs : A.size ≤ 32768 := by rw [hA]; simp; omega
  clear hA
  have hsum : A.size + s.size ≤ 400000 := by omega
  have hTs : T.size = A.size + s.size := by rw [hTe]; simp
  have hTl : T.size ≤ 400000 := by omega
  have HTS := Lib.hid hTs
  have hTe' : A ++ s = T := hTe.symm
  clear hTe hTs
  go_enter Try.func12, Try.ntmps12
  go_upto_region 4 with (first
    | (go_at_call 17; refine (HNEAR.out _).mono ?_; rintro e w1 ⟨rfl, rfl⟩)
    | (at_make; refine wpList_make_full _ rfl (.tmp 24) (.tmp 24) 42 rfl (w.heap.size + 1 + 1) 3 i0 _ 1 Try.underlying42 hi hz0 hz1 .i64 .i64 _ _ T.size rfl rfl rfl rfl (by rw [hz2]; omega) (by unfold maxLen; omega) (by simp) ?_; intro w2 hown hgrow; rw [made_zs] at hown; have hbx : w2.heap[w.heap.size + 1]? = some (.cells #[.string T, .int .i64 (A.size : Nat), .map (some w.heap.size), .slice none 0 0] 44) := (by rw [hgrow.block (w.heap.size + 1) (by simp) (by simp)]; simpa using heap_alloc_new (w.alloc (.map #[] 0)) (.cells #[.string T, .int .i64 (A.size : Nat), .map (some w.heap.size), .slice none 0 0] 44)); obtain ⟨⟨e0, e1, e2, e3⟩, ef3⟩ := box4 hbx))
  have hbs : ((w.alloc (.map #[] 0)).alloc (.cells #[.string T, .int .i64 (A.size : Nat), .map (some w.heap.size), .slice none 0 0] 44)).heap.size = w.heap.size + 1 + 1 := by simp
  rw [hbs] at hown
  obtain ⟨hF, hT⟩ := FAt.first hgrow hown
  clear hgrow hown hbx ef3 e0 e1 e2 e3 hbs hmm hi hz0 hz1 hz2 HNEAR hTe'
  generalize w2.setCell ⟨w.heap.size + 1, 3, none⟩ (.slice (some ⟨w.heap.size + 1 + 1, 0, none⟩) T.size T.size) = w3 at hF hT ⊢
  have hge : w.heap.size ≤ w.heap.size + 1 + 1 ∧ w.heap.size ≤ w.heap.size + 1 := ⟨by omega, by omega⟩
  generalize w.heap.size + 1 + 1 = pb at hF hge ⊢
  obtain ⟨hge1, hge⟩ := hge
  generalize w.heap.size + 1 = b at hF hge ⊢
  have hge2 : w.heap.size ≤ w.heap.size := Nat.le_refl _
  generalize hmbe : w.heap.size = mb at hF hge2 ⊢
  have HMBE := Lib.hid hmbe
  clear hmbe
  have hz3 := hz w3
  obtain ⟨m, hm⟩ : ∃ m, m = s.size - 2 := ⟨_, rfl⟩
  have HM := Lib.hid hm
  have hlen : (s.size : Int) - 3 + 1 = (m : Int) := by omega
  have hms : A.size + m + 2 ≤ T.size := by have := HTS.out; omega
  have HF := Lib.hid hF
  have HT := Lib.hid hT
  clear hz hF hT hm
  go_upto_block 0 with fail
  go_cut [] (fun wx => Wants wx w3.heap.size (wantH T A.size m) ∧ FAt wx b T A.size mb pb [] ∧ Touch (fun _ => False) w wx)
  case first =>
    go_wp2_with fail
    go_loopw [7, 32] (fun _ i wr => ∃ k : Nat, k ≤ m ∧ i = .int .i64 (k : Nat) ∧ Wants wr w3.heap.size (wantH T A.size k) ∧ FAt wr b T A.size mb pb [] ∧ Touch (fun _ => False) w wr) (fun _ i _ => m - (intOf i).toNat)
    case atStart =>
      refine ⟨0, Nat.zero_le _, rfl, ?_, HF.out.kept (S := fun _ => False) ((Touch.refl _ _).alloc _) id id id, HT.out.alloc _⟩
      exact Wants.new w3 zs HZB.out _ (fun k ⟨j, hj, _⟩ => absurd hj (Nat.not_lt_zero _))
    case round =>
      obtain ⟨k, hk, rfl, hW, hF, hT⟩ := hrel
      by_cases hlt : k < m
      · have hk0 : (0 : Int) ≤ (k : Int) := by omega
        have hk1 : (k : Int) < (m : Int) := by omega
        have e1 := hF.c1
        have hcast : ((A.size + k : Nat) : Int) = (A.size : Int) + (k : Int) := by omega
        have hHC := hash_calls b T (A.size + k) wr hF.c0 (by omega) (by omega)
        rw [hcast] at hHC
        have HHC := Lib.hid hHC
        have hhl := hashN_lt T.data.toList (A.size + k)
        obtain ⟨bb, q1, q2, _⟩ := hW.cell (hashN T.data.toList (A.size + k)) hhl
        have HMK := Lib.hid (hW.mark (hashN T.data.toList (A.size + k)) hhl)
        have HW := Lib.hid hW
        have HF1 := Lib.hid hF
        have HT1 := Lib.hid hT
        have hgl : w3.heap.size < wr.heap.size := World.block_lt_of_cell? wr _ q1
        clear hcast hHC hW hF hT
        generalize hhv : hashN T.data.toList (A.size + k) = hv at HHC hhl q1 q2 HMK
        have HHV := Lib.hid hhv
        clear hhv
        have hh0 : (0 : Int) ≤ (hv : Int) := by omega
        have hh1 : (hv : Int) < 65536 := by omega
        have hix := idxW w3.heap.size hv hh0 hh1
        go_wp2_with fail
        refine HHC.out.mono ?_
        rintro e w5 ⟨rfl, q, rfl⟩
        go_wp2_with fail
        go_roundw
        case rel =>
          have hT5 : Touch (fun j => j = w3.heap.size) wr ((wr.drewN q).setCell ⟨w3.heap.size, hv, none⟩ (.bool true)) := ((Touch.refl (fun j => j = w3.heap.size) wr).drewN q).setCell (p := ⟨w3.heap.size, hv, none⟩) (.inl rfl) _
          have hb3 : b < w3.heap.size := World.block_lt_of_cell? w3 _ HF.out.c0
          have hmp := HF.out.mp
          obtain ⟨D3, d3, _⟩ := hmp
          obtain ⟨xs3, _, r3, _⟩ := HF.out.row
          have hm3 := d3.lt
          have hp3 := r3.lt pb rfl
          refine ⟨k + 1, by omega, by go_num, ?_, HF1.out.kept hT5 (by omega) (by omega) (by omega), HT1.out.trans' hT5 (fun i hi => .inr (by have := HT.out.size; omega))⟩
          obtain ⟨cs, m1, m2, m3, m4⟩ := (HW.out.kept (S := fun _ => False) ((Touch.refl _ wr).drewN q) id).mark hv hhl
          refine ⟨cs, m1, m2, m3, fun i hi ⟨j, hj, hje⟩ => m4 i hi ?_⟩
          rcases Nat.lt_or_ge j k with h | h
          · exact .inl ⟨j, h, hje⟩
          · obtain rfl : j = k := by omega
            exact .inr (by rw [← hje, ← HHV.out])
        case measure => simp [intOf]; omega
      · obtain rfl : k = m := by omega
        go_wp2_with fail
        go_meet
        exact ⟨hW, hF, hT⟩
  case rest =>
    obtain ⟨hW, hF, hT⟩ := hcut
    have hb3 : b < w3.heap.size := World.block_lt_of_cell? w3 _ HF.out.c0
    obtain ⟨D3, d3, _⟩ := HF.out.mp
    obtain ⟨xs3, _, r3, _⟩ := HF.out.row
    have hm3 := d3.lt
    have hp3 := r3.lt pb rfl
    have e1' := hF.c1
    clear d3 r3 hz3 hlen HZB
    generalize w3.heap.size = gb at hW hb3 hm3 hp3 ⊢
    go_wp2_with fail
    go_loopw [8, 49] (fun _ i wr => ∃ (k : Nat) (ps : List Nat), k ≤ A.size ∧ i = .int .i64 (k : Nat) ∧ Wants wr gb (wantH T A.size m) ∧ FAt wr b T A.size mb pb ps ∧ RowKit.Hid (∀ p ∈ ps, p < k) ∧ RowKit.Hid (∀ p, p < k → wantH T A.size m (hashN T.data.toList p) → p ∈ ps) ∧ ps.length ≤ k ∧ Touch (fun _ => False) w wr) (fun _ i _ => A.size - (intOf i).toNat)
    case atStart => exact ⟨0, [], Nat.zero_le _, rfl, hW, hF, Lib.hid (fun p h => by cases h), Lib.hid (fun p h => absurd h (Nat.not_lt_zero _)), Nat.le_refl _, hT⟩
    case round =>
      clear e1' hW hF hT
      obtain ⟨k, ps, hk, rfl, hW, hF, HPL, HPC, hpl, hT⟩ := hrel
      by_cases hlt : k < A.size
      · have hk0 : (0 : Int) ≤ (k : Int) := by omega
        have hk1 : (k : Int) < (A.size : Int) := by omega
        have hTk : k + 3 ≤ T.size := by omega
        have HHC := Lib.hid (hash_calls b T k wr hF.c0 hTk (by omega))
        have hhl := hashN_lt T.data.toList k
        obtain ⟨bb, q1, q2, q3⟩ := hW.cell (hashN T.data.toList k) hhl
        have Q3 := Lib.hid q3
        have HW := Lib.hid hW
        have HF1 := Lib.hid hF
        have HT1 := Lib.hid hT
        have HPUT := Lib.hid (fun q => put_calls b k A.size mb pb T ps (wr.drewN q) (hF.kept (S := fun _ => False) ((Touch.refl _ wr).drewN q) id id id) hTk HPL.out (by omega) (by omega))
        clear hW hF hT q3 q2
        generalize hhv : hashN T.data.toList k = hv at HHC hhl q1 Q3
        have HHV := Lib.hid hhv
        clear hhv
        have hh0 : (0 : Int) ≤ (hv : Int) := by omega
        have hh1 : (hv : Int) < 65536 := by omega
        have hix := idxW gb hv hh0 hh1
        cases bb with
        | true =>
          go_wp2_with fail
          refine HHC.out.mono ?_
          rintro e w5 ⟨rfl, q, rfl⟩
          go_wp2_with fail
          refine (HPUT.out q).mono ?_
          rintro e w6 ⟨rfl, hF6, ht6⟩
          have HF6 := Lib.hid hF6
          have HT6 := Lib.hid ht6
          clear hF6 ht6
          go_wp2_with fail
          go_roundw
          case rel =>
            refine ⟨k + 1, k :: ps, by omega, by go_num, HW.out.kept (((Touch.refl _ wr).drewN q).trans HT6.out) (by omega), HF6.out, Lib.hid (fun p hp => ?_), Lib.hid (fun p hp hw' => ?_), by rw [List.length_cons]; omega, HT1.out.trans' (((Touch.refl _ wr).drewN q).trans HT6.out) (fun i hi => .inr (by have := HMBE.out; omega))⟩
            · rcases List.mem_cons.1 hp with e | e
              · omega
              · have := HPL.out p e; omega
            · rcases Nat.lt_or_ge p k with h | h
              · exact List.mem_cons_of_mem _ (HPC.out p h hw')
              · obtain rfl : p = k := by omega
                exact List.mem_cons_self
          case measure => simp [intOf]; omega
        | false =>
          go_wp2_with fail
          refine HHC.out.mono ?_
          rintro e w5 ⟨rfl, q, rfl⟩
          go_wp2_with fail
          go_roundw
          case rel =>
            refine ⟨k + 1, ps, by omega, by go_num, HW.out.kept (S := fun _ => False) ((Touch.refl _ wr).drewN q) id, HF1.out.kept (S := fun _ => False) ((Touch.refl _ wr).drewN q) id id id, Lib.hid (fun p hp => by have := HPL.out p hp; omega), Lib.hid (fun p hp hw' => ?_), by omega, HT1.out.drewN q⟩
            rcases Nat.lt_or_ge p k with h | h
            · exact HPC.out p h hw'
            · obtain rfl : p = k := by omega
              rw [HHV.out] at hw'
              exact absurd (Q3.out hw') (by decide)
          case measure => simp [intOf]; omega
      · obtain rfl : k = A.size := by omega
        go_wp2_with fail
        go_ret
        exact ⟨⟨b, mb, pb, ps, rfl, hF, ⟨hge, by have := HMBE.out; omega, hge1⟩, HPL.out, by rw [← HM.out]; exact HPC.out⟩, hT⟩
end Go.Proofs.Ytbjkoepldccaaaa
