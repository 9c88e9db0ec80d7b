/- The reference's sorted counts over the translated program. -/
import Derived.Test.YthobbdnmhldglaaMrgPs
import Derived.Test.YthobbdnmhldglaaMrgMx
import Derived.Test.YthobbdnmhldglaaRows
import Derived.Test.YthobbdnmhldglaaNum
import Derived.WalkSpells
import Derived.OwnWalk
import Derived.WalkLawsBesides
import Derived.Lib.Hide
import Derived.Lib.BitFns
import Derived.Laws.BitsAllLaws
import Derived.Laws.Rows
import Derived.Laws.ResultCell
import Derived.RegionTactic
import Derived.BigRegion
import Derived.BigQuiet
import Derived.Deep.QuietTactic
import Derived.Deep.RegionHeld3
import Derived.Deep.RegionLaw
namespace Go.Proofs.Ythobbdnmhldglaa
open Go Go.RowKit
set_option maxRecDepth 100000

def natVs (l : List Nat) : List Value := l.map fun x => Value.int .i64 (x : Nat)
theorem natVs_length (l : List Nat) : (natVs l).length = l.length := by simp [natVs]
theorem natVs_get (l : List Nat) (k : Nat) (h : k < l.length) : (natVs l)[k]? = some (.int .i64 (l.getD k 0 : Nat)) := by simp [natVs, h]
theorem Try.infoInt : (Try.prog.info? 3).map (fun i => (i.zero, i.size, i.bytes)) = some (some (.int .i64 0), 1, 8) := by kernel_rfl

theorem row_new (w : World) (e : TypeId) (u : Value) (n : Nat) : Row ((w.drewN n).alloc (.cells #[u] e)) e (.slice (some ⟨w.heap.size, 0, none⟩) 1 1) [u] := by
  have h := heap_alloc_new (w.drewN n) (.cells #[u] e)
  rw [show (w.drewN n).heap.size = w.heap.size by simp] at h
  exact .inr ⟨w.heap.size, 0, 1, #[u], rfl, h, Nat.le_refl _, by decide, by simp, by simp⟩
theorem natVs_one (l : List Nat) : ∀ u ∈ natVs l, u.oneCell' = true := by
  intro u hu
  obtain ⟨x, _, rfl⟩ := List.mem_map.1 hu
  rfl
theorem natVs_take (l : List Nat) (k : Nat) : (natVs l).take k = natVs (l.take k) := by unfold natVs; rw [List.map_take]
theorem natVs_drop (l : List Nat) (k : Nat) : (natVs l).drop k = natVs (l.drop k) := by unfold natVs; rw [List.map_drop]
theorem natVs_ins (x j : Nat) (l : List Nat) (h : whereD x l = j) : natVs (l.take j) ++ ([.int .i64 (x : Nat)] ++ natVs (l.drop j)) = natVs (insD x l) := by
  unfold insD
  rw [h]
  simp [natVs]

set_option maxHeartbeats 1000000 in
theorem sorted_calls (c : List Nat) (v : Value) (w : World) (h24 : c.length ≤ 24) (hv : Reads w v (natVs c)) :
    Calls Try.prog 22 #[v] w fun e w' => ∃ r, e = .returned r ∧ Row w' 3 r (natVs (sortD c c.length)) ∧ Touch (fun _ => False) w w' := by
  obtain ⟨i0, hi, hz0, hz1, hz2⟩ := info_parts Try.infoInt
  obtain ⟨a, cap, hv', hcap, hcm, hc3⟩ := hv
  subst hv'
  rw [natVs_length] at hcap ⊢
  have HC := Lib.hid hc3
  clear hc3
  go_enter Try.func22, Try.ntmps22
  go_wp2_with fail
  go_loopw [3, 4] (fun out i wr => ∃ (k : Nat) (vo : Value), k ≤ c.length ∧ i = .int .i64 (k : Nat) ∧ vo = out ∧ RowKit.Hid (Row wr 3 vo (natVs (sortD c k))) ∧ RowKit.Hid (∀ g, vo.ownBlock = some g → w.heap.size ≤ g) ∧ RowKit.Hid (Touch (fun _ => False) w wr)) (fun _ i _ => c.length - (intOf i).toNat)
  case atStart => exact ⟨0, _, Nat.zero_le _, rfl, rfl, Lib.hid (Row.nil _ _), Lib.hid (fun g hg => by cases hg), Lib.hid (Touch.refl _ _)⟩
  case round =>
    obtain ⟨k, vo, hk, rfl, rfl, HR, HG, HT⟩ := hrel
    by_cases hlt : k < c.length
    · obtain ⟨g, o, rfl, hcc⟩ : ∃ g o, a = some ⟨g, o, none⟩ ∧ w.cell? ⟨g, o + k, none⟩ = some (.int .i64 (c.getD k 0 : Nat)) := by
        rcases HC.out with h | ⟨g, o, h1, h2⟩
        · have h9 : c.length = 0 := by have := congrArg List.length h; rwa [natVs_length] at this
          omega
        · exact ⟨g, o, h1, h2 k _ (natVs_get c k hlt)⟩
      have hc2 := HT.out.cell hcc id
      clear hcc
      obtain ⟨x, hx⟩ : ∃ x, x = c.getD k 0 := ⟨_, rfl⟩
      rw [← hx] at hc2
      have hk0 : (0 : Int) ≤ (k : Int) := by omega
      have hk1 : (k : Int) < (c.length : Int) := by omega
      by_cases h0 : x = 0
      · have HS := Lib.hid (show sortD c (k + 1) = sortD c k by rw [sortD, if_pos (by rw [← hx]; exact h0)])
        subst h0
        clear hx
        go_wp2_with fail
        go_roundw
        case rel => exact ⟨k + 1, _, by omega, by go_num, rfl, Lib.hid (by rw [HS.out]; exact HR.out), HG, HT⟩
        case measure => simp [intOf]; omega
      · have HS := Lib.hid (show sortD c (k + 1) = insD x (sortD c k) by rw [sortD, if_neg (by rw [← hx]; exact h0), ← hx])
        have hl := sortD_length c k
        generalize sortD c k = l at HR HS hl
        have hx0 : ¬ ((x : Int) = 0) := by omega
        have hx0b : ((x : Int) == 0) = false := beq_eq_false_iff_ne.2 hx0
        obtain ⟨va, vcap, hve, hvc, hvm⟩ := HR.out.form
        rw [natVs_length] at hve hvc
        subst hve
        clear hx h0
        go_wp2_with fail
        go_loopw [5] (fun ja wx => ∃ j : Nat, ja = .int .i64 (j : Nat) ∧ j ≤ l.length ∧ RowKit.Hid (∀ i, i < j → x ≤ l.getD i 0) ∧ RowKit.Hid (Touch (fun _ => False) wr wx)) (fun ja _ => l.length - (intOf ja).toNat)
        case atStart => exact ⟨0, rfl, Nat.zero_le _, Lib.hid (fun i hi => absurd hi (Nat.not_lt_zero i)), Lib.hid (Touch.refl _ _)⟩
        case round =>
          obtain ⟨j, rfl, hj, HJ, HT2⟩ := hrel
          have hj0 : (0 : Int) ≤ (j : Int) := by omega
          have hdc := HT2.out.cell hc2 id
          have hR2 := HR.out.kept HT2.out (fun _ _ => id)
          by_cases hjl : j < l.length
          · have hj1 : (j : Int) < (l.length : Int) := by omega
            have hd1 : decide ((j : Int) < (l.length : Int)) = true := decide_eq_true hj1
            have hd2 : decide (j < l.length) = true := decide_eq_true hjl
            obtain ⟨gl, ol, cl, hle, _, _, hcs⟩ := hR2.addr (by rw [natVs_length]; omega)
            rw [natVs_length] at hle
            injection hle with hle1 _ hle2
            subst hle1
            have hcl := hcs j _ (natVs_get l j hjl)
            obtain ⟨y, hy⟩ : ∃ y, y = l.getD j 0 := ⟨_, rfl⟩
            rw [← hy] at hcl
            have HY := Lib.hid hy
            have HR2 := Lib.hid hR2
            clear hcs hle2 hy hR2
            by_cases hxy : x ≤ y
            · have hge : (x : Int) ≤ (y : Int) := by omega
              have hd3 : decide ((x : Int) ≤ (y : Int)) = true := decide_eq_true hge
              have hd4 : decide (x ≤ y) = true := decide_eq_true hxy
              go_wp2_with fail
              go_quiet (fail)
              go_wp2_with fail
              go_roundw
              case rel =>
                refine ⟨j + 1, by go_num, by omega, Lib.hid (fun i hi => ?_), Lib.hid (HT2.out.drewN _)⟩
                rcases Nat.lt_or_ge i j with h | h
                · exact HJ.out i h
                · obtain rfl : i = j := by omega
                  rw [← HY.out]; exact hxy
              case measure => simp [intOf]; omega
            · have hge : ¬ ((x : Int) ≤ (y : Int)) := by omega
              have hd3 : decide ((x : Int) ≤ (y : Int)) = false := decide_eq_false hge
              have hd4 : decide (x ≤ y) = false := decide_eq_false hxy
              have HW := Lib.hid (whereD_eq x l j hj HJ.out (.inr (by rw [← HY.out]; omega)))
              go_wp2_with fail
              go_quiet (fail)
              go_wp2_with fail
              have hjc : ¬ ((vcap : Int) = (j : Int)) := by omega
              have hjc2 : ¬ (vcap = j) := by omega
              have hjv : j ≤ vcap := by omega
              have HRW := HR2
              have HSRC : RowKit.Hid (Row wr 3 (.slice (some ⟨gl, ol + j, none⟩) (l.length - j) (vcap - j)) (natVs (l.drop j))) := Lib.hid (by
                have h1 := (HR2.out.from (q := j) (by omega) hjc2).1
                have ea : (⟨gl, ol, none⟩ : Addr).add j = ⟨gl, ol + j, none⟩ := by
                  by_cases h0 : j = 0
                  · subst h0; simp [Addr.add]
                  · simp [Addr.add, h0]
                simp only [Option.map_some, ea] at h1
                rw [natVs_drop] at h1
                exact h1)
              obtain ⟨news, hnews⟩ : ∃ news, news = natVs (l.drop j) := ⟨_, rfl⟩
              have hnl : news.length = l.length - j := by rw [hnews, natVs_length, List.length_drop]; try omega
              obtain ⟨olds, holds⟩ : ∃ olds, olds = natVs (l.take j) := ⟨_, rfl⟩
              have hol : olds.length = j := by rw [holds, natVs_length, List.length_take]; omega
              have HINS := Lib.hid (natVs_ins x j l HW.out)
              have HONE : RowKit.Hid (∀ u ∈ news, u.oneCell' = true) := Lib.hid (by rw [hnews]; exact natVs_one _)
              rw [← hnews, ← holds] at HINS
              have HS1 : RowKit.Hid (∀ q, Src Try.prog 1 22 (.slice (some ⟨gl, ol + j, none⟩) (l.length - j) (vcap - j)) (l.length - j) news ((wr.drewN q).alloc (.cells #[.int .i64 (x : Nat)] 3))) := Lib.hid (fun q => by
                have h1 := (HSRC.out.kept (((Touch.refl (fun _ => False) wr).drewN q).alloc (.cells #[.int .i64 (x : Nat)] 3)) (fun _ _ => id)).reads.src (P := Try.prog) (tx := 22) Try.underlying22 (natVs_one _)
                rw [← hnews, hnl] at h1
                exact h1)
              have HO1 : RowKit.Hid (Row wr 3 (.slice (some ⟨gl, ol, none⟩) j vcap) olds) := Lib.hid (by
                have h1 := HRW.out.upto (q := j) (by omega)
                rw [natVs_take, ← holds] at h1
                exact h1)
              have hlt1 := HO1.out.lt
              have HLT := Lib.hid hlt1
              clear hnews holds hlt1
              go_region_law (first
                | (refine step_append_row _ rfl (.tmp 41) (.tmp 44) 22 22 rfl 3 i0 _ 8 Try.underlying22 hi hz0 hz1 hz2 rfl (.slice (some ⟨wr.heap.size, 0, none⟩) 1 1) [.int .i64 (x : Nat)] (by simp [Act.eval, Act.put]) (by exact row_new wr _ _ _) (.slice (some ⟨gl, ol + j, none⟩) (l.length - j) (vcap - j)) (by simp [Act.eval, Act.put]) (l.length - j) news (by exact HS1.out _) (by unfold maxLen; simp <;> omega) (by simp <;> omega) ?_; intro v2 w2 hrow2 hgrow2 hown2; have hT2 : Touch (fun _ => False) wr w2 := (((Touch.refl (fun _ => False) wr).drewN _).alloc _).grown hgrow2 (fun k hk => .inr (by have h9 : wr.heap.size = k := Option.some.inj hk; omega)); have HO2 := Lib.hid (HO1.out.kept hT2 (fun _ _ => id)); have HR2 := Lib.hid hrow2; have HT2' := Lib.hid hT2; clear hrow2 hgrow2 hown2 hT2)
                | (refine step_append_row _ rfl (.tmp 36) (.tmp 45) 22 22 rfl 3 i0 _ 8 Try.underlying22 hi hz0 hz1 hz2 rfl (.slice (some ⟨gl, ol, none⟩) j vcap) olds (by simp [Act.eval, Act.put]) (by exact HO2.out) v2 (by simp [Act.eval, Act.put]) _ ([.int .i64 (x : Nat)] ++ news) (by exact HR2.out.reads.src (P := Try.prog) (tx := 22) Try.underlying22 (by intro u hu; rcases List.mem_append.1 hu with h | h; (obtain rfl : u = .int .i64 (x : Nat) := by simpa using h); rfl; (have h3 := HONE.out u); exact h3 h)) (by unfold maxLen; simp <;> omega) (by simp <;> omega) ?_; intro v3 w3 hrow3 hgrow3 hown3))
              have hT3 : Touch (fun _ => False) w w3 := ((HT.out.trans HT2.out).trans HT2'.out).grown hgrow3 (fun k hk => .inr (HG.out k hk))
              have HT3 := Lib.hid hT3
              have HR3 := Lib.hid hrow3
              have HOWN : RowKit.Hid (∀ g, v3.ownBlock = some g → w.heap.size ≤ g) := Lib.hid (fun g hg => by
                rcases hown3 with h | h
                · exact HG.out g (by rw [h] at hg; exact hg)
                · rw [h] at hg
                  have h9 : w2.heap.size = g := Option.some.inj hg
                  have := ((HT.out.trans HT2.out).trans HT2'.out).size
                  omega)
              clear hrow3 hgrow3 hown3 hT3
              go_wp2_with fail
              go_roundw
              case rel => exact ⟨k + 1, v3, by omega, by go_num, rfl, Lib.hid (by rw [HS.out, ← HINS.out]; exact HR3.out), HOWN, HT3⟩
              case measure => simp [intOf]; omega
          · have hj1 : ¬ ((j : Int) < (l.length : Int)) := by omega
            have hd1 : decide ((j : Int) < (l.length : Int)) = false := decide_eq_false hj1
            have hd2 : decide (j < l.length) = false := decide_eq_false hjl
            have HW := Lib.hid (whereD_eq x l j hj HJ.out (.inl (by omega)))
            obtain rfl : j = l.length := by omega
            have HR2 := Lib.hid hR2
            clear hR2
            by_cases hvl : vcap = l.length
            · subst hvl
              have hvl1 : (l.length : Int) ≤ (l.length : Int) := Int.le_refl _
              have HRW := HR2
              have HSRC : RowKit.Hid (Row wr 3 (.slice va 0 0) (natVs (l.drop l.length))) := Lib.hid (by
                have h1 := (HR2.out.from_end (q := l.length) (Nat.le_refl _)).1
                rw [natVs_drop, Nat.sub_self] at h1
                exact h1)
              go_wp2_with fail
              go_quiet (fail)
              go_wp2_with fail
              obtain ⟨news, hnews⟩ : ∃ news, news = natVs (l.drop l.length) := ⟨_, rfl⟩
              have hnl : news.length = 0 := by rw [hnews, natVs_length, List.length_drop]; try omega
              obtain ⟨olds, holds⟩ : ∃ olds, olds = natVs (l.take l.length) := ⟨_, rfl⟩
              have hol : olds.length = l.length := by rw [holds, natVs_length, List.length_take]; omega
              have HINS := Lib.hid (natVs_ins x l.length l HW.out)
              have HONE : RowKit.Hid (∀ u ∈ news, u.oneCell' = true) := Lib.hid (by rw [hnews]; exact natVs_one _)
              rw [← hnews, ← holds] at HINS
              have HS1 : RowKit.Hid (∀ q, Src Try.prog 1 22 (.slice va 0 0) (0) news ((wr.drewN q).alloc (.cells #[.int .i64 (x : Nat)] 3))) := Lib.hid (fun q => by
                have h1 := (HSRC.out.kept (((Touch.refl (fun _ => False) wr).drewN q).alloc (.cells #[.int .i64 (x : Nat)] 3)) (fun _ _ => id)).reads.src (P := Try.prog) (tx := 22) Try.underlying22 (natVs_one _)
                rw [← hnews, hnl] at h1
                exact h1)
              have HO1 : RowKit.Hid (Row wr 3 (.slice va l.length l.length) olds) := Lib.hid (by
                have h1 := HRW.out.upto (q := l.length) (by omega)
                rw [natVs_take, ← holds] at h1
                exact h1)
              have hlt1 := HO1.out.lt
              have HLT := Lib.hid hlt1
              clear hnews holds hlt1
              go_region_law (first
                | (refine step_append_row _ rfl (.tmp 41) (.tmp 44) 22 22 rfl 3 i0 _ 8 Try.underlying22 hi hz0 hz1 hz2 rfl (.slice (some ⟨wr.heap.size, 0, none⟩) 1 1) [.int .i64 (x : Nat)] (by simp [Act.eval, Act.put]) (by exact row_new wr _ _ _) (.slice va 0 0) (by simp [Act.eval, Act.put]) (0) news (by exact HS1.out _) (by unfold maxLen; simp <;> omega) (by simp <;> omega) ?_; intro v2 w2 hrow2 hgrow2 hown2; have hT2 : Touch (fun _ => False) wr w2 := (((Touch.refl (fun _ => False) wr).drewN _).alloc _).grown hgrow2 (fun k hk => .inr (by have h9 : wr.heap.size = k := Option.some.inj hk; omega)); have HO2 := Lib.hid (HO1.out.kept hT2 (fun _ _ => id)); have HR2 := Lib.hid hrow2; have HT2' := Lib.hid hT2; clear hrow2 hgrow2 hown2 hT2)
                | (refine step_append_row _ rfl (.tmp 36) (.tmp 45) 22 22 rfl 3 i0 _ 8 Try.underlying22 hi hz0 hz1 hz2 rfl (.slice va l.length l.length) olds (by simp [Act.eval, Act.put]) (by exact HO2.out) v2 (by simp [Act.eval, Act.put]) _ ([.int .i64 (x : Nat)] ++ news) (by exact HR2.out.reads.src (P := Try.prog) (tx := 22) Try.underlying22 (by intro u hu; rcases List.mem_append.1 hu with h | h; (obtain rfl : u = .int .i64 (x : Nat) := by simpa using h); rfl; (have h3 := HONE.out u); exact h3 h)) (by unfold maxLen; simp <;> omega) (by simp <;> omega) ?_; intro v3 w3 hrow3 hgrow3 hown3))
              have hT3 : Touch (fun _ => False) w w3 := ((HT.out.trans HT2.out).trans HT2'.out).grown hgrow3 (fun k hk => .inr (HG.out k hk))
              have HT3 := Lib.hid hT3
              have HR3 := Lib.hid hrow3
              have HOWN : RowKit.Hid (∀ g, v3.ownBlock = some g → w.heap.size ≤ g) := Lib.hid (fun g hg => by
                rcases hown3 with h | h
                · exact HG.out g (by rw [h] at hg; exact hg)
                · rw [h] at hg
                  have h9 : w2.heap.size = g := Option.some.inj hg
                  have := ((HT.out.trans HT2.out).trans HT2'.out).size
                  omega)
              clear hrow3 hgrow3 hown3 hT3
              go_wp2_with fail
              go_roundw
              case rel => exact ⟨k + 1, v3, by omega, by go_num, rfl, Lib.hid (by rw [HS.out, ← HINS.out]; exact HR3.out), HOWN, HT3⟩
              case measure => simp [intOf]; omega
            · have hvl1 : ¬ ((vcap : Int) = (l.length : Int)) := by omega
              have hjv : l.length ≤ vcap := hvc
              obtain ⟨gl, ol, rfl⟩ : ∃ gl ol, va = some ⟨gl, ol, none⟩ := by
                rcases HR2.out with ⟨h1, h2⟩ | ⟨g1, o1, c1, cur, h1, _⟩
                · injection h1 with _ _ h3
                  have := congrArg List.length h2
                  rw [natVs_length] at this
                  simp at this
                  rw [this] at hvl
                  exact absurd h3 hvl
                · injection h1 with h2 _ _
                  exact ⟨g1, o1, h2⟩
              have HRW := HR2
              have HSRC : RowKit.Hid (Row wr 3 (.slice (some ⟨gl, ol + l.length, none⟩) 0 (vcap - l.length)) (natVs (l.drop l.length))) := Lib.hid (by
                have h1 := (HR2.out.from (q := l.length) (Nat.le_refl _) hvl).1
                have ea : (⟨gl, ol, none⟩ : Addr).add l.length = ⟨gl, ol + l.length, none⟩ := by
                  by_cases h0 : l.length = 0
                  · rw [h0]; simp [Addr.add]
                  · simp [Addr.add, h0]
                simp only [Option.map_some, ea] at h1
                rw [natVs_drop, Nat.sub_self] at h1
                exact h1)
              go_wp2_with fail
              go_quiet (fail)
              go_wp2_with fail
              obtain ⟨news, hnews⟩ : ∃ news, news = natVs (l.drop l.length) := ⟨_, rfl⟩
              have hnl : news.length = 0 := by rw [hnews, natVs_length, List.length_drop]; try omega
              obtain ⟨olds, holds⟩ : ∃ olds, olds = natVs (l.take l.length) := ⟨_, rfl⟩
              have hol : olds.length = l.length := by rw [holds, natVs_length, List.length_take]; omega
              have HINS := Lib.hid (natVs_ins x l.length l HW.out)
              have HONE : RowKit.Hid (∀ u ∈ news, u.oneCell' = true) := Lib.hid (by rw [hnews]; exact natVs_one _)
              rw [← hnews, ← holds] at HINS
              have HS1 : RowKit.Hid (∀ q, Src Try.prog 1 22 (.slice (some ⟨gl, ol + l.length, none⟩) 0 (vcap - l.length)) (0) news ((wr.drewN q).alloc (.cells #[.int .i64 (x : Nat)] 3))) := Lib.hid (fun q => by
                have h1 := (HSRC.out.kept (((Touch.refl (fun _ => False) wr).drewN q).alloc (.cells #[.int .i64 (x : Nat)] 3)) (fun _ _ => id)).reads.src (P := Try.prog) (tx := 22) Try.underlying22 (natVs_one _)
                rw [← hnews, hnl] at h1
                exact h1)
              have HO1 : RowKit.Hid (Row wr 3 (.slice (some ⟨gl, ol, none⟩) l.length vcap) olds) := Lib.hid (by
                have h1 := HRW.out.upto (q := l.length) (by omega)
                rw [natVs_take, ← holds] at h1
                exact h1)
              have hlt1 := HO1.out.lt
              have HLT := Lib.hid hlt1
              clear hnews holds hlt1
              go_region_law (first
                | (refine step_append_row _ rfl (.tmp 41) (.tmp 44) 22 22 rfl 3 i0 _ 8 Try.underlying22 hi hz0 hz1 hz2 rfl (.slice (some ⟨wr.heap.size, 0, none⟩) 1 1) [.int .i64 (x : Nat)] (by simp [Act.eval, Act.put]) (by exact row_new wr _ _ _) (.slice (some ⟨gl, ol + l.length, none⟩) 0 (vcap - l.length)) (by simp [Act.eval, Act.put]) (0) news (by exact HS1.out _) (by unfold maxLen; simp <;> omega) (by simp <;> omega) ?_; intro v2 w2 hrow2 hgrow2 hown2; have hT2 : Touch (fun _ => False) wr w2 := (((Touch.refl (fun _ => False) wr).drewN _).alloc _).grown hgrow2 (fun k hk => .inr (by have h9 : wr.heap.size = k := Option.some.inj hk; omega)); have HO2 := Lib.hid (HO1.out.kept hT2 (fun _ _ => id)); have HR2 := Lib.hid hrow2; have HT2' := Lib.hid hT2; clear hrow2 hgrow2 hown2 hT2)
                | (refine step_append_row _ rfl (.tmp 36) (.tmp 45) 22 22 rfl 3 i0 _ 8 Try.underlying22 hi hz0 hz1 hz2 rfl (.slice (some ⟨gl, ol, none⟩) l.length vcap) olds (by simp [Act.eval, Act.put]) (by exact HO2.out) v2 (by simp [Act.eval, Act.put]) _ ([.int .i64 (x : Nat)] ++ news) (by exact HR2.out.reads.src (P := Try.prog) (tx := 22) Try.underlying22 (by intro u hu; rcases List.mem_append.1 hu with h | h; (obtain rfl : u = .int .i64 (x : Nat) := by simpa using h); rfl; (have h3 := HONE.out u); exact h3 h)) (by unfold maxLen; simp <;> omega) (by simp <;> omega) ?_; intro v3 w3 hrow3 hgrow3 hown3))
              have hT3 : Touch (fun _ => False) w w3 := ((HT.out.trans HT2.out).trans HT2'.out).grown hgrow3 (fun k hk => .inr (HG.out k hk))
              have HT3 := Lib.hid hT3
              have HR3 := Lib.hid hrow3
              have HOWN : RowKit.Hid (∀ g, v3.ownBlock = some g → w.heap.size ≤ g) := Lib.hid (fun g hg => by
                rcases hown3 with h | h
                · exact HG.out g (by rw [h] at hg; exact hg)
                · rw [h] at hg
                  have h9 : w2.heap.size = g := Option.some.inj hg
                  have := ((HT.out.trans HT2.out).trans HT2'.out).size
                  omega)
              clear hrow3 hgrow3 hown3 hT3
              go_wp2_with fail
              go_roundw
              case rel => exact ⟨k + 1, v3, by omega, by go_num, rfl, Lib.hid (by rw [HS.out, ← HINS.out]; exact HR3.out), HOWN, HT3⟩
              case measure => simp [intOf]; omega
    · obtain rfl : k = c.length := by omega
      go_wp2_with fail
      go_ret
      exact ⟨_, rfl, HR.out, HT.out⟩
end Go.Proofs.Ythobbdnmhldglaa
