/- Contracts: Check of a text of any size, and All. -/
import Derived.Test.YtmhigecchligcaaDoorNamX
namespace Go.Proofs.YtmhigecchligcaaDoor
open Go Go.RowKit Go.Shelf
set_option maxRecDepth 100000
attribute [local go_sem] Oper.semAt_some

theorem check_big (S : ByteArray) (w : World) (hs : S.size ≤ 9223372036854775807) (h : 65535 < S.size) : Calls Tryd.prog 9 #[.string S] w fun e w' => e = .returned (.int .i64 9) ∧ Touch (fun _ => False) w w' := by
  refine (callsIn_wide (n := 3)).1 ?_
  refine callsIn_of_wp_marks Tryd.func9 rfl trivial ?_ rfl
  simp only [Tryd.ntmps9, List.size_toArray, List.length_cons, List.length_nil, Nat.reduceAdd, Nat.reduceSub, Array.replicate_succ, Array.replicate_zero, List.push_toArray, List.append_toArray, List.nil_append, List.cons_append]
  have hd : decide ((65535 : Int) < (S.size : Int)) = true := by simp; omega
  gi_wp2
  refine ⟨trivial, ?_⟩
  gi_wp2
  refine ⟨trivial, ?_⟩
  gi_wp2
  refine ⟨_, results_cell1 rfl _ _ ⟨w.heap.size, 0, none⟩ (.int .i64 9) rfl ?_ Tryd.underlying23, rfl, ?_⟩
  · rw [cell_of_row _ _ _ _ _ _ (heap_alloc_new w _)]; rfl
  · exact (Touch.refl _ _).alloc _
theorem check_any (S : ByteArray) (w : World) (hs : S.size ≤ 9223372036854775807) (hT : Tabs w) : Calls Tryd.prog 9 #[.string S] w fun e w' => e = .returned (.int .i64 (if checkB S then 0 else 9)) ∧ Touch (fun _ => False) w w' := by
  by_cases h : 65535 < S.size
  · have : checkB S = false := by unfold checkB; simp; omega
    rw [this]
    exact check_big S w hs h
  · exact check_calls S w (by omega) hT
theorem check_size {S : ByteArray} (h : checkB S = true) : S.size ≤ 65535 := by
  unfold checkB at h
  simp at h
  exact h.1

/-- Names by their parts. -/
def nm (L : List ByteArray) (i : Nat) : List Path := (L.take i).map fun s => spl s.data.toList
theorem nm_zero (L : List ByteArray) : nm L 0 = [] := rfl
theorem nm_succ {L : List ByteArray} {i : Nat} {s : ByteArray} (h : L[i]? = some s) : nm L (i + 1) = nm L i ++ [spl s.data.toList] := by
  unfold nm
  rw [List.take_add_one, h]
  simp
def goodAt (L : List ByteArray) (i : Nat) : Prop := ∀ s, L[i]? = some s → checkB s = true ∧ fitsT (nm L i) (spl s.data.toList)
/-- What All tells: no name is wrong; or which one is the first, and why. -/
def AllIs (L : List ByteArray) (a e : Nat) : Prop :=
  (a = 0 ∧ e = 0 ∧ ∀ i, goodAt L i) ∨
  ∃ s, L[a]? = some s ∧ (∀ j, j < a → goodAt L j) ∧ ((checkB s = false ∧ e = 9) ∨ (checkB s = true ∧ ¬ fitsT (nm L a) (spl s.data.toList) ∧ e = 10))

def strs (L : List ByteArray) : List Value := L.map Value.string
theorem strs_length (L : List ByteArray) : (strs L).length = L.length := by simp [strs]
theorem TrS.le {w : World} {tb mb n base : Nat} {fv : Value} {P : List Path} {F : List Bool} (h : TrAt w tb mb n base fv P F) {k : Nat} (hk : TrS tb mb fv k) : base ≤ k := by
  rcases hk with rfl | rfl | hk
  · exact h.lo.1
  · exact h.lo.2.1
  · exact (h.own k hk).1

set_option maxHeartbeats 2000000 in
theorem all_calls (L : List ByteArray) (v : Value) (w : World) (hv : Reads w v (strs L)) (hsz : ∀ s ∈ L, s.size ≤ 9223372036854775807) (hl : L.length ≤ 10000) (hT : Tabs w) :
    Calls Tryd.prog 14 #[v] w fun e w' => Touch (fun _ => False) w w' ∧ ∃ a er : Nat, e = .returned (.tuple #[.int .i64 (a : Nat), .int .i64 (er : Nat)]) ∧ AllIs L a er := by
  obtain ⟨va, vc, hve, hvc, hvm⟩ := hv.form
  rw [strs_length] at hve hvc
  subst hve
  have HV := Lib.hid hv
  have HSZ := Lib.hid hsz
  have HTB := Lib.hid hT
  clear hv hsz hT
  obtain ⟨m, hm⟩ : ∃ m, L.length = m := ⟨_, rfl⟩
  rw [hm] at hvc hl ⊢
  have HM := Lib.hid hm
  rw [hm] at HV
  clear hm
  have hm1 : ¬ ((1048576 : Int) < (m : Int)) := by omega
  have hm2 : decide ((1048576 : Int) < (m : Int)) = false := decide_eq_false hm1
  go_enter Tryd.func14, Tryd.ntmps14
  go_wp2_with (go_at_call 25; refine (newTree_calls _).mono ?_; rintro e w1 ⟨tb, mb, fv, rfl, hTr, ht1⟩; have HTR0 := Lib.hid hTr; have HT1 := Lib.hid ht1; clear hTr ht1)
  go_loopw [14] (fun iv wr => ∃ (i n' : Nat) (fv : Value) (P : List Path) (F : List Bool), iv = .int .i64 (i : Nat) ∧ i ≤ m ∧ P.length ≤ 1 + i * 65537 ∧ RowKit.Hid (TrAt wr tb mb n' w.heap.size fv P F) ∧ RowKit.Hid (TreeN (nm L i) P F) ∧ RowKit.Hid (∀ j, j < i → goodAt L j) ∧ RowKit.Hid (Touch (fun _ => False) w wr)) (fun iv _ => m - (intOf iv).toNat)
  case atStart => exact ⟨0, 0, fv, _, _, rfl, Nat.zero_le _, by simp, HTR0, Lib.hid TreeN.first, Lib.hid (fun j h => absurd h (Nat.not_lt_zero j)), HT1⟩
  case round =>
    obtain ⟨i, n', fv', P, F, rfl, hi, hP, HTR, HN, HG, HT⟩ := hrel
    clear HTR0 HT1
    have hi0 : (0 : Int) ≤ (i : Int) := by omega
    by_cases hlt : i < m
    · have hi1 : (i : Int) < (m : Int) := by omega
      obtain ⟨s, hs⟩ : ∃ s, L[i]? = some s := ⟨_, List.getElem?_eq_getElem (by rw [HM.out]; exact hlt)⟩
      obtain ⟨g, off, cap, hge, _, _, _, hcs⟩ := HV.out.addr (by rw [strs_length, HM.out]; omega)
      rw [strs_length, HM.out] at hge
      injection hge with hg1 _ hg2
      subst hg1 hg2
      have hc := hcs i (.string s) (by simp [strs, hs])
      have hc' := HT.out.cell hc id
      have hss := HSZ.out s (List.mem_of_getElem? hs)
      have HCK := Lib.hid (check_any s wr hss (HTB.out.kept HT.out))
      have HS := Lib.hid hs
      clear hcs hc hs
      cases hck : checkB s
      · rw [hck] at HCK
        have HB := Lib.hid hck
        clear hck
        go_wp2_with (go_at_call 9; refine HCK.out.mono ?_; rintro e w2 ⟨rfl, ht2⟩)
        go_ret2
        exact ⟨HT.out.trans ht2, i, 9, rfl, .inr ⟨s, HS.out, HG.out, .inl ⟨HB.out, rfl⟩⟩⟩
      · rw [hck] at HCK
        have HB := Lib.hid hck
        have hs5 := check_size hck
        clear hck
        have hadd : ∀ w2, Touch (fun _ => False) wr w2 → _ := fun w2 h2 => add_calls s (HTR.out.still h2) HN.out hs5 (by omega)
        have HA := Lib.hid hadd
        clear hadd
        by_cases hf : fitsT (nm L i) (spl s.data.toList)
        · have HF := Lib.hid hf
          clear hf
          go_wp2_with (first
            | (go_at_call 9; refine HCK.out.mono ?_; rintro e w2 ⟨rfl, ht2⟩; have HT2 := Lib.hid ht2; clear ht2)
            | (go_at_call 26; refine (HA.out _ HT2.out).mono ?_; rintro e w3 ⟨ht3, h3⟩; obtain ⟨rfl, n3, fv3, P3, F3, hTr3, hN3, hP3, _⟩ : e = .returned (.bool true) ∧ ∃ (n' : Nat) (fv' : Value) (P' : List Path) (F' : List Bool), TrAt w3 tb mb n' w.heap.size fv' P' F' ∧ TreeN (nm L i ++ [spl s.data.toList]) P' F' ∧ P'.length ≤ P.length + s.size + 1 ∧ True := (h3.resolve_right (fun h => h.1 HF.out)).2.imp id (fun ⟨a, b, c, d, e1, e2, e3, _⟩ => ⟨a, b, c, d, e1, e2, e3, trivial⟩); have HT3 := Lib.hid ht3; have HTR3 := Lib.hid hTr3; have HN3 := Lib.hid hN3; clear ht3 h3 hTr3 hN3))
          go_roundw
          case rel =>
            have HREL : ∃ (i' n' : Nat) (fv : Value) (P : List Path) (F : List Bool), Value.int .i64 ((i : Int) + 1) = .int .i64 (i' : Nat) ∧ i' ≤ m ∧ P.length ≤ 1 + i' * 65537 ∧ RowKit.Hid (TrAt w3 tb mb n' w.heap.size fv P F) ∧ RowKit.Hid (TreeN (nm L i') P F) ∧ RowKit.Hid (∀ j, j < i' → goodAt L j) ∧ RowKit.Hid (Touch (fun _ => False) w w3) :=
              ⟨i + 1, n3, fv3, P3, F3, by go_num, by omega, by omega, HTR3, Lib.hid (by rw [nm_succ HS.out]; exact HN3.out), Lib.hid (fun j hj => by
                rcases Nat.lt_or_ge j i with h | h
                · exact HG.out j h
                · obtain rfl : j = i := by omega
                  intro s' hs'
                  obtain rfl := Option.some.inj (HS.out.symm.trans hs')
                  exact ⟨HB.out, HF.out⟩), Lib.hid (HT.out.trans' ((HT2.out.mono (fun _ e => e.elim)).trans HT3.out) (fun k hk => .inr (TrS.le HTR.out hk)))⟩
            exact HREL
          case measure => simp [intOf]; omega
        · have HF := Lib.hid hf
          clear hf
          go_wp2_with (first
            | (go_at_call 9; refine HCK.out.mono ?_; rintro e w2 ⟨rfl, ht2⟩; have HT2 := Lib.hid ht2; clear ht2)
            | (go_at_call 26; refine (HA.out _ HT2.out).mono ?_; rintro e w3 ⟨ht3, h3⟩; obtain rfl : e = .returned (.bool false) := (h3.resolve_left (fun h => HF.out h.1)).2; have HT3 := Lib.hid ht3; clear ht3 h3))
          go_ret2
          exact ⟨HT.out.trans' ((HT2.out.mono (fun _ e => e.elim)).trans HT3.out) (fun k hk => .inr (TrS.le HTR.out hk)), i, 10, rfl, .inr ⟨s, HS.out, HG.out, .inr ⟨HB.out, HF.out, rfl⟩⟩⟩
    · obtain rfl : i = m := by omega
      go_wp2_with fail
      go_ret2
      refine ⟨HT.out, 0, 0, rfl, .inl ⟨rfl, rfl, fun j => ?_⟩⟩
      rcases Nat.lt_or_ge j i with h | h
      · exact HG.out j h
      · intro s hs
        rw [List.getElem?_eq_none (by rw [HM.out]; exact h)] at hs
        cases hs
end Go.Proofs.YtmhigecchligcaaDoor
