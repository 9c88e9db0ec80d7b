/- Contracts of package stage, second part: Read. -/
import Derived.Test.YtmcakilpdecacaaStB
import Derived.Test.YtmcakilpdecacaaWlShelf
import Derived.Shelf.Strings.BuilderF
namespace Go.Proofs.Ytmcakilpdecacaa
open Go Go.RowKit Go.Maps Go.Shelf
set_option maxRecDepth 100000

theorem Try.stExtra : Builder.Extra Try.prog Try.wlRepeat_ren where
  sizeBuilder := by kernel_rfl
  liesBuilder := by kernel_rfl
  t5 := Try.wlRepeat.t5
  a5 := Try.wlRepeat.a5
  z5 := Try.wlRepeat.z5
  v5 := Try.wlRepeat.v5
  infoByte := by kernel_rfl
  cellsByte := by kernel_rfl
  sizeByte := by kernel_rfl
  neB5 := by decide
theorem Try.stW : Lays.n166 Try.prog Try.wlRepeat_ren := { Try.wlRepeat with }
theorem Try.stS : Lays.n169 Try.prog Try.wlRepeat_ren := { Try.wlRepeat with }

/-- A builder of one's own, with these bytes. -/
def BlAt (w : World) (B b : Nat) (l : List UInt8) : Prop := Lib.IsBuilderF 106 5 B b (Lib.byteCells l) w

theorem bwrite_calls {w : World} {B b : Nat} {l : List UInt8} (h : BlAt w B b l) (s : ByteArray) (hl : l.length + s.size ≤ 100000000) (hB : B ≤ w.heap.size) :
    Calls Try.prog 62 #[.pointer (some ⟨b, 0, none⟩), .string s] w fun e w' => e = .returned (.tuple #[.int .i64 s.size, .nilIface]) ∧ BlAt w' B b (l ++ s.data.toList) ∧ Below B w w' := by
  refine (Any.Builder_WriteString_f Try.stW Try.stExtra B b (Lib.byteCells l) s w h (by simp [Lib.byteCells]; omega) hB).mono ?_
  rintro e w' ⟨he, hb, hB⟩
  refine ⟨he, .inr ?_, hB⟩
  rw [show Lib.byteCells (l ++ s.data.toList) = Lib.byteCells l ++ Lib.strCells s by simp [Lib.byteCells, Lib.strCells]]
  exact hb
theorem bstring_calls {w : World} {B b : Nat} {l : List UInt8} (h : BlAt w B b l) (hB : B ≤ w.heap.size) :
    Calls Try.prog 63 #[.pointer (some ⟨b, 0, none⟩)] w fun e w' => e = .returned (.string ⟨l.toArray⟩) ∧ Below B w w' :=
  (Any.Builder_String_any_f Try.stS Try.stExtra B b l w h hB).mono fun _ _ ⟨he, _, hB⟩ => ⟨he, hB⟩

theorem BlAt.still {w w' : World} {B b : Nat} {l : List UInt8} (h : BlAt w B b l) (hT : Touch (fun _ => False) w w') : BlAt w' B b l := by
  have key : ∀ p, Lib.BuilderAtF 106 5 B b p (Lib.byteCells l) w → Lib.BuilderAtF 106 5 B b p (Lib.byteCells l) w' := by
    rintro p ⟨hB, v, hb, ⟨h1, h2⟩, hne⟩
    have hbl : b < w.heap.size := (Array.getElem?_eq_some_iff.1 hb).1
    refine ⟨hB, v, (hT.block b hbl id).trans hb, ⟨h1, ?_⟩, hne⟩
    rcases h2 with h2 | ⟨g, cap, cur, fz, hv, hBg, hg, r1, r2, r3, r4, r5⟩
    · exact .inl h2
    · have hgl : g < w.heap.size := (Array.getElem?_eq_some_iff.1 hg).1
      exact .inr ⟨g, cap, cur, fz, hv, hBg, (hT.block g hgl id).trans hg, r1, r2, r3, r4, r5⟩
  rcases h with h | h
  · exact .inl (key _ h)
  · exact .inr (key _ h)
theorem BlAt.fresh (w : World) : BlAt (w.alloc (.cells #[.pointer none, .slice none 0 0] 106)) w.heap.size w.heap.size [] :=
  .inl ⟨Nat.le_refl _, .slice none 0 0, (Array.getElem?_push_size ..), World.ownsRowF_nil _ _ _ _, by simp [Value.ownBlock]⟩

theorem stBelow {B : Nat} {w w' : World} (h : Below B w w') : Touch (fun k => B ≤ k) w w' := ⟨h.os, h.tape, h.output, h.size, fun k hk hn => h.block k (by omega)⟩
theorem stread_nil (p k : Int) (w : World) : Calls Try.prog 28 #[.pointer none, .int .i64 p, .int .i64 k] w fun e w' => e = .returned (.tuple #[.string ⟨#[]⟩, .int .i64 1]) ∧ w = w' := by
  go_enter Try.func28, Try.ntmps28
  go_wp2
  go_ret2
  exact ⟨rfl, rfl⟩
theorem stread_bad {w : World} {fb b fi mo sz : Nat} (h : FlAt w fb b fi mo sz) (hsz : sz ≤ 4194304) (p k : Int) (hk2 : k ≤ 9223372036854775807) (hb : p < 0 ∨ k < 0 ∨ sz - k < p) :
    Calls Try.prog 28 #[.pointer (some ⟨fb, 0, none⟩), .int .i64 p, .int .i64 k] w fun e w' => e = .returned (.tuple #[.string ⟨#[]⟩, .int .i64 20]) ∧ w = w' := by
  obtain ⟨c0, c1, c2, c3⟩ := h.cells
  clear h
  by_cases hp : p < 0
  · have d1 : decide (p < 0) = true := decide_eq_true hp
    clear hb
    go_enter Try.func28, Try.ntmps28
    go_wp2
    go_ret2
    exact ⟨rfl, rfl⟩
  · have d1 : decide (p < 0) = false := decide_eq_false hp
    by_cases hk : k < 0
    · have d2 : decide (k < 0) = true := decide_eq_true hk
      clear hb
      go_enter Try.func28, Try.ntmps28
      go_wp2
      go_ret2
      exact ⟨rfl, rfl⟩
    · have d2 : decide (k < 0) = false := decide_eq_false hk
      have d3 : decide ((sz : Int) - k < p) = true := decide_eq_true (by omega)
      have hw : IntKind.i64.wrap ((sz : Int) - k) = (sz : Int) - k := IntWalk.i64_in _ (by omega)
      clear hb
      go_enter Try.func28, Try.ntmps28
      go_wp2
      go_ret2
      exact ⟨rfl, rfl⟩

theorem imgL_step {n : Nat} {L : List UInt8} {C : List Ent} (hL : L.length = n * 64) (hc : ∀ e ∈ C, e.k < n ∧ e.s.size = 64) (fi p j d : Nat) (hi : fi + (p + j) / 64 < n) (hd : (p + j) % 64 + d ≤ 64) :
    imgL L C (fi * 64 + p) (j + d) = imgL L C (fi * 64 + p) j ++ ((readS L C (fi + (p + j) / 64)).extract ((p + j) % 64) ((p + j) % 64 + d)).data.toList := by
  rw [imgL_add, imgL_sec hL hc hi _ _ hd]
  congr 2
  omega
theorem ext_ext (S : ByteArray) (r d : Nat) : (S.extract r S.size).extract 0 d = S.extract r (r + d) := by
  apply ba_ext
  simp only [ByteArray.data_extract, Array.toList_extract, List.extract, Nat.sub_zero, List.drop_zero]
  rw [List.take_of_length_le (l := List.drop r S.data.toList) (i := S.size - r) (by rw [List.length_drop, ba_len]; omega), Nat.add_sub_cancel_left]

set_option maxHeartbeats 2000000 in
theorem stread_calls {w : World} {b lb mb c n : Nat} {L : List UInt8} {C : List Ent} {t : Nat} {f : Int} (h : DkAt w b lb mb c n L C t f true) {fb fi mo sz : Nat} (hF : FlAt w fb b fi mo sz) (hfit : fi * 64 + mo ≤ n * 64) (hsz : sz ≤ mo) (p k : Nat) (hk : p + k ≤ sz) :
    Calls Try.prog 28 #[.pointer (some ⟨fb, 0, none⟩), .int .i64 p, .int .i64 k] w fun e w' => e = .returned (.tuple #[.string ⟨(imgL L C (fi * 64 + p) k).toArray⟩, .int .i64 0]) ∧ Touch (fun _ => False) w w' := by
  have hn := h.n2
  obtain ⟨c0, c1, c2, c3⟩ := hF.cells
  have hlt := hF.lt
  have hLl := h.len
  have hents := h.ents
  have HLC : Hid (L.length = n * 64 ∧ ∀ e ∈ C, e.k < n ∧ e.s.size = 64) := Lib.hid ⟨hLl, fun e he => ⟨(hents e he).1, (hents e he).2.1⟩⟩
  have H := Lib.hid h
  have HF := Lib.hid hF
  clear h hF hLl hents
  have d1 : decide ((p : Int) < 0) = false := decide_eq_false (by omega)
  have d2 : decide ((k : Int) < 0) = false := decide_eq_false (by omega)
  have hw : IntKind.i64.wrap ((sz : Int) - (k : Int)) = (sz : Int) - (k : Int) := IntWalk.i64_in _ (by omega)
  have d3 : decide ((sz : Int) - (k : Int) < (p : Int)) = false := decide_eq_false (by omega)
  go_enter Try.func28, Try.ntmps28
  go_wp2_with fail
  go_loopw [1, 2] (fun v1 v2 wr => ∃ j : Nat, j ≤ k ∧ v1 = .int .i64 ((p + j : Nat) : Int) ∧ v2 = .int .i64 ((k - j : Nat) : Int) ∧ BlAt wr w.heap.size w.heap.size (imgL L C (fi * 64 + p) j) ∧ Touch (fun _ => False) w wr) (fun _ v2 _ => (Go.RowKit.intOf v2).toNat)
  case atStart => exact ⟨0, Nat.zero_le _, rfl, rfl, BlAt.fresh w, (Touch.refl _ w).alloc _⟩
  case round =>
    obtain ⟨j, hj, rfl, rfl, hB, hT⟩ := hrel
    by_cases hlt : j < k
    · obtain ⟨q, hq⟩ : ∃ q : Nat, p + j = q := ⟨_, rfl⟩
      obtain ⟨m, hm⟩ : ∃ m : Nat, k - j = m := ⟨_, rfl⟩
      obtain ⟨i, hi⟩ : ∃ i : Nat, fi + q / 64 = i := ⟨_, rfl⟩
      obtain ⟨r, hr⟩ : ∃ r : Nat, q % 64 = r := ⟨_, rfl⟩
      obtain ⟨d, hd⟩ : ∃ d : Nat, min m (64 - r) = d := ⟨_, rfl⟩
      obtain ⟨u, hu⟩ : ∃ u : Nat, 64 - r = u := ⟨_, rfl⟩
      obtain ⟨x, hx⟩ : ∃ x : Nat, q / 64 = x := ⟨_, rfl⟩
      have hin : i < n := by omega
      have hr64 : r < 64 := by omega
      rw [hq, hm]
      have hm0 : 0 < (m : Int) := by omega
      have hdiv : (q : Int).tdiv 64 = (x : Int) := by rw [← hx]; exact Int.ofNat_tdiv q 64
      have hdiv2 : (q : Int) / 64 = (x : Int) := by omega
      have hsum : (fi : Int) + (x : Int) = (i : Int) := by omega
      have hmod : (q : Int).tmod 64 = (r : Int) := by rw [← hr]; exact Int.ofNat_tmod q 64
      have hmod2 : (q : Int) % 64 = (r : Int) := by omega
      have hstep := imgL_step HLC.out.1 HLC.out.2 fi p j d (by rw [hq]; omega) (by rw [hq]; omega)
      rw [hq, hi, hr] at hstep
      have hSz : (readS L C i).size = 64 := readS_size HLC.out.1 HLC.out.2 hin
      have hrd := read_ok (H.out.still (hT.drew)) i hin
      obtain ⟨S, hS⟩ : ∃ S, readS L C i = S := ⟨_, rfl⟩
      rw [hS] at hrd hSz hstep
      have HRD := Lib.hid hrd
      have e0 := hT.cell (p := ⟨fb, 0, none⟩) c0 id
      have e1 := hT.cell (p := ⟨fb, 1, none⟩) c1 id
      have hwi : IntKind.i64.wrap ((fi : Int) + (x : Int)) = (i : Int) := by rw [hsum]; exact IntWalk.i64_in _ (by omega)
      have hwi2 : IntKind.i64.wrap (i : Int) = (i : Int) := IntWalk.i64_in _ (by omega)
      have hwx : IntKind.i64.wrap (x : Int) = (x : Int) := IntWalk.i64_in _ (by omega)
      have HT := Lib.hid hT
      have HB := Lib.hid hB
      have HST := Lib.hid hstep
      have hbw : w.heap.size ≤ wr.heap.size := hT.size
      have hq4 : q ≤ 4194304 := by omega
      have hm4 : m ≤ 4194304 := by omega
      have hlen : (imgL L C (fi * 64 + p) j).length = j := imgL_len ..
      have HLEN := Lib.hid hlen
      have hd64 : d ≤ 64 := by omega
      have hrd64 : r + d ≤ 64 := by omega
      have hdm : d ≤ m := by omega
      have hd1 : 1 ≤ d := by omega
      have hSI : (S.size : Int) = 64 := by omega
      have hmin1 : min (m : Int) (u : Int) = (d : Int) := by omega
      have hmin2 : (if (u : Int) < (m : Int) then (u : Int) else (m : Int)) = (d : Int) := by split <;> omega
      have hmin3 : (if u < m then (u : Int) else (m : Int)) = (d : Int) := by split <;> omega
      have HX := Lib.hid (ext_ext S r d)
      have hxs : (S.extract r S.size).size = u := by rw [ByteArray.size_extract]; omega
      have hys : ((S.extract r S.size).extract 0 d).size = d := by rw [ByteArray.size_extract]; omega
      have HLF : Hid (∀ W, Calls Try.prog 61 #[.int .i64 q] W fun e w' => e = .returned (.int .i64 u) ∧ W = w') := Lib.hid (fun W => by rw [← hu, ← hr]; exact left_calls q hq4 W)
      have HQ := Lib.hid (⟨hq, hm, hu, hd, hS, hx, hi, hr⟩ : _ ∧ _ ∧ _ ∧ _ ∧ _ ∧ _ ∧ _ ∧ _)
      clear hT hB hrd hstep hlen hq hm hu hd hS hx hi hr hSz
      go_upto_region 7 with fail
      go_region_law (go_simp; go_at_call 42; refine HRD.out.mono ?_; rintro e wa ⟨rfl, hTa⟩; have HTa : Hid (Touch (fun _ => False) wr wa) := Lib.hid ((Touch.refl (fun _ => False) wr).drew.trans hTa); clear hTa)
      all_goals
        go_wp2_with (first
          | (go_at_call 61; refine (HLF.out _).mono ?_; rintro e w' ⟨rfl, rfl⟩)
          | (go_at_call 62; refine (bwrite_calls (HB.out.still HTa.out) _ (by rw [HLEN.out]; omega) (Nat.le_trans hbw HTa.out.size)).mono ?_; rintro e wb ⟨rfl, hBb, hTb⟩; have HBb := Lib.hid hBb; have HTb := Lib.hid hTb; clear hBb hTb))
        go_roundw
        case rel =>
          obtain ⟨hq, hm, hu, hd, hS, hx, hi, hr⟩ := HQ.out
          refine ⟨j + d, by omega, ?_, ?_, ?_, (HT.out.trans HTa.out).trans' (stBelow HTb.out) (fun _ hb => .inr hb)⟩
          · congr 1; omega
          · congr 1; omega
          · rw [HST.out, ← HX.out]; exact HBb.out
        case measure => simp [Go.RowKit.intOf]; omega
    · have hjk : j = k := by omega
      subst hjk
      have HB := Lib.hid hB
      have HT := Lib.hid hT
      have hbw : w.heap.size ≤ wr.heap.size := hT.size
      clear hB hT
      rw [Nat.sub_self]
      go_wp2_with (go_at_call 63; refine (bstring_calls HB.out hbw).mono ?_; rintro e wb ⟨rfl, hBb⟩; have HBb := Lib.hid hBb; clear hBb)
      go_ret2
      exact ⟨rfl, HT.out.trans' (stBelow HBb.out) (fun i hi => .inr hi)⟩

end Go.Proofs.Ytmcakilpdecacaa
