/- The statements' own check of layer 24: numbers by places. -/
import Derived.Test.YtjlpggffbmcmnaaSdT
import Derived.Test.YtjlpggffbmcmnaaSdE
namespace Go.Proofs.Ytjlpggffbmcmnaa
open Go Go.RowKit Go.Maps Go.MapKept Go.ChangeMaps
set_option maxRecDepth 100000

/-- Places as values. -/
def plV (P : List Nat) : List Value := P.map fun (n : Nat) => Value.int .i64 (n : Int)
theorem plV_len (P : List Nat) : (plV P).length = P.length := List.length_map ..
theorem plV_snoc (P : List Nat) (x : Nat) : plV (P ++ [x]) = plV P ++ [.int .i64 (x : Int)] := by simp [plV]
theorem pV_plV (s t : Nat) : pV s t = plV ((List.range t).map fun i => s + i) := by simp [pV, plV]

set_option maxHeartbeats 2000000 in
theorem numbers_calls (f sz cnt k1 k2 : Nat) (a1 a2 : Option Addr) (lv wv : Value) (P : List Nat) (w : World) (hf : f < 4294967296) (hl : Reads w lv (u32V (P.map (numU f)))) (hw : Reads w wv (plV P)) (hP : ∀ n ∈ P, n < 1000000) (hP2 : P.length ≤ 1000) :
    Calls Try.prog 24 #[lv, .agg #[.int .u32 (f : Nat), .int .i64 (sz : Nat), .slice a1 cnt k1, .slice a2 cnt k2], wv] w fun e w' => e = .returned (.bool true) ∧ Touch (fun _ => False) w w' := by
  obtain ⟨al, kl, rfl, hl1, hl2⟩ := hl.form
  obtain ⟨aw, kw, rfl, hw1, hw2⟩ := hw.form
  unfold maxLen at hl2 hw2
  rw [u32V_length, List.length_map] at hl1 hl ⊢
  rw [plV_len] at hw1 hw ⊢
  have HL := Lib.hid hl
  have HW := Lib.hid hw
  have HP := Lib.hid hP
  obtain ⟨n, hn⟩ : ∃ n, n = P.length := ⟨_, rfl⟩
  rw [← hn] at hl1 hw1 HL HW hP2 ⊢
  have HN := Lib.hid hn
  have HNU := Lib.hid (fun i (hi : i < 1000000) W => rnumber_calls f sz i a1 a2 cnt cnt k1 k2 hf hi W)
  clear hl hw hP hn
  go_enter Try.func24, Try.ntmps24
  go_upto_region 1 with fail
  obtain ⟨x, hx⟩ : ∃ x, x = w.heap.size := ⟨_, rfl⟩
  rw [← hx]
  generalize hw1' : w.alloc _ = w1
  have hM : MAt w1 x f sz (.slice a1 cnt k1) (.slice a2 cnt k2) := by rw [← hw1', hx]; exact Block.new w _ _
  have hT : Touch (fun _ => False) w w1 := by rw [← hw1']; exact (Touch.refl _ _).alloc _
  have HT := Lib.hid hT
  have HM := Lib.hid hM
  clear hT hM hw1' hx
  go_wp2_with fail
  go_loopw [7] (fun iv wr => ∃ i : Nat, i ≤ n ∧ iv = .int .i64 (i : Nat) ∧ RowKit.Hid (Touch (fun _ => False) w1 wr)) (fun iv _ => n - (intOf iv).toNat)
  case atStart => exact ⟨0, Nat.zero_le _, rfl, Lib.hid (Touch.refl _ _)⟩
  case round =>
    obtain ⟨i, hi, rfl, HTi⟩ := hrel
    by_cases hlt : i < n
    · have hltI : (i : Int) < (n : Int) := by omega
      have hiP : i < P.length := by rw [← HN.out]; exact hlt
      have hTw := HT.out.trans HTi.out
      obtain ⟨gl, ol, kl', hv, _, _, _, hcl⟩ := (HL.out.still hTw).addr (by rw [u32V_length, List.length_map]; omega)
      injection hv with e1 _ _
      subst e1
      obtain ⟨gw, ow, kw', hv, _, _, _, hcw⟩ := (HW.out.still hTw).addr (by rw [plV_len]; omega)
      injection hv with e2 _ _
      subst e2
      have hxl := hcl i (.int .u32 (numU f P[i] : Nat)) (by simp [u32V, hiP])
      have hxw := hcw i (.int .i64 (P[i] : Nat)) (by simp [plV, hiP])
      have hPi := HP.out _ (List.getElem_mem hiP)
      obtain ⟨c0, c1, c2, c3⟩ := (HM.out.kept HTi.out id).cells
      have hcall := HNU.out P[i] hPi
      generalize P[i] = pl at *
      generalize numU f pl = nu at *
      have HC := Lib.hid hcall
      clear hcl hcw hcall hTw hPi
      go_upto_region 6 with fail
      refine wp_region_quiet_touch (fun _ => False) (by kernel_rfl) (by kernel_rfl) ?_
      have j0 : ∀ T : Wd (fun _ => False) wr, T.V.cell? ⟨x, 0, none⟩ = some (.int .u32 (f : Nat)) := fun T => T.ok.cell c0 id
      have j1 : ∀ T : Wd (fun _ => False) wr, T.V.cell? ⟨x, 1, none⟩ = some (.int .i64 (sz : Nat)) := fun T => T.ok.cell c1 id
      have j2 : ∀ T : Wd (fun _ => False) wr, T.V.cell? ⟨x, 2, none⟩ = some (.slice a1 cnt k1) := fun T => T.ok.cell c2 id
      have j3 : ∀ T : Wd (fun _ => False) wr, T.V.cell? ⟨x, 3, none⟩ = some (.slice a2 cnt k2) := fun T => T.ok.cell c3 id
      have j4 : ∀ T : Wd (fun _ => False) wr, T.V.cell? ⟨gl, ol + i, none⟩ = some (.int .u32 (nu : Nat)) := fun T => T.ok.cell hxl id
      have j5 : ∀ T : Wd (fun _ => False) wr, T.V.cell? ⟨gw, ow + i, none⟩ = some (.int .i64 (pl : Nat)) := fun T => T.ok.cell hxw id
      clear c0 c1 c2 c3 hxl hxw
      repeat (go_big_quiet_step ((go_at_call 34; exact quiet_touch (HC.out _))))
      refine wpQuiet_nil ?_
      intro _ hw1
      obtain ⟨T, hw2⟩ := hw1
      subst hw2
      clear j0 j1 j2 j3 j4 j5
      go_wp2_with fail
      go_roundw
      case rel => exact ⟨i + 1, by omega, by go_num, Lib.hid (HTi.out.trans T.ok)⟩
      case measure => simp [intOf]; omega
    · obtain rfl : i = n := by omega
      have hltI : ¬ (i : Int) < (i : Int) := by omega
      go_wp2_with fail
      go_ret
      exact ⟨rfl, HT.out.trans HTi.out⟩
end Go.Proofs.Ytjlpggffbmcmnaa
