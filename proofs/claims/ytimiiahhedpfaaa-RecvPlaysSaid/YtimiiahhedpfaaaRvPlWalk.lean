/- The statement RecvPlays over the translated program. -/
import Derived.Test.YtimiiahhedpfaaaRvX
import Derived.Test.YtimiiahhedpfaaaRvC
import Derived.Test.YtimiiahhedpfaaaRvOpen
import Derived.Deep.OwnRows
import Derived.Deep.Cut
import Derived.Deep.CutBlock
import Derived.BigQuiet
namespace Go.Proofs.Ytimiiahhedpfaaa
open Go Go.RowKit Go.Maps Go.MapKept Go.ChangeMaps
set_option maxRecDepth 100000

theorem rp_mask (k : Nat) (hk : k ≤ 62) (m : Int) (hm : m = 2 ^ k - 1) (n : Int) : bits .and .i64 n m = n % 2 ^ k := by
  have h62 : 2 ^ k ≤ 2 ^ 62 := Nat.pow_le_pow_right (by decide) hk
  have hpos : 0 < 2 ^ k := Nat.pow_pos (by decide)
  have hm' : m = ((2 ^ k - 1 : Nat) : Int) := by
    rw [hm]
    have : ((2 : Int) ^ k) = ((2 ^ k : Nat) : Int) := by norm_cast
    rw [this]; omega
  have hkk : (BitVec.ofInt 64 m).toNat = 2 ^ k - 1 := by rw [hm', BitVec.toNat_ofInt]; omega
  have key : (BitVec.ofInt 64 n &&& BitVec.ofInt 64 m).toNat = (n % ((2 ^ 64 : Nat) : Int)).toNat % 2 ^ k := by
    rw [BitVec.toNat_and, BitVec.toNat_ofInt, hkk, Nat.and_two_pow_sub_one_eq_mod]
  show IntKind.i64.wrap ((BitVec.ofInt 64 n &&& BitVec.ofInt 64 m).toNat : Nat) = n % 2 ^ k
  have hd : ((2 ^ k : Nat) : Int) ∣ ((2 ^ 64 : Nat) : Int) := Int.natCast_dvd_natCast.2 (Nat.pow_dvd_pow 2 (by omega))
  have hlt : (n % ((2 ^ 64 : Nat) : Int)).toNat % 2 ^ k < 2 ^ k := Nat.mod_lt _ hpos
  have e : (((n % ((2 ^ 64 : Nat) : Int)).toNat % 2 ^ k : Nat) : Int) = n % ((2 ^ k : Nat) : Int) := by
    rw [Int.natCast_emod, Int.toNat_of_nonneg (Int.emod_nonneg _ (by decide)), Int.emod_emod_of_dvd _ hd]
  rw [key, IntWalk.i64_in _ (by omega), e]
  norm_cast

theorem fold3r (z : Int) : ∃ (r : Int) (c : Nat), z.tmod 3 = r ∧ -3 < r ∧ r < 3 ∧ (r + 3).tmod 3 = c ∧ (r + 3) % 3 = c ∧ c < 3 := by
  have h1 := Int.tmod_lt_of_pos z (show (0 : Int) < 3 by decide)
  have h2 := Int.lt_tmod_of_pos z (show (0 : Int) < 3 by decide)
  refine ⟨z.tmod 3, ((z.tmod 3 + 3) % 3).toNat, rfl, h2, h1, ?_, by omega, by omega⟩
  rw [Int.tmod_eq_emod_of_nonneg (by omega)]; omega

set_option maxHeartbeats 8000000 in
theorem rplays_calls (f : Nat) (x0 : Int) (l : List RAct) (v : Value) (w : World) (hf : f < 4294967296) (hl : RActs w v l) :
    Calls Try.prog 3 #[.int .u32 (f : Nat), .int .i64 x0, v] w fun e w' => e = .returned (.bool true) ∧ Touch (fun _ => False) w w' := by
  obtain ⟨al, cap, hv, hc1, hc2⟩ := hl.form
  unfold maxLen at hc2
  have HL := Lib.hid hl
  clear hl
  subst hv
  obtain ⟨z, hz⟩ : ∃ r : Nat, x0 % 32 = (r : Int) := ⟨(x0 % 32).toNat, by omega⟩
  have hand2 : bits .and .i64 x0 31 = (z : Int) := by rw [rp_mask 5 (by omega) 31 (by decide) x0, ← hz]; rfl
  have hzl : z ≤ 31 := by omega
  obtain ⟨sz, hsz⟩ : ∃ sz, sz = z + 1 := ⟨_, rfl⟩
  clear hz
  go_enter Try.func3, Try.ntmps3
  go_wp2_with fail
  refine (speaks25_calls _).mono ?_
  rintro e w1 ⟨rfl, hT1⟩
  have HT1 := Lib.hid hT1
  clear hT1
  go_upto_region 4 with fail
  have hs1 : (1 : Int) + (z : Int) = (sz : Int) := by omega
  have hs2 : (z : Int) + (1 : Int) = (sz : Int) := by omega
  first | simp only [hs1] | simp only [hs2]
  have hsz1 : 1 ≤ sz := by omega
  have hsz2 : sz ≤ 32 := by omega
  clear hs1 hs2 hand2 hsz hzl
  go_wp2_with fail
  refine (rnew_calls f sz hf hsz1 hsz2 w1).mono ?_
  rintro e w3 ⟨p, mb, rfl, h3, hpm, hT3⟩
  have H3 := Lib.hid h3
  have HPM : Hid (w.heap.size ≤ p ∧ w.heap.size ≤ mb ∧ p < w3.heap.size ∧ mb < w3.heap.size ∧ p ≠ mb) := Lib.hid ⟨Nat.le_trans HT1.out.size hpm.1, Nat.le_trans HT1.out.size hpm.2, h3.lt.1, h3.lt.2, h3.ne⟩
  have HT3 := Lib.hid (HT1.out.trans hT3)
  clear h3 hpm hT3 HT1
  go_wp2_with fail
  refine (rrnew_calls f sz 0 hsz1 hsz2 w3).mono ?_
  rintro e w4 ⟨tv, bv, rfl, ht0, hb0, hn1, hn2, hT4⟩
  obtain ⟨b1, q1, rfl, hk11, hk12⟩ := ht0.form
  obtain ⟨b2, q2, rfl, hk21, hk22⟩ := hb0.form
  rw [tR_len] at ht0 hn1
  rw [bR_len] at hb0 hn2
  rw [tR_len, bR_len]
  obtain ⟨xb, hxb⟩ : ∃ x, x = w4.heap.size := ⟨_, rfl⟩
  go_upto_region 8 with fail
  rw [← hxb]
  generalize hw5 : w4.alloc _ = w5
  have hM : MBox w5 xb (numU f 0 : Nat) (.slice b1 sz q1) (.slice b2 sz q2) := by
    rw [← hw5, hxb, show numU f 0 = f by unfold numU; omega]
    exact Block.new w4 32 [.int .u32 f, .slice b1 sz q1, .slice b2 sz q2]
  have hTa : Touch (fun _ => False) w4 w5 := by rw [← hw5]; exact (Touch.refl _ _).alloc _
  have HPX : Hid (w.heap.size ≤ p ∧ w.heap.size ≤ mb ∧ w.heap.size ≤ xb ∧ p ≠ mb ∧ p ≠ xb ∧ mb ≠ xb) := Lib.hid ⟨HPM.out.1, HPM.out.2.1, by have := HT3.out.size; have := hT4.size; omega, HPM.out.2.2.2.2, by have := HPM.out; have := hT4.size; omega, by have := HPM.out; have := hT4.size; omega⟩
  have hown : ∀ (u : Value), NewR w3 u → Reads w4 u (tR (fun _ => none) 0 sz) ∨ Reads w4 u (bR (fun _ => none) 0 sz) → ∀ g, u.ownBlock = some g → ¬ (g = p ∨ g = mb ∨ g = xb) := by
    intro u hu hr g hg e
    have h1 := hu g hg
    have h2 := HPM.out
    have h3 : g < w4.heap.size := by
      rcases hr with hr | hr
      · obtain ⟨gb, off, k9, hv, _, _, hg9, _⟩ := hr.addr (by rw [tR_len]; omega)
        rw [hv] at hg
        rw [← Option.some.inj hg]; exact hg9
      · obtain ⟨gb, off, k9, hv, _, _, hg9, _⟩ := hr.addr (by rw [bR_len]; omega)
        rw [hv] at hg
        rw [← Option.some.inj hg]; exact hg9
    omega
  have HR5 : Hid (RefR w5 xb f 0 sz (fun _ => none) (.slice b1 sz q1) (.slice b2 sz q2) (fun g => g = p ∨ g = mb ∨ g = xb)) := Lib.hid ⟨hM, ht0.still hTa, hb0.still hTa, hown _ hn1 (.inl ht0), hown _ hn2 (.inr hb0)⟩
  have HW5 := Lib.hid ((H3.out.still hT4).still hTa)
  have HT5 := Lib.hid (HT3.out.trans (hT4.trans hTa))
  clear hM hTa hown hw5 hxb hn1 hn2 ht0 hb0 hT4 H3 HT3 HPM
  go_wp2_with fail
  go_loopw [10] (fun iv wr => ∃ (k n b : Nat) (A : Nat → Option ByteArray) (tv bv : Value), iv = .int .i64 (k : Nat) ∧ k ≤ l.length ∧ k ≤ 60 ∧ n ≤ k ∧ b ≤ k ∧ RowKit.Hid (RcvAt wr p mb n f b sz A) ∧ RowKit.Hid (RefR wr xb f b sz A tv bv (fun g => g = p ∨ g = mb ∨ g = xb)) ∧ RowKit.Hid (Touch (fun j => w.heap.size ≤ j) w wr)) (fun iv _ => 60 - (intOf iv).toNat)
  case atStart => exact ⟨0, 0, 0, fun _ => none, _, _, rfl, Nat.zero_le _, Nat.zero_le _, Nat.le_refl _, Nat.le_refl _, HW5, HR5, Lib.hid (HT5.out.mono (fun _ e => e.elim))⟩
  case round =>
    clear HW5 HR5 HT5
    clear hk11 hk12 hk21 hk22
    obtain ⟨k, n, b, A, tv, bv, rfl, hk, hk60, hn, hb, HW, HR, HT⟩ := hrel
    obtain ⟨a1, k1, rfl, _, _⟩ := HR.out.txt.form
    obtain ⟨a2, k2, rfl, _, _⟩ := HR.out.is.form
    rw [tR_len, bR_len] at HR
    by_cases hlt : k < l.length ∧ k < 60
    · obtain ⟨hlt, hlt2⟩ := hlt
      have hltI : (k : Int) < (l.length : Int) := by omega
      have hltI2 : (k : Int) < 60 := by omega
      obtain ⟨g, off, cap', hve, hgl, hok, x0', x1', x2', x3', x4'⟩ := (HL.out.still (new_touch HT.out)).at' hlt
      injection hve with e1 _ e3
      subst e1
      subst e3
      generalize hzk : l[k] = zk at *
      obtain ⟨what, near, raw, num, text⟩ := zk
      simp only at x0' x1' x2' x3' x4'
      obtain ⟨hok1, hok2, hok3, hok4⟩ := hok
      simp only at hok1 hok2 hok3 hok4
      clear hzk hok1 hok2
      obtain ⟨yb, hyb⟩ : ∃ y, y = wr.heap.size := ⟨_, rfl⟩
      obtain ⟨r, hr⟩ : ∃ r : Nat, near % 64 = (r : Int) := ⟨(near % 64).toNat, by omega⟩
      have hand : bits .and .i64 near 63 = (r : Int) := by rw [rp_mask 6 (by omega) 63 (by decide) near, ← hr]; rfl
      have hr64 : r < 64 := by omega
      clear hr
      go_upto_region 12 with fail
      rw [← hyb]
      generalize hw5 : wr.alloc _ = w5
      have hY : Block w5 yb 35 [.int .i64 what, .int .i64 near, .bool raw, .int .u32 (num : Nat), .string text] := by rw [← hw5, hyb]; exact Block.new wr _ _
      have hT5 : Touch (fun _ => False) wr w5 := by rw [← hw5]; exact (Touch.refl _ _).alloc _
      have hyw : w.heap.size ≤ yb := by rw [hyb]; exact HT.out.size
      have HW5 := Lib.hid (HW.out.still hT5)
      have HR5 := Lib.hid (HR.out.still hT5)
      have HT5 := Lib.hid (HT.out.trans (hT5.mono (fun _ e => e.elim)))
      have y0 : w5.cell? ⟨yb, 0, none⟩ = some (.int .i64 what) := Block.cell hY 0
      have y1 : w5.cell? ⟨yb, 1, none⟩ = some (.int .i64 near) := Block.cell hY 1
      have y2 : w5.cell? ⟨yb, 2, none⟩ = some (.bool raw) := Block.cell hY 2
      have y3 : w5.cell? ⟨yb, 3, none⟩ = some (.int .u32 (num : Nat)) := Block.cell hY 3
      have y4 : w5.cell? ⟨yb, 4, none⟩ = some (.string text) := Block.cell hY 4
      clear hw5 hY hT5 hyb x0' x1' x2' x3' x4' hgl HW HR HT hyw
      obtain ⟨r3, c, hrm, hr1, hr2, hrc, hrc2, hc3⟩ := fold3r what
      go_upto_if 58 with fail
      clear y0 hrm
      go_cut [] from 39 to 140 (fun wx => ∃ (n' b' : Nat) (A' : Nat → Option ByteArray) (tv' bv' : Value), n' ≤ k + 1 ∧ b' ≤ k + 1 ∧ RcvAt wx p mb n' f b' sz A' ∧ RefR wx xb f b' sz A' tv' bv' (fun g => g = p ∨ g = mb ∨ g = xb) ∧ Touch (fun j => w.heap.size ≤ j) w wx)
      case first =>
        have hlx : xb < w5.heap.size := Block.lt HR5.out.box
        have hl5 := HW5.out.lt
        have HLT : Hid (p < w5.heap.size ∧ mb < w5.heap.size ∧ xb < w5.heap.size) := Lib.hid ⟨hl5.1, hl5.2, hlx⟩
        clear hlx hl5
        by_cases hc0 : c = 0
        · subst hc0
          have hend : A (b + sz) = none := by
            cases e : A (b + sz) with
            | none => rfl
            | some t => have := HW5.out.hA _ _ e; omega
          obtain ⟨ok, t, b', A', hb', hnx, hst⟩ := step_both (p := p) (mb := mb) (n := n) (f := f) (A := A) (.slice a1 sz k1) (.slice a2 sz k2) (show b < 1000000000 by omega) hsz1 hsz2 hend
          have HNX := Lib.hid hnx
          have HST := Lib.hid hst
          clear hnx hst hend
          go_wp2_with fail
          refine (HNX.out _ HW5.out).mono ?_
          rintro e wa ⟨rfl, hwa, hTa⟩
          have hRa := HR5.out.kept hTa (fun e => by have := HPX.out; omega) (fun g e => by rcases e with e | e <;> simp [e])
          obtain ⟨m0, m1, m2⟩ := hRa.box.cells
          have HRa := Lib.hid hRa
          have HWa := Lib.hid hwa
          have HTa := Lib.hid hTa
          clear hRa hwa hTa
          go_wp2_with fail
          refine (HST.out _ HRa.out.txt HRa.out.is).mono ?_
          rintro e we ⟨v3, v4, rfl, e1, e2, e3, e4, hTe⟩
          obtain ⟨a3, q3, rfl, _, _⟩ := e1.form
          obtain ⟨a4, q4, rfl, _, _⟩ := e2.form
          rw [tR_len] at e1 e3
          rw [bR_len] at e2 e4
          rw [tR_len, bR_len]
          obtain ⟨qb, hqb⟩ : ∃ q, q = we.heap.size := ⟨_, rfl⟩
          go_upto_region 15 with fail
          rw [← hqb]
          generalize hwb : we.alloc _ = wb
          have hQ : MBox wb qb (numU f b' : Nat) (.slice a3 sz q3) (.slice a4 sz q4) := by rw [← hwb, hqb]; exact Block.new we 32 [.int .u32 (numU f b' : Nat), .slice a3 sz q3, .slice a4 sz q4]
          have hTb : Touch (fun _ => False) we wb := by rw [← hwb]; exact (Touch.refl _ _).alloc _
          have hTab := hTe.trans hTb
          have hRb := HRa.out.still hTab
          have hqn : wa.heap.size ≤ qb := by rw [hqb]; exact hTe.size
          have hWb := HWa.out.still hTab
          have hlt5 := HTa.out.size
          have hown3 : ∀ g, (Value.slice a3 sz q3).ownBlock = some g → ¬ (g = p ∨ g = mb ∨ g = xb) := fun g hg e => by
            rcases e3 g hg with h | h
            · exact HRa.out.h1 g h e
            · have := HLT.out; omega
          have hown4 : ∀ g, (Value.slice a4 sz q4).ownBlock = some g → ¬ (g = p ∨ g = mb ∨ g = xb) := fun g hg e => by
            rcases e4 g hg with h | h
            · exact HRa.out.h2 g h e
            · have := HLT.out; omega
          obtain ⟨n0, n1, n2⟩ := hQ.cells
          have hMx := hRb.box
          obtain ⟨m0, m1, m2⟩ := hMx.cells
          have f0 := Block.free hMx 0
          have f1 := Block.free hMx 1
          have f2 := Block.free hMx 2
          have HM4 := Lib.hid (m_set3 (nx' := (numU f b' : Nat)) (tv' := .slice a3 sz q3) (bv' := .slice a4 sz q4) hMx)
          have hT4 := m_touch3 (w := wb) xb (.int .u32 (numU f b' : Nat)) (.slice a3 sz q3) (.slice a4 sz q4)
          have HT4 := Lib.hid hT4
          have HWX := Lib.hid (hWb.kept hT4 (fun e => by have := HPX.out; omega) (fun e => by have := HPX.out; omega))
          have HOW := Lib.hid (⟨e1.still hTb, e2.still hTb, hown3, hown4⟩ : _ ∧ _ ∧ _ ∧ _)
          have HTX := Lib.hid (HT5.out.trans ((HTa.out.mono (fun j e => by have := HPX.out; rcases e with e | e <;> omega)).trans (hTab.mono (fun j e => e.elim))))
          clear hQ hTb hTab hRb hqn hWb hlt5 hown3 hown4 hMx hT4 e1 e2 e3 e4 hTe hwb hqb
          go_wp2_with fail
          go_meet
          exact ⟨n, b', A', _, _, by omega, by omega, HWX.out, ⟨HM4.out, HOW.out.1.kept HT4.out (fun g hg e => HOW.out.2.2.1 g hg (Or.inr (Or.inr e))), HOW.out.2.1.kept HT4.out (fun g hg e => HOW.out.2.2.2 g hg (Or.inr (Or.inr e))), HOW.out.2.2.1, HOW.out.2.2.2⟩, HTX.out.trans (HT4.out.mono (fun j e => by have := HPX.out; omega))⟩
        · have hcI : ¬ (c : Int) = 0 := by omega
          obtain ⟨m0, m1, m2⟩ := HR5.out.box.cells
          go_upto_if 88 with fail
          go_cut [17] from 39 to 140 (fun v17 wx => ∃ U : Nat, U < 4294967296 ∧ v17 = .int .u32 (U : Nat) ∧ wx = w5)
          case first =>
            cases raw
            · go_wp2_with fail
              go_meet
              refine ⟨_, ?_, congrArg (Value.int .u32) (Int.toNat_of_nonneg ?_).symm, rfl⟩ <;> omega
            · go_wp2_with fail
              go_meet
              exact ⟨num, hok3, rfl, rfl⟩
          case rest =>
            obtain ⟨U, hU, rfl, rfl⟩ := hcut
            obtain ⟨q, hq⟩ : ∃ q, q = min text.size 260 := ⟨_, rfl⟩
            have hm1 : min (text.size : Int) 260 = (q : Int) := by omega
            have hm3 : (if (260 : Int) < (text.size : Int) then (260 : Int) else (text.size : Int)) = (q : Int) := by split <;> omega
            have hm2 : (q : Int) ≤ (text.size : Int) := by omega
            have hm0 : (0 : Int) ≤ (q : Int) := by omega
            obtain ⟨S, hS⟩ : ∃ S, text.extract 0 q = S := ⟨_, rfl⟩
            clear hq
            obtain ⟨is, A', hrt, hwt⟩ := take_both (p := p) (mb := mb) (n := n) (b := b) (sz := sz) (A := A) (.slice a1 sz k1) (.slice a2 sz k2) U hU S (show n < 1000000000 by omega) hf hsz2
            have HRT := Lib.hid hrt
            have HWT := Lib.hid hwt
            clear hrt hwt
            go_upto_region 22 with fail
            clear hm1 hm3 hm2 hm0 hS hand y1 y2 y3 y4
            go_wp2_with fail
            refine (HRT.out _ HR5.out.txt HR5.out.is).mono ?_
            rintro e we ⟨v3, v4, rfl, e1, e2, e3, e4, hTe⟩
            obtain ⟨a3, q3, rfl, _, _⟩ := e1.form
            obtain ⟨a4, q4, rfl, _, _⟩ := e2.form
            rw [tR_len] at e1 e3
            rw [bR_len] at e2 e4
            rw [tR_len, bR_len]
            obtain ⟨qb, hqb⟩ : ∃ q, q = we.heap.size := ⟨_, rfl⟩
            go_upto_region 23 with fail
            rw [← hqb]
            generalize hwb : we.alloc _ = wb
            have hQ : MBox wb qb (numU f b : Nat) (.slice a3 sz q3) (.slice a4 sz q4) := by rw [← hwb, hqb]; exact Block.new we 32 [.int .u32 (numU f b : Nat), .slice a3 sz q3, .slice a4 sz q4]
            have hTb : Touch (fun _ => False) we wb := by rw [← hwb]; exact (Touch.refl _ _).alloc _
            have hTab := hTe.trans hTb
            have hqn : wc.heap.size ≤ qb := by rw [hqb]; exact hTe.size
            have hown3 : ∀ g, (Value.slice a3 sz q3).ownBlock = some g → ¬ (g = p ∨ g = mb ∨ g = xb) := fun g hg e => by
              rcases e3 g hg with h | h
              · exact HR5.out.h1 g h e
              · have := HLT.out; omega
            have hown4 : ∀ g, (Value.slice a4 sz q4).ownBlock = some g → ¬ (g = p ∨ g = mb ∨ g = xb) := fun g hg e => by
              rcases e4 g hg with h | h
              · exact HR5.out.h2 g h e
              · have := HLT.out; omega
            have HOW := Lib.hid (⟨e1.still hTb, e2.still hTb, hown3, hown4⟩ : _ ∧ _ ∧ _ ∧ _)
            have HQ := Lib.hid hQ
            have HQN := Lib.hid hqn
            have HWb := Lib.hid (HW5.out.still hTab)
            have HRb := Lib.hid (HR5.out.still hTab)
            have HTb := Lib.hid hTab
            clear hQ hTb hTab hqn hown3 hown4 e1 e2 e3 e4 hTe hwb hqb m0 m1 m2
            go_wp2_with fail
            refine (HWT.out _ HWb.out).mono ?_
            rintro e wd ⟨rfl, hwd, hTd⟩
            have hQd := HQ.out.kept hTd (fun e => by have := HLT.out; have := HQN.out; omega)
            have hRd := HRb.out.kept hTd (fun e => by have := HPX.out; omega) (fun g e => Or.inr (Or.inl e))
            obtain ⟨n0, n1, n2⟩ := hQd.cells
            have hMx := hRd.box
            obtain ⟨m0, m1, m2⟩ := hMx.cells
            have f0 := Block.free hMx 0
            have f1 := Block.free hMx 1
            have f2 := Block.free hMx 2
            have HM4 := Lib.hid (m_set3 (nx' := (numU f b : Nat)) (tv' := .slice a3 sz q3) (bv' := .slice a4 sz q4) hMx)
            have hT4 := m_touch3 (w := wd) xb (.int .u32 (numU f b : Nat)) (.slice a3 sz q3) (.slice a4 sz q4)
            have HT4 := Lib.hid hT4
            have HWX := Lib.hid (hwd.kept hT4 (fun e => by have := HPX.out; omega) (fun e => by have := HPX.out; omega))
            have HOX := Lib.hid (⟨HOW.out.1.kept hTd (fun g hg e => HOW.out.2.2.1 g hg (Or.inr (Or.inl e))), HOW.out.2.1.kept hTd (fun g hg e => HOW.out.2.2.2 g hg (Or.inr (Or.inl e)))⟩ : _ ∧ _)
            have HTX := Lib.hid (HT5.out.trans ((HTb.out.mono (fun j e => e.elim)).trans (hTd.mono (fun j e => by have := HPX.out; omega))))
            clear hQd hRd hMx hT4 hwd hTd
            go_wp2_with fail
            go_meet
            exact ⟨n + 1, b, A', _, _, by omega, by omega, HWX.out, ⟨HM4.out, HOX.out.1.kept HT4.out (fun g hg e => HOW.out.2.2.1 g hg (Or.inr (Or.inr e))), HOX.out.2.kept HT4.out (fun g hg e => HOW.out.2.2.2 g hg (Or.inr (Or.inr e))), HOW.out.2.2.1, HOW.out.2.2.2⟩, HTX.out.trans (HT4.out.mono (fun j e => by have := HPX.out; omega))⟩
      case rest =>
        obtain ⟨n', b', A', tv', bv', hn', hb', hW', hR', hT'⟩ := hcut
        obtain ⟨a3, q3, rfl, _, _⟩ := hR'.txt.form
        obtain ⟨a4, q4, rfl, _, _⟩ := hR'.is.form
        rw [tR_len, bR_len] at hR'
        have HW7 := Lib.hid hW'
        have HR7 := Lib.hid hR'
        have HT7 := Lib.hid hT'
        clear hW' hR' hT' HW5 HR5 HT5 y1 y2 y3 y4 hand hrc hrc2 hr1 hr2 hn hb hc3
        go_wp2_with fail
        refine (rack_calls HW7.out).mono ?_
        rintro e w8 ⟨rfl, hT8⟩
        have HW8 := Lib.hid (HW7.out.still hT8)
        have HR8 := Lib.hid (HR7.out.still hT8)
        have HT8 := Lib.hid (HT7.out.trans (hT8.mono (fun _ e => e.elim)))
        clear hT8 HW7 HR7 HT7
        go_upto_region 27 with fail
        have HBI := Lib.hid (fun W (hT : Touch (fun _ => False) w8 W) => rrbits_calls (numU f b' : Nat) b' sz a3 sz q3 _ A' W (HR8.out.is.still hT) hsz1 hsz2 (fun j t h => (HW8.out.hA _ _ h).2.1))
        have HHM := Lib.hid (fun W (hT : Touch (fun _ => False) w8 W) => rrheld_calls (numU f b' : Nat) b' sz _ _ A' W (HR8.out.txt.still hT) (HR8.out.is.still hT) hsz2 (fun j t h => (HW8.out.hA _ _ h).2.2))
        have HHW := Lib.hid (fun W (hT : Touch (fun _ => False) w8 W) => rheld_calls (HW8.out.still hT))
        have hhl := held_le HW8.out
        have hgt : ¬ (256 : Int) * (sz : Int) < (heldM A' b' sz : Nat) := by omega
        have hgt2 : decide ((256 : Int) * (sz : Int) < (heldM A' b' sz : Nat)) = false := decide_eq_false hgt
        refine wp_region_quiet_touch (fun _ => False) (by kernel_rfl) (by kernel_rfl) ?_
        obtain ⟨m0, m1, m2⟩ := HR8.out.box.cells
        have j0 : ∀ T : Wd (fun _ => False) w8, T.V.cell? ⟨xb, 0, none⟩ = some (.int .u32 (numU f b' : Nat)) := fun T => T.ok.cell m0 id
        have j1 : ∀ T : Wd (fun _ => False) w8, T.V.cell? ⟨xb, 1, none⟩ = some (.slice a3 sz q3) := fun T => T.ok.cell m1 id
        have j2 : ∀ T : Wd (fun _ => False) w8, T.V.cell? ⟨xb, 2, none⟩ = some (.slice a4 sz q4) := fun T => T.ok.cell m2 id
        clear m0 m1 m2
        repeat (go_big_quiet_step (first | (go_at_call 19; exact quiet_touch (HBI.out _ (Wd.ok _))) | (go_at_call 21; exact quiet_touch (HHM.out _ (Wd.ok _))) | (go_at_call 20; exact quiet_touch (HHW.out _ (Wd.ok _)))))
        refine wpQuiet_nil ?_
        intro _ hw6
        obtain ⟨T, hw6e⟩ := hw6
        subst hw6e
        clear j0 j1 j2
        obtain ⟨w6, hw6⟩ : ∃ w6, w6 = T.V := ⟨_, rfl⟩
        rw [← hw6]
        have hT6 : Touch (fun _ => False) w8 w6 := by rw [hw6]; exact T.ok
        clear hw6 T
        have HW6 := Lib.hid (HW8.out.still hT6)
        have HR6 := Lib.hid (HR8.out.still hT6)
        have HT6 := Lib.hid (HT8.out.trans (hT6.mono (fun _ e => e.elim)))
        clear hT6 HW8 HR8 HT8 HBI HHM HHW
        go_wp2_with fail
        go_roundw
        case rel => exact ⟨k + 1, n', b', A', _, _, by go_num, by omega, by omega, hn', hb', HW6, HR6, HT6⟩
        case measure => simp [intOf]; omega
    · by_cases h : k < l.length
      · have h1 : (k : Int) < (l.length : Int) := by omega
        have h2 : ¬ (k : Int) < 60 := by omega
        clear hlt
        go_wp2_with fail
        go_ret
        exact ⟨rfl, new_touch HT.out⟩
      · have h1 : ¬ (k : Int) < (l.length : Int) := by omega
        clear hlt
        go_wp2_with fail
        go_ret
        exact ⟨rfl, new_touch HT.out⟩
end Go.Proofs.Ytimiiahhedpfaaa
