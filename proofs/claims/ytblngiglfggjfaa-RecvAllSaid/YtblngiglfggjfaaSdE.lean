
/- Contracts of package send, fifth part: Open. -/
import Derived.Test.YtblngiglfggjfaaSdD
namespace Go.Proofs.Ytblngiglfggjfaa
open Go Go.RowKit Go.Maps Go.MapKept Go.ChangeMaps
set_option maxRecDepth 100000

/-- The numbers of the first k places from b on that aren't acknowledged. -/
def openK (f b : Nat) (A : Nat → Bool) (k : Nat) : List Nat := ((List.range k).filter fun i => !A (b + i)).map fun i => numU f (b + i)
theorem openK_succ (f b : Nat) (A : Nat → Bool) (k : Nat) : openK f b A (k + 1) = openK f b A k ++ (if A (b + k) = true then [] else [numU f (b + k)]) := by
  unfold openK
  rw [List.range_succ, List.filter_append, List.map_append]
  by_cases h : A (b + k) = true
  · rw [if_pos h]; simp [h]
  · rw [if_neg h]; simp [h]
theorem openK_le (f b : Nat) (A : Nat → Bool) (k : Nat) : (openK f b A k).length ≤ k := by
  unfold openK
  rw [List.length_map]
  exact Nat.le_trans (List.length_filter_le _ _) (by simp)

set_option maxHeartbeats 4000000 in
theorem wopen_calls {w : World} {p mb n f cnt sz b s : Nat} {A : Nat → Bool} (h : WinAt w p mb n f cnt sz b s A) :
    Calls Try.prog 25 #[.pointer (some ⟨p, 0, none⟩)] w fun e w' =>
      ∃ r, e = .returned r ∧ Row w' 22 r (u32V (openK f b A (s - b))) ∧ NewB w r ∧ Touch (fun _ => False) w w' := by
  obtain ⟨i0, hi, hz0, hz1, hz2⟩ := info_parts Try.infoU32
  have hbs := h.bs
  have hss := h.ss
  have hz := h.z2
  have hsc := h.sc
  have hcc := h.c2
  have HX := Lib.hid h
  have HLT := Lib.hid h.lt
  obtain ⟨c0, c1, c2, c3, c4⟩ := h.box.cells
  obtain ⟨c, hset, hcA⟩ := h.set
  have HS := Lib.hid hset
  have HC := Lib.hid hcA
  obtain ⟨nb, hnb⟩ : ∃ nb, nb = numU f b := ⟨_, rfl⟩
  obtain ⟨m, hm⟩ : ∃ m, m = s - b := ⟨_, rfl⟩
  rw [← hnb] at c0
  rw [← hm] at c2 ⊢
  have HF := Lib.hid (⟨hnb, hm⟩ : nb = numU f b ∧ m = s - b)
  have hm32 : m ≤ 32 := by omega
  clear h hnb hm hset hcA c1 c3
  go_enter Try.func25, Try.ntmps25
  go_wp2_with fail
  go_loopw [3, 14] (fun rv iv wr => ∃ k : Nat, k ≤ m ∧ iv = .int .i64 (k : Nat) ∧ RowKit.Hid (Row wr 22 rv (u32V (openK f b A k))) ∧ RowKit.Hid (NewB w rv) ∧ RowKit.Hid (Touch (fun _ => False) w wr)) (fun _ iv _ => m - (intOf iv).toNat)
  case atStart => exact ⟨0, Nat.zero_le _, rfl, Lib.hid (Row.nil _ _), Lib.hid (NewB.nil w), Lib.hid (Touch.refl _ _)⟩
  case round =>
    obtain ⟨k, hk, rfl, HR, HSP, HT⟩ := hrel
    by_cases hlt : k < m
    · have hltI : (k : Int) < (m : Int) := by omega
      have d0 := HT.out.cell (p := ⟨p, 0, none⟩) c0 id
      have d4 := HT.out.cell (p := ⟨p, 4, none⟩) c4 id
      have e2 : ((nb : Int) + (k : Int)) % 4294967296 = ((numU f (b + k) : Nat) : Int) := by
        have := HF.out.1
        rw [this]
        unfold numU
        omega
      have hlook := (HS.out.kept HT.out id).look (numU f (b + k)) (numU_lt _ _)
      rw [HC.out (b + k) (by omega) (by have := HF.out; omega)] at hlook
      have HOS := Lib.hid (openK_succ f b A k)
      have HOL := Lib.hid (openK_le f b A k)
      by_cases hA : A (b + k) = true
      · rw [hA] at hlook
        have HOS' := HOS.out
        rw [if_pos hA, List.append_nil] at HOS'
        have HOT := Lib.hid HOS'
        clear HOS' hA
        go_wp2_with fail
        go_roundw
        case rel => exact ⟨k + 1, by omega, by go_num, Lib.hid (by rw [HOT.out]; exact HR.out.kept ((Touch.refl (fun _ => False) wr).alloc _) (fun _ _ => id)), HSP, Lib.hid (HT.out.alloc _)⟩
        case measure => simp [intOf]; omega
      · have hA' : A (b + k) = false := by simpa using hA
        rw [hA'] at hlook
        have HOS' := HOS.out
        rw [if_neg hA] at HOS'
        have HOT := Lib.hid HOS'
        clear HOS' hA hA'
        go_upto_region 10 with fail
        rw [e2]
        have hTa : Touch (fun _ => False) wr (wr.alloc (.cells #[] 85)) := (Touch.refl (fun _ => False) wr).alloc _
        have HTa := Lib.hid (HT.out.trans hTa)
        have HRa := Lib.hid (HR.out.kept hTa (fun _ _ => id))
        generalize wr.alloc (.cells #[] 85) = wa at *
        clear hTa hlook e2 d0 d4
        obtain ⟨ar, cap, hu3, hc1, hc2⟩ := HRa.out.form
        rw [u32V_length] at hu3 hc1
        obtain ⟨ln, hln⟩ : ∃ x, x = (openK f b A k).length := ⟨_, rfl⟩
        have hln32 : ln ≤ 32 := by have := HOL.out; omega
        rw [← hln] at hu3 hc1
        have HLN := Lib.hid hln
        clear hln
        subst hu3
        go_wp2_with (at_builtin; refine wpList_append_row _ rfl (.tmp 35) (.tmp 37) 54 54 rfl 22 i0 _ 4 Try.underlying54 hi hz0 hz1 hz2 rfl (.slice ar ln cap) (u32V (openK f b A k)) rfl (by exact HRa.out.kept (S := fun _ => False) ((Touch.refl _ _).alloc _) (fun _ _ => id)) (.slice (some ⟨wa.heap.size, 0, none⟩) 1 1) rfl 1 [.int .u32 (numU f (b + k) : Nat)] (by exact Src.ofCell Try.underlying54 (heap_alloc_new wa _) rfl) (by rw [u32V_length]; have := HOL.out; unfold maxLen; omega) (by rw [u32V_length]; have := HOL.out; omega) ?_; intro v2 w2 hrow2 hgrow hown2)
        go_roundw
        case rel =>
          refine ⟨k + 1, by omega, by go_num, Lib.hid ?_, Lib.hid ?_, Lib.hid ?_⟩
          · rw [← u32V_snoc] at hrow2
            rw [HOT.out]; exact hrow2
          · exact HSP.out.grown (wr := wa.alloc (.cells #[.int .u32 (numU f (b + k) : Nat)] 22)) hown2 (by have := HTa.out.size; rw [alloc_size]; omega)
          · exact (HTa.out.alloc _).grown hgrow (fun g hg => Or.inr (HSP.out g hg))
        case measure => simp [intOf]; omega
    · obtain rfl : k = m := by omega
      go_wp2_with fail
      go_ret
      exact ⟨_, rfl, HR.out, HSP.out, HT.out⟩
end Go.Proofs.Ytblngiglfggjfaa
