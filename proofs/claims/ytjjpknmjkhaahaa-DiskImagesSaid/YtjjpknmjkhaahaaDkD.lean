
/- Contracts of package disk, third part: settle. -/
import Derived.Test.YtjjpknmjkhaahaaDkC
import Derived.Lib.BufferWrite
namespace Go.Proofs.Ytjjpknmjkhaahaa
open Go Go.RowKit Go.Maps
set_option maxRecDepth 100000

/-- Bytes from o on written over by others. -/
def putB (L : List UInt8) (o : Nat) (T : List UInt8) : List UInt8 := L.take o ++ T ++ L.drop (o + T.length)
theorem putB_len {L T : List UInt8} {o : Nat} (h : o + T.length ≤ L.length) : (putB L o T).length = L.length := by
  unfold putB; simp only [List.length_append, List.length_take, List.length_drop]; omega
/-- What a sector is behind a fate. -/
def fateT (old new : List UInt8) (z : Int) : List UInt8 :=
  if z % 4 = 0 then old else if z % 4 = 1 then new else if z % 4 = 2 then new.take 32 ++ old.drop 32 else old.take 32 ++ new.drop 32
theorem fateT_len {old new : List UInt8} (h1 : old.length = 64) (h2 : new.length = 64) (z : Int) : (fateT old new z).length = 64 := by
  unfold fateT; split <;> (try split) <;> (try split) <;> simp [h1, h2]

/-- A row whose first bytes are told: its cells. -/
theorem Row.put {w : World} {lb N c : Nat} {L : List UInt8} (h : Row w 5 (.slice (some ⟨lb, 0, none⟩) N c) (byteVs L)) (o : Nat) (s : ByteArray) (hs : o + s.size ≤ L.length) :
    ∃ cs : Array Value, (∀ (W : World), W.heap = w.heap → ∀ (ty : TypeId) (d e : Nat), s.size ≤ d → (Builtin.copy_ #[53, 9] ty #[.slice (some ⟨lb, o, none⟩) d e, .string s]).run Try.prog W = .ok (goInt s.size) (W.setRow lb cs)) ∧
      ∀ W : World, W.heap = w.heap → Row (W.setRow lb cs) 5 (.slice (some ⟨lb, 0, none⟩) N c) (byteVs (putB L o s.data.toList)) := by
  rcases h with ⟨h1, _⟩ | ⟨g, off, cap, cur, hv, hh, h1, h2, h3, h4⟩
  · cases h1
  · injection hv with hv1 hv2 hv3
    injection hv1 with hv1
    injection hv1 with hv1 hv4 _
    subst hv1 hv3 hv4
    rw [byteVs_length] at h1 hv2 h4
    subst hv2
    refine ⟨(cur.toList.take o ++ Lib.byteCells s.data.toList ++ cur.toList.drop (o + s.size)).toArray, fun W hW ty d e hd => ?_, fun W hW => ?_⟩
    · have := Lib.run_copy_row_string (P := Try.prog) W 53 9 ty 5 lb o d e s cur 5 Try.underlying53 (by kernel_rfl) (by rw [hW]; exact hh) hd (by omega)
      exact this
    · have hg : W.heap[lb]? = some (.cells cur 5 (0, 0)) := by rw [hW]; exact hh
      have hpl : (putB L o s.data.toList).length = L.length := putB_len (by rw [Array.length_toList]; exact hs)
      refine .inr ⟨lb, 0, c, (cur.toList.take o ++ Lib.byteCells s.data.toList ++ cur.toList.drop (o + s.size)).toArray, by rw [byteVs_length, hpl], heap_setRow _ lb _ _ _ hg, by rw [byteVs_length, hpl]; exact h1, h2, ?_, ?_⟩
      · simp only [List.size_toArray, List.length_append, List.length_take, List.length_drop, Array.length_toList, Lib.byteCells_length]
        have : s.data.size = s.size := rfl
        omega
      · rw [byteVs_length, hpl, List.drop_zero]
        rw [List.drop_zero] at h4
        have hcl : cur.toList = byteVs L ++ cur.toList.drop L.length := by rw [← h4]; exact (List.take_append_drop _ _).symm
        have e1 : cur.toList.take o = byteVs (L.take o) := by
          rw [hcl, List.take_append_of_le_length (by rw [byteVs_length]; omega), byteVs_take]
        have e2 : cur.toList.drop (o + s.size) = byteVs (L.drop (o + s.size)) ++ cur.toList.drop L.length := by
          conv => lhs; rw [hcl]
          rw [List.drop_append_of_le_length (by rw [byteVs_length]; omega), byteVs_drop]
        have e3 : (Lib.byteCells s.data.toList) = byteVs s.data.toList := rfl
        have hsz : s.data.toList.length = s.size := Array.length_toList
        rw [e1, e2, e3]
        have e4 : byteVs (putB L o s.data.toList) = byteVs (L.take o) ++ byteVs s.data.toList ++ byteVs (L.drop (o + s.size)) := by
          unfold putB; rw [byteVs_append, byteVs_append, hsz]
        rw [e4, ← List.append_assoc, List.take_append_of_le_length (by simp only [List.length_append, byteVs_length, List.length_take, List.length_drop]; omega)]
        exact List.take_of_length_le (by simp only [List.length_append, byteVs_length, List.length_take, List.length_drop]; omega)

theorem mod4 (z : Int) : ∃ r : Int, z.tmod 4 = r ∧ -4 < r ∧ r < 4 ∧ (r + 4) % 4 = z % 4 := by
  have h1 := Int.tmod_lt_of_pos z (show (0 : Int) < 4 by decide)
  have h2 := Int.lt_tmod_of_pos z (show (0 : Int) < 4 by decide)
  have h3 := Int.mul_tdiv_add_tmod z 4
  exact ⟨z.tmod 4, rfl, h2, h1, by omega⟩

/-- A sector of all of them written over. -/
def setS (L : List UInt8) (i : Nat) (T : List UInt8) : List UInt8 := putB L (i * 64) T

set_option maxHeartbeats 400000 in
theorem settle_calls {w : World} {lb c n : Nat} {L : List UInt8} (h : Row w 5 (.slice (some ⟨lb, 0, none⟩) (n * 64) c) (byteVs L)) (hL : L.length = n * 64) (_hn : n ≤ 65536) (hc1 : n * 64 ≤ c) (_hc2 : c ≤ maxLen) (i : Nat) (hi : i < n) (s : ByteArray) (hs : s.size = 64) (z : Int) :
    Calls Try.prog 23 #[secS lb c i, .string s, .int .i64 z] w fun e w' => e = .returned (.tuple #[]) ∧
      Row w' 5 (.slice (some ⟨lb, 0, none⟩) (n * 64) c) (byteVs (setS L i (fateT (sec L i) s.data.toList z))) ∧ Touch (fun k => k = lb) w w' := by
  obtain ⟨r, hr, hr1, hr2, hk⟩ := mod4 z
  have h00 : z % 4 = 0 ∨ z % 4 = 1 ∨ z % 4 = 2 ∨ z % 4 = 3 := by omega
  obtain ⟨p, hp⟩ : ∃ p, p = i * 64 := ⟨_, rfl⟩
  have hpq2 : p + 64 ≤ c := by omega
  have hpL : p + 64 ≤ L.length := by omega
  rcases h00 with h0 | h0 | h0 | h0
  · have HF : Hid (setS L i (fateT (sec L i) s.data.toList z) = L) := Lib.hid (by
      unfold setS fateT putB; rw [if_pos h0, sec_len hL hi]; unfold sec
      rw [List.append_assoc, ← List.drop_drop, List.take_append_drop, List.take_append_drop])
    rw [h0] at hk
    unfold secS
    go_enter Try.func23, Try.ntmps23
    go_wp2
    go_end0
    exact ⟨rfl, by rw [HF.out]; exact h, Touch.refl _ _⟩
  · obtain ⟨cs, hcp, hrow⟩ := Row.put h p s (by omega)
    have HF : Hid (setS L i (fateT (sec L i) s.data.toList z) = putB L p s.data.toList) := Lib.hid (by
      unfold setS fateT; rw [if_neg (by omega), if_pos h0, hp])
    rw [h0] at hk
    unfold secS
    rw [← hp]
    have hcp0 := hcp w rfl 3 64 (c - p) (by omega)
    have HR := Lib.hid (hrow w rfl)
    have HP := Lib.hid hp
    clear h hcp hrow hp
    go_enter Try.func23, Try.ntmps23
    go_wp2
    go_end0
    exact ⟨rfl, by rw [HF.out]; exact HR.out, (Touch.refl (fun k => k = lb) w).setRow (Or.inl rfl) _⟩
  · obtain ⟨T, hT⟩ : ∃ T : ByteArray, T = s.extract 0 32 := ⟨_, rfl⟩
    have hsl : s.data.toList.length = 64 := by rw [Array.length_toList]; exact hs
    have hTl : T.data.toList = s.data.toList.take 32 := by rw [hT, ByteArray.data_extract, Array.toList_extract]; simp
    have hTs : T.size = 32 := by show T.data.size = 32; rw [← Array.length_toList, hTl, List.length_take]; omega
    obtain ⟨cs, hcp, hrow⟩ := Row.put h p T (by omega)
    have HF : Hid (setS L i (fateT (sec L i) s.data.toList z) = putB L p T.data.toList) := Lib.hid (by
      unfold setS fateT; rw [if_neg (by omega), if_neg (by omega), if_pos h0, hp, hTl]
      unfold putB sec
      rw [List.drop_take, ← List.drop_drop, ← List.drop_drop]
      simp only [List.length_append, List.length_take, List.length_drop, hsl, List.append_assoc]
      congr 2
      rw [show min 32 64 + (min (64 - 32) (L.length - i * 64 - 32)) = 32 + 32 by omega, show min 32 64 = 32 from rfl, ← List.drop_drop, List.take_append_drop])
    rw [h0] at hk
    unfold secS
    rw [← hp]
    have hcp0 := hcp w rfl 3 32 (c - p) (by omega)
    have hcp1 := hcp w.drew rfl 3 32 (c - p) (by omega)
    have HR := Lib.hid (hrow w.drew rfl)
    have HP := Lib.hid hp
    rw [hT] at hcp0 hcp1
    rw [← hT] at hcp0 hcp1
    subst hT
    clear h hcp hrow hp
    go_enter Try.func23, Try.ntmps23
    go_upto_region 5 with fail
    go_region
    go_end0
    exact ⟨rfl, by rw [HF.out]; exact HR.out, ((Touch.refl (fun k => k = lb) w).drew).setRow (Or.inl rfl) _⟩
  · obtain ⟨T, hT⟩ : ∃ T : ByteArray, T = s.extract 32 64 := ⟨_, rfl⟩
    have hsl : s.data.toList.length = 64 := by rw [Array.length_toList]; exact hs
    have hTl : T.data.toList = s.data.toList.drop 32 := by rw [hT, ByteArray.data_extract, Array.toList_extract]; simp [List.extract]; exact List.take_of_length_le (by rw [List.length_drop]; omega)
    have hTs : T.size = 32 := by show T.data.size = 32; rw [← Array.length_toList, hTl, List.length_drop]; omega
    obtain ⟨cs, hcp, hrow⟩ := Row.put h (p + 32) T (by omega)
    have HF : Hid (setS L i (fateT (sec L i) s.data.toList z) = putB L (p + 32) T.data.toList) := Lib.hid (by
      unfold setS fateT; rw [if_neg (by omega), if_neg (by omega), if_neg (by omega), hp, hTl]
      unfold putB sec
      rw [List.take_take, List.take_add]
      simp only [List.length_append, List.length_take, List.length_drop, hsl, List.append_assoc]
      rw [show min 32 64 = 32 from rfl]
      have e1 : i * 64 + (min 32 (L.length - i * 64) + (64 - 32)) = i * 64 + 32 + (64 - 32) := by omega
      rw [e1])
    rw [h0] at hk
    unfold secS
    rw [← hp]
    have hcp0 := hcp w rfl 3 32 (c - p - 32) (by omega)
    have hcp1 := hcp w.drew rfl 3 32 (c - p - 32) (by omega)
    have HR := Lib.hid (hrow w.drew rfl)
    have HP := Lib.hid hp
    subst hT
    clear h hcp hrow hp
    go_enter Try.func23, Try.ntmps23
    go_upto_region 7 with fail
    go_region
    go_end0
    exact ⟨rfl, by rw [HF.out]; exact HR.out, ((Touch.refl (fun k => k = lb) w).drew).setRow (Or.inl rfl) _⟩

end Go.Proofs.Ytjjpknmjkhaahaa
