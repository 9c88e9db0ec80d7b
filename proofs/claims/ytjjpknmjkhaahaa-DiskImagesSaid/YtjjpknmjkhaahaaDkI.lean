
/- Contracts of package disk, eighth part: Copy, Same, Load. -/
import Derived.Test.YtjjpknmjkhaahaaDkH
namespace Go.Proofs.Ytjjpknmjkhaahaa
open Go Go.RowKit Go.Maps Go.Shelf
set_option maxRecDepth 100000

theorem load_nums (L : List UInt8) (i : Nat) (hi : i < L.length) : (L.map fun c => (c.toNat : Int)).getD i 0 = (L[i].toNat : Int) := by simp [List.getD, hi]

theorem DkAt.bytes {w : World} {b lb mb c n : Nat} {L : List UInt8} {C : List Ent} {t : Nat} {f : Int} {on : Bool} (h : DkAt w b lb mb c n L C t f on) (i : Nat) (hi : i < n * 64) :
    w.cell? ⟨lb, 0 + i, none⟩ = some (.int .u8 ((L.map fun c => (c.toNat : Int)).getD i 0)) := by
  have hr := h.row
  rw [← byteVs_length] at hr
  rw [hr.cells.2 i (.int .u8 ((L.map fun c => (c.toNat : Int)).getD i 0)) (by rw [load_nums _ _ (by rw [h.len]; exact hi)]; simp [byteVs, show i < L.length by rw [h.len]; exact hi])]

theorem samed_nil1 (v : Value) (w : World) : Calls Try.prog 18 #[.pointer none, v] w fun e w' => e = .returned (.bool false) ∧ w = w' := by
  go_enter Try.func18, Try.ntmps18
  go_wp2
  go_ret
  exact ⟨rfl, rfl⟩
theorem samed_nil2 (b : Nat) (w : World) : Calls Try.prog 18 #[.pointer (some ⟨b, 0, none⟩), .pointer none] w fun e w' => e = .returned (.bool false) ∧ w = w' := by
  go_enter Try.func18, Try.ntmps18
  go_wp2
  go_ret
  exact ⟨rfl, rfl⟩

theorem bytesOf_nums (L : List UInt8) : Lib.bytesOf (L.map fun c => (c.toNat : Int)) = L := by
  unfold Lib.bytesOf
  rw [List.map_map]
  conv => rhs; rw [← List.map_id L]
  congr 1
  funext c
  simp
theorem bequal_calls {w : World} {b lb mb c n b' lb' mb' c' n' : Nat} {L L' : List UInt8} {C C' : List Ent} {t t' : Nat} {f f' : Int} {on on' : Bool} (h : DkAt w b lb mb c n L C t f on) (h' : DkAt w b' lb' mb' c' n' L' C' t' f' on') :
    Calls Try.prog 31 #[.slice (some ⟨lb, 0, none⟩) (n * 64) c, .slice (some ⟨lb', 0, none⟩) (n' * 64) c'] w fun e w' => e = .returned (.bool (L == L')) ∧ w' = w := by
  have hcon := Any.bytes_Equal_all Try.dkBytesEqual (some ⟨lb, 0, none⟩) (some ⟨lb', 0, none⟩) (n * 64) c (n' * 64) c' (L.map fun c => (c.toNat : Int)) (L'.map fun c => (c.toNat : Int)) w (by rw [List.length_map, h.len]) (by rw [List.length_map, h'.len]) (Lib.BytesIn.of_cells fun i hi => (by rw [add_plain]; exact h.bytes i hi)) (Lib.BytesIn.of_cells fun i hi => (by rw [add_plain]; exact h'.bytes i hi))
  rw [bytesOf_nums, bytesOf_nums] at hcon
  exact hcon

set_option maxHeartbeats 400000 in
theorem samed_calls {w : World} {b lb mb c n b' lb' mb' c' n' : Nat} {L L' : List UInt8} {C C' : List Ent} {t t' : Nat} {f f' : Int} {on on' : Bool} (h : DkAt w b lb mb c n L C t f on) (h' : DkAt w b' lb' mb' c' n' L' C' t' f' on') :
    Calls Try.prog 18 #[.pointer (some ⟨b, 0, none⟩), .pointer (some ⟨b', 0, none⟩)] w fun e w' => e = .returned (.bool (C.isEmpty && (C'.isEmpty && (L == L')))) ∧ ∃ q, w' = w.drewN q := by
  obtain ⟨c0, c1, _, _, _⟩ := h.cells
  obtain ⟨c0', c1', _, _, _⟩ := h'.cells
  have l1 : ∀ q, (Builtin.len_ #[54] 3 #[.map (some mb)]).run Try.prog (w.drewN q) = .ok (.int .i64 (C.length : Nat)) (w.drewN q) := fun q => (h.map.of_block (w' := w.drewN q) rfl).len _
  have l2 : ∀ q, (Builtin.len_ #[54] 3 #[.map (some mb')]).run Try.prog (w.drewN q) = .ok (.int .i64 (C'.length : Nat)) (w.drewN q) := fun q => (h'.map.of_block (w' := w.drewN q) rfl).len _
  have HE : Hid (∀ q, Calls Try.prog 31 #[.slice (some ⟨lb, 0, none⟩) (n * 64) c, .slice (some ⟨lb', 0, none⟩) (n' * 64) c'] (w.drewN q) fun e w' => e = .returned (.bool (L == L')) ∧ w' = w.drewN q) := Lib.hid (fun q => bequal_calls (h.still ((Touch.refl _ w).drewN q)) (h'.still ((Touch.refl _ w).drewN q)))
  have hCl := h.map.size_le
  have hCl' := h'.map.size_le
  have ht := h.t2
  have ht' := h'.t2
  clear h h'
  generalize (L == L') = r at HE ⊢
  by_cases h1 : C.length = 0
  · obtain rfl : C = [] := List.eq_nil_of_length_eq_zero h1
    by_cases h2 : C'.length = 0
    · obtain rfl : C' = [] := List.eq_nil_of_length_eq_zero h2
      simp only [List.length_nil, List.isEmpty_nil, Bool.true_and] at l1 l2 ⊢
      go_enter Try.func18, Try.ntmps18
      go_upto_region 3 with fail
      go_quiet ((go_at_call 31; exact Calls.quiet_of_same (HE.out _)))
      go_wp2
      go_ret
      exact ⟨rfl, _, rfl⟩
    · have e1 : C'.isEmpty = false := by cases C' <;> simp_all
      have d2 : ((C'.length : Int) == 0) = false := by simpa using h2
      rw [e1]
      simp only [List.length_nil, List.isEmpty_nil, Bool.true_and, Bool.false_and] at l1 l2 ⊢
      go_enter Try.func18, Try.ntmps18
      go_upto_region 3 with fail
      go_quiet (fail)
      go_wp2
      go_ret
      exact ⟨rfl, _, rfl⟩
  · have e1 : C.isEmpty = false := by cases C <;> simp_all
    have d1 : ((C.length : Int) == 0) = false := by simpa using h1
    rw [e1]
    simp only [Bool.false_and] at l1 l2 ⊢
    go_enter Try.func18, Try.ntmps18
    go_upto_region 3 with fail
    go_quiet (fail)
    go_wp2
    go_ret
    exact ⟨rfl, _, rfl⟩

end Go.Proofs.Ytjjpknmjkhaahaa
