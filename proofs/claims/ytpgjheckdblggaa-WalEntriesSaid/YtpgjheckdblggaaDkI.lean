/- Contracts of package disk, eighth part: Copy, Same, Load. -/
import Derived.Test.YtpgjheckdblggaaDkH
namespace Go.Proofs.Ytpgjheckdblggaa
open Go Go.RowKit Go.Maps Go.Shelf
set_option maxRecDepth 100000

theorem load_nums (L : List UInt8) (i : Nat) (hi : i < L.length) : (L.map fun c => (c.toNat : Int)).getD i 0 = (L[i].toNat : Int) := by simp [List.getD, hi]

theorem DkAt.bytes {w : World} {b lb mb c n : Nat} {L : List UInt8} {C : List Ent} {t : Nat} {f : Int} {on : Bool} (h : DkAt w b lb mb c n L C t f on) (i : Nat) (hi : i < n * 64) :
    w.cell? ⟨lb, 0 + i, none⟩ = some (.int .u8 ((L.map fun c => (c.toNat : Int)).getD i 0)) := by
  have hr := h.row
  rw [← byteVs_length] at hr
  rw [hr.cells.2 i (.int .u8 ((L.map fun c => (c.toNat : Int)).getD i 0)) (by rw [load_nums _ _ (by rw [h.len]; exact hi)]; simp [byteVs, show i < L.length by rw [h.len]; exact hi])]

theorem copyd_nil (w : World) : Calls Try.prog 16 #[.pointer none] w fun e w' => e = .returned (.pointer none) ∧ w = w' := by
  go_enter Try.func16, Try.ntmps16
  go_wp2
  go_ret
  exact ⟨rfl, rfl⟩

/-- bytes.Clone of the sectors. -/
theorem bclone_calls {w : World} {b lb mb c n : Nat} {L : List UInt8} {C : List Ent} {t : Nat} {f : Int} {on : Bool} (h : DkAt w b lb mb c n L C t f on) :
    Calls Try.prog 41 #[.slice (some ⟨lb, 0, none⟩) (n * 64) c] w fun e w' => ∃ g cap, e = .returned (.slice (some ⟨g, 0, none⟩) (n * 64) cap) ∧ Row w' 5 (.slice (some ⟨g, 0, none⟩) (n * 64) cap) (byteVs L) ∧ w.heap.size ≤ g ∧ Touch (fun _ => False) w w' := by
  have hn2 := h.n2
  have hcon := Any.bytes_Clone_at Try.dkBytesClone ⟨lb, 0, none⟩ (n * 64) c (L.map fun c => (c.toNat : Int)) w (by rw [List.length_map, h.len]) (by omega) (fun i hi => by rw [add_plain]; exact h.bytes i hi)
  refine hcon.mono ?_
  rintro e w' ⟨v, rfl, hrow, hne, hB⟩
  have e1 : (L.map fun c => (c.toNat : Int)).map (Value.int .u8) = byteVs L := by simp [byteVs]
  rw [e1] at hrow
  have hr := Row.of_own hrow
  rcases hrow.2 with ⟨h1, _⟩ | ⟨g, cap, cur, rfl, hb, _⟩
  · exact absurd h1 hne
  · exact ⟨g, cap, rfl, hr, hb, ⟨hB.os, hB.tape, hB.output, hB.size, fun k hk _ => hB.block k hk⟩⟩

theorem mclone_calls {w : World} {mb nn : Nat} {C : List Ent} (h : MapAt w mb nn C) :
    Calls Try.prog 42 #[.map (some mb)] w fun e w' => e = .returned (.map (some w.heap.size)) ∧ MapAt w' w.heap.size nn C ∧ Touch (fun _ => False) w w' ∧ w.heap.size < w'.heap.size := by
  obtain ⟨D, hown, hC⟩ := h
  refine (AnyW.maps_Clone_owns Try.dkMapClone 3 rdW mb nn D w hown).mono ?_
  rintro e w' ⟨he, h1, _, hB⟩
  exact ⟨he, ⟨D, h1, hC⟩, ⟨hB.os, hB.tape, hB.output, hB.size, fun k hk _ => hB.block k hk⟩, h1.lt⟩

set_option maxHeartbeats 400000 in
theorem copyd_calls {w : World} {b lb mb c n : Nat} {L : List UInt8} {C : List Ent} {t : Nat} {f : Int} {on : Bool} (h : DkAt w b lb mb c n L C t f on) :
    Calls Try.prog 16 #[.pointer (some ⟨b, 0, none⟩)] w fun e w' => ∃ b' lb' mb' c', e = .returned (.pointer (some ⟨b', 0, none⟩)) ∧ DkAt w' b' lb' mb' c' n L C t f on ∧ (w.heap.size ≤ b' ∧ w.heap.size ≤ lb' ∧ w.heap.size ≤ mb') ∧ Touch (fun _ => False) w w' := by
  obtain ⟨c0, c1, c2, c3, c4⟩ := h.cells
  have hlt := h.lt
  have H := Lib.hid h
  clear h
  go_enter Try.func16, Try.ntmps16
  go_wp2_with fail
  have hT1 := (Touch.refl (fun _ => False) w).alloc (.cells #[.slice (some ⟨lb, 0, none⟩) (n * 64) c, .map (some mb), .int .i64 t, .int .i64 f, .bool on] 78)
  have hb1 := Block.new w 78 [.slice (some ⟨lb, 0, none⟩) (n * 64) c, .map (some mb), .int .i64 t, .int .i64 f, .bool on]
  have hs1 : (w.alloc (.cells #[.slice (some ⟨lb, 0, none⟩) (n * 64) c, .map (some mb), .int .i64 t, .int .i64 f, .bool on] 78)).heap.size = w.heap.size + 1 := Array.size_push ..
  generalize (w.alloc (.cells #[.slice (some ⟨lb, 0, none⟩) (n * 64) c, .map (some mb), .int .i64 t, .int .i64 f, .bool on] 78)) = w1 at hT1 hb1 hs1 ⊢
  have hb1 : Block w1 w.heap.size 78 [.slice (some ⟨lb, 0, none⟩) (n * 64) c, .map (some mb), .int .i64 t, .int .i64 f, .bool on] := hb1
  refine (bclone_calls (H.out.still hT1)).mono ?_
  rintro e w2 ⟨g, cap, rfl, hrow2, hg2, hT2⟩
  have hb2 := hb1.kept hT2 id
  have hT02 := hT1.trans hT2
  have d1 := hT02.cell c1 id
  have e0 := hb2.cell 0
  have e1 := hb2.cell 1
  have z0 := hb2.free 0
  have z1 := hb2.free 1
  simp only [List.getElem?_cons_zero, List.getElem?_cons_succ] at e0 e1
  have hG : w.heap.size ≠ b := by omega
  have hD2 := Lib.hid (H.out.still hT02)
  generalize hGG : w.heap.size = G at *
  have HG := Lib.hid hGG
  clear hGG c0 c1 c2 c3 c4
  go_wp2_with fail
  have hT3 : Touch (fun k => k = G) w2 (w2.setCell ⟨G, 0, none⟩ (.slice (some ⟨g, 0, none⟩) (n * 64) cap)) := (Touch.refl (fun k => k = G) w2).setCell (p := ⟨G, 0, none⟩) (Or.inl rfl) _
  have hb3 := hb2.set 0 (.slice (some ⟨g, 0, none⟩) (n * 64) cap)
  have hm3 := hD2.out.map.kept hT3 (by have := H.out.lt; omega)
  have hrow3 := hrow2.kept hT3 (fun g' hg' e => by simp [Value.ownBlock] at hg'; omega)
  have hs3 : (w2.setCell ⟨G, 0, none⟩ (.slice (some ⟨g, 0, none⟩) (n * 64) cap)).heap.size = w2.heap.size := by simp [World.setCell]
  refine (mclone_calls hm3).mono ?_
  rintro e w4 ⟨rfl, hm4, hT4, hsz4⟩
  have hb4 := hb3.kept hT4 id
  have hrow4 := hrow3.kept hT4 (fun _ _ => id)
  have h01 := hb4.cell 1
  have z4 := hb4.free 1
  simp only [List.set_cons_zero, List.getElem?_cons_zero, List.getElem?_cons_succ] at h01
  have hsz2 := hT2.size
  rw [hs3] at hm4 hsz4
  have HM4 := Lib.hid hm4
  clear hm4 hm3 e0 e1 z0 z1 d1
  go_wp2_with fail
  go_ret
  have hT5 : Touch (fun k => k = G) w4 (w4.setCell ⟨G, 1, none⟩ (.map (some w2.heap.size))) := (Touch.refl (fun k => k = G) w4).setCell (p := ⟨G, 1, none⟩) (Or.inl rfl) _
  have hb5 := hb4.set 1 (.map (some w2.heap.size))
  have hrow5 := hrow4.kept hT5 (fun g' hg' e => by simp [Value.ownBlock] at hg'; omega)
  have hm5 := HM4.out.kept hT5 (by omega)
  have hl := H.out.len
  refine ⟨G, g, w2.heap.size, cap, rfl, ⟨by rw [hl]; exact hb5, by rw [hl]; exact hrow5, hm5, by omega, hl, H.out.n1, H.out.n2, H.out.ents, H.out.t2, H.out.f1, H.out.f2⟩, by have := HG.out; omega, ?_⟩
  exact ((hT02.trans' hT3 (fun i hi => .inr (by have := HG.out; omega))).trans hT4).trans' hT5 (fun i hi => .inr (by have := HG.out; omega))


theorem samed_nil1 (v : Value) (w : World) : Calls Try.prog 20 #[.pointer none, v] w fun e w' => e = .returned (.bool false) ∧ w = w' := by
  go_enter Try.func20, Try.ntmps20
  go_wp2
  go_ret
  exact ⟨rfl, rfl⟩
theorem samed_nil2 (b : Nat) (w : World) : Calls Try.prog 20 #[.pointer (some ⟨b, 0, none⟩), .pointer none] w fun e w' => e = .returned (.bool false) ∧ w = w' := by
  go_enter Try.func20, Try.ntmps20
  go_wp2
  go_ret
  exact ⟨rfl, rfl⟩

theorem bytesOf_nums (L : List UInt8) : Lib.bytesOf (L.map fun c => (c.toNat : Int)) = L := by
  unfold Lib.bytesOf
  rw [List.map_map]
  conv => rhs; rw [← List.map_id L]
  congr 1
  funext c
  simp
theorem bequal_calls {w : World} {b lb mb c n b' lb' mb' c' n' : Nat} {L L' : List UInt8} {C C' : List Ent} {t t' : Nat} {f f' : Int} {on on' : Bool} (h : DkAt w b lb mb c n L C t f on) (h' : DkAt w b' lb' mb' c' n' L' C' t' f' on') :
    Calls Try.prog 44 #[.slice (some ⟨lb, 0, none⟩) (n * 64) c, .slice (some ⟨lb', 0, none⟩) (n' * 64) c'] w fun e w' => e = .returned (.bool (L == L')) ∧ w' = w := by
  have hcon := Any.bytes_Equal_all Try.dkBytesEqual (some ⟨lb, 0, none⟩) (some ⟨lb', 0, none⟩) (n * 64) c (n' * 64) c' (L.map fun c => (c.toNat : Int)) (L'.map fun c => (c.toNat : Int)) w (by rw [List.length_map, h.len]) (by rw [List.length_map, h'.len]) (Lib.BytesIn.of_cells fun i hi => (by rw [add_plain]; exact h.bytes i hi)) (Lib.BytesIn.of_cells fun i hi => (by rw [add_plain]; exact h'.bytes i hi))
  rw [bytesOf_nums, bytesOf_nums] at hcon
  exact hcon

set_option maxHeartbeats 400000 in
theorem samed_calls {w : World} {b lb mb c n b' lb' mb' c' n' : Nat} {L L' : List UInt8} {C C' : List Ent} {t t' : Nat} {f f' : Int} {on on' : Bool} (h : DkAt w b lb mb c n L C t f on) (h' : DkAt w b' lb' mb' c' n' L' C' t' f' on') :
    Calls Try.prog 20 #[.pointer (some ⟨b, 0, none⟩), .pointer (some ⟨b', 0, none⟩)] w fun e w' => e = .returned (.bool (C.isEmpty && (C'.isEmpty && (L == L')))) ∧ ∃ q, w' = w.drewN q := by
  obtain ⟨c0, c1, _, _, _⟩ := h.cells
  obtain ⟨c0', c1', _, _, _⟩ := h'.cells
  have l1 : ∀ q, (Builtin.len_ #[76] 3 #[.map (some mb)]).run Try.prog (w.drewN q) = .ok (.int .i64 (C.length : Nat)) (w.drewN q) := fun q => (h.map.of_block (w' := w.drewN q) rfl).len _
  have l2 : ∀ q, (Builtin.len_ #[76] 3 #[.map (some mb')]).run Try.prog (w.drewN q) = .ok (.int .i64 (C'.length : Nat)) (w.drewN q) := fun q => (h'.map.of_block (w' := w.drewN q) rfl).len _
  have HE : Hid (∀ q, Calls Try.prog 44 #[.slice (some ⟨lb, 0, none⟩) (n * 64) c, .slice (some ⟨lb', 0, none⟩) (n' * 64) c'] (w.drewN q) fun e w' => e = .returned (.bool (L == L')) ∧ w' = w.drewN q) := Lib.hid (fun q => bequal_calls (h.still ((Touch.refl _ w).drewN q)) (h'.still ((Touch.refl _ w).drewN q)))
  have hCl := h.map.size_le
  have hCl' := h'.map.size_le
  have ht := h.t2
  have ht' := h'.t2
  clear h h'
  generalize (L == L') = r at HE ⊢
  by_cases h1 : C.length = 0
  · obtain rfl : C = [] := List.eq_nil_of_length_eq_zero h1
    by_cases h2 : C'.length = 0
    · obtain rfl : C' = [] := List.eq_nil_of_length_eq_zero h2
      simp only [List.length_nil, List.isEmpty_nil, Bool.true_and] at l1 l2 ⊢
      go_enter Try.func20, Try.ntmps20
      go_upto_region 3 with fail
      go_quiet ((go_at_call 44; exact Calls.quiet_of_same (HE.out _)))
      go_wp2
      go_ret
      exact ⟨rfl, _, rfl⟩
    · have e1 : C'.isEmpty = false := by cases C' <;> simp_all
      have d2 : ((C'.length : Int) == 0) = false := by simpa using h2
      rw [e1]
      simp only [List.length_nil, List.isEmpty_nil, Bool.true_and, Bool.false_and] at l1 l2 ⊢
      go_enter Try.func20, Try.ntmps20
      go_upto_region 3 with fail
      go_quiet (fail)
      go_wp2
      go_ret
      exact ⟨rfl, _, rfl⟩
  · have e1 : C.isEmpty = false := by cases C <;> simp_all
    have d1 : ((C.length : Int) == 0) = false := by simpa using h1
    rw [e1]
    simp only [Bool.false_and] at l1 l2 ⊢
    go_enter Try.func20, Try.ntmps20
    go_upto_region 3 with fail
    go_quiet (fail)
    go_wp2
    go_ret
    exact ⟨rfl, _, rfl⟩

end Go.Proofs.Ytpgjheckdblggaa
