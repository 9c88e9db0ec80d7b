
/- Contracts of package disk, first part: the disk in memory; New, Sectors, sector, check, On, Start, Fuse, Image. -/
import Derived.Test.YtjjpknmjkhaahaaDkA
import Derived.WalkSpells
import Derived.WalkLawsBesides
import Derived.OwnWalk
import Derived.Lib.Hide
import Derived.Laws.MakeOwn
import Derived.RegionTactic
import Derived.Deep.DeepCutAuto
import Derived.BigRegion
import Derived.BigQuiet
import Derived.Deep.QuietTactic
import Derived.Deep.RegionHeld3
import Derived.Deep.RegionLaw
namespace Go.Proofs.Ytjjpknmjkhaahaa
open Go Go.RowKit Go.Maps
set_option maxRecDepth 100000

theorem ret1 {a b : Value} (h : a = b) : Ending.returned a = .returned b := by rw [h]
theorem Try.infoB : (Try.prog.info? 5).map (fun i => (i.zero, i.size, i.bytes)) = some (some (.int .u8 0), 1, 1) := by kernel_rfl

/-- A disk's five cells, its sectors' row (of capacity c) and its map. -/
structure DkAt (w : World) (b lb mb c n : Nat) (L : List UInt8) (C : List Ent) (t : Nat) (f : Int) (on : Bool) : Prop where
  box : Block w b 56 [.slice (some ⟨lb, 0, none⟩) L.length c, .map (some mb), .int .i64 t, .int .i64 f, .bool on]
  row : Row w 5 (.slice (some ⟨lb, 0, none⟩) L.length c) (byteVs L)
  map : MapAt w mb t C
  ne : lb ≠ b
  len : L.length = n * 64
  n1 : 1 ≤ n
  n2 : n ≤ 65536
  ents : ∀ e ∈ C, e.k < n ∧ e.s.size = 64 ∧ e.t ≤ t
  t2 : t ≤ 1000000
  f1 : -1 ≤ f
  f2 : f ≤ 9223372036854775807

/-- What a disk's own calls may write. -/
def DkS (b lb mb : Nat) (k : Nat) : Prop := k = b ∨ k = lb ∨ k = mb

theorem DkAt.lt {w : World} {b lb mb c n : Nat} {L : List UInt8} {C : List Ent} {t : Nat} {f : Int} {on : Bool} (h : DkAt w b lb mb c n L C t f on) : b < w.heap.size ∧ lb < w.heap.size ∧ mb < w.heap.size :=
  ⟨h.box.lt, h.row.lt lb rfl, h.map.lt⟩
theorem DkAt.mne {w : World} {b lb mb c n : Nat} {L : List UInt8} {C : List Ent} {t : Nat} {f : Int} {on : Bool} (h : DkAt w b lb mb c n L C t f on) : mb ≠ b ∧ mb ≠ lb := by
  obtain ⟨D, ⟨es, clock, hb, _⟩, _⟩ := h.map
  constructor
  · intro e; have := h.box; unfold Block at this; rw [← e, hb] at this; cases this
  · intro e
    rcases h.row with ⟨h1, _⟩ | ⟨g, off, cap, cur, h1, h2, _⟩
    · cases h1
    · injection h1 with h1 _ _; injection h1 with h1; injection h1 with h1 _ _; rw [← h1, ← e, hb] at h2; cases h2
theorem DkAt.kept {S : Nat → Prop} {w w' : World} {b lb mb c n : Nat} {L : List UInt8} {C : List Ent} {t : Nat} {f : Int} {on : Bool} (h : DkAt w b lb mb c n L C t f on) (ht : Touch S w w') (h1 : ¬ S b) (h2 : ¬ S lb) (h3 : ¬ S mb) : DkAt w' b lb mb c n L C t f on :=
  { h with box := h.box.kept ht h1, row := h.row.kept ht (fun g hg => by simp [Value.ownBlock] at hg; subst hg; exact h2), map := h.map.kept ht h3 }
theorem DkAt.still {w w' : World} {b lb mb c n : Nat} {L : List UInt8} {C : List Ent} {t : Nat} {f : Int} {on : Bool} (h : DkAt w b lb mb c n L C t f on) (ht : Touch (fun _ => False) w w') : DkAt w' b lb mb c n L C t f on := h.kept ht id id id
theorem DkAt.cap {w : World} {b lb mb c n : Nat} {L : List UInt8} {C : List Ent} {t : Nat} {f : Int} {on : Bool} (h : DkAt w b lb mb c n L C t f on) : n * 64 ≤ c ∧ c ≤ maxLen := by
  rcases h.row with ⟨h1, _⟩ | ⟨g, off, cap, cur, h1, h2, h3, h4, _⟩
  · cases h1
  · injection h1 with _ _ h1; subst h1; rw [byteVs_length, h.len] at h3; exact ⟨h3, h4⟩
/-- Its cells. -/
theorem DkAt.cells {w : World} {b lb mb c n : Nat} {L : List UInt8} {C : List Ent} {t : Nat} {f : Int} {on : Bool} (h : DkAt w b lb mb c n L C t f on) :
    w.cell? ⟨b, 0, none⟩ = some (.slice (some ⟨lb, 0, none⟩) (n * 64) c) ∧ w.cell? ⟨b, 1, none⟩ = some (.map (some mb)) ∧ w.cell? ⟨b, 2, none⟩ = some (.int .i64 t) ∧ w.cell? ⟨b, 3, none⟩ = some (.int .i64 f) ∧ w.cell? ⟨b, 4, none⟩ = some (.bool on) := by
  rw [← h.len]
  exact ⟨h.box.cell 0, h.box.cell 1, h.box.cell 2, h.box.cell 3, h.box.cell 4⟩

theorem made_bytes (n : Nat) : (madeCells (Value.int .u8 0).cells (n * 1)).toList = byteVs (List.replicate n 0) := by
  rw [Nat.mul_one, show (Value.int .u8 0).cells = #[Value.int .u8 0] from rfl, toList_madeCells_one]
  simp [byteVs]


set_option maxHeartbeats 400000 in
theorem new_calls (n : Nat) (w : World) (h1 : 1 ≤ n) (h2 : n ≤ 65536) :
    Calls Try.prog 5 #[.int .i64 n] w fun e w' => ∃ b lb mb, e = .returned (.tuple #[.pointer (some ⟨b, 0, none⟩), .int .i64 0]) ∧
      DkAt w' b lb mb (n * 64) n (List.replicate (n * 64) 0) [] 0 (-1) true ∧ (w.heap.size ≤ b ∧ w.heap.size ≤ lb ∧ w.heap.size ≤ mb) ∧ Touch (fun _ => False) w w' := by
  obtain ⟨i0, hi, hz0, hz1, hz2⟩ := info_parts Try.infoB
  have hmm := @run_makeMap Try.prog
  have d1 : decide ((n : Int) < 1) = false := decide_eq_false (by omega)
  have d2 : decide ((65536 : Int) < (n : Int)) = false := decide_eq_false (by omega)
  have e1 : (n : Int) * 64 = ((n * 64 : Nat) : Int) := by omega
  obtain ⟨q, hq⟩ : ∃ q, q = n * 64 := ⟨_, rfl⟩
  rw [← hq] at e1 ⊢
  have hq2 : q ≤ 4194304 := by omega
  have HQ := Lib.hid hq
  clear hq
  go_enter Try.func5, Try.ntmps5
  go_wp2_with (at_make; refine wpList_make_full _ rfl (.tmp 11) (.tmp 11) 53 rfl w.heap.size 5 i0 _ 1 Try.underlying53 hi hz0 hz1 .i64 .i64 _ _ q rfl rfl rfl rfl (by rw [hz2]; omega) (by unfold maxLen; omega) (Nat.le_refl _) ?_; intro w2 hown hgrow; rw [made_bytes] at hown)
  go_ret2
  have hrow := Row.of_own hown
  have hlt := hrow.lt w.heap.size rfl
  have hT2 := (Touch.refl (fun _ => False) w).grown hgrow (fun k h => by cases h)
  have hTa := (Touch.refl (fun _ => False) w2).alloc (.map #[] 0)
  have hTb := (Touch.refl (fun _ => False) (w2.alloc (.map #[] 0))).alloc (.cells #[.slice (some ⟨w.heap.size, 0, none⟩) q q, .map (some w2.heap.size), .int .i64 0, .int .i64 (-1), .bool true] 56)
  have hbx := Block.new (w2.alloc (.map #[] 0)) 56 [.slice (some ⟨w.heap.size, 0, none⟩) q q, .map (some w2.heap.size), .int .i64 0, .int .i64 (-1), .bool true]
  have hms := (MapAt.made w2).kept hTb id
  have hrl : (List.replicate q (0 : UInt8)).length = q := List.length_replicate
  have hsz : (w2.alloc (.map #[] 0)).heap.size = w2.heap.size + 1 := by simp
  rw [hsz] at hbx
  refine ⟨w2.heap.size + 1, w.heap.size, w2.heap.size, rfl, ⟨by rw [hrl]; exact hbx, by rw [hrl]; exact (hrow.kept hTa (fun _ _ => id)).kept hTb (fun _ _ => id), hms, by omega, by rw [hrl, HQ.out], h1, h2, (fun e he => (by cases he)), by omega, by omega, by omega⟩, by omega, (hT2.trans hTa).trans hTb⟩

theorem new_bad (n : Int) (w : World) (h : n < 1 ∨ 65536 < n) : Calls Try.prog 5 #[.int .i64 n] w fun e w' => e = .returned (.tuple #[.pointer none, .int .i64 1]) ∧ w = w' := by
  by_cases h1 : n < 1
  · go_enter Try.func5, Try.ntmps5
    go_wp2
    go_ret2
    exact ⟨rfl, rfl⟩
  · have h2 : 65536 < n := by omega
    have d1 : decide (n < 1) = false := decide_eq_false (by omega)
    go_enter Try.func5, Try.ntmps5
    go_wp2
    go_ret2
    exact ⟨rfl, rfl⟩

theorem sectors_nil (w : World) : Calls Try.prog 20 #[.pointer none] w fun e w' => e = .returned (.int .i64 0) ∧ w = w' := by
  go_enter Try.func20, Try.ntmps20
  go_wp2
  go_ret
  exact ⟨rfl, rfl⟩
theorem sectors_calls {w : World} {b lb mb c n : Nat} {L : List UInt8} {C : List Ent} {t : Nat} {f : Int} {on : Bool} (h : DkAt w b lb mb c n L C t f on) :
    Calls Try.prog 20 #[.pointer (some ⟨b, 0, none⟩)] w fun e w' => e = .returned (.int .i64 n) ∧ w = w' := by
  obtain ⟨c0, _⟩ := h.cells
  have hn := h.n2
  have e1 : ((n * 64 : Nat) : Int) / 64 = n := by omega
  obtain ⟨q, hq⟩ : ∃ q, q = n * 64 := ⟨_, rfl⟩
  rw [← hq] at c0 e1
  have hq2 : q ≤ 4194304 := by omega
  have HQ := Lib.hid hq
  clear hq
  go_enter Try.func20, Try.ntmps20
  go_wp2
  go_ret
  exact ⟨rfl, rfl⟩

theorem on_nil (w : World) : Calls Try.prog 17 #[.pointer none] w fun e w' => e = .returned (.bool false) ∧ w = w' := by
  go_enter Try.func17, Try.ntmps17
  go_wp2
  go_ret
  exact ⟨rfl, rfl⟩
theorem on_calls {w : World} {b lb mb c n : Nat} {L : List UInt8} {C : List Ent} {t : Nat} {f : Int} {on : Bool} (h : DkAt w b lb mb c n L C t f on) :
    Calls Try.prog 17 #[.pointer (some ⟨b, 0, none⟩)] w fun e w' => e = .returned (.bool on) ∧ w = w' := by
  obtain ⟨c0, c1, c2, c3, c4⟩ := h.cells
  go_enter Try.func17, Try.ntmps17
  go_wp2
  go_ret
  exact ⟨rfl, rfl⟩

theorem start_nil (w : World) : Calls Try.prog 10 #[.pointer none] w fun e w' => e = .returned (.tuple #[]) ∧ w = w' := by
  go_enter Try.func10, Try.ntmps10
  go_wp2
  go_end0; exact ⟨rfl, rfl⟩
theorem DkAt.setOn {w : World} {b lb mb c n : Nat} {L : List UInt8} {C : List Ent} {t : Nat} {f : Int} {on : Bool} (h : DkAt w b lb mb c n L C t f on) (on' : Bool) : DkAt (w.setCell ⟨b, 4, none⟩ (.bool on')) b lb mb c n L C t f on' := by
  have hT : Touch (fun k => k = b) w (w.setCell ⟨b, 4, none⟩ (.bool on')) := (Touch.refl (fun k => k = b) w).setCell (p := ⟨b, 4, none⟩) (Or.inl rfl) _
  exact { h with box := h.box.set 4 _, row := h.row.kept hT (fun g hg => by simp [Value.ownBlock] at hg; subst hg; exact h.ne), map := h.map.kept hT h.mne.1 }
theorem DkAt.setF {w : World} {b lb mb c n : Nat} {L : List UInt8} {C : List Ent} {t : Nat} {f : Int} {on : Bool} (h : DkAt w b lb mb c n L C t f on) (f' : Int) (h1 : -1 ≤ f') (h2 : f' ≤ 9223372036854775807) : DkAt (w.setCell ⟨b, 3, none⟩ (.int .i64 f')) b lb mb c n L C t f' on := by
  have hT : Touch (fun k => k = b) w (w.setCell ⟨b, 3, none⟩ (.int .i64 f')) := (Touch.refl (fun k => k = b) w).setCell (p := ⟨b, 3, none⟩) (Or.inl rfl) _
  exact { h with box := h.box.set 3 _, row := h.row.kept hT (fun g hg => by simp [Value.ownBlock] at hg; subst hg; exact h.ne), map := h.map.kept hT h.mne.1, f1 := h1, f2 := h2 }
theorem start_calls {w : World} {b lb mb c n : Nat} {L : List UInt8} {C : List Ent} {t : Nat} {f : Int} {on : Bool} (h : DkAt w b lb mb c n L C t f on) :
    Calls Try.prog 10 #[.pointer (some ⟨b, 0, none⟩)] w fun e w' => e = .returned (.tuple #[]) ∧ DkAt w' b lb mb c n L C t f true ∧ Touch (fun k => k = b) w w' := by
  have c4 := h.cells.2.2.2.2
  have f4 := h.box.free 4
  go_enter Try.func10, Try.ntmps10
  go_wp2
  go_end0
  exact ⟨rfl, h.setOn true, (Touch.refl (fun k => k = b) w).setCell (p := ⟨b, 4, none⟩) (Or.inl rfl) _⟩
theorem image_nil (w : World) : Calls Try.prog 15 #[.pointer none] w fun e w' => e = .returned (.string ⟨#[]⟩) ∧ w = w' := by
  go_enter Try.func15, Try.ntmps15
  go_wp2
  go_ret
  exact ⟨rfl, rfl⟩
theorem image_calls {w : World} {b lb mb c n : Nat} {L : List UInt8} {C : List Ent} {t : Nat} {f : Int} {on : Bool} (h : DkAt w b lb mb c n L C t f on) :
    Calls Try.prog 15 #[.pointer (some ⟨b, 0, none⟩)] w fun e w' => e = .returned (.string ⟨L.toArray⟩) ∧ w = w' := by
  have c0 := h.cells.1
  have hrun : ∀ ty, _ := fun (ty : Unit) => run_bytes_row (P := Try.prog) w 53 5 9 Try.underlying53 Try.underlying5 Try.underlying9 h.row
  have hrun := hrun ()
  rw [h.len] at hrun
  go_enter Try.func15, Try.ntmps15
  go_wp2
  go_ret
  exact ⟨rfl, rfl⟩

/-- The slice of a sector. -/
def secS (lb c i : Nat) : Value := .slice (some ⟨lb, i * 64, none⟩) 64 (c - i * 64)
set_option maxHeartbeats 400000 in
theorem sector_calls {w : World} {b lb mb c n : Nat} {L : List UInt8} {C : List Ent} {t : Nat} {f : Int} {on : Bool} (h : DkAt w b lb mb c n L C t f on) (i : Nat) (hi : i < n) :
    Calls Try.prog 22 #[.pointer (some ⟨b, 0, none⟩), .int .i64 i] w fun e w' => e = .returned (secS lb c i) ∧ w = w' := by
  have c0 := h.cells.1
  have hn := h.n2
  obtain ⟨hc1, hc2⟩ := h.cap
  unfold maxLen at hc2
  have e1 : (i : Int) * 64 = ((i * 64 : Nat) : Int) := by omega
  unfold secS
  obtain ⟨q, hq⟩ : ∃ q, q = n * 64 := ⟨_, rfl⟩
  obtain ⟨p, hp⟩ : ∃ p, p = i * 64 := ⟨_, rfl⟩
  rw [← hq] at c0 hc1
  rw [← hp] at e1 ⊢
  have hq2 : q ≤ 4194304 := by omega
  have hpq : p + 64 ≤ q := by omega
  have hpq2 : p + 64 ≤ c := by omega
  have hcp : c ≠ p := by omega
  have hpq3 : (p : Int) + 64 ≤ (c : Int) := by omega
  have hpq4 : 64 ≤ c - p := by omega
  have HQ := Lib.hid hq
  have HP := Lib.hid hp
  clear hq hp
  go_enter Try.func22, Try.ntmps22
  go_wp2
  go_ret
  exact ⟨rfl, rfl⟩

end Go.Proofs.Ytjjpknmjkhaahaa
