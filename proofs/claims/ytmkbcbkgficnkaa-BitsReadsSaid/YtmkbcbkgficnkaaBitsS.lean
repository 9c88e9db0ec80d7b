/- Contract of the statements' first lines of layer 1 over the translated program: a Writer and a Reader of a few bits. -/
import Derived.Test.YtmkbcbkgficnkaaBitsF
namespace Go.Proofs.Ytmkbcbkgficnkaa
open Go Go.RowKit

theorem WrAt.new (w : World) : WrAt (w.alloc (.cells #[.slice none 0 0, .int .u64 0, .int .i64 0] 27)) w.heap.size 0 [] none := by
  have h := heap_alloc_new w (.cells #[.slice none 0 0, .int .u64 0, .int .i64 0] 27)
  refine ⟨[], 0, 0, .slice none 0 0, ⟨⟨?_, ?_, ?_, ?_, ?_, ?_⟩, Row.nil _ _, by simp [Value.ownBlock]⟩, rfl, by decide, by decide, rfl⟩
  all_goals first
    | (rw [cell_of_row _ _ _ _ _ _ h]; rfl)
    | (simp only [World.frozen?, h]; rfl)

theorem RdAt.new (w : World) : RdAt (w.alloc (.cells #[.slice none 0 0, .int .i64 0] 40)) w.heap.size 0 [] none := by
  have h := heap_alloc_new w (.cells #[.slice none 0 0, .int .i64 0] 40)
  refine ⟨[], 0, .slice none 0 0, ⟨?_, ?_, ?_, ?_⟩, Row.nil _ _, by simp [Value.ownBlock], rfl, by decide, by decide, rfl⟩
  all_goals first
    | (rw [cell_of_row _ _ _ _ _ _ h]; rfl)
    | (simp only [World.frozen?, h]; rfl)

theorem WrAt.lt {w : World} {b o : Nat} {l : List Nat} {row : Option Nat} (h : WrAt w b o l row) : b < w.heap.size := by
  obtain ⟨_, _, _, _, h, _⟩ := h
  exact h.cells.lt
theorem RdAt.lt {w : World} {b o : Nat} {l : List Nat} {row : Option Nat} (h : RdAt w b o l row) : b < w.heap.size := by
  obtain ⟨_, _, _, h, _⟩ := h
  exact h.lt

/-- The step behind a call that may write a fresh object and its row alone. -/
theorem fresh_step {w a c : World} {k0 : Nat} {row : Option Nat} (ht : Touch (fun _ => False) w a) (h0 : w.heap.size ≤ k0) (hr : Sep w.heap.size none row) (h : Touch (fun k => k = k0 ∨ row = some k) a c) : Touch (fun _ => False) w c :=
  ht.trans' h (fun i hi => by
    rcases hi with rfl | hi
    · exact .inr h0
    · rcases hr with hr | ⟨g, hr, hg⟩
      · rw [hr] at hi; cases hi
      · rw [hr] at hi; injection hi with hi; right; omega)
theorem fresh_step1 {w a c : World} {k0 : Nat} (ht : Touch (fun _ => False) w a) (h0 : w.heap.size ≤ k0) (h : Touch (fun k => k = k0) a c) : Touch (fun _ => False) w c :=
  ht.trans' h (fun i hi => by subst hi; exact .inr h0)

/-- A Writer that came since w, its row too; nothing that was in w has been written. -/
structure FrW (w wr : World) (b : Nat) (l : List Nat) (row : Option Nat) : Prop where
  at_ : WrAt wr b 0 l row
  fresh : w.heap.size ≤ b
  sep : Sep w.heap.size none row
  touch : Touch (fun _ => False) w wr
structure FrR (w wr : World) (b : Nat) (l : List Nat) (row : Option Nat) : Prop where
  at_ : RdAt wr b 0 l row
  fresh : w.heap.size ≤ b
  sep : Sep w.heap.size none row
  touch : Touch (fun _ => False) w wr

theorem FrW.new (w : World) : FrW w (w.alloc (.cells #[.slice none 0 0, .int .u64 0, .int .i64 0] 27)) w.heap.size [] none :=
  ⟨WrAt.new w, Nat.le_refl _, .inl rfl, (Touch.refl _ _).alloc _⟩
theorem FrR.new (w : World) : FrR w (w.alloc (.cells #[.slice none 0 0, .int .i64 0] 40)) w.heap.size [] none :=
  ⟨RdAt.new w, Nat.le_refl _, .inl rfl, (Touch.refl _ _).alloc _⟩
theorem FrW.step {w wr w' : World} {b : Nat} {l l' : List Nat} {row row' : Option Nat} (h : FrW w wr b l row) (h1 : WrAt w' b 0 l' row') (h2 : Sep wr.heap.size row row') (h3 : Touch (fun k => k = b ∨ row = some k) wr w') : FrW w w' b l' row' :=
  ⟨h1, h.fresh, h.sep.trans h2 h.touch.size, fresh_step h.touch h.fresh h.sep h3⟩
theorem FrR.step {w wr w' : World} {b : Nat} {l l' : List Nat} {row row' : Option Nat} (h : FrR w wr b l row) (h1 : RdAt w' b 0 l' row') (h2 : Sep wr.heap.size row row') (h3 : Touch (fun k => k = b ∨ row = some k) wr w') : FrR w w' b l' row' :=
  ⟨h1, h.fresh, h.sep.trans h2 h.touch.size, fresh_step h.touch h.fresh h.sep h3⟩
theorem FrR.step1 {w wr w' : World} {b : Nat} {l l' : List Nat} {row : Option Nat} (h : FrR w wr b l row) (h1 : RdAt w' b 0 l' row) (h3 : Touch (fun k => k = b) wr w') : FrR w w' b l' row :=
  ⟨h1, h.fresh, h.sep, fresh_step1 h.touch h.fresh h3⟩
theorem FrW.kept {w wr w' : World} {b : Nat} {l : List Nat} {row : Option Nat} (h : FrW w wr b l row) (h3 : Touch (fun _ => False) wr w') : FrW w w' b l row :=
  ⟨h.at_.kept h3 id (fun _ _ => id), h.fresh, h.sep, h.touch.trans h3⟩
theorem FrR.kept {w wr w' : World} {b : Nat} {l : List Nat} {row : Option Nat} (h : FrR w wr b l row) (h3 : Touch (fun _ => False) wr w') : FrR w w' b l row :=
  ⟨h.at_.kept h3 id (fun _ _ => id), h.fresh, h.sep, h.touch.trans h3⟩
theorem Sep.far {n g k : Nat} {row : Option Nat} (h : Sep n none row) (hr : row = some g) (hk : k < n) : g ≠ k := by
  rcases h with h | ⟨g', h, hg⟩
  · rw [h] at hr; cases hr
  · rw [h] at hr; injection hr with hr; omega

set_option maxHeartbeats 800000 in
theorem speaks_calls (w : World) : Calls Try.prog 7 #[] w fun e w' => e = .returned (.bool true) ∧ Touch (fun _ => False) w w' := by
  have hput := fun (W : World) => put_small 258 2 W (by decide) (by decide)
  rw [show leB 2 258 = [2, 1] by decide] at hput
  go_enter Try.func7, Try.ntmps7
  go_wp2_with fail
  have hw0 := FrW.new w
  refine (write_calls w.heap.size 0 5 3 [] none _ hw0.at_ (by decide) (by decide) (by decide) (by decide)).mono ?_
  rintro e w1 ⟨rfl, row1, hw1, hs1, ht1⟩
  have hw1 := hw0.step hw1 hs1 ht1
  clear hw0 hs1 ht1
  go_wp2_with fail
  refine (write_calls w.heap.size 0 1 1 _ row1 _ hw1.at_ (by decide) (by decide) (by decide) (by decide)).mono ?_
  rintro e w2 ⟨rfl, row2, hw2, hs2, ht2⟩
  have hw2 := hw1.step hw2 hs2 ht2
  clear hw1 hs2 ht2
  go_wp2_with fail
  refine (walign_calls w.heap.size 0 _ row2 _ hw2.at_ (by decide)).mono ?_
  rintro e w3 ⟨rfl, row3, hw3, hs3, ht3⟩
  have hw3 := hw2.step hw3 hs3 ht3
  clear hw2 hs3 ht3
  rw [show ((([] : List Nat) ++ bitsN 3 5 ++ bitsN 1 1) ++ List.replicate (padN (([] : List Nat) ++ bitsN 3 5 ++ bitsN 1 1).length) 0) = [1, 0, 1, 1, 0, 0, 0, 0] by decide] at hw3
  have hb3 := hw3.at_.lt
  generalize hB : w.heap.size = B at hw3 hb3
  have HB := Lib.hid hB
  clear hB
  go_wp2_with fail
  have hr0 := FrR.new w3
  refine (feed_calls w3.heap.size 0 ⟨#[13]⟩ [] none _ hr0.at_ (by decide)).mono ?_
  rintro e w4 ⟨rfl, row4, hr4, hs4, ht4⟩
  have hr4 := hr0.step hr4 hs4 ht4
  clear hr0 hs4 ht4
  rw [show (([] : List Nat) ++ bitsL (⟨#[13]⟩ : ByteArray).data.toList) = [1, 0, 1, 1, 0, 0, 0, 0] by decide] at hr4
  go_wp2_with fail
  refine (read_some w3.heap.size 0 3 _ row4 _ hr4.at_ (by decide) (by decide) (by decide)).mono ?_
  rintro e w5 ⟨rfl, hr5, ht5⟩
  have hr5 := hr4.step1 hr5 ht5
  clear hr4 ht5
  rw [show numN (List.take 3 [1, 0, 1, 1, 0, 0, 0, 0]) = 5 by decide]
  rw [show List.drop 3 [1, 0, 1, 1, 0, 0, 0, 0] = [1, 0, 0, 0, 0] by decide] at hr5
  have hw5 := hw3.kept hr5.touch
  clear hw3
  go_wp2_with fail
  refine (wlen_calls B 0 _ row3 _ hw5.at_ (by decide)).mono ?_
  rintro e w6 ⟨rfl, rfl⟩
  have hw6 := hw5.kept ((Touch.refl _ _).drew)
  have hr6 := hr5.kept ((Touch.refl _ _).drew)
  clear hw5 hr5
  go_wp2_with fail
  refine (drain_calls B 0 _ row3 _ hw6.at_).mono ?_
  rintro e w7 ⟨rfl, hw7, ht7⟩
  have hr7 := hr6.at_.kept ht7 (by have := hr6.fresh; omega) (fun g hg => hr6.sep.far hg hb3)
  have hT7 := fresh_step1 hw6.touch hw6.fresh ht7
  rw [show bytesL [1, 0, 1, 1, 0, 0, 0, 0] = [13] by decide]
  clear hw7 ht7 hw6 hr6
  go_wp2_with fail
  refine (left_calls w3.heap.size 0 _ row4 _ hr7 (by decide)).mono ?_
  rintro e w8 ⟨rfl, rfl⟩
  go_wp2_with fail
  refine (hput _).mono ?_
  rintro e w9 ⟨rfl, ht9⟩
  go_wp2_with fail
  go_ret
  exact ⟨rfl, hT7.drew.trans ht9⟩
end Go.Proofs.Ytmkbcbkgficnkaa
