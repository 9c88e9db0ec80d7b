/- Plain facts on joined texts; the builder; what stands first in a joined text. -/
import Derived.Test.YtmjahbdengnoeaaDgI
import Derived.Test.YtmjahbdengnoeaaDgWr
import Derived.Shelf.Strings.BuilderF
namespace Go.Proofs.Ytmjahbdengnoeaa
open Go Go.RowKit Go.Maps Go.Shelf
set_option maxRecDepth 100000

/-- Texts joined: of each how many bytes it has, and the bytes. -/
def joinL (l : List ByteArray) : List UInt8 := l.flatMap fun s => leB 2 s.size ++ s.data.toList
def smallL (l : List ByteArray) : Prop := ∀ s ∈ l, s.size < 65536
theorem joinL_cons (a : ByteArray) (l : List ByteArray) : joinL (a :: l) = leB 2 a.size ++ (a.data.toList ++ joinL l) := by
  unfold joinL; rw [List.flatMap_cons, List.append_assoc]
theorem joinL_append (a b : List ByteArray) : joinL (a ++ b) = joinL a ++ joinL b := by
  unfold joinL; rw [List.flatMap_append]
theorem joinL_one (a : ByteArray) : joinL [a] = leB 2 a.size ++ a.data.toList := by
  rw [joinL_cons]; unfold joinL; simp
theorem head_same {a b : ByteArray} {X Y : List UInt8} (ha : a.size < 65536) (hb : b.size < 65536) (h : leB 2 a.size ++ (a.data.toList ++ X) = leB 2 b.size ++ (b.data.toList ++ Y)) : a = b ∧ X = Y := by
  obtain ⟨h1, h2⟩ := List.append_inj h (by rw [leB_length, leB_length])
  have h3 := congrArg getN h1
  rw [getN_leB, getN_leB, Nat.mod_eq_of_lt (show a.size < 256 ^ 2 by omega), Nat.mod_eq_of_lt (show b.size < 256 ^ 2 by omega)] at h3
  obtain ⟨h4, h5⟩ := List.append_inj h2 (by rw [Array.length_toList, Array.length_toList]; exact h3)
  exact ⟨ByteArray.ext (Array.toList_inj.1 h4), h5⟩
theorem join_prefix : ∀ (ls ls' : List ByteArray) (R : List UInt8), smallL ls → smallL ls' → joinL ls' = joinL ls ++ R → ∃ t, ls' = ls ++ t ∧ R = joinL t
  | [], ls', R, _, _, h => ⟨ls', rfl, by rw [h]; rfl⟩
  | a :: r, ls', R, hs, hs', h => by
    cases ls' with
    | nil =>
      have := congrArg List.length h
      rw [joinL_cons, List.append_assoc, List.length_append, leB_length] at this
      simp [joinL] at this
      omega
    | cons b r' =>
      rw [joinL_cons, joinL_cons, List.append_assoc, List.append_assoc] at h
      obtain ⟨h1, h2⟩ := head_same (hs' b List.mem_cons_self) (hs a List.mem_cons_self) h
      obtain ⟨t, h3, h4⟩ := join_prefix r r' R (fun s hx => hs s (List.mem_cons_of_mem _ hx)) (fun s hx => hs' s (List.mem_cons_of_mem _ hx)) h2
      exact ⟨t, by rw [h1, h3]; rfl, h4⟩
theorem join_inj {ls ls' : List ByteArray} (h : smallL ls) (h' : smallL ls') (he : joinL ls' = joinL ls) : ls' = ls := by
  obtain ⟨t, h1, h2⟩ := join_prefix ls ls' [] h h' (by rw [he, List.append_nil])
  cases t with
  | nil => rw [h1, List.append_nil]
  | cons a r =>
    have := congrArg List.length h2
    rw [joinL_cons, List.length_append, leB_length] at this
    simp at this
    omega

theorem Try.dgStr2 : Go.Proofs.Lays.n169 Try.prog Try.dgWrite_ren := { Try.dgWrite with
  f169 := Try.func40.trans (congrArg some (by kernel_rfl))
  t127 := Try.underlying86
  a127 := Try.isAgg86
  z127 := Try.sizeOf86
  v127 := Try.zeroValue86 }
theorem Try.dgExtra : Builder.Extra Try.prog Try.dgWrite_ren where
  sizeBuilder := by kernel_rfl
  liesBuilder := by kernel_rfl
  t5 := Try.underlying5
  a5 := Try.isAgg5
  z5 := Try.sizeOf5
  v5 := Try.zeroValue5
  infoByte := by kernel_rfl
  cellsByte := by kernel_rfl
  sizeByte := by kernel_rfl
  neB5 := by decide

/-- A builder of one's own, with these bytes. -/
def BlAt (w : World) (B b : Nat) (l : List UInt8) : Prop := Lib.IsBuilderF 70 5 B b (Lib.byteCells l) w
theorem bwrite_calls {w : World} {B b : Nat} {l : List UInt8} (h : BlAt w B b l) (s : ByteArray) (hl : l.length + s.size ≤ 100000000) (hB : B ≤ w.heap.size) :
    Calls Try.prog 38 #[.pointer (some ⟨b, 0, none⟩), .string s] w fun e w' => e = .returned (.tuple #[.int .i64 s.size, .nilIface]) ∧ BlAt w' B b (l ++ s.data.toList) ∧ Below B w w' := by
  refine (Any.Builder_WriteString_f Try.dgWrite Try.dgExtra B b (Lib.byteCells l) s w h (by simp [Lib.byteCells]; omega) hB).mono ?_
  rintro e w' ⟨he, hb, hB⟩
  refine ⟨he, .inr ?_, hB⟩
  rw [show Lib.byteCells (l ++ s.data.toList) = Lib.byteCells l ++ Lib.strCells s by simp [Lib.byteCells, Lib.strCells]]
  exact hb
theorem bstring_calls {w : World} {B b : Nat} {l : List UInt8} (h : BlAt w B b l) (hB : B ≤ w.heap.size) :
    Calls Try.prog 40 #[.pointer (some ⟨b, 0, none⟩)] w fun e w' => e = .returned (.string ⟨l.toArray⟩) ∧ Below B w w' :=
  (Any.Builder_String_any_f Try.dgStr2 Try.dgExtra B b l w h hB).mono fun _ _ ⟨he, _, hB⟩ => ⟨he, hB⟩
theorem BlAt.still {w w' : World} {B b : Nat} {l : List UInt8} (h : BlAt w B b l) (hT : Touch (fun _ => False) w w') : BlAt w' B b l := by
  have key : ∀ p, Lib.BuilderAtF 70 5 B b p (Lib.byteCells l) w → Lib.BuilderAtF 70 5 B b p (Lib.byteCells l) w' := by
    rintro p ⟨hB, v, hb, ⟨h1, h2⟩, hne⟩
    have hbl : b < w.heap.size := (Array.getElem?_eq_some_iff.1 hb).1
    refine ⟨hB, v, (hT.block b hbl id).trans hb, ⟨h1, ?_⟩, hne⟩
    rcases h2 with h2 | ⟨g, cap, cur, fz, hv, hBg, hg, r1, r2, r3, r4, r5⟩
    · exact .inl h2
    · have hgl : g < w.heap.size := (Array.getElem?_eq_some_iff.1 hg).1
      exact .inr ⟨g, cap, cur, fz, hv, hBg, (hT.block g hgl id).trans hg, r1, r2, r3, r4, r5⟩
  rcases h with h | h
  · exact .inl (key _ h)
  · exact .inr (key _ h)
theorem BlAt.fresh (w : World) : BlAt (w.alloc (.cells #[.pointer none, .slice none 0 0] 70)) w.heap.size w.heap.size [] :=
  .inl ⟨Nat.le_refl _, .slice none 0 0, (Array.getElem?_push_size ..), World.ownsRowF_nil _ _ _ _, by simp [Value.ownBlock]⟩
theorem dgBelow {B : Nat} {w w' : World} (h : Below B w w') : Touch (fun k => B ≤ k) w w' := ⟨h.os, h.tape, h.output, h.size, fun k hk hn => h.block k (by omega)⟩

set_option maxHeartbeats 2000000 in
/-- What stands first in a joined text. -/
theorem first_calls (S : ByteArray) (hS : S.size ≤ 1000000) (w : World) : Calls Try.prog 41 #[.string S] w fun e w' => (S.size < 2 ∨ S.size < 2 + rd S 0 2) ∧ e = .returned (.tuple #[.string ⟨#[]⟩, .string ⟨#[]⟩, .bool false]) ∧ Touch (fun _ => False) w w' ∨
    (2 + rd S 0 2 ≤ S.size ∧ e = .returned (.tuple #[.string (S.extract 2 (2 + rd S 0 2)), .string (S.extract (2 + rd S 0 2) S.size), .bool true]) ∧ Touch (fun _ => False) w w') := by
  by_cases h2 : S.size < 2
  · have hI : (S.size : Int) < 2 := by omega
    go_enter Try.func41, Try.ntmps41
    go_wp2_with fail
    go_ret3
    exact .inl ⟨.inl h2, rfl, Touch.refl _ _⟩
  · have hlt := rd_lt S 0 2
    have hG := Lib.hid (fun W => (get_ex S 0 2 ▸ get_small (S.extract 0 2) W (by simp; omega) : Calls Try.prog 49 #[.string (S.extract 0 2)] W fun e w' => e = .returned (.int .u64 (rd S 0 2 : Nat)) ∧ W = w'))
    obtain ⟨m, hm⟩ : ∃ m, rd S 0 2 = m := ⟨_, rfl⟩
    rw [hm] at hlt hG ⊢
    obtain ⟨X, hX⟩ : ∃ X, S.extract 0 2 = X := ⟨_, rfl⟩
    rw [hX] at hG
    have hI : (2 : Int) ≤ (S.size : Int) := by omega
    have hm2 : m < 65536 := by simpa using hlt
    have hwm : IntKind.i64.wrap (m : Int) = (m : Int) := by rw [IntKind.wrap_i64]; omega
    clear hlt h2 hm
    by_cases h3 : S.size < 2 + m
    · have hJ : (S.size : Int) < 2 + (m : Int) := by omega
      go_enter Try.func41, Try.ntmps41
      go_wp2_with fail
      refine (hG.out _).mono ?_
      rintro e w1 ⟨rfl, rfl⟩
      go_wp2_with fail
      go_ret3
      exact .inl ⟨.inr h3, rfl, Touch.refl _ _⟩
    · have hJ : (2 : Int) + (m : Int) ≤ (S.size : Int) := by omega
      have hJ2 : 2 + m ≤ S.size := by omega
      obtain ⟨k, hk⟩ : ∃ k, 2 + m = k := ⟨_, rfl⟩
      have hkI : (2 : Int) + (m : Int) = (k : Int) := by omega
      have hk2 : (2 : Int) ≤ (k : Int) := by omega
      have hkS : (k : Int) ≤ (S.size : Int) := by omega
      have hnl : ¬ (S.size : Int) < (k : Int) := by omega
      rw [hk]
      have HK := Lib.hid hk
      clear h3 hJ hk
      go_enter Try.func41, Try.ntmps41
      go_wp2_with fail
      refine (hG.out _).mono ?_
      rintro e w1 ⟨rfl, rfl⟩
      go_wp2_with fail
      go_quiet (fail)
      go_wp2_with fail
      go_ret3
      exact .inr ⟨by omega, rfl, (Touch.refl _ _).drewN _⟩
end Go.Proofs.Ytmjahbdengnoeaa
