
/- Contracts of package send, first part: what serial gives; a set of numbers as a function; a window in memory; New, Base, Done, Forget. -/
import Derived.Test.YtimiiahhedpfaaaRows
import Derived.Test.YtimiiahhedpfaaaNum
import Derived.Test.YtimiiahhedpfaaaMem
import Derived.Test.YtimiiahhedpfaaaArr
import Derived.Test.YtimiiahhedpfaaaDosQ
import Derived.WalkSpells
import Derived.OwnWalk
import Derived.WalkLawsBesides
import Derived.Lib.Hide
import Derived.Laws.BitsAllLaws
import Derived.Laws.Rows
import Derived.Laws.ResultCell
import Derived.RegionTactic
import Derived.BigRegion
import Derived.BigQuiet
import Derived.StillTailTactics
import Derived.Deep.QuietTactic
import Derived.Deep.RegionHeld3
import Derived.Deep.RegionLaw
import Derived.Maps.OwnSet
import Derived.Maps.Ext
import Derived.Maps.RangeWalk
import Derived.ChangeMaps
namespace Go.Proofs.Ytimiiahhedpfaaa
open Go Go.RowKit Go.Maps Go.MapKept Go.ChangeMaps
set_option maxRecDepth 100000

theorem zret_bool {a b : Bool} (h : a = b) : Ending.returned (.bool a) = .returned (.bool b) := by rw [h]
theorem zret_int {k : IntKind} {a b : Int} (h : a = b) : Ending.returned (.int k a) = .returned (.int k b) := by rw [h]

/-- From one number to another one; is it one of so many? -/
def gapZ (a b : Nat) : Int := if ((b : Int) - a) % 4294967296 < 2147483648 then ((b : Int) - a) % 4294967296 else ((b : Int) - a) % 4294967296 - 4294967296
def inS (a b : Nat) (n : Int) : Bool := decide (((a : Int) - b) % 4294967296 < n)
set_option maxHeartbeats 1000000 in
theorem sgap_calls (a b : Nat) (_ha : a < 4294967296) (_hb : b < 4294967296) (w : World) : Calls Try.prog 46 #[.int .u32 (a : Nat), .int .u32 (b : Nat)] w fun e w' => e = .returned (.int .i64 (gapZ a b)) ∧ w = w' := by
  go_enter Try.func46, Try.ntmps46
  go_wp2
  all_goals
    go_ret
    refine ⟨zret_int ?_, rfl⟩
    unfold gapZ
    unfold wrap64 wrap32
    split <;> omega
set_option maxHeartbeats 1000000 in
theorem sin_calls (a b : Nat) (n : Int) (_ha : a < 4294967296) (_hb : b < 4294967296) (hn : n ≤ 9223372036854775807) (w : World) : Calls Try.prog 36 #[.int .u32 (a : Nat), .int .u32 (b : Nat), .int .i64 n] w fun e w' => e = .returned (.bool (inS a b n)) ∧ w = w' := by
  go_enter Try.func36, Try.ntmps36
  go_wp2
  all_goals
    go_ret
    refine ⟨zret_bool ?_, rfl⟩
    unfold inS
    first
      | rfl
      | (simp; omega)
      | (rw [Bool.eq_iff_iff]; simp; omega)

/-- The number of a place. -/
def numU (f i : Nat) : Nat := (f + i) % 4294967296
theorem numU_lt (f i : Nat) : numU f i < 4294967296 := Nat.mod_lt _ (by decide)
theorem numU_inj {f i j : Nat} (hi : i < 2147483648) (hj : j < 2147483648) (h : numU f i = numU f j) : i = j := by unfold numU at h; omega
theorem numU_at (f b u : Nat) (hu : u < 4294967296) : ∃ d, d < 4294967296 ∧ u = numU f (b + d) := by
  refine ⟨(u + 2 * 4294967296 - (f + b) % 4294967296) % 4294967296, Nat.mod_lt _ (by decide), ?_⟩
  unfold numU; omega
theorem inS_num (f b d : Nat) (hd : d < 4294967296) (n : Int) : inS (numU f (b + d)) (numU f b) n = decide ((d : Int) < n) := by
  unfold inS numU
  have e : ((((f + (b + d)) % 4294967296 : Nat) : Int) - (((f + b) % 4294967296 : Nat) : Int)) % 4294967296 = (d : Int) := by omega
  rw [e]
theorem gap_num (f b d : Nat) (hd : d < 2147483648) : gapZ (numU f b) (numU f (b + d)) = d := by
  have e : (((numU f (b + d) : Nat) : Int) - (numU f b : Nat)) % 4294967296 = d := by unfold numU; omega
  unfold gapZ
  rw [e, if_pos (by omega)]

theorem wf_u32mk {n : Nat} (h : n < 4294967296) : (Lit.int .u32 (n : Int)).wf = true := by
  simp [Lit.wf, IntKind.min, IntKind.max, IntKind.signed, IntKind.bits]; omega
theorem Try.keyedU : Keyed Try.prog 22 := int_keyed Try.underlying22
theorem keyU {n : Nat} (h : n < 4294967296) : keyOf Try.prog 22 (.int .u32 (n : Int)) = some (.int .u32 (n : Int)) := keyOf_int_mk Try.underlying22 (wf_u32mk h)
theorem zeroS (w : World) : (zeroValue 85).run Try.prog w = .ok (.agg #[]) w := by kernel_rfl

/-- A set of numbers in a map's block, as a function. -/
def SetU (w : World) (mb n : Nat) (c : Nat → Bool) : Prop := ∃ D : DataW Unit, w.ownsMap Try.prog 22 unitElem mb n D ∧ ∀ x : Nat, Maps.has D (.int .u32 (x : Int)) = c x
theorem SetU.lt {w : World} {mb n : Nat} {c : Nat → Bool} (h : SetU w mb n c) : mb < w.heap.size := by
  obtain ⟨D, h, _⟩ := h; exact h.lt
theorem SetU.of_block {w w' : World} {mb n : Nat} {c : Nat → Bool} (h : SetU w mb n c) (hb : w'.heap[mb]? = w.heap[mb]?) : SetU w' mb n c := by
  obtain ⟨D, ⟨es, clock, h1, h2⟩, h3⟩ := h
  exact ⟨D, ⟨es, clock, hb.trans h1, h2⟩, h3⟩
theorem SetU.kept {S : Nat → Prop} {w w' : World} {mb n : Nat} {c : Nat → Bool} (h : SetU w mb n c) (ht : Touch S w w') (hn : ¬ S mb) : SetU w' mb n c := h.of_block (ht.block mb h.lt hn)
theorem SetU.mono {w : World} {mb n n' : Nat} {c : Nat → Bool} (h : SetU w mb n c) (hn : n ≤ n') : SetU w mb n' c := by
  obtain ⟨D, h, h'⟩ := h; exact ⟨D, h.mono hn, h'⟩
theorem SetU.look {w : World} {mb n : Nat} {c : Nat → Bool} (h : SetU w mb n c) (x : Nat) (hx : x < 4294967296) :
    (Instr.lookup 82 (.map (some mb)) (.int .u32 (x : Int)) true).run Try.prog w = .ok (.tuple #[.agg #[], .bool (c x)]) w := by
  obtain ⟨D, hown, hD⟩ := h
  obtain ⟨v, ps, hrun, hv⟩ := hown.look_ok Try.keyedU Try.underlying82 (zeroS w) (unitElem_mk) (keyU hx)
  obtain ⟨rfl, _⟩ := unitElem_inv hv
  rw [hrun, hD]
theorem SetU.store {w : World} {mb n : Nat} {c : Nat → Bool} (h : SetU w mb n c) (hn : n < maxLen) (x : Nat) (hx : x < 4294967296) :
    ∃ w', (Instr.mapUpdate 82 (.map (some mb)) (.int .u32 (x : Int)) (.agg #[])).run Try.prog w = .ok () w' ∧ SetU w' mb (n + 1) (fun y => if y = x then true else c y) ∧ w.grownBy w' (some mb) := by
  obtain ⟨D, hown, hD⟩ := h
  have ht := hown.tidy Try.keyedU
  obtain ⟨w', h1, h2, h3⟩ := hown.store Try.keyedU Try.underlying82 hn (keyU hx) unitElem_mk
  have hk : WideAt.IsKeyLit (.int .u32 (x : Int)) := trivial
  refine ⟨w', h1, ⟨_, h2, fun y => ?_⟩, h3.grown⟩
  by_cases hy : y = x
  · subst hy; show _ = (if y = y then true else c y); rw [if_pos rfl, has_put_same ht.isMap hk]
  · show _ = (if y = x then true else c y); rw [if_neg hy, has_put_other (fun e => hy (by injection e with _ e; omega)), hD]
theorem SetU.drop {w : World} {mb n : Nat} {c : Nat → Bool} (h : SetU w mb n c) (x : Nat) (hx : x < 4294967296) (ty : TypeId) :
    ∃ w', (Builtin.delete_ #[82, 22] ty #[.map (some mb), .int .u32 (x : Int)]).run Try.prog w = .ok (.tuple #[]) w' ∧ SetU w' mb n (fun y => if y = x then false else c y) ∧ w.grownBy w' (some mb) := by
  obtain ⟨D, hown, hD⟩ := h
  have ht := hown.tidy Try.keyedU
  obtain ⟨w', h1, h2, h3⟩ := hown.drop Try.keyedU Try.underlying82 (keyU hx) ty
  refine ⟨w', h1, ⟨_, h2, fun y => ?_⟩, h3.grown⟩
  by_cases hy : y = x
  · subst hy; show _ = (if y = y then false else c y); rw [if_pos rfl, has_del_same]
  · show _ = (if y = x then false else c y); rw [if_neg hy, has_del_other (fun e => hy (by injection e with _ e; omega)), hD]
theorem SetU.clear {w : World} {mb n : Nat} {c : Nat → Bool} (h : SetU w mb n c) :
    ∃ w', (∀ ty, (Builtin.clear_ #[82] ty #[.map (some mb)]).run Try.prog w = .ok (.tuple #[]) w') ∧ SetU w' mb 0 (fun _ => false) ∧ w.grownBy w' (some mb) := by
  obtain ⟨D, ⟨es, clock, hb, F, hs, hD⟩, hC⟩ := h
  refine ⟨setBlock w mb (.map #[] clock), ?_, ⟨_, ⟨#[], clock, heap_setBlock_same hb _, ⟨by simp, stamped_empty clock, by simp⟩, Nat.le_refl _, rfl⟩, fun _ => rfl⟩, ⟨rfl, rfl, rfl, by simp [setBlock], fun i _ hi => heap_setBlock_other hb _ (fun e => hi (by rw [e]))⟩⟩
  intro ty
  simp [Builtin.clear_, run_underlying Try.underlying82, MapKept.run_getObj_map hb, MapKept.run_setObj_map _ hb, Result.andThen, setBlock]
theorem SetU.made (w : World) : SetU (w.alloc (.map #[] 0)) w.heap.size 0 (fun _ => false) := ⟨_, World.ownsMap_made w _ _ _, fun _ => rfl⟩

/-- A window's cells. -/
def BoxW (w : World) (p mb bn lf sn sz : Nat) : Prop := Block w p 84 [.int .u32 bn, .int .i64 lf, .int .i64 sn, .int .i64 sz, .map (some mb)]
theorem BoxW.cells {w : World} {p mb bn lf sn sz : Nat} (h : BoxW w p mb bn lf sn sz) :
    w.cell? ⟨p, 0, none⟩ = some (.int .u32 bn) ∧ w.cell? ⟨p, 1, none⟩ = some (.int .i64 lf) ∧ w.cell? ⟨p, 2, none⟩ = some (.int .i64 sn) ∧ w.cell? ⟨p, 3, none⟩ = some (.int .i64 sz) ∧ w.cell? ⟨p, 4, none⟩ = some (.map (some mb)) :=
  ⟨Block.cell h 0, Block.cell h 1, Block.cell h 2, Block.cell h 3, Block.cell h 4⟩
theorem BoxW.kept {S : Nat → Prop} {w w' : World} {p mb bn lf sn sz : Nat} (h : BoxW w p mb bn lf sn sz) (ht : Touch S w w') (hn : ¬ S p) : BoxW w' p mb bn lf sn sz := Block.kept h ht hn

/-- A window of cnt numbers from f on: the base is the place b, the places ahead of s were sent, those of A behind the base are acknowledged; its map may hold n entries. -/
structure WinAt (w : World) (p mb n f cnt sz b s : Nat) (A : Nat → Bool) : Prop where
  box : BoxW w p mb (numU f b) (cnt - b) (s - b) sz
  set : ∃ c, SetU w mb n c ∧ ∀ i, b ≤ i → i < cnt → c (numU f i) = A i
  ne : p ≠ mb
  bs : b ≤ s
  sc : s ≤ cnt
  ss : s ≤ b + sz
  z1 : 1 ≤ sz
  z2 : sz ≤ 32
  c2 : cnt ≤ 1048576
  hA : ∀ i, A i = true → b < i ∧ i < s
  hf : f < 4294967296
  hn : n ≤ 1000000000
/-- What a call may write: the window's box and its map. -/
def WnS (p mb : Nat) : Nat → Prop := fun k => k = p ∨ k = mb
theorem WinAt.kept {S : Nat → Prop} {w w' : World} {p mb n f cnt sz b s : Nat} {A : Nat → Bool} (h : WinAt w p mb n f cnt sz b s A) (ht : Touch S w w') (hp : ¬ S p) (hm : ¬ S mb) : WinAt w' p mb n f cnt sz b s A := by
  obtain ⟨c, h1, h2⟩ := h.set
  exact { h with box := h.box.kept ht hp, set := ⟨c, h1.kept ht hm, h2⟩ }
theorem WinAt.still {w w' : World} {p mb n f cnt sz b s : Nat} {A : Nat → Bool} (h : WinAt w p mb n f cnt sz b s A) (ht : Touch (fun _ => False) w w') : WinAt w' p mb n f cnt sz b s A := h.kept ht id id
theorem WinAt.congr {w : World} {p mb n f cnt sz b s : Nat} {A A' : Nat → Bool} (h : WinAt w p mb n f cnt sz b s A) (e : ∀ i, A i = A' i) : WinAt w p mb n f cnt sz b s A' := by
  have : A = A' := funext e
  rw [← this]; exact h
theorem WinAt.lt {w : World} {p mb n f cnt sz b s : Nat} {A : Nat → Bool} (h : WinAt w p mb n f cnt sz b s A) : p < w.heap.size ∧ mb < w.heap.size := by
  obtain ⟨c, h1, _⟩ := h.set
  exact ⟨Block.lt h.box, h1.lt⟩

theorem wfresh_nil (w : World) : Calls Try.prog 24 #[.pointer none] w fun e w' => e = .returned (.slice none 0 0) ∧ w = w' := by
  go_enter Try.func24, Try.ntmps24
  go_wp2
  go_ret
  exact ⟨rfl, rfl⟩
theorem wopen_nil (w : World) : Calls Try.prog 25 #[.pointer none] w fun e w' => e = .returned (.slice none 0 0) ∧ w = w' := by
  go_enter Try.func25, Try.ntmps25
  go_wp2
  go_ret
  exact ⟨rfl, rfl⟩
theorem wdone_nil (w : World) : Calls Try.prog 23 #[.pointer none] w fun e w' => e = .returned (.bool false) ∧ w = w' := by
  go_enter Try.func23, Try.ntmps23
  go_wp2
  go_ret
  exact ⟨rfl, rfl⟩
theorem wack_nil (u : Int) (q : Int) (w : World) : Calls Try.prog 26 #[.pointer none, .int .u32 u, .int .u32 q] w fun e w' => e = .returned (.bool false) ∧ Touch (fun _ => False) w w' := by
  go_enter Try.func26, Try.ntmps26
  go_wp2_with fail
  go_quiet (fail)
  go_wp2_with fail
  go_ret
  exact ⟨rfl, (Touch.refl _ w).drewN _⟩

theorem wnew_bad (f : Nat) (cnt sz : Int) (h : cnt < 0 ∨ 1048576 < cnt ∨ sz < 1 ∨ 32 < sz) (w : World) : Calls Try.prog 22 #[.int .u32 (f : Nat), .int .i64 cnt, .int .i64 sz] w fun e w' => e = .returned (.tuple #[.pointer none, .int .i64 1]) ∧ w = w' := by
  by_cases h1 : cnt < 0
  · have d1 : decide (cnt < 0) = true := decide_eq_true h1
    clear h
    go_enter Try.func22, Try.ntmps22
    go_wp2
    go_ret2
    exact ⟨rfl, rfl⟩
  · have d1 : decide (cnt < 0) = false := decide_eq_false h1
    by_cases h2 : 1048576 < cnt
    · have d2 : decide (1048576 < cnt) = true := decide_eq_true h2
      clear h
      go_enter Try.func22, Try.ntmps22
      go_wp2
      go_ret2
      exact ⟨rfl, rfl⟩
    · have d2 : decide (1048576 < cnt) = false := decide_eq_false h2
      by_cases h3 : sz < 1
      · have d3 : decide (sz < 1) = true := decide_eq_true h3
        clear h
        go_enter Try.func22, Try.ntmps22
        go_wp2
        go_ret2
        exact ⟨rfl, rfl⟩
      · have d3 : decide (sz < 1) = false := decide_eq_false h3
        have h4 : 32 < sz := by omega
        have d4 : decide (32 < sz) = true := decide_eq_true h4
        clear h
        go_enter Try.func22, Try.ntmps22
        go_wp2
        go_ret2
        exact ⟨rfl, rfl⟩
theorem wnew_calls (f cnt sz : Nat) (hf : f < 4294967296) (hc : cnt ≤ 1048576) (hz1 : 1 ≤ sz) (hz2 : sz ≤ 32) (w : World) : Calls Try.prog 22 #[.int .u32 (f : Nat), .int .i64 (cnt : Nat), .int .i64 (sz : Nat)] w fun e w' =>
    ∃ p mb, e = .returned (.tuple #[.pointer (some ⟨p, 0, none⟩), .int .i64 0]) ∧ WinAt w' p mb 0 f cnt sz 0 0 (fun _ => false) ∧ (w.heap.size ≤ p ∧ w.heap.size ≤ mb) ∧ Touch (fun _ => False) w w' := by
  have d1 : decide ((cnt : Int) < 0) = false := decide_eq_false (by omega)
  have d2 : decide ((1048576 : Int) < cnt) = false := decide_eq_false (by omega)
  have d3 : decide ((sz : Int) < 1) = false := decide_eq_false (by omega)
  have d4 : decide ((32 : Int) < sz) = false := decide_eq_false (by omega)
  have d2' : decide (1048576 < cnt) = false := decide_eq_false (by omega)
  have d4' : decide (32 < sz) = false := decide_eq_false (by omega)
  go_enter Try.func22, Try.ntmps22
  have hmm := @run_makeMap Try.prog
  go_wp2
  go_ret2
  have hm := SetU.made w
  have hb := Block.new (w.alloc (.map #[] 0)) 84 [.int .u32 f, .int .i64 cnt, .int .i64 0, .int .i64 sz, .map (some w.heap.size)]
  have hT : Touch (fun _ => False) (w.alloc (.map #[] 0)) ((w.alloc (.map #[] 0)).alloc (.cells [.int .u32 f, .int .i64 cnt, .int .i64 0, .int .i64 sz, .map (some w.heap.size)].toArray 84)) := (Touch.refl _ _).alloc _
  rw [alloc_size] at hb
  refine ⟨w.heap.size + 1, w.heap.size, rfl, ⟨?_, ⟨_, hm.kept hT id, fun _ _ _ => rfl⟩, by omega, Nat.le_refl _, Nat.zero_le _, Nat.zero_le _, hz1, hz2, hc, fun i h => (by cases h), hf, Nat.zero_le _⟩, ⟨Nat.le_succ _, Nat.le_refl _⟩, ((Touch.refl _ w).alloc _).trans hT⟩
  have e : numU f 0 = f := by unfold numU; omega
  rw [e]
  exact hb

theorem wdone_calls {w : World} {p mb n f cnt sz b s : Nat} {A : Nat → Bool} (h : WinAt w p mb n f cnt sz b s A) : Calls Try.prog 23 #[.pointer (some ⟨p, 0, none⟩)] w fun e w' => e = .returned (.bool (decide (b = cnt))) ∧ w = w' := by
  obtain ⟨c0, c1, c2, c3, c4⟩ := h.box.cells
  have hd : ((((cnt - b : Nat) : Int)) == 0) = decide (b = cnt) := by
    have := h.bs; have := h.sc
    rw [Bool.eq_iff_iff, beq_iff_eq, decide_eq_true_iff]; omega
  clear h
  generalize cnt - b = q at *
  go_enter Try.func23, Try.ntmps23
  go_wp2
  go_ret
  exact ⟨rfl, rfl⟩
end Go.Proofs.Ytimiiahhedpfaaa
