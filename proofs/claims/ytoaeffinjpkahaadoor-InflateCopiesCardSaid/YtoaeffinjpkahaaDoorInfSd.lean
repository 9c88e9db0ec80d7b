
/- A stream of stored blocks: the parts that a decoder goes through. -/
import Derived.Test.YtoaeffinjpkahaaDoorInfSc
namespace Go.Proofs.YtoaeffinjpkahaaDoor
set_option linter.unusedSimpArgs false
set_option linter.unusedVariables false
open Go Go.RowKit
set_option maxRecDepth 100000

def sz4 (n : Nat) : List UInt8 := leB 2 n ++ leB 2 (65535 - n)
def bytesQ : List (List UInt8) → List UInt8
  | [] => []
  | b :: Q => (if Q.isEmpty then 1 else 0) :: (sz4 b.length ++ (b ++ bytesQ Q))
def SmallQ (Q : List (List UInt8)) : Prop := ∀ b ∈ Q, b.length < 65536
theorem sz4_length (n : Nat) : (sz4 n).length = 4 := by simp [sz4, leB_length]
theorem sz4_num (n : Nat) (hn : n < 65536) : numN (bitsL (sz4 n)) = n + 65536 * (65535 - n) := by
  unfold sz4
  rw [bitsL_append, bitsL_leB, bitsL_leB, numN_append, numN_bitsN, numN_bitsN, bitsN_length]
  have : (2 : Nat) ^ (8 * 2) = 65536 := by decide
  rw [this, Nat.mod_eq_of_lt hn, Nat.mod_eq_of_lt (by omega : 65535 - n < 65536)]
theorem hd_bits (z : Bool) (Y : List UInt8) : bitsL ((if z then 1 else 0) :: Y) = (if z then 1 else 0) :: 0 :: 0 :: ([0, 0, 0, 0, 0] ++ bitsL Y) := by
  cases z <;> rfl
theorem hd_drop (Y : List UInt8) : (([0, 0, 0, 0, 0] : List Nat) ++ bitsL Y).drop ((([0, 0, 0, 0, 0] : List Nat) ++ bitsL Y).length % 8) = bitsL Y := by
  have h : (([0, 0, 0, 0, 0] : List Nat) ++ bitsL Y).length % 8 = 5 := by
    rw [List.length_append, bitsL_length]
    show (5 + 8 * Y.length) % 8 = 5
    omega
  rw [h]
  rfl

/-- Where a decoder stands in a stream of stored blocks: the bytes that are still to come, and what they tell. -/
inductive At : PS → List UInt8 → List UInt8 → Prop
  | hd (c : PS) (b : List UInt8) (Q : List (List UInt8)) : c.st = 0 → SmallQ (b :: Q) → At c (bytesQ (b :: Q)) (b :: Q).flatten
  | sz (c : PS) (b : List UInt8) (Q : List (List UInt8)) : c.st = 1 → c.last = Q.isEmpty → SmallQ (b :: Q) → At c (sz4 b.length ++ (b ++ bytesQ Q)) (b ++ Q.flatten)
  | bt (c : PS) (b : List UInt8) (Q : List (List UInt8)) : c.st = 2 → c.last = Q.isEmpty → c.left = b.length → b.length < 65536 → SmallQ Q → At c (b ++ bytesQ Q) (b ++ Q.flatten)
theorem At.st {c : PS} {V O : List UInt8} (h : At c V O) : c.st < 11 := by
  cases h with
  | hd b Q h0 _ => omega
  | sz b Q h0 _ _ => omega
  | bt b Q h0 _ _ _ _ => omega
/-- It speaks of three numbers alone. -/
theorem At.same {c c' : PS} {V O : List UInt8} (h : At c V O) (h0 : c'.st = c.st) (h1 : c'.last = c.last) (h2 : c'.left = c.left) : At c' V O := by
  cases h with
  | hd b Q k0 k1 => exact .hd c' b Q (by rw [h0]; exact k0) k1
  | sz b Q k0 k1 k2 => exact .sz c' b Q (by rw [h0]; exact k0) (by rw [h1]; exact k1) k2
  | bt b Q k0 k1 k2 k3 k4 => exact .bt c' b Q (by rw [h0]; exact k0) (by rw [h1]; exact k1) (by rw [h2]; exact k2) k3 k4
def msr (c : PS) (V : List UInt8) : Nat := 2 * V.length + (if c.st = 2 then 1 else 0)

/-- What a step leaves, of what was told and of the rest. -/
structure Left (s s' : PS) (Y' Z V' O' R O : List UInt8) : Prop where
  bits : s'.bits = bitsL Y'
  eq : Y' ++ Z = V' ++ R
  out : ∃ o, s'.out = s.out ++ o ∧ s'.all = s.all ++ o ∧ o ++ O' = O
  came : s'.came = s.came
  told : s'.told = s.told
  le : s'.bits.length ≤ s.bits.length

theorem at_step (U : Nat → Prop) (w0 : World) (b : Nat) {s : PS} {Y Z V O R : List UInt8} (hb : s.bits = bitsL Y) (hA : At s V O) (he : Y ++ Z = V ++ R) (hz : s.out.length + O.length < 100000000 ∧ s.all.length + O.length < 100000000) :
    (∃ s' Y' V' O', Stp U w0 b s s' ∧ Left s s' Y' Z V' O' R O ∧ ((At s' V' O' ∧ msr s' V' < msr s V) ∨ (s'.st = 11 ∧ V' = [] ∧ O' = []))) ∨
    (∃ s' Y' V' O', (∀ W, DecR U w0 W b s → Calls Tryd.prog 63 #[.pointer (some ⟨b, 0, none⟩)] W fun e w' => e = .returned (.int .i64 2) ∧ DecR U w0 w' b s') ∧ Left s s' Y' Z V' O' R O ∧ At s' V' O' ∧ Y'.length < V'.length) := by
  have hst := hA.st
  cases hA with
  | hd d Q h0 hs =>
    cases Y with
    | nil =>
      refine .inr ⟨s, [], _, _, fun W hD => ?_, ⟨hb, he, ⟨[], by simp, by simp, rfl⟩, rfl, rfl, Nat.le_refl _⟩, .hd s d Q h0 hs, by simp [bytesQ]⟩
      have c0 := hD.cell0
      rw [h0] at c0
      exact part_0 c0 (iblock_more hD (by rw [hb]; decide))
    | cons y Y1 =>
      have he' : y :: (Y1 ++ Z) = (if Q.isEmpty then 1 else 0) :: ((sz4 d.length ++ (d ++ bytesQ Q)) ++ R) := he
      obtain ⟨rfl, he2⟩ := List.cons.inj he'
      rw [hd_bits] at hb
      refine .inl ⟨{ s with bits := bitsL Y1, last := Q.isEmpty, st := 1 }, Y1, sz4 d.length ++ (d ++ bytesQ Q), d ++ Q.flatten, ⟨hst, fun W hD => ?_⟩, ⟨rfl, he2, ⟨[], by simp, by simp, rfl⟩, rfl, rfl, by rw [hb]; show (bitsL Y1).length ≤ _; simp only [List.length_cons, List.length_append]; omega⟩, .inl ⟨.sz _ d Q rfl rfl hs, ?_⟩⟩
      · have c0 := hD.cell0
        rw [h0] at c0
        have key := iblock_stored hD hb
        rw [hd_drop] at key
        have e : ((if Q.isEmpty then 1 else 0 : Nat) == 1) = Q.isEmpty := by cases Q.isEmpty <;> rfl
        rw [e] at key
        exact part_0 c0 key
      · unfold msr
        rw [h0]
        show 2 * _ + 0 < 2 * (_ + 1) + 0
        omega
  | sz d Q h0 hl hs =>
    by_cases hY : Y.length < 4
    · refine .inr ⟨s, Y, _, _, fun W hD => ?_, ⟨hb, he, ⟨[], by simp, by simp, rfl⟩, rfl, rfl, Nat.le_refl _⟩, .sz s d Q h0 hl hs, by rw [List.length_append, sz4_length]; omega⟩
      have c0 := hD.cell0
      rw [h0] at c0
      exact part_1 c0 (isizes_more hD (by rw [hb, bitsL_length]; omega))
    · have hY1 : Y = sz4 d.length ++ Y.drop 4 := by
        have e1 := congrArg (List.take 4) he
        rw [List.take_append_of_le_length (by omega), List.append_assoc, List.take_left' (sz4_length _)] at e1
        rw [← e1, List.take_append_drop]
      have he2 : Y.drop 4 ++ Z = (d ++ bytesQ Q) ++ R := by
        rw [hY1, List.append_assoc, List.append_assoc] at he
        exact List.append_cancel_left he
      have hd1 : d.length < 65536 := hs d List.mem_cons_self
      refine .inl ⟨{ s with bits := bitsL (Y.drop 4), left := d.length, st := 2 }, Y.drop 4, d ++ bytesQ Q, d ++ Q.flatten, ⟨hst, fun W hD => ?_⟩, ⟨rfl, he2, ⟨[], by simp, by simp, rfl⟩, rfl, rfl, by rw [hb]; show (bitsL (Y.drop 4)).length ≤ _; rw [bitsL_length, bitsL_length, List.length_drop]; omega⟩, .inl ⟨.bt _ d Q rfl hl rfl hd1 (fun x hx => hs x (List.mem_cons_of_mem _ hx)), ?_⟩⟩
      · have c0 := hD.cell0
        rw [h0] at c0
        have key := isizes_ok hD d.length hd1 (by rw [hb, bitsL_length]; omega) (by
          rw [hb, show 32 = 8 * 4 from rfl, bitsL_take, hY1, List.take_left' (sz4_length _)]
          exact sz4_num _ hd1)
        rw [hb, show 32 = 8 * 4 from rfl, bitsL_drop] at key
        exact part_1 c0 key
      · have e1 : (sz4 d.length ++ (d ++ bytesQ Q)).length = 4 + (d ++ bytesQ Q).length := by rw [List.length_append, sz4_length]
        unfold msr
        rw [h0, e1]
        show 2 * _ + 1 < 2 * (4 + _) + 0
        omega
  | bt d Q h0 hl hlf hd1 hs =>
    by_cases hY : d.length ≤ Y.length
    · have hY1 : Y = d ++ Y.drop d.length := by
        have e1 := congrArg (List.take d.length) he
        rw [List.take_append_of_le_length hY, List.append_assoc, List.take_left' rfl] at e1
        conv => lhs; rw [← List.take_append_drop d.length Y, e1]
      have he2 : Y.drop d.length ++ Z = bytesQ Q ++ R := by
        rw [hY1, List.append_assoc, List.append_assoc] at he
        exact List.append_cancel_left he
      have hz0 : s.left - d.length = 0 := by omega
      refine .inl ⟨bytesPS s d (Y.drop d.length), Y.drop d.length, bytesQ Q, Q.flatten, ⟨hst, fun W hD => ?_⟩, ⟨rfl, he2, ⟨d, rfl, rfl, rfl⟩, rfl, rfl, by rw [hb]; show (bitsL (Y.drop d.length)).length ≤ _; rw [bitsL_length, bitsL_length, List.length_drop]; omega⟩, ?_⟩
      · have c0 := hD.cell0
        rw [h0] at c0
        have key := ibytes_calls hD d (Y.drop d.length) (by rw [← hY1]; exact hb) (.inl hlf.symm) (by omega) (by simp only [List.length_append] at hz; omega) 0 (if_pos hz0)
        exact part_2 c0 key
      · cases Q with
        | nil =>
          right
          refine ⟨?_, rfl, rfl⟩
          unfold bytesPS
          show (if s.left - d.length = 0 then (if s.last then 11 else 0) else s.st) = 11
          rw [if_pos hz0, hl]
          rfl
        | cons d2 Q2 =>
          left
          have hs0 : (bytesPS s d (Y.drop d.length)).st = 0 := by
            unfold bytesPS
            show (if s.left - d.length = 0 then (if s.last then 11 else 0) else s.st) = 0
            rw [if_pos hz0, hl]
            rfl
          refine ⟨.hd _ d2 Q2 hs0 hs, ?_⟩
          unfold msr
          rw [hs0, h0, List.length_append]
          show 2 * _ + 0 < 2 * (_ + _) + 1
          omega
    · have hY1 : d = Y ++ d.drop Y.length := by
        have e1 := congrArg (List.take Y.length) he
        rw [List.take_left' rfl, List.append_assoc, List.take_append_of_le_length (by omega)] at e1
        conv => lhs; rw [← List.take_append_drop Y.length d, ← e1]
      obtain ⟨d', hd'⟩ : ∃ d', d' = d.drop Y.length := ⟨_, rfl⟩
      rw [← hd'] at hY1
      have hd'l : d'.length = d.length - Y.length := by rw [hd', List.length_drop]
      have he2 : [] ++ Z = (d' ++ bytesQ Q) ++ R := by
        rw [hY1, List.append_assoc, List.append_assoc] at he
        have := List.append_cancel_left he
        rw [List.nil_append, List.append_assoc]
        exact this
      have hz0 : ¬ s.left - Y.length = 0 := by omega
      refine .inr ⟨bytesPS s Y [], [], d' ++ bytesQ Q, d' ++ Q.flatten, fun W hD => ?_, ⟨rfl, he2, ⟨Y, rfl, rfl, by rw [hY1, List.append_assoc]⟩, rfl, rfl, Nat.zero_le _⟩, .bt _ d' Q ?_ hl ?_ (by omega) hs, by rw [List.length_append]; simp; omega⟩
      · have c0 := hD.cell0
        rw [h0] at c0
        have key := ibytes_calls hD Y [] (by rw [List.append_nil]; exact hb) (.inr ⟨by omega, rfl⟩) (by omega) (by omega) 2 (if_neg hz0)
        exact part_2 c0 key
      · unfold bytesPS
        show (if s.left - Y.length = 0 then (if s.last then 11 else 0) else s.st) = 2
        rw [if_neg hz0, h0]
      · show s.left - Y.length = d'.length
        omega
theorem Left.trans {s s1 s2 : PS} {Y1 Y2 Z V1 V2 O1 O2 R O : List UInt8} (h : Left s s1 Y1 Z V1 O1 R O) (k : Left s1 s2 Y2 Z V2 O2 R O1) : Left s s2 Y2 Z V2 O2 R O := by
  obtain ⟨o, h1, h2, h3⟩ := h.out
  obtain ⟨o', k1, k2, k3⟩ := k.out
  exact ⟨k.bits, k.eq, ⟨o ++ o', by rw [k1, h1, List.append_assoc], by rw [k2, h2, List.append_assoc], by rw [List.append_assoc, k3, h3]⟩, k.came.trans h.came, k.told.trans h.told, Nat.le_trans k.le h.le⟩
theorem at_path (U : Nat → Prop) (w0 : World) (b : Nat) : ∀ (N : Nat) {s : PS} {Y Z V O R : List UInt8}, msr s V ≤ N → s.bits = bitsL Y → At s V O → Y ++ Z = V ++ R → (s.out.length + O.length < 100000000 ∧ s.all.length + O.length < 100000000) →
    (∃ t Y', Path U w0 b s t ∧ t.st = 11 ∧ Left s t Y' Z [] [] R O) ∨
    (∃ t t' Y' V' O', Path U w0 b s t ∧ t.st < 11 ∧ (∀ W, DecR U w0 W b t → Calls Tryd.prog 63 #[.pointer (some ⟨b, 0, none⟩)] W fun e w' => e = .returned (.int .i64 2) ∧ DecR U w0 w' b t') ∧ Left s t' Y' Z V' O' R O ∧ At t' V' O' ∧ Y'.length < V'.length) := by
  intro N
  induction N with
  | zero =>
    intro s Y Z V O R hm hb hA he hz
    exfalso
    unfold msr at hm
    cases hA with
    | hd d Q h0 hs => simp [bytesQ] at hm
    | sz d Q h0 hl hs => rw [List.length_append, sz4_length] at hm; omega
    | bt d Q h0 hl hlf hd1 hs => rw [h0] at hm; simp at hm
  | succ N ih =>
    intro s Y Z V O R hm hb hA he hz
    rcases at_step U w0 b hb hA he hz with ⟨s', Y', V', O', h1, h2, h3⟩ | ⟨s', Y', V', O', h1, h2, h3, h4⟩
    · rcases h3 with ⟨h3, h4⟩ | ⟨h3, rfl, rfl⟩
      · obtain ⟨o, k1, k2, k3⟩ := h2.out
        have hz' : s'.out.length + O'.length < 100000000 ∧ s'.all.length + O'.length < 100000000 := by
          have e3 := congrArg List.length k3
          rw [List.length_append] at e3
          rw [k1, k2, List.length_append, List.length_append]
          omega
        rcases ih (by omega) h2.bits h3 h2.eq hz' with ⟨t, Y2, p1, p2, p3⟩ | ⟨t, t', Y2, V2, O2, p1, p2, p3, p4, p5⟩
        · exact .inl ⟨t, Y2, .cons _ _ _ h1 p1, p2, h2.trans p3⟩
        · exact .inr ⟨t, t', Y2, V2, O2, .cons _ _ _ h1 p1, p2, p3, h2.trans p4, p5⟩
      · exact .inl ⟨s', Y', .cons _ _ _ h1 (.nil _), h3, h2⟩
    · exact .inr ⟨s, s', Y', V', O', .nil _, hA.st, h1, h2, h3, h4⟩
end Go.Proofs.YtoaeffinjpkahaaDoor
