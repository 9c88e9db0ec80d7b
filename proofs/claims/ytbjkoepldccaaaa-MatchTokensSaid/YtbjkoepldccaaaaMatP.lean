/- Package match: exactly which match is found, and which tokens are made; plain lists. -/
import Derived.Test.YtbjkoepldccaaaaMatI
namespace Go.Proofs.Ytbjkoepldccaaaa
open Go Go.RowKit Go.Maps
set_option maxRecDepth 100000

theorem desc_eq : ∀ (l l' : List Nat), l.Pairwise (· > ·) → l'.Pairwise (· > ·) → (∀ q, q ∈ l ↔ q ∈ l') → l = l'
  | [], [], _, _, _ => rfl
  | [], b :: l', _, _, h => absurd ((h b).2 List.mem_cons_self) List.not_mem_nil
  | a :: l, [], _, _, h => absurd ((h a).1 List.mem_cons_self) List.not_mem_nil
  | a :: l, b :: l', h1, h2, h => by
    have p1 := List.pairwise_cons.1 h1
    have p2 := List.pairwise_cons.1 h2
    have e1 := (h a).1 List.mem_cons_self
    have e2 := (h b).2 List.mem_cons_self
    have hab : a = b := by
      rcases List.mem_cons.1 e1 with e | e
      · exact e
      · rcases List.mem_cons.1 e2 with e' | e'
        · exact e'.symm
        · have := p2.1 a e
          have := p1.1 b e'
          omega
    subst hab
    rw [desc_eq l l' p1.2 p2.2 (fun q => ⟨fun hq => ?_, fun hq => ?_⟩)]
    · rcases List.mem_cons.1 ((h q).1 (List.mem_cons_of_mem _ hq)) with e | e
      · have := p1.1 q hq
        omega
      · exact e
    · rcases List.mem_cons.1 ((h q).2 (List.mem_cons_of_mem _ hq)) with e | e
      · have := p2.1 q hq
        omega
      · exact e
theorem desc_len : ∀ (l : List Nat) (b a : Nat), l.Pairwise (· > ·) → (∀ q ∈ l, b ≤ q ∧ q < a) → l.length ≤ a - b
  | [], _, _, _, _ => Nat.zero_le _
  | p :: l, b, a, h, hb => by
    have h1 := List.pairwise_cons.1 h
    have h2 := desc_len l b p h1.2 (fun q hq => ⟨(hb q (List.mem_cons_of_mem _ hq)).1, h1.1 q hq⟩)
    have h3 := hb p List.mem_cons_self
    rw [List.length_cons]
    omega

/-- Of a chain the places that may be looked at. -/
def candP (a tries : Nat) (C : List Nat) : List Nat := (C.takeWhile fun q => decide (a - q ≤ 32768)).take tries
theorem candP_sub (a tries : Nat) (C : List Nat) : (candP a tries C).Sublist C := (List.take_sublist _ _).trans (List.takeWhile_sublist _)
theorem candP_near (a tries : Nat) (C : List Nat) : ∀ q ∈ candP a tries C, a - q ≤ 32768 := by
  intro q hq
  have h := List.mem_of_mem_take hq
  have := List.all_eq_true.1 (List.all_takeWhile (p := fun q => decide (a - q ≤ 32768)) (l := C)) q h
  exact of_decide_eq_true this
theorem mem_takeWhile_of : ∀ (C : List Nat) (a q : Nat), C.Pairwise (· > ·) → q ∈ C → a - q ≤ 32768 → q ∈ C.takeWhile fun q => decide (a - q ≤ 32768)
  | [], _, _, _, h, _ => h
  | p :: C, a, q, hp, h, hq => by
    have h1 := List.pairwise_cons.1 hp
    have hpa : a - p ≤ 32768 := by
      rcases List.mem_cons.1 h with e | e
      · subst e; exact hq
      · have := h1.1 q e; omega
    rw [List.takeWhile_cons_of_pos (by simpa using hpa)]
    rcases List.mem_cons.1 h with e | e
    · subst e; exact List.mem_cons_self
    · exact List.mem_cons_of_mem _ (mem_takeWhile_of C a q h1.2 e hq)
theorem candP_all {C : List Nat} {a tries : Nat} (hp : C.Pairwise (· > ·)) (hlt : ∀ q ∈ C, q < a) (ht : 32768 ≤ tries) : candP a tries C = C.takeWhile fun q => decide (a - q ≤ 32768) := by
  unfold candP
  refine List.take_of_length_le (Nat.le_trans (desc_len _ (a - 32768) a (hp.sublist (List.takeWhile_sublist _)) (fun q hq => ?_)) (by omega))
  have := List.all_eq_true.1 (List.all_takeWhile (p := fun q => decide (a - q ≤ 32768)) (l := C)) q hq
  have h1 := of_decide_eq_true this
  have h2 := hlt q ((List.takeWhile_sublist _).subset hq)
  omega

theorem Best.one {X : List UInt8} {a M S d S' d' : Nat} {L : List Nat} (h : Best X a M L S d) (h' : Best X a M L S' d') : S = S' ∧ d = d' := by
  rcases h with ⟨a1, a2, a3⟩ | ⟨a1, p, a2, a3, a4, a5⟩ <;> rcases h' with ⟨b1, b2, b3⟩ | ⟨b1, p', b2, b3, b4, b5⟩
  · omega
  · have := a3 p' b2; omega
  · have := b3 p a2; omega
  · have h1 := a5 p' b2
    have h2 := b5 p a2
    have e : S = S' := by omega
    have h3 := h1.2 (by omega)
    have h4 := h2.2 (by omega)
    have : p = p' := by omega
    subst this
    omega
theorem Best.full {X : List UInt8} {a M d : Nat} : ∀ (L done : List Nat), Best X a M done M d → (done ++ L).Pairwise (· > ·) → Best X a M (done ++ L) M d
  | [], done, h, _ => by rw [List.append_nil]; exact h
  | p :: L, done, h, hp => by
    have e : done ++ p :: L = (done ++ [p]) ++ L := by simp
    rw [e] at hp ⊢
    refine Best.full L (done ++ [p]) (h.same p (mlen_le _ _ _ _) (fun q hq => ?_)) hp
    exact (List.pairwise_append.1 (List.pairwise_append.1 hp).1).2.2 q hq p (by simp)

/-- Exactly what longest finds of the places of a chain. -/
def FoundE (X : List UInt8) (a most tries : Nat) (C : List Nat) (s d : Nat) : Prop :=
  ∃ S D, Best X a most (candP a tries C) S D ∧ ((S < 3 ∧ s = 0 ∧ d = 0) ∨ (3 ≤ S ∧ s = S ∧ d = D))

/-- The loop's end: nothing that is left matters. -/
theorem found_E {X : List UInt8} {a most tries S d : Nat} {done rest : List Nat} (hB : Best X a most done S d) (hf : (done ++ rest).Pairwise (· > ·)) (hd : ∀ q ∈ done, a - q ≤ 32768)
    (hdt : done.length ≤ tries)
    (hend : rest = [] ∨ (∃ p C, rest = p :: C ∧ 32768 < a - p) ∨ tries = done.length ∨ S = most) :
    if S < 3 then FoundE X a most tries (done ++ rest) 0 0 else FoundE X a most tries (done ++ rest) S d := by
  have hc : candP a tries (done ++ rest) = done ++ (candP a (tries - done.length) rest) := by
    unfold candP
    rw [List.takeWhile_append_of_pos (fun q hq => by simpa using hd q hq), List.take_append, List.take_of_length_le hdt]
  have key : Best X a most (candP a tries (done ++ rest)) S d := by
    rw [hc]
    rcases hend with h | ⟨p, C, h, h2⟩ | h | h
    · subst h; simp [candP]; exact hB
    · subst h
      have : candP a (tries - done.length) (p :: C) = [] := by
        unfold candP
        rw [List.takeWhile_cons_of_neg (by simp; omega), List.take_nil]
      rw [this, List.append_nil]
      exact hB
    · have : candP a (tries - done.length) rest = [] := by
        unfold candP
        rw [h, Nat.sub_self, List.take_zero]
      rw [this, List.append_nil]
      exact hB
    · subst h
      exact Best.full _ _ hB (hf.sublist (List.Sublist.append_left (candP_sub _ _ _) _))
  split
  · exact ⟨S, d, key, .inl ⟨by assumption, rfl, rfl⟩⟩
  · exact ⟨S, d, key, .inr ⟨by omega, rfl, rfl⟩⟩
theorem FoundE.toR {X : List UInt8} {a most tries s d : Nat} {C : List Nat} (h : FoundE X a most tries C s d) (hp : C.Pairwise (· > ·)) (hlt : ∀ q ∈ C, q < a) : FoundR X a most tries C s d := by
  obtain ⟨S, D, hB, hs⟩ := h
  have key : 32768 ≤ tries → ∀ q ∈ C, a - q ≤ 32768 → q ∈ candP a tries C := fun ht q hq hw => by
    rw [candP_all hp hlt ht]
    exact mem_takeWhile_of C a q hp hq hw
  rcases hs with ⟨h1, rfl, rfl⟩ | ⟨h1, rfl, rfl⟩
  · exact .inl ⟨rfl, rfl, fun ht q hq hw => by have := hB.le q (key ht q hq hw); omega⟩
  · rcases hB with ⟨e, _, _⟩ | ⟨_, p, hpm, e, h3, h4⟩
    · omega
    · exact .inr ⟨h1, p, (candP_sub _ _ _).subset hpm, e, by rw [e]; exact candP_near _ _ _ p hpm, h3, fun ht q hq hw => h4 q (key ht q hq hw)⟩

/-- The best of places, one by one. -/
def bestF (X : List UInt8) (a M : Nat) : List Nat → Nat × Nat → Nat × Nat
  | [], m => m
  | p :: L, m => bestF X a M L (if m.1 < mlen X p a M then (mlen X p a M, a - p) else m)
theorem bestF_best (X : List UInt8) (a M : Nat) : ∀ (L done : List Nat) (m : Nat × Nat), Best X a M done m.1 m.2 → (done ++ L).Pairwise (· > ·) → Best X a M (done ++ L) (bestF X a M L m).1 (bestF X a M L m).2
  | [], done, m, h, _ => by rw [List.append_nil]; exact h
  | p :: L, done, m, h, hp => by
    have e : done ++ p :: L = (done ++ [p]) ++ L := by simp
    rw [e] at hp ⊢
    rw [bestF]
    refine bestF_best X a M L (done ++ [p]) _ ?_ hp
    split
    · exact h.more p (by assumption)
    · exact h.same p (by omega) (fun q hq => (List.pairwise_append.1 (List.pairwise_append.1 hp).1).2.2 q hq p (by simp))

/-- All places ahead with the hash of a place, the last one first. -/
def allP (X : List UInt8) (a : Nat) : List Nat := ((List.range a).reverse).filter fun p => hashN X p == hashN X a
theorem allP_falls (X : List UInt8) (a : Nat) : (allP X a).Pairwise (· > ·) := by
  refine List.Pairwise.sublist List.filter_sublist ?_
  rw [List.pairwise_reverse]
  exact List.pairwise_lt_range
theorem allP_lt (X : List UInt8) (a : Nat) : ∀ q ∈ allP X a, q < a := by
  intro q hq
  simpa using (List.mem_filter.1 hq).1

/-- The match that is found at a place: its length, and its distance. -/
def lookU (X : List UInt8) (a tries : Nat) : Nat × Nat :=
  if X.length < a + 3 then (0, 0)
  else if (bestF X a (min (X.length - a) 258) (candP a tries (allP X a)) (0, 0)).1 < 3 then (0, 0)
  else bestF X a (min (X.length - a) 258) (candP a tries (allP X a)) (0, 0)
theorem look_best (X : List UInt8) (a tries M : Nat) : Best X a M (candP a tries (allP X a)) (bestF X a M (candP a tries (allP X a)) (0, 0)).1 (bestF X a M (candP a tries (allP X a)) (0, 0)).2 := by
  have := bestF_best X a M (candP a tries (allP X a)) [] (0, 0) (Best.nil X a M) (by rw [List.nil_append]; exact (allP_falls X a).sublist (candP_sub _ _ _))
  rwa [List.nil_append] at this
theorem FoundE.look {X : List UInt8} {a tries s d : Nat} (h3 : a + 3 ≤ X.length) (h : FoundE X a (min (X.length - a) 258) tries (allP X a) s d) : lookU X a tries = (s, d) := by
  obtain ⟨S, D, hB, hs⟩ := h
  have h1 := (look_best X a tries (min (X.length - a) 258)).one hB
  unfold lookU
  rw [if_neg (by omega)]
  generalize bestF X a (min (X.length - a) 258) (candP a tries (allP X a)) (0, 0) = r at h1
  obtain ⟨r1, r2⟩ := r
  obtain ⟨e1, e2⟩ := h1
  simp only at e1 e2
  subst e1 e2
  rcases hs with ⟨h1, rfl, rfl⟩ | ⟨h1, rfl, rfl⟩
  · rw [if_pos h1]
  · rw [if_neg (by simp; omega)]
theorem look_E (X : List UInt8) (a tries : Nat) (h3 : a + 3 ≤ X.length) : FoundE X a (min (X.length - a) 258) tries (allP X a) (lookU X a tries).1 (lookU X a tries).2 := by
  refine ⟨_, _, look_best X a tries _, ?_⟩
  unfold lookU
  rw [if_neg (by omega)]
  split
  · exact .inl ⟨by assumption, rfl, rfl⟩
  · exact .inr ⟨by omega, rfl, rfl⟩

/-- A match at a place, or none. -/
def FoundL (X : List UInt8) (a : Nat) (m : Nat × Nat) : Prop :=
  m = (0, 0) ∨ (3 ≤ m.1 ∧ ∃ p, p < a ∧ m.2 = a - p ∧ m.2 ≤ 32768 ∧ mlen X p a (min (X.length - a) 258) = m.1)
theorem look_found (X : List UInt8) (a tries : Nat) : FoundL X a (lookU X a tries) := by
  rcases Nat.lt_or_ge X.length (a + 3) with h | h
  · refine .inl ?_
    unfold lookU
    rw [if_pos h]
  · obtain ⟨S, D, hB, hs⟩ := look_E X a tries h
    generalize lookU X a tries = m at hs ⊢
    obtain ⟨m1, m2⟩ := m
    rcases hs with ⟨h1, h2, h3⟩ | ⟨h1, h2, h3⟩
    · exact .inl (by simp only at h2 h3; rw [h2, h3])
    · simp only at h2 h3
      subst h2 h3
      rcases hB with ⟨e, _, _⟩ | ⟨_, p, hpm, e, h3, h4⟩
      · omega
      · exact .inr ⟨h1, p, allP_lt X a p ((candP_sub _ _ _).subset hpm), e, by show _ ≤ _; rw [e]; exact candP_near _ _ _ p hpm, h3⟩
theorem FoundL.le {X : List UInt8} {a z d : Nat} (h : FoundL X a (z, d)) : z ≤ 258 ∧ (z = 0 ∨ a + z ≤ X.length) ∧ d ≤ 32768 := by
  rcases h with h | ⟨h1, p, h2, h3, h4, h5⟩
  · have h1 : z = 0 := congrArg Prod.fst h
    have h2 : d = 0 := congrArg Prod.snd h
    omega
  · have := mlen_le X p a (min (X.length - a) 258)
    simp only at h1 h2 h3 h4 h5
    omega
theorem FoundL.tell {X : List UInt8} {fr a : Nat} {m : Nat × Nat} {l : List Tok} (h : FoundL X a m) (hz : m.1 ≠ 0) (he : expandL (X.take fr) l = some (X.take a)) (ha : a ≤ X.length) :
    expandL (X.take fr) (l ++ [⟨0, (m.1 : Nat), (m.2 : Nat)⟩]) = some (X.take (a + m.1)) := by
  rcases h with h1 | ⟨h1, p, h2, h3, h4, h5⟩
  · rw [h1] at hz; exact absurd rfl hz
  · have hm := mlen_le X p a (min (X.length - a) 258)
    rw [h3]
    rw [h3] at h4
    exact tell_match he (M := min (X.length - a) 258) (by omega) h1 (by omega) h2 h4 h5

/-- All places that may be asked for are known. -/
def Full (X : List UInt8) (fr a : Nat) (ps : List Nat) : Prop := ∀ p, p < a → p + 3 ≤ X.length → (∃ i, fr ≤ i ∧ i + 3 ≤ X.length ∧ hashN X i = hashN X p) → p ∈ ps
theorem Full.push {X : List UInt8} {fr i : Nat} {ps : List Nat} (h : Full X fr i ps) : Full X fr (i + 1) (i :: ps) := by
  intro p hp h3 he
  rcases Nat.lt_or_ge p i with h1 | h1
  · exact List.mem_cons_of_mem _ (h p h1 h3 he)
  · obtain rfl : p = i := by omega
    exact List.mem_cons_self
theorem Full.few {X : List UInt8} {fr i : Nat} {ps : List Nat} (h : Full X fr i ps) (h1 : X.length < i + 3) : Full X fr (i + 1) ps := by
  intro p hp h3 he
  exact h p (by omega) h3 he
theorem Full.chain {X : List UInt8} {fr a : Nat} {ps : List Nat} (h : Full X fr a ps) (hf : ps.Pairwise (· > ·)) (hlt : ∀ p ∈ ps, p < a) (hfr : fr ≤ a) (h3 : a + 3 ≤ X.length) : chainP X ps (hashN X a) = allP X a := by
  refine desc_eq _ _ (hf.sublist List.filter_sublist) (allP_falls X a) (fun q => ⟨fun hq => ?_, fun hq => ?_⟩)
  · have h1 := List.mem_filter.1 hq
    exact List.mem_filter.2 ⟨by simpa using hlt q h1.1, h1.2⟩
  · have h1 := List.mem_filter.1 hq
    have h2 : q < a := by simpa using h1.1
    have h4 : hashN X q = hashN X a := by simpa using h1.2
    exact List.mem_filter.2 ⟨h q h2 (by omega) ⟨a, hfr, h3, h4.symm⟩, h1.2⟩

/-- The tokens from a place on, where that match was found. -/
def tokF (X : List UInt8) (lv tr : Nat) : Nat → Nat → Nat × Nat → List Tok
  | 0, _, _ => []
  | f + 1, a, m =>
    if X.length ≤ a then []
    else if m.1 = 0 ∨ (4 ≤ lv ∧ m.1 < 258 ∧ m.1 < (lookU X (a + 1) tr).1) then ⟨X.getD a 0, 0, 0⟩ :: tokF X lv tr f (a + 1) (lookU X (a + 1) tr)
    else ⟨0, (m.1 : Nat), (m.2 : Nat)⟩ :: tokF X lv tr f (a + m.1) (lookU X (a + m.1) tr)
theorem tokF_end (X : List UInt8) (lv tr f a : Nat) (m : Nat × Nat) (h : X.length ≤ a) : tokF X lv tr f a m = [] := by
  cases f with
  | zero => rfl
  | succ f => rw [tokF, if_pos h]
theorem tokF_fuel (X : List UInt8) (lv tr : Nat) : ∀ f f' a m, X.length ≤ a + f → X.length ≤ a + f' → tokF X lv tr f a m = tokF X lv tr f' a m := by
  intro f
  induction f with
  | zero => intro f' a m h1 h2; rw [tokF_end _ _ _ _ _ _ (by omega), tokF_end _ _ _ _ _ _ (by omega)]
  | succ f ih =>
    intro f' a m h1 h2
    by_cases ha : X.length ≤ a
    · rw [tokF_end _ _ _ _ _ _ ha, tokF_end _ _ _ _ _ _ ha]
    · cases f' with
      | zero => omega
      | succ f' =>
        rw [tokF, tokF, if_neg ha, if_neg ha]
        split
        · rw [ih f' _ _ (by omega) (by omega)]
        · rw [ih f' _ _ (by omega) (by omega)]
def restT (X : List UInt8) (lv tr a : Nat) (m : Nat × Nat) : List Tok := tokF X lv tr (X.length - a) a m
theorem restT_end (X : List UInt8) (lv tr a : Nat) (m : Nat × Nat) (h : X.length ≤ a) : restT X lv tr a m = [] := tokF_end _ _ _ _ _ _ h
theorem restT_byte (X : List UInt8) (lv tr a : Nat) (m : Nat × Nat) (h : a < X.length) (hm : m.1 = 0 ∨ (4 ≤ lv ∧ m.1 < 258 ∧ m.1 < (lookU X (a + 1) tr).1)) :
    restT X lv tr a m = ⟨X.getD a 0, 0, 0⟩ :: restT X lv tr (a + 1) (lookU X (a + 1) tr) := by
  unfold restT
  obtain ⟨f, hf⟩ : ∃ f, X.length - a = f + 1 := ⟨X.length - a - 1, by omega⟩
  rw [hf, tokF, if_neg (by omega), if_pos hm, tokF_fuel X lv tr f (X.length - (a + 1)) _ _ (by omega) (by omega)]
theorem restT_match (X : List UInt8) (lv tr a : Nat) (m : Nat × Nat) (h : a < X.length) (hm : ¬ (m.1 = 0 ∨ (4 ≤ lv ∧ m.1 < 258 ∧ m.1 < (lookU X (a + 1) tr).1))) :
    restT X lv tr a m = ⟨0, (m.1 : Nat), (m.2 : Nat)⟩ :: restT X lv tr (a + m.1) (lookU X (a + m.1) tr) := by
  unfold restT
  obtain ⟨f, hf⟩ : ∃ f, X.length - a = f + 1 := ⟨X.length - a - 1, by omega⟩
  rw [hf, tokF, if_neg (by omega), if_neg hm, tokF_fuel X lv tr f (X.length - (a + m.1)) _ _ (by omega) (by omega)]
/-- They tell the text. -/
theorem tokF_tell (X : List UInt8) (lv tr fr : Nat) : ∀ f a m ts, X.length ≤ a + f → a ≤ X.length → FoundL X a m → expandL (X.take fr) ts = some (X.take a) → expandL (X.take fr) (ts ++ tokF X lv tr f a m) = some X := by
  intro f
  induction f with
  | zero =>
    intro a m ts h1 h2 _ he
    obtain rfl : a = X.length := by omega
    rw [tokF, List.append_nil, he, List.take_length]
  | succ f ih =>
    intro a m ts h1 h2 hm he
    by_cases ha : X.length ≤ a
    · obtain rfl : a = X.length := by omega
      rw [tokF_end _ _ _ _ _ _ ha, List.append_nil, he, List.take_length]
    · rw [tokF, if_neg ha]
      split
      · have := ih (a + 1) (lookU X (a + 1) tr) (ts ++ [⟨X.getD a 0, 0, 0⟩]) (by omega) (by omega) (look_found _ _ _) (tell_byte he (by omega))
        rwa [List.append_assoc] at this
      · have hz : m.1 ≠ 0 := by omega
        have hle := FoundL.le (z := m.1) (d := m.2) hm
        have := ih (a + m.1) (lookU X (a + m.1) tr) (ts ++ [⟨0, (m.1 : Nat), (m.2 : Nat)⟩]) (by omega) (by omega) (look_found _ _ _) (hm.tell hz he (by omega))
        rwa [List.append_assoc] at this
theorem restT_tell (X : List UInt8) (lv tr fr : Nat) (m : Nat × Nat) (h : fr ≤ X.length) (hm : FoundL X fr m) : expandL (X.take fr) (restT X lv tr fr m) = some X := by
  have := tokF_tell X lv tr fr (X.length - fr) fr m [] (by omega) h hm rfl
  rwa [List.nil_append] at this
theorem tokF_len (X : List UInt8) (lv tr : Nat) : ∀ f a m, (tokF X lv tr f a m).length ≤ X.length - a := by
  intro f
  induction f with
  | zero => intro a m; exact Nat.zero_le _
  | succ f ih =>
    intro a m
    rw [tokF]
    split
    · exact Nat.zero_le _
    · split
      · have := ih (a + 1) (lookU X (a + 1) tr)
        rw [List.length_cons]
        omega
      · have := ih (a + m.1) (lookU X (a + m.1) tr)
        rw [List.length_cons]
        omega
end Go.Proofs.Ytbjkoepldccaaaa
