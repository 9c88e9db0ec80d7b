/- Plain mathematics of a log's slots: a sector's bytes, what it tells, what a torn one tells. -/
import Derived.Test.YtmcakilpdecacaaCrcNum
import Derived.Test.YtmcakilpdecacaaDkD
namespace Go.Proofs.Ytmcakilpdecacaa

/-- A slot's first 60 bytes. -/
def slotX (n : Nat) (s : List UInt8) : List UInt8 := leB 8 n ++ (leB 1 s.length ++ s)
def slotH (n : Nat) (s : List UInt8) : List UInt8 := slotX n s ++ List.replicate (51 - s.length) 0
/-- A slot. -/
def slotB (n : Nat) (s : List UInt8) : List UInt8 := slotH n s ++ leB 4 (moreN 0 (slotH n s))
/-- What a sector's first half tells. -/
def headE (S : List UInt8) : Nat × List UInt8 := (getN (S.take 8), (S.drop 9).take (S.getD 8 0).toNat)
/-- The entry of a sector. -/
def entOf (S : List UInt8) : Option (Nat × List UInt8) :=
  if (S.getD 8 0).toNat ≤ 23 ∧ (headE S).1 ≠ 0 ∧ slotB (headE S).1 (headE S).2 = S then some (headE S) else none

theorem slotX_len (n : Nat) (s : List UInt8) : (slotX n s).length = 9 + s.length := by
  unfold slotX; simp only [List.length_append, leB_length]; omega
theorem slotH_len (n : Nat) (s : List UInt8) (h : s.length ≤ 23) : (slotH n s).length = 60 := by
  unfold slotH; simp only [List.length_append, slotX_len, List.length_replicate]; omega
theorem slotB_len (n : Nat) (s : List UInt8) (h : s.length ≤ 23) : (slotB n s).length = 64 := by
  unfold slotB; rw [List.length_append, slotH_len n s h, leB_length]

theorem slot_head (n : Nat) (s : List UInt8) (hn : n < 18446744073709551616) (h : s.length ≤ 23) : ((slotB n s).getD 8 0).toNat = s.length ∧ headE (slotB n s) = (n, s) := by
  obtain ⟨R, hR⟩ : ∃ R, slotB n s = leB 8 n ++ (leB 1 s.length ++ (s ++ R)) := ⟨List.replicate (51 - s.length) 0 ++ leB 4 (moreN 0 (slotH n s)), by unfold slotB; rw [show slotH n s = slotX n s ++ List.replicate (51 - s.length) 0 from rfl]; unfold slotX; simp only [List.append_assoc]⟩
  have l8 : (leB 8 n).length = 8 := leB_length 8 n
  have l1 : (leB 1 s.length).length = 1 := leB_length 1 _
  have e8 : ((slotB n s).getD 8 0).toNat = s.length := by
    rw [hR, List.getD_eq_getElem?_getD, List.getElem?_append_right (by omega), l8]
    show ((leB 1 s.length ++ (s ++ R))[0]?.getD 0).toNat = s.length
    rw [List.getElem?_append_left (by omega)]
    simp [leB]; omega
  refine ⟨e8, ?_⟩
  unfold headE
  rw [e8, hR, List.take_append_of_le_length (by omega), List.take_of_length_le (by omega), getN_leB, Nat.mod_eq_of_lt (by omega)]
  have d9 : (leB 8 n ++ (leB 1 s.length ++ (s ++ R))).drop 9 = s ++ R := by
    rw [← List.append_assoc, List.drop_append_of_le_length (by rw [List.length_append]; omega), List.drop_eq_nil_of_le (by rw [List.length_append]; omega), List.nil_append]
  rw [d9, List.take_append_of_le_length (Nat.le_refl _), List.take_length]

theorem ent_slot (n : Nat) (s : List UInt8) (h0 : n ≠ 0) (hn : n < 18446744073709551616) (h : s.length ≤ 23) : entOf (slotB n s) = some (n, s) := by
  obtain ⟨h1, h2⟩ := slot_head n s hn h
  unfold entOf
  rw [h1, h2, if_pos ⟨h, h0, rfl⟩]
theorem ent_zero : entOf (List.replicate 64 0) = none := by
  unfold entOf headE
  rw [if_neg]
  rintro ⟨_, h, _⟩
  exact h (by decide +kernel)
theorem ent_some {S : List UInt8} {e : Nat × List UInt8} (h : entOf S = some e) : (S.getD 8 0).toNat ≤ 23 ∧ headE S = e ∧ e.1 ≠ 0 ∧ S = slotB e.1 e.2 := by
  unfold entOf at h
  split at h
  · rename_i hc
    have he := Option.some.inj h
    subst he
    exact ⟨hc.1, rfl, hc.2.1, hc.2.2.symm⟩
  · cases h

/-- The head is told by the first half. -/
theorem head_half {S T : List UInt8} (h : S.take 32 = T.take 32) (h2 : (S.getD 8 0).toNat ≤ 23) : (T.getD 8 0) = S.getD 8 0 ∧ headE T = headE S := by
  have e8 : T.getD 8 0 = S.getD 8 0 := by
    have := congrArg (fun l => l.getD 8 0) h
    simp only [List.getD_eq_getElem?_getD] at this ⊢
    rw [List.getElem?_take_of_lt (by omega), List.getElem?_take_of_lt (by omega)] at this
    exact this.symm
  refine ⟨e8, ?_⟩
  unfold headE
  rw [e8]
  have t8 : T.take 8 = S.take 8 := by
    have := congrArg (List.take 8) h
    rw [List.take_take, List.take_take] at this
    exact this.symm
  have d9 : (T.drop 9).take (S.getD 8 0).toNat = (S.drop 9).take (S.getD 8 0).toNat := by
    have := congrArg (fun l => (l.drop 9).take (S.getD 8 0).toNat) h
    simp only [List.drop_take, List.take_take] at this
    rw [Nat.min_eq_left (by omega)] at this
    exact this.symm
  rw [t8, d9]

/-- A sector that a log's slot may stand in: noughts, or a slot. -/
def SecOk (S : List UInt8) : Prop := S = List.replicate 64 0 ∨ ∃ n s, n ≠ 0 ∧ n < 18446744073709551616 ∧ s.length ≤ 23 ∧ S = slotB n s
theorem SecOk.len {S : List UInt8} (h : SecOk S) : S.length = 64 := by
  rcases h with rfl | ⟨n, s, _, _, h3, rfl⟩
  · simp
  · exact slotB_len n s h3
/-- What shares its first half with such a sector tells what it tells, or nothing. -/
theorem half_ent {S T : List UInt8} (hS : SecOk S) (h : T.take 32 = S.take 32) : entOf T = none ∨ entOf T = entOf S := by
  cases hT : entOf T with
  | none => exact .inl rfl
  | some e =>
    right
    obtain ⟨a1, a2, a3, a4⟩ := ent_some hT
    obtain ⟨b1, b2⟩ := head_half h a1
    rcases hS with rfl | ⟨n, s, h1, h2, h3, rfl⟩
    · exfalso
      rw [a2] at b2
      apply a3
      rw [← b2]
      decide +kernel
    · obtain ⟨c1, c2⟩ := slot_head n s h2 h3
      rw [c2, a2] at b2
      rw [← b2, ent_slot n s h1 h2 h3]
/-- A sector that was torn between two such tells one of the two, or nothing. -/
theorem ent_fate {old new : List UInt8} (ho : SecOk old) (hn : SecOk new) (z : Int) : entOf (fateT old new z) = none ∨ entOf (fateT old new z) = entOf old ∨ entOf (fateT old new z) = entOf new := by
  unfold fateT
  split
  · exact .inr (.inl rfl)
  · split
    · exact .inr (.inr rfl)
    · split
      · rcases half_ent (T := new.take 32 ++ old.drop 32) hn (by rw [List.take_append_of_le_length (by rw [List.length_take, hn.len]; omega), List.take_take]; rfl) with h | h
        · exact .inl h
        · exact .inr (.inr h)
      · rcases half_ent (T := old.take 32 ++ new.drop 32) ho (by rw [List.take_append_of_le_length (by rw [List.length_take, ho.len]; omega), List.take_take]; rfl) with h | h
        · exact .inl h
        · exact .inr (.inl h)

/-- What counts among some entries. -/
def lastFrom (l0 : Nat × List UInt8) (es : List (Nat × List UInt8)) : Nat × List UInt8 := es.foldl (fun l e => if l.1 < e.1 then e else l) l0
def lastOf (es : List (Nat × List UInt8)) : Nat × List UInt8 := lastFrom (0, []) es

theorem lastFrom_max (N : Nat) (s : List UInt8) : ∀ (es : List (Nat × List UInt8)) (l0 : Nat × List UInt8), (∀ e ∈ es, e.1 ≤ N ∧ (e.1 = N → e = (N, s))) → (l0.1 < N ∨ l0 = (N, s)) → ((N, s) ∈ es ∨ l0 = (N, s)) → lastFrom l0 es = (N, s)
  | [], l0, _, _, h => by rcases h with h | h; · cases h
                          · exact h
  | e :: r, l0, he, h0, h => by
    show lastFrom (if l0.1 < e.1 then e else l0) r = (N, s)
    obtain ⟨e1, e2⟩ := he e List.mem_cons_self
    have her : ∀ x ∈ r, x.1 ≤ N ∧ (x.1 = N → x = (N, s)) := fun x hx => he x (List.mem_cons_of_mem _ hx)
    rcases h0 with h0 | h0
    · by_cases hle : l0.1 < e.1
      · rw [if_pos hle]
        by_cases heN : e.1 = N
        · have := e2 heN
          subst this
          exact lastFrom_max N s r _ her (.inr rfl) (.inr rfl)
        · refine lastFrom_max N s r _ her (.inl (by omega)) ?_
          rcases h with h | h
          · rcases List.mem_cons.1 h with h | h
            · exact absurd (by rw [← h]) heN
            · exact .inl h
          · rw [h] at h0; exact absurd h0 (Nat.lt_irrefl _)
      · rw [if_neg hle]
        refine lastFrom_max N s r _ her (.inl h0) ?_
        rcases h with h | h
        · rcases List.mem_cons.1 h with h | h
          · rw [← h] at hle; exact absurd h0 hle
          · exact .inl h
        · exact .inr h
    · subst h0
      rw [if_neg (by show ¬ N < e.1; omega)]
      exact lastFrom_max N s r _ her (.inr rfl) (.inr rfl)
theorem lastOf_max {N : Nat} {s : List UInt8} {es : List (Nat × List UInt8)} (hN : 0 < N) (he : ∀ e ∈ es, e.1 ≤ N ∧ (e.1 = N → e = (N, s))) (h : (N, s) ∈ es) : lastOf es = (N, s) :=
  lastFrom_max N s es (0, []) he (.inl hN) (.inl h)

/-- The sectors of a log behind N notes, the last one being s: noughts or slots of numbers up to N; N's own stands where it must. -/
structure LogSecs (secs : List (List UInt8)) (N : Nat) (s : List UInt8) : Prop where
  each : ∀ S ∈ secs, S = List.replicate 64 0 ∨ ∃ m t, 1 ≤ m ∧ m ≤ N ∧ t.length ≤ 23 ∧ (m = N → t = s) ∧ S = slotB m t
  top : 0 < N → secs[N % secs.length]? = some (slotB N s)
  len : s.length ≤ 23
  zero : N = 0 → s = []

theorem LogSecs.ok {secs : List (List UInt8)} {N : Nat} {s : List UInt8} (h : LogSecs secs N s) (hN : N < 1000000) : ∀ S ∈ secs, SecOk S := fun S hS => by
  rcases h.each S hS with h1 | ⟨m, t, h1, h2, h3, _, h5⟩
  · exact .inl h1
  · exact .inr ⟨m, t, by omega, by omega, h3, h5⟩
theorem LogSecs.ent {secs : List (List UInt8)} {N : Nat} {s : List UInt8} (h : LogSecs secs N s) (hN : N < 1000000) : ∀ e ∈ secs.filterMap entOf, 1 ≤ e.1 ∧ e.1 ≤ N ∧ (e.1 = N → e = (N, s)) := fun e he => by
  obtain ⟨S, hS, h1⟩ := List.mem_filterMap.1 he
  rcases h.each S hS with h2 | ⟨m, t, h2, h3, h4, h5, h6⟩
  · rw [h2, ent_zero] at h1; cases h1
  · rw [h6, ent_slot m t (by omega) (by omega) h4] at h1
    have := Option.some.inj h1
    subst this
    exact ⟨h2, h3, fun hm => by have : m = N := hm; subst this; rw [h5 rfl]⟩
theorem LogSecs.last {secs : List (List UInt8)} {N : Nat} {s : List UInt8} (h : LogSecs secs N s) (hN : N < 1000000) : lastOf (secs.filterMap entOf) = (N, s) := by
  rcases Nat.eq_zero_or_pos N with h0 | h0
  · have hnil : secs.filterMap entOf = [] := by
      apply List.eq_nil_iff_forall_not_mem.2
      intro e he
      have := h.ent hN e he
      omega
    rw [hnil, h0, h.zero h0]; rfl
  · refine lastOf_max h0 (fun e he => (h.ent hN e he).2) (List.mem_filterMap.2 ⟨_, List.mem_of_getElem? (h.top h0), ent_slot N s (by omega) (by omega) h.len⟩)

/-- One note more. -/
theorem LogSecs.put {secs : List (List UInt8)} {N : Nat} {s : List UInt8} (h : LogSecs secs N s) (h2 : 2 ≤ secs.length) (t : List UInt8) (ht : t.length ≤ 23) : LogSecs (secs.set ((N + 1) % secs.length) (slotB (N + 1) t)) (N + 1) t := by
  have hlt : (N + 1) % secs.length < secs.length := Nat.mod_lt _ (by omega)
  refine ⟨fun S hS => ?_, fun _ => ?_, ht, fun h => by omega⟩
  · rcases List.mem_or_eq_of_mem_set hS with hS | rfl
    · rcases h.each S hS with h1 | ⟨m, u, a1, a2, a3, a4, a5⟩
      · exact .inl h1
      · exact .inr ⟨m, u, a1, by omega, a3, fun hm => by omega, a5⟩
    · exact .inr ⟨N + 1, t, by omega, Nat.le_refl _, ht, fun _ => rfl, rfl⟩
  · rw [List.length_set, List.getElem?_set_self hlt]

/-- A torn sector where the next note was to be: what counts is what counted, or the next one. -/
theorem LogSecs.torn {secs : List (List UInt8)} {N : Nat} {s : List UInt8} (h : LogSecs secs N s) (h2 : 2 ≤ secs.length) (hN : N + 1 < 1000000) (t : List UInt8) (ht : t.length ≤ 23) (z : Int) :
    lastOf ((secs.set ((N + 1) % secs.length) (fateT (secs.getD ((N + 1) % secs.length) []) (slotB (N + 1) t) z)).filterMap entOf) = (N, s) ∨ lastOf ((secs.set ((N + 1) % secs.length) (fateT (secs.getD ((N + 1) % secs.length) []) (slotB (N + 1) t) z)).filterMap entOf) = (N + 1, t) := by
  have hlt : (N + 1) % secs.length < secs.length := Nat.mod_lt _ (by omega)
  have hne : N % secs.length ≠ (N + 1) % secs.length := by
    intro e
    have h1 := Nat.div_add_mod N secs.length
    have h3 := Nat.div_add_mod (N + 1) secs.length
    rw [← e] at h3
    have h4 : secs.length * ((N + 1) / secs.length) = secs.length * (N / secs.length) + 1 := by omega
    rcases Nat.lt_or_ge ((N + 1) / secs.length) (N / secs.length + 1) with h5 | h5
    · have := Nat.mul_le_mul_left secs.length (show (N + 1) / secs.length ≤ N / secs.length by omega)
      omega
    · have := Nat.mul_le_mul_left secs.length h5
      rw [Nat.mul_add, Nat.mul_one] at this
      omega
  obtain ⟨O, hO⟩ : ∃ O, secs.getD ((N + 1) % secs.length) [] = O := ⟨_, rfl⟩
  have hOm : O ∈ secs := by rw [← hO, List.getD_eq_getElem?_getD, List.getElem?_eq_getElem hlt]; exact List.getElem_mem hlt
  rw [hO]
  have hcase := ent_fate (h.ok (by omega) O hOm) (.inr ⟨N + 1, t, by omega, by omega, ht, rfl⟩) z
  rw [ent_slot (N + 1) t (by omega) (by omega) ht] at hcase
  generalize fateT O (slotB (N + 1) t) z = T at hcase
  have hmem : ∀ e ∈ (secs.set ((N + 1) % secs.length) T).filterMap entOf, (1 ≤ e.1 ∧ e.1 ≤ N ∧ (e.1 = N → e = (N, s))) ∨ entOf T = some e := fun e he => by
    obtain ⟨S, hS, h1⟩ := List.mem_filterMap.1 he
    rcases List.mem_or_eq_of_mem_set hS with hS | rfl
    · exact .inl (h.ent (by omega) e (List.mem_filterMap.2 ⟨S, hS, h1⟩))
    · exact .inr h1
  have hold : ∀ e, entOf O = some e → 1 ≤ e.1 ∧ e.1 ≤ N ∧ (e.1 = N → e = (N, s)) := fun e he => h.ent (by omega) e (List.mem_filterMap.2 ⟨O, hOm, he⟩)
  have htop : 0 < N → (N, s) ∈ (secs.set ((N + 1) % secs.length) T).filterMap entOf := fun h0 => by
    refine List.mem_filterMap.2 ⟨slotB N s, ?_, ent_slot N s (by omega) (by omega) h.len⟩
    have := h.top h0
    rw [← List.getElem?_set_ne (Ne.symm hne) (a := T)] at this
    exact List.mem_of_getElem? this
  have hlow : (∀ e, entOf T = some e → 1 ≤ e.1 ∧ e.1 ≤ N ∧ (e.1 = N → e = (N, s))) → lastOf ((secs.set ((N + 1) % secs.length) T).filterMap entOf) = (N, s) := fun hT => by
    rcases Nat.eq_zero_or_pos N with h0 | h0
    · have hnil : (secs.set ((N + 1) % secs.length) T).filterMap entOf = [] := by
        apply List.eq_nil_iff_forall_not_mem.2
        intro e he
        rcases hmem e he with h | h
        · omega
        · have := hT e h; omega
      rw [hnil, h0, h.zero h0]; rfl
    · exact lastOf_max h0 (fun e he => by rcases hmem e he with h | h; · exact h.2
                                          · exact (hT e h).2) (htop h0)
  rcases hcase with hc | hc | hc
  · exact .inl (hlow fun e he => by rw [hc] at he; cases he)
  · exact .inl (hlow fun e he => hold e (by rw [← hc]; exact he))
  · right
    refine lastOf_max (by omega) (fun e he => ?_) (List.mem_filterMap.2 ⟨T, List.mem_iff_getElem?.2 ⟨(N + 1) % secs.length, by rw [List.getElem?_set_self hlt]⟩, hc⟩)
    rcases hmem e he with h | h
    · exact ⟨by omega, fun hx => by omega⟩
    · rw [hc] at h
      have := Option.some.inj h
      subst this
      exact ⟨Nat.le_refl _, fun _ => rfl⟩

end Go.Proofs.Ytmcakilpdecacaa
