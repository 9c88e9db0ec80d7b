
/- Package match's finder in memory: which places were put, and how they hang together; the contract of put. -/
import Derived.Test.YtbjkoepldccaaaaMatA
import Derived.Maps.OwnSet
import Derived.Maps.OwnOps
namespace Go.Proofs.Ytbjkoepldccaaaa
open Go Go.RowKit Go.Maps
set_option maxRecDepth 100000

/-- The places with a hash, of those that were put (the last one first). -/
def chainP (X : List UInt8) (ps : List Nat) (h : Nat) : List Nat := ps.filter fun p => hashN X p == h
def headI : List Nat → Int
  | [] => -1
  | q :: _ => (q : Nat)
def Linked (X : List UInt8) (xs : List Int) : List Nat → Prop
  | [] => True
  | p :: r => xs[p]? = some (headI (chainP X r (hashN X p))) ∧ Linked X xs r
theorem Linked.set {X : List UInt8} {xs : List Int} {ps : List Nat} (h : Linked X xs ps) (i : Nat) (hn : ∀ p ∈ ps, p ≠ i) (z : Int) : Linked X (xs.set i z) ps := by
  induction ps with
  | nil => trivial
  | cons p r ih =>
    refine ⟨?_, ih h.2 (fun q hq => hn q (List.mem_cons_of_mem _ hq))⟩
    rw [List.getElem?_set, if_neg (fun e => hn p List.mem_cons_self e.symm)]
    exact h.1
theorem Linked.push {X : List UInt8} {xs : List Int} {ps : List Nat} (h : Linked X xs ps) (i : Nat) (hi : i < xs.length) (hn : ∀ p ∈ ps, p < i) : Linked X (xs.set i (headI (chainP X ps (hashN X i)))) (i :: ps) :=
  ⟨by rw [List.getElem?_set, if_pos rfl, if_pos hi], h.set i (fun p hp => by have := hn p hp; omega) _⟩

def zsV (l : List Int) : List Value := l.map fun x => Value.int .i64 x
theorem zsV_length (l : List Int) : (zsV l).length = l.length := by simp [zsV]

theorem Try.keyU : Keyed Try.prog 49 := int_keyed Try.underlying49
theorem Try.zeroI (w : World) : (zeroValue 3).run Try.prog w = .ok (.int .i64 0) w := by kernel_rfl
theorem wf_u32i (h : Nat) (hh : h < 65536) : (Lit.int .u32 (h : Nat)).wf = true := by
  simp [Lit.wf, IntKind.min, IntKind.max, IntKind.signed, IntKind.bits]
  omega
theorem wf_i64i (h : Int) (h0 : 0 ≤ h) (h1 : h ≤ 1000000) : (Lit.int .i64 h).wf = true := by
  simp [Lit.wf, IntKind.min, IntKind.max, IntKind.signed, IntKind.bits]
  omega

/-- The map of the last places. -/
def MapAt (w : World) (mb : Nat) (X : List UInt8) (ps : List Nat) : Prop :=
  ∃ D : DataW Unit, w.ownsMap Try.prog 49 (plainElem Try.prog 3) mb ps.length D ∧ ∀ h : Nat, h < 65536 →
    has D (.int .u32 (h : Nat)) = !(chainP X ps h).isEmpty ∧ D.atKey (.int .u32 (h : Nat)) (.lit (.int .i64 0)) = .lit (.int .i64 ((chainP X ps h).headD 0 : Nat))

/-- A finder at block b. -/
structure FAt (w : World) (b : Nat) (T : ByteArray) (fr mb pb : Nat) (ps : List Nat) : Prop where
  c0 : w.cell? ⟨b, 0, none⟩ = some (.string T)
  c1 : w.cell? ⟨b, 1, none⟩ = some (.int .i64 (fr : Nat))
  c2 : w.cell? ⟨b, 2, none⟩ = some (.map (some mb))
  c3 : w.cell? ⟨b, 3, none⟩ = some (.slice (some ⟨pb, 0, none⟩) T.size T.size)
  lt : ∀ p ∈ ps, p + 3 ≤ T.size
  falls : ps.Pairwise (· > ·)
  mp : MapAt w mb T.data.toList ps
  row : ∃ xs : List Int, xs.length = T.size ∧ Row w 3 (.slice (some ⟨pb, 0, none⟩) T.size T.size) (zsV xs) ∧ Linked T.data.toList xs ps
  bm : b ≠ mb
  bp : b ≠ pb
  pm : pb ≠ mb

theorem map_kept {S : Nat → Prop} {w w' : World} {mb n : Nat} {D : DataW Unit} (d1 : w.ownsMap Try.prog 49 (plainElem Try.prog 3) mb n D) (ht : Touch S w w') (hm : ¬ S mb) : w'.ownsMap Try.prog 49 (plainElem Try.prog 3) mb n D := by
  obtain ⟨es, clock, hb', F, hs, hD⟩ := d1
  exact ⟨es, clock, (ht.block mb (Array.getElem?_eq_some_iff.1 hb').1 hm).trans hb', F, hs, hD⟩
theorem FAt.kept {S : Nat → Prop} {w w' : World} {b : Nat} {T : ByteArray} {fr mb pb : Nat} {ps : List Nat} (h : FAt w b T fr mb pb ps) (ht : Touch S w w') (hb : ¬ S b) (hm : ¬ S mb) (hp : ¬ S pb) : FAt w' b T fr mb pb ps := by
  obtain ⟨xs, x1, x2, x3⟩ := h.row
  obtain ⟨D, d1, d2⟩ := h.mp
  refine ⟨ht.cell h.c0 hb, ht.cell h.c1 hb, ht.cell h.c2 hb, ht.cell h.c3 hb, h.lt, h.falls, ⟨D, map_kept d1 ht hm, d2⟩, ⟨xs, x1, x2.kept ht (fun g hg e => hp (by have h9 : pb = g := Option.some.inj hg; rw [h9]; exact e)), x3⟩, h.bm, h.bp, h.pm⟩

theorem chainP_push_same (X : List UInt8) (ps : List Nat) (i : Nat) : chainP X (i :: ps) (hashN X i) = i :: chainP X ps (hashN X i) := by
  unfold chainP
  rw [List.filter_cons_of_pos (by simp)]
theorem chainP_push_other (X : List UInt8) (ps : List Nat) (i h : Nat) (hh : h ≠ hashN X i) : chainP X (i :: ps) h = chainP X ps h := by
  unfold chainP
  rw [List.filter_cons_of_neg (by simp; exact fun e => hh e.symm)]

theorem MapAt.push {w' : World} {mb : Nat} {X : List UInt8} {ps : List Nat} {D : DataW Unit} {i : Nat} (hm : IsMap D)
    (hD : ∀ h : Nat, h < 65536 → has D (.int .u32 (h : Nat)) = !(chainP X ps h).isEmpty ∧ D.atKey (.int .u32 (h : Nat)) (.lit (.int .i64 0)) = .lit (.int .i64 ((chainP X ps h).headD 0 : Nat)))
    (hw : w'.ownsMap Try.prog 49 (plainElem Try.prog 3) mb (ps.length + 1) (D.put (.int .u32 (hashN X i : Nat)) (.lit (.int .i64 (i : Nat))))) : MapAt w' mb X (i :: ps) := by
  refine ⟨_, by simpa using hw, fun h hh => ?_⟩
  by_cases e : h = hashN X i
  · subst e
    rw [chainP_push_same]
    exact ⟨has_put_same hm (by trivial) _, atKey_put_same hm (by trivial) _ _⟩
  · rw [chainP_push_other X ps i h e]
    have hne : (Lit.int .u32 (h : Nat)) ≠ Lit.int .u32 (hashN X i : Nat) := by
      intro e2
      injection e2 with _ e2
      omega
    rw [has_put_other hne, atKey_put_other hne]
    exact hD h hh

theorem put_few (b i : Nat) (T : ByteArray) (w : World) (hc : w.cell? ⟨b, 0, none⟩ = some (.string T)) (hi : T.size < i + 3) (hT : T.size ≤ 1000000) (hi2 : i ≤ 1000000) :
    Calls Try.prog 19 #[.pointer (some ⟨b, 0, none⟩), .int .i64 (i : Nat)] w fun e w' => e = .returned (.tuple #[]) ∧ w = w' := by
  have h1 : (T.size : Int) - (i : Int) < 3 := by omega
  go_enter Try.func19, Try.ntmps19
  go_wp2_with fail
  ((try simp only [Exit.inBlock, Exit.then]); refine bodyPost_ret (results_none rfl _ _ _) rfl ?_)
  exact ⟨rfl, rfl⟩

theorem put_end {b i fr mb pb : Nat} {T : ByteArray} {ps : List Nat} {w : World} (h : FAt w b T fr mb pb ps) (hi : i + 3 ≤ T.size) (hn : ∀ p ∈ ps, p < i) {D : DataW Unit} (hm : IsMap D)
    (hD : ∀ h : Nat, h < 65536 → has D (.int .u32 (h : Nat)) = !(chainP T.data.toList ps h).isEmpty ∧ D.atKey (.int .u32 (h : Nat)) (.lit (.int .i64 0)) = .lit (.int .i64 ((chainP T.data.toList ps h).headD 0 : Nat)))
    {xs : List Int} (x1 : xs.length = T.size) (x2 : Row w 3 (.slice (some ⟨pb, 0, none⟩) T.size T.size) (zsV xs)) (x3 : Linked T.data.toList xs ps) {q : Nat} {w2 : World} {z' : Int} (hz' : z' = headI (chainP T.data.toList ps (hashN T.data.toList i)))
    (hg : ((w.drewN q).setCell ⟨pb, i, none⟩ (.int .i64 z')).grownBy w2 (some mb)) (ho : w2.ownsMap Try.prog 49 (plainElem Try.prog 3) mb (ps.length + 1) (D.put (.int .u32 (hashN T.data.toList i : Nat)) (.lit (.int .i64 (i : Nat))))) :
    FAt w2 b T fr mb pb (i :: ps) ∧ Touch (fun k => k = mb ∨ k = pb) w w2 := by
  have T1 : Touch (fun k => k = mb ∨ k = pb) w ((w.drewN q).setCell ⟨pb, i, none⟩ (.int .i64 z')) := ((Touch.refl _ w).drewN q).setCell (p := ⟨pb, i, none⟩) (.inl (.inr rfl)) _
  have T2 := T1.grown hg (fun k hk => .inl (.inl (Option.some.inj hk).symm))
  have hb : ¬ (b = mb ∨ b = pb) := fun e => e.elim h.bm h.bp
  have hr0 := (x2.kept (S := fun _ => False) ((Touch.refl _ w).drewN q) (fun _ _ => id)).set (k := i) (by omega) (.int .i64 z')
  rw [Nat.zero_add] at hr0
  have hr1 := hr0.kept (Touch.of_grown hg) (fun g hg' e => by
    have h9 : pb = g := Option.some.inj hg'
    have h8 : g = mb := Option.some.inj e
    exact h.pm (h9.trans h8))
  have hse : (zsV xs).set i (.int .i64 z') = zsV (xs.set i z') := by simp [zsV, List.map_set]
  refine ⟨⟨T2.cell h.c0 hb, T2.cell h.c1 hb, T2.cell h.c2 hb, T2.cell h.c3 hb, fun p hp => ?_, List.pairwise_cons.2 ⟨fun p hp => hn p hp, h.falls⟩, MapAt.push hm hD ho, ⟨xs.set i z', by rw [List.length_set]; exact x1, by rw [← hse]; exact hr1, by rw [hz']; exact x3.push i (by omega) hn⟩, h.bm, h.bp, h.pm⟩, T2⟩
  rcases List.mem_cons.1 hp with e | e
  · rw [e]; exact hi
  · exact h.lt p e

set_option maxHeartbeats 1000000 in
theorem put_calls (b i fr mb pb : Nat) (T : ByteArray) (ps : List Nat) (w : World) (h : FAt w b T fr mb pb ps) (hi : i + 3 ≤ T.size) (hn : ∀ p ∈ ps, p < i) (hT : T.size ≤ 1000000) (hl : ps.length ≤ 1000000) :
    Calls Try.prog 19 #[.pointer (some ⟨b, 0, none⟩), .int .i64 (i : Nat)] w fun e w' => e = .returned (.tuple #[]) ∧ FAt w' b T fr mb pb (i :: ps) ∧ Touch (fun k => k = mb ∨ k = pb) w w' := by
  have HH := Lib.hid h
  have c0 := h.c0
  have c2 := h.c2
  have c3 := h.c3
  obtain ⟨D, hown, hD⟩ := h.mp
  obtain ⟨xs, x1, x2, x3⟩ := h.row
  have hbp := h.bp
  have hbm := h.bm
  have hpm := h.pm
  have h1 : ¬ ((T.size : Int) - (i : Int) < 3) := by omega
  have hlt := hashN_lt T.data.toList i
  have HC := Lib.hid (hash_calls b T i w c0 hi hT)
  have HD := Lib.hid (hD _ hlt)
  have hkey := keyOf_int_mk (P := Try.prog) Try.underlying49 (wf_u32i _ hlt)
  have hi0 : (0 : Int) ≤ (i : Int) := by omega
  have hi1 : (i : Int) < (T.size : Int) := by omega
  have hfr := x2.free (k := i)
  obtain ⟨z, hz⟩ : ∃ z, xs[i]? = some z := ⟨_, List.getElem?_eq_getElem (by omega)⟩
  have hcell := x2.cells.2 i (.int .i64 z) (by simp [zsV, hz])
  rw [Nat.zero_add] at hfr hcell
  have HK := Lib.hid hkey
  have HEND := Lib.hid (fun (q : Nat) (w2 : World) (z' : Int) (hz' : z' = headI (chainP T.data.toList ps (hashN T.data.toList i))) (hg : ((w.drewN q).setCell ⟨pb, i, none⟩ (.int .i64 z')).grownBy w2 (some mb)) (ho : w2.ownsMap Try.prog 49 (plainElem Try.prog 3) mb (ps.length + 1) (D.put (.int .u32 (hashN T.data.toList i : Nat)) (.lit (.int .i64 (i : Nat))))) => put_end h hi hn hown.isMap hD x1 x2 x3 hz' hg ho)
  have HOWN := Lib.hid (fun (q : Nat) (z' : Int) => map_kept hown (((Touch.refl (fun k => k = pb) w).drewN q).setCell (p := ⟨pb, i, none⟩) (.inl rfl) (.int .i64 z')) (fun e => hpm e.symm))
  generalize hch : chainP T.data.toList ps (hashN T.data.toList i) = C at HD HEND
  generalize hhn : hashN T.data.toList i = hv at HC HD HK HEND hlt
  clear h x2 x3 x1 hkey hD hch hhn hz
  go_enter Try.func19, Try.ntmps19
  go_wp2_with fail
  refine HC.out.mono ?_
  rintro e w1 ⟨rfl, q, rfl⟩
  cases C with
  | nil =>
    have hd1 : has D (.int .u32 (hv : Nat)) = false := HD.out.1
    have hc1 : ∀ c : Int, D.atKey (.int .u32 (hv : Nat)) (.lit (.int .i64 0)) = .lit (.int .i64 c) → c = (((0 : Nat) : Int) : Int) := fun c h => by
      have h2 := HD.out.2.symm.trans h
      injection h2 with h2
      injection h2 with _ h2
      exact h2.symm
    have HC1 := Lib.hid hc1
    clear hc1
    go_wp2_with (first
      | (at_lookup; refine wpList_lookup_own_ok_int _ rfl (.tmp 22) (.tmp 23) 41 rfl 49 3 .i64 Try.keyU Try.underlying41 Try.underlying3 (Try.zeroI _) mb ps.length D rfl (by exact map_kept hown ((Touch.refl (fun _ => False) w).drewN q) id) _ _ rfl HK.out ?_; intro c hat hwc; obtain rfl := HC1.out c hat; clear hat hwc)
      | (at_mapUpdate; refine wpList_mapUpdate_own _ rfl (.tmp 39) (.tmp 40) (.tmp 41) 41 rfl 49 3 Try.keyU Try.underlying41 _ mb ps.length D rfl (by exact HOWN.out _ _) (by unfold maxLen; omega) _ _ _ rfl rfl HK.out _ [] (plainElem_int Try.underlying3 (wf_i64i (i : Int) (by omega) (by omega))) ?_; intro w2 hown2 hgrow2))
    go_wp2_with fail
    go_end0
    exact ⟨rfl, HEND.out q w2 _ rfl hgrow2 hown2⟩
  | cons p C =>
    have hp0 : ¬ (p : Int) < 0 := by omega
    have hd1 : has D (.int .u32 (hv : Nat)) = true := HD.out.1
    have hc1 : ∀ c : Int, D.atKey (.int .u32 (hv : Nat)) (.lit (.int .i64 0)) = .lit (.int .i64 c) → c = ((p : Nat) : Int) := fun c h => by
      have h2 := HD.out.2.symm.trans h
      injection h2 with h2
      injection h2 with _ h2
      exact h2.symm
    have HC1 := Lib.hid hc1
    clear hc1
    go_wp2_with (first
      | (at_lookup; refine wpList_lookup_own_ok_int _ rfl (.tmp 22) (.tmp 23) 41 rfl 49 3 .i64 Try.keyU Try.underlying41 Try.underlying3 (Try.zeroI _) mb ps.length D rfl (by exact map_kept hown ((Touch.refl (fun _ => False) w).drewN q) id) _ _ rfl HK.out ?_; intro c hat hwc; obtain rfl := HC1.out c hat; clear hat hwc)
      | (at_mapUpdate; refine wpList_mapUpdate_own _ rfl (.tmp 39) (.tmp 40) (.tmp 41) 41 rfl 49 3 Try.keyU Try.underlying41 _ mb ps.length D rfl (by exact HOWN.out _ _) (by unfold maxLen; omega) _ _ _ rfl rfl HK.out _ [] (plainElem_int Try.underlying3 (wf_i64i (i : Int) (by omega) (by omega))) ?_; intro w2 hown2 hgrow2))
    go_wp2_with fail
    go_end0
    exact ⟨rfl, HEND.out q w2 _ rfl hgrow2 hown2⟩
end Go.Proofs.Ytbjkoepldccaaaa
