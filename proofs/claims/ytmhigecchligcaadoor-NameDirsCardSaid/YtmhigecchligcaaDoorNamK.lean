
/- Plain: the parts of a text between slashes as a list, the text that parts make, what a text cleaned is, and where it is split. -/
import Derived.Test.YtmhigecchligcaaDoorNamJ
import Derived.Lib.Join
import Derived.Lib.LastIndexByte
namespace Go.Proofs.YtmhigecchligcaaDoor
open Go Go.RowKit
set_option maxRecDepth 100000

/-- The parts of bytes between slashes. -/
def spl : List UInt8 → List (List UInt8)
  | [] => [[]]
  | b :: r => if b = 47 then [] :: spl r else match spl r with | p :: q => (b :: p) :: q | [] => [[b]]
theorem spl_ne (l : List UInt8) : spl l ≠ [] := by
  cases l with
  | nil => simp [spl]
  | cons b r =>
    unfold spl
    split
    · simp
    · split <;> simp
theorem spl_cons (b : UInt8) (r p : List UInt8) (q : List (List UInt8)) (hb : b ≠ 47) (h : spl r = p :: q) : spl (b :: r) = (b :: p) :: q := by
  rw [spl, if_neg hb, h]
theorem spl_mid (a c : List UInt8) : spl (a ++ 47 :: c) = spl a ++ spl c := by
  induction a with
  | nil => simp [spl]
  | cons b r ih =>
    by_cases hb : b = 47
    · subst hb
      simp [spl, ih]
    · obtain ⟨p, q, hp⟩ := List.exists_cons_of_ne_nil (spl_ne r)
      rw [List.cons_append, spl_cons b _ p (q ++ spl c) hb (by rw [ih, hp]; rfl), spl_cons b r p q hb hp]
      rfl
theorem spl_none (p : List UInt8) (h : (47 : UInt8) ∉ p) : spl p = [p] := by
  induction p with
  | nil => rfl
  | cons b r ih =>
    have hb : b ≠ 47 := fun e => h (by rw [e]; exact List.mem_cons_self)
    rw [spl_cons b r r [] hb (ih (fun hh => h (List.mem_cons_of_mem _ hh)))]
theorem spl_no (l : List UInt8) : ∀ p ∈ spl l, (47 : UInt8) ∉ p := by
  induction l with
  | nil => intro p hp; simp [spl] at hp; subst hp; simp
  | cons b r ih =>
    intro p hp
    by_cases hb : b = 47
    · subst hb
      simp only [spl, if_true, List.mem_cons] at hp
      rcases hp with rfl | hp
      · simp
      · exact ih p hp
    · obtain ⟨x, q, hx⟩ := List.exists_cons_of_ne_nil (spl_ne r)
      rw [spl_cons b r x q hb hx] at hp
      rcases List.mem_cons.1 hp with rfl | hp
      · intro hm
        rcases List.mem_cons.1 hm with h | h
        · exact hb h.symm
        · exact ih x (by rw [hx]; exact List.mem_cons_self) h
      · exact ih p (by rw [hx]; exact List.mem_cons_of_mem _ hp)
theorem join_cons (x : List UInt8) (L : List (List UInt8)) (h : L ≠ []) : Lib.join (x :: L) [47] = x ++ 47 :: Lib.join L [47] := by
  cases L with
  | nil => exact absurd rfl h
  | cons y r => simp [Lib.join, List.intercalate]
theorem join_sing (x : List UInt8) : Lib.join [x] [47] = x := by simp [Lib.join, List.intercalate]
theorem spl_join : ∀ (L : List (List UInt8)), L ≠ [] → (∀ p ∈ L, (47 : UInt8) ∉ p) → spl (Lib.join L [47]) = L
  | [], h, _ => absurd rfl h
  | [x], _, hn => by rw [join_sing, spl_none x (hn x List.mem_cons_self)]
  | x :: y :: r, _, hn => by
    rw [join_cons x (y :: r) (by simp), spl_mid, spl_none x (hn x List.mem_cons_self), spl_join (y :: r) (by simp) (fun p hp => hn p (List.mem_cons_of_mem _ hp))]
    rfl
theorem spl_len (l : List UInt8) : (spl l).length ≤ l.length + 1 := by
  induction l with
  | nil => simp [spl]
  | cons b r ih =>
    by_cases hb : b = 47
    · subst hb; simp [spl]; omega
    · obtain ⟨x, q, hx⟩ := List.exists_cons_of_ne_nil (spl_ne r)
      rw [spl_cons b r x q hb hx]
      rw [hx] at ih
      simp at ih ⊢
      omega
theorem spl_part (l : List UInt8) : ∀ p ∈ spl l, p.length ≤ l.length := by
  induction l with
  | nil => intro p hp; simp [spl] at hp; subst hp; simp
  | cons b r ih =>
    intro p hp
    by_cases hb : b = 47
    · subst hb
      simp only [spl, if_true, List.mem_cons] at hp
      rcases hp with rfl | hp
      · simp
      · have := ih p hp; simp; omega
    · obtain ⟨x, q, hx⟩ := List.exists_cons_of_ne_nil (spl_ne r)
      rw [spl_cons b r x q hb hx] at hp
      rcases List.mem_cons.1 hp with rfl | hp
      · have := ih x (by rw [hx]; exact List.mem_cons_self); simp; omega
      · have := ih p (by rw [hx]; exact List.mem_cons_of_mem _ hp); simp; omega
theorem join_len (m : Nat) : ∀ (L : List (List UInt8)), (∀ p ∈ L, p.length ≤ m) → (Lib.join L [47]).length ≤ L.length * (m + 1)
  | [], _ => by simp [Lib.join, List.intercalate]
  | [x], h => by have := h x List.mem_cons_self; rw [join_sing]; simp; omega
  | x :: y :: r, h => by
    have h1 := h x List.mem_cons_self
    have h2 := join_len m (y :: r) (fun p hp => h p (List.mem_cons_of_mem _ hp))
    rw [join_cons x (y :: r) (by simp)]
    simp only [List.length_append, List.length_cons] at h2 ⊢
    rw [Nat.add_mul (r.length + 1) 1]
    omega

/-- The parts from a place on, as bytes. -/
def tsOf (S : ByteArray) (b : Nat) : List (List UInt8) := (ptsA S b).map fun x => x.t.data.toList
theorem ext_list (S : ByteArray) (b e : Nat) : (S.extract b e).data.toList = (S.data.toList.drop b).take (e - b) := by
  rw [ByteArray.data_extract, Array.toList_extract, List.extract_eq_take_drop]
theorem tsOf_spl (S : ByteArray) : ∀ (n b : Nat), S.size - b ≤ n → b ≤ S.size → tsOf S b = spl (S.data.toList.drop b) := by
  intro n
  have hsz : S.data.toList.length = S.size := by simp
  induction n with
  | zero =>
    intro b h1 h2
    obtain rfl : b = S.size := by omega
    have he : endAt S S.size = S.size := endAt_eq S S.size S.size (Nat.le_refl _) (Nat.le_refl _) (fun j h1 h2 => by omega) (.inl rfl)
    unfold tsOf
    rw [ptsA_step S S.size (Nat.le_refl _), he, ptsA_end S _ (by omega), List.drop_of_length_le (by omega)]
    show [(S.extract S.size (endAt S S.size)).data.toList] = _
    rw [he, ext_list, List.drop_of_length_le (by omega)]
    simp [spl]
  | succ n ih =>
    intro b h1 h2
    by_cases hm : ∃ i, b ≤ i ∧ i < S.size ∧ S.data.toList[i]? = some 47
    · obtain ⟨i0, hi0⟩ := hm
      have hex : ∃ i, (b ≤ i ∧ i < S.size ∧ S.data.toList[i]? = some 47) ∧ ∀ j, b ≤ j → j < i → S.data.toList[j]? ≠ some 47 := by
        clear ih
        induction i0 using Nat.strongRecOn with
        | ind i ihh =>
          by_cases hj : ∃ j, b ≤ j ∧ j < i ∧ S.data.toList[j]? = some 47
          · obtain ⟨j, hj1, hj2, hj3⟩ := hj
            exact ihh j hj2 ⟨hj1, by omega, hj3⟩
          · exact ⟨i, hi0, fun j hb hi hx => hj ⟨j, hb, hi, hx⟩⟩
      obtain ⟨i, ⟨hi1, hi2, hi3⟩, hi4⟩ := hex
      have he : endAt S b = i := endAt_eq S b i hi1 (by omega) hi4 (.inr hi3)
      unfold tsOf
      rw [ptsA_step S b h2, List.map_cons]
      show (S.extract b (endAt S b)).data.toList :: tsOf S (endAt S b + 1) = _
      rw [he, ih (i + 1) (by omega) (by omega), ext_list]
      have hsplit : S.data.toList.drop b = (S.data.toList.drop b).take (i - b) ++ 47 :: S.data.toList.drop (i + 1) := by
        have h5 : (S.data.toList.drop b).drop (i - b) = 47 :: S.data.toList.drop (i + 1) := by
          rw [List.drop_drop, show b + (i - b) = i by omega]
          obtain ⟨hl, hv⟩ := List.getElem?_eq_some_iff.1 hi3
          rw [List.drop_eq_getElem_cons hl, hv]
        rw [← h5, List.take_append_drop]
      conv => rhs; rw [hsplit]
      rw [spl_mid, spl_none ((S.data.toList.drop b).take (i - b))]
      · rfl
      · intro hmem
        obtain ⟨k, hk⟩ := List.getElem?_of_mem hmem
        rw [List.getElem?_take] at hk
        split at hk
        · rw [List.getElem?_drop] at hk
          exact hi4 (b + k) (by omega) (by omega) hk
        · cases hk
    · have he : endAt S b = S.size := endAt_eq S b S.size h2 (Nat.le_refl _) (fun j hb hj hx => hm ⟨j, hb, hj, hx⟩) (.inl rfl)
      unfold tsOf
      rw [ptsA_step S b h2, List.map_cons]
      show (S.extract b (endAt S b)).data.toList :: tsOf S (endAt S b + 1) = _
      rw [he, ext_list, List.take_of_length_le (by simp)]
      unfold tsOf
      rw [ptsA_end S _ (by omega), spl_none]
      · rfl
      · intro hmem
        obtain ⟨k, hk⟩ := List.getElem?_of_mem hmem
        rw [List.getElem?_drop] at hk
        have := (List.getElem?_eq_some_iff.1 hk).1
        exact hm ⟨b + k, by omega, by omega, hk⟩

theorem rev_ind {α : Type} {M : List α → Prop} (h0 : M []) (h1 : ∀ a t, M a → M (a ++ [t])) (l : List α) : M l := by
  have h : ∀ l : List α, M l.reverse := by
    intro l
    induction l with
    | nil => exact h0
    | cons t a ih => rw [List.reverse_cons]; exact h1 _ _ ih
  have := h l.reverse
  rwa [List.reverse_reverse] at this
/-- One part more: what stands so far, or that it goes too far up. -/
def cstep (o : Option (List (List UInt8))) (t : List UInt8) : Option (List (List UInt8)) :=
  match o with
  | none => none
  | some L => if t = [] ∨ t = [46] then some L else if t = [46, 46] then (if L = [] then none else some L.dropLast) else some (L ++ [t])
def cfold (ts : List (List UInt8)) : Option (List (List UInt8)) := ts.foldl cstep (some [])
theorem cfold_snoc (ts : List (List UInt8)) (t : List UInt8) : cfold (ts ++ [t]) = cstep (cfold ts) t := by simp [cfold, List.foldl_append]
theorem cnone (ts : List (List UInt8)) : ts.foldl cstep none = none := by
  induction ts with
  | nil => rfl
  | cons t r ih => exact ih
theorem cfold_pre {a ts : List (List UInt8)} (h : a <+: ts) (hn : cfold a = none) : cfold ts = none := by
  obtain ⟨r, rfl⟩ := h
  unfold cfold at *
  rw [List.foldl_append, hn]
  exact cnone r
def goodT (p : List UInt8) : Prop := p ≠ [] ∧ p ≠ [46] ∧ p ≠ [46, 46]
theorem cfold_props (ts : List (List UInt8)) : ∀ L, cfold ts = some L → L.length ≤ ts.length ∧ ∀ p ∈ L, p ∈ ts ∧ goodT p := by
  refine rev_ind (M := fun ts => ∀ L, cfold ts = some L → L.length ≤ ts.length ∧ ∀ p ∈ L, p ∈ ts ∧ goodT p) ?_ (fun a t ih => ?_) ts
  · intro L h
    obtain rfl : [] = L := Option.some.inj h
    simp
  · intro L h
    rw [cfold_snoc] at h
    cases hc : cfold a with
    | none => rw [hc] at h; cases h
    | some M =>
      rw [hc] at h
      obtain ⟨h1, h2⟩ := ih M hc
      have h3 : ∀ p ∈ M, p ∈ a ++ [t] ∧ goodT p := fun p hp => ⟨List.mem_append_left _ (h2 p hp).1, (h2 p hp).2⟩
      simp only [cstep] at h
      split at h
      · obtain rfl := Option.some.inj h
        exact ⟨by simp; omega, h3⟩
      · split at h
        · split at h
          · cases h
          · obtain rfl := Option.some.inj h
            exact ⟨by simp; omega, fun p hp => h3 p (List.dropLast_subset _ hp)⟩
        · rename_i g1 g2
          obtain rfl := Option.some.inj h
          refine ⟨by simp; omega, fun p hp => ?_⟩
          rcases List.mem_append.1 hp with hp | hp
          · exact h3 p hp
          · obtain rfl : p = t := by simpa using hp
            exact ⟨by simp, fun e => g1 (.inl e), fun e => g1 (.inr e), g2⟩
theorem cfold_good (L : List (List UInt8)) : (∀ p ∈ L, goodT p) → cfold L = some L := by
  refine rev_ind (M := fun L => (∀ p ∈ L, goodT p) → cfold L = some L) (fun _ => rfl) (fun a t ih h => ?_) L
  · rw [cfold_snoc, ih (fun p hp => h p (List.mem_append_left _ hp))]
    obtain ⟨g1, g2, g3⟩ := h t (by simp)
    simp [cstep, g1, g2, g3]

/-- A text cleaned, or none. -/
def joinT (L : List (List UInt8)) : ByteArray := ⟨(Lib.join L [47]).toArray⟩
def cleanC (S : ByteArray) : Option ByteArray :=
  match cfold (spl S.data.toList) with
  | none => none
  | some L => if checkB (joinT L) = true then some (joinT L) else none
theorem joinT_list (L : List (List UInt8)) : (joinT L).data.toList = Lib.join L [47] := rfl
theorem cleanC_check {S t : ByteArray} (h : cleanC S = some t) : checkB t = true := by
  unfold cleanC at h
  split at h
  · cases h
  · split at h
    · obtain rfl := Option.some.inj h; assumption
    · cases h
theorem cleanC_again {S t : ByteArray} (h : cleanC S = some t) : cleanC t = some t := by
  have hck := cleanC_check h
  unfold cleanC at h
  split at h
  · cases h
  · rename_i L hL
    split at h
    · obtain rfl := Option.some.inj h
      obtain ⟨_, h2⟩ := cfold_props _ L hL
      have hne : L ≠ [] := by
        rintro rfl
        have : checkB (joinT []) = false := checkB_empty _ (by decide +kernel)
        rw [this] at hck; cases hck
      have h3 : spl (joinT L).data.toList = L := by
        rw [joinT_list]
        exact spl_join L hne (fun p hp => spl_no _ p (h2 p hp).1)
      unfold cleanC
      rw [h3, cfold_good L (fun p hp => (h2 p hp).2)]
      simp [hck]
    · cases h
theorem joinT_size (S : ByteArray) (L : List (List UInt8)) (hs : S.size ≤ 500) (h : cfold (spl S.data.toList) = some L) : (joinT L).size ≤ 300000 ∧ L.length ≤ 501 := by
  obtain ⟨h1, h2⟩ := cfold_props _ L h
  have h3 := spl_len S.data.toList
  have h4 : S.data.toList.length = S.size := by simp
  have h5 := join_len 500 L (fun p hp => by have := spl_part _ p (h2 p hp).1; omega)
  have h6 : L.length * 501 ≤ 501 * 501 := Nat.mul_le_mul_right _ (by omega)
  refine ⟨?_, by omega⟩
  show (List.toArray _).size ≤ _
  rw [List.size_toArray]
  omega

theorem lastIdx_spec (S : ByteArray) : ∀ n : Nat, n ≤ S.size → (Lib.lastIdx S 47 n = -1 ∧ ∀ j : Nat, j < n → S.data.toList[j]? ≠ some 47) ∨ (∃ k : Nat, Lib.lastIdx S 47 n = (k : Int) ∧ k < n ∧ S.data.toList[k]? = some 47 ∧ ∀ j : Nat, k < j → j < n → S.data.toList[j]? ≠ some 47) := by
  intro n
  induction n with
  | zero => intro _; exact .inl ⟨rfl, fun j h => by omega⟩
  | succ n ih =>
    intro hn
    have hlt : n < S.data.size := hn
    have hget : S.data[n]! = S.data[n] := getElem!_pos S.data n hlt
    have hl? : S.data.toList[n]? = some S.data[n] := by simp [hlt]
    unfold Lib.lastIdx
    rw [hget]
    by_cases h : ((S.data[n]).toNat : Int) = 47
    · rw [if_pos h]
      refine .inr ⟨n, rfl, by omega, ?_, fun j h1 h2 => by omega⟩
      rw [hl?]
      congr 1
      exact UInt8.toNat.inj (by show _ = 47; omega)
    · rw [if_neg h]
      have hne : S.data.toList[n]? ≠ some 47 := by
        rw [hl?]
        intro e
        injection e with e
        rw [e] at h
        exact h rfl
      rcases ih (by omega) with ⟨h1, h2⟩ | ⟨k, h1, h2, h3, h4⟩
      · refine .inl ⟨h1, fun j hj => ?_⟩
        rcases Nat.lt_or_eq_of_le (Nat.le_of_lt_succ hj) with hj | rfl
        · exact h2 j hj
        · exact hne
      · refine .inr ⟨k, h1, by omega, h3, fun j hj1 hj2 => ?_⟩
        rcases Nat.lt_or_eq_of_le (Nat.le_of_lt_succ hj2) with hj | rfl
        · exact h4 j hj1 hj
        · exact hne

/-- Where a text is split: its directory, its last part. -/
def dirT (S : ByteArray) : ByteArray := if Lib.lastIndexByte S 47 < 0 then ByteArray.empty else S.extract 0 (Lib.lastIndexByte S 47).toNat
def baseT (S : ByteArray) : ByteArray := if Lib.lastIndexByte S 47 < 0 then S else S.extract ((Lib.lastIndexByte S 47).toNat + 1) S.size
theorem lastIndexByte_range (S : ByteArray) : -1 ≤ Lib.lastIndexByte S 47 ∧ Lib.lastIndexByte S 47 < S.size := by
  rcases lastIdx_spec S S.size (Nat.le_refl _) with ⟨h, _⟩ | ⟨k, h, hk, _⟩
  · unfold Lib.lastIndexByte; rw [h]; omega
  · unfold Lib.lastIndexByte; rw [h]; omega
/-- One part: no directory; more: the directory, a slash, the last part. -/
theorem split_spec (S : ByteArray) : (∃ L, spl S.data.toList = L ++ [(baseT S).data.toList] ∧ (L = [] → dirT S = ByteArray.empty) ∧ (L ≠ [] → dirT S ++ ⟨#[47]⟩ ++ baseT S = S)) := by
  rcases lastIdx_spec S S.size (Nat.le_refl _) with ⟨h, hn⟩ | ⟨k, h, hk, h47, hn⟩
  · have hi : Lib.lastIndexByte S 47 < 0 := by unfold Lib.lastIndexByte; rw [h]; omega
    unfold dirT baseT
    rw [if_pos hi, if_pos hi]
    refine ⟨[], ?_, fun _ => rfl, fun h => absurd rfl h⟩
    rw [spl_none]
    · rfl
    · intro hm
      obtain ⟨j, hj⟩ := List.getElem?_of_mem hm
      exact hn j (by have := (List.getElem?_eq_some_iff.1 hj).1; simpa using this) hj
  · have hi : ¬ Lib.lastIndexByte S 47 < 0 := by unfold Lib.lastIndexByte; rw [h]; omega
    have hk' : (Lib.lastIndexByte S 47).toNat = k := by unfold Lib.lastIndexByte; rw [h]; omega
    unfold dirT baseT
    rw [if_neg hi, if_neg hi, hk']
    have hsz : S.data.toList.length = S.size := by simp
    have hsplit : S.data.toList = S.data.toList.take k ++ 47 :: S.data.toList.drop (k + 1) := by
      obtain ⟨hl, hv⟩ := List.getElem?_eq_some_iff.1 h47
      have h5 : S.data.toList.drop k = 47 :: S.data.toList.drop (k + 1) := by rw [List.drop_eq_getElem_cons hl, hv]
      rw [← h5, List.take_append_drop]
    have hb : (S.extract (k + 1) S.size).data.toList = S.data.toList.drop (k + 1) := by
      rw [ext_list, List.take_of_length_le (by simp)]
    refine ⟨spl (S.data.toList.take k), ?_, fun h => absurd h (spl_ne _), fun _ => ?_⟩
    · conv => lhs; rw [hsplit]
      rw [spl_mid, hb, spl_none (S.data.toList.drop (k + 1))]
      intro hm
      obtain ⟨j, hj⟩ := List.getElem?_of_mem hm
      rw [List.getElem?_drop] at hj
      exact hn (k + 1 + j) (by omega) (by have := (List.getElem?_eq_some_iff.1 hj).1; omega) hj
    · apply ByteArray.ext
      apply Array.ext'
      rw [ByteArray.data_append, ByteArray.data_append, Array.toList_append, Array.toList_append, hb, ext_list]
      show S.data.toList.take (k - 0) ++ [47] ++ _ = _
      rw [Nat.sub_zero, List.append_assoc]
      exact hsplit.symm
end Go.Proofs.YtmhigecchligcaaDoor
