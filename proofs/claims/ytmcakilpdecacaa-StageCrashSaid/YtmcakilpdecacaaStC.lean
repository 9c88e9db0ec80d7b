/- What a disk's bytes are behind a Sync and a crash: plain. -/
import Derived.Test.YtmcakilpdecacaaStA
import Derived.Test.YtmcakilpdecacaaDkH
namespace Go.Proofs.Ytmcakilpdecacaa
open Go Go.RowKit Go.Maps
set_option maxRecDepth 100000

/-- Behind a Sync all that is read lasts. -/
theorem Keeps.sync {n : Nat} {L L' : List UInt8} {C : List Ent} (h : ∀ k : Nat, k < n → sec L' k = (readS L C k).data.toList) : Keeps (fun p => p < n * 64) (imgB L C) L' [] :=
  ⟨fun p hp => by rw [h _ (by omega)]; rfl, fun _ _ _ he => by cases he⟩
theorem Keeps.sync' {n : Nat} {D : Nat → Prop} {g : Nat → UInt8} {L L' : List UInt8} {C : List Ent} (h : Keeps D g L C) (hD : ∀ p, D p → p < n * 64) (hs : ∀ k : Nat, k < n → sec L' k = (readS L C k).data.toList) : Keeps D g L' [] :=
  (Keeps.sync hs).sub hD (fun p hp => h.img hp)

theorem fateT_at {old new : List UInt8} (h1 : old.length = 64) (h2 : new.length = 64) (z : Int) (q : Nat) : (fateT old new z).getD q 0 = old.getD q 0 ∨ (fateT old new z).getD q 0 = new.getD q 0 := by
  have key : ∀ a b : List UInt8, a.length = 64 → b.length = 64 → (a.take 32 ++ b.drop 32).getD q 0 = a.getD q 0 ∨ (a.take 32 ++ b.drop 32).getD q 0 = b.getD q 0 := by
    intro a b ha hb
    simp only [List.getD_eq_getElem?_getD]
    by_cases hq : q < 32
    · left
      rw [List.getElem?_append_left (by rw [List.length_take]; omega), List.getElem?_take_of_lt hq]
    · right
      rw [List.getElem?_append_right (by rw [List.length_take]; omega), List.length_take, List.getElem?_drop]
      congr 2
      omega
  unfold fateT
  split
  · exact .inl rfl
  · split
    · exact .inr rfl
    · split
      · exact (key new old h2 h1).symm
      · exact key old new h1 h2

theorem Keeps.setF {n : Nat} {D : Nat → Prop} {g : Nat → UInt8} {L : List UInt8} {e : Ent} {r : List Ent} (h : Keeps D g L (e :: r)) (hD : ∀ p, D p → p < n * 64) (hL : L.length = n * 64) (hk : e.k < n) (hs : e.s.size = 64) (z : Int) : Keeps D g (setS L e.k (fateT (sec L e.k) e.s.data.toList z)) r := by
  have hl : e.s.data.toList.length = 64 := by rw [Array.length_toList]; exact hs
  have hfl := fateT_len (sec_len hL hk) hl z
  refine ⟨fun p hp => ?_, fun p hp e' he' hk' => h.cached p hp e' (List.mem_cons_of_mem _ he') hk'⟩
  have hpn : p / 64 < n := by have := hD p hp; omega
  by_cases hpk : p / 64 = e.k
  · rw [hpk, sec_set_same hL hk hfl]
    rcases fateT_at (sec_len hL hk) hl z (p % 64) with h1 | h1
    · rw [h1, ← hpk]; exact h.lasts p hp
    · rw [h1]; exact h.cached p hp e List.mem_cons_self hpk.symm
  · rw [sec_set_other hL hk hpn hpk hfl]; exact h.lasts p hp

/-- They stand behind a crash, whatever the fates. -/
theorem Keeps.crash {n : Nat} {D : Nat → Prop} {g : Nat → UInt8} (hD : ∀ p, D p → p < n * 64) : ∀ (C : List Ent) (fs : List Int) (L : List UInt8), Keeps D g L C → L.length = n * 64 → (∀ e ∈ C, e.k < n ∧ e.s.size = 64) → Keeps D g (crashL L C fs) []
  | [], fs, L, h, _, _ => by rw [show crashL L [] fs = L by simp [crashL]]; exact h
  | e :: r, [], L, h, _, _ => by rw [crashL_none]; exact h.burn
  | e :: r, f :: fr, L, h, hL, hc => by
    obtain ⟨he1, he2⟩ := hc e List.mem_cons_self
    have hsl : e.s.data.toList.length = 64 := by rw [Array.length_toList]; exact he2
    have hfl := fateT_len (sec_len hL he1) hsl f
    have e1 : crashL L (e :: r) (f :: fr) = crashL (setS L e.k (fateT (sec L e.k) e.s.data.toList f)) r fr := by simp [crashL]
    rw [e1]
    exact Keeps.crash hD r fr _ (h.setF hD hL he1 he2 f) (setS_len hL he1 hfl) (fun e' h' => hc e' (List.mem_cons_of_mem _ h'))

end Go.Proofs.Ytmcakilpdecacaa
