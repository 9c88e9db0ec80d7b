/- The law of images: the two disks side by side. -/
import Derived.Test.YtjjpknmjkhaahaaDiC
import Derived.Test.YtjjpknmjkhaahaaDkL
import Derived.Test.YtjjpknmjkhaahaaDkK
import Derived.Test.YtjjpknmjkhaahaaDkOpen
import Derived.Deep.CutBlock
import Derived.IntWalk
namespace Go.Proofs.Ytjjpknmjkhaahaa
open Go Go.RowKit Go.Maps
set_option maxRecDepth 100000

theorem i64_mask (k : Nat) (hk : k ≤ 62) (m : Int) (hm : m = 2 ^ k - 1) (n : Int) : bits .and .i64 n m = n % 2 ^ k := by
  have h62 : 2 ^ k ≤ 2 ^ 62 := Nat.pow_le_pow_right (by decide) hk
  have hpos : 0 < 2 ^ k := Nat.pow_pos (by decide)
  have hm' : m = ((2 ^ k - 1 : Nat) : Int) := by rw [hm]; have : ((2 : Int) ^ k) = ((2 ^ k : Nat) : Int) := by norm_cast
                                                 rw [this]; omega
  have hkk : (BitVec.ofInt 64 m).toNat = 2 ^ k - 1 := by rw [hm', BitVec.toNat_ofInt]; omega
  have key : (BitVec.ofInt 64 n &&& BitVec.ofInt 64 m).toNat = (n % ((2 ^ 64 : Nat) : Int)).toNat % 2 ^ k := by
    rw [BitVec.toNat_and, BitVec.toNat_ofInt, hkk, Nat.and_two_pow_sub_one_eq_mod]
  show IntKind.i64.wrap ((BitVec.ofInt 64 n &&& BitVec.ofInt 64 m).toNat : Nat) = n % 2 ^ k
  have hd : ((2 ^ k : Nat) : Int) ∣ ((2 ^ 64 : Nat) : Int) := Int.natCast_dvd_natCast.2 (Nat.pow_dvd_pow 2 (by omega))
  have hlt : (n % ((2 ^ 64 : Nat) : Int)).toNat % 2 ^ k < 2 ^ k := Nat.mod_lt _ hpos
  have e : (((n % ((2 ^ 64 : Nat) : Int)).toNat % 2 ^ k : Nat) : Int) = n % ((2 ^ k : Nat) : Int) := by
    rw [Int.natCast_emod, Int.toNat_of_nonneg (Int.emod_nonneg _ (by decide)), Int.emod_emod_of_dvd _ hd]
  rw [key, IntWalk.i64_in _ (by omega), e]
  norm_cast

theorem sync_sec {n k : Nat} (hk : k < n) : ∀ (C : List Ent) (L : List UInt8), L.length = n * 64 → (C.map Ent.k).Nodup → (∀ e ∈ C, e.k < n ∧ e.s.size = 64) → sec (syncL L C) k = (readS L C k).data.toList
  | [], L, _, _, _ => rfl
  | e :: r, L, hL, hn, hc => by
    have hn1 := List.nodup_cons.1 (by simpa using hn : (e.k :: r.map Ent.k).Nodup)
    obtain ⟨he1, he2⟩ := hc e List.mem_cons_self
    have hsl : e.s.data.toList.length = 64 := by rw [Array.length_toList]; exact he2
    have e1 : syncL L (e :: r) = syncL (setS L e.k e.s.data.toList) r := rfl
    rw [e1, sync_sec hk r _ (setS_len hL he1 hsl) hn1.2 (fun e' h' => hc e' (List.mem_cons_of_mem _ h'))]
    by_cases hek : k = e.k
    · subst hek
      have hno : findE r (e.k : Nat) = none := by
        unfold findE
        rw [List.find?_eq_none]
        intro e' h' he
        exact hn1.1 (List.mem_map.2 ⟨e', h', by have : ((e'.k : Nat) : Int) = (e.k : Nat) := by simpa using he
                                                omega⟩)
      rw [readS_mem hn List.mem_cons_self]
      unfold readS
      rw [hno]
      show (sec _ _).toArray.toList = _
      rw [di_same hL hk hsl]
    · have hf : findE (e :: r) (k : Nat) = findE r (k : Nat) := by
        unfold findE
        rw [List.find?_cons_of_neg (by simp; omega)]
      unfold readS
      rw [hf]
      cases hfr : findE r (k : Nat) with
      | some e' => rfl
      | none =>
        show (sec _ _).toArray.toList = (sec _ _).toArray.toList
        rw [di_other hL he1 hk hek hsl]
theorem sync_is {n : Nat} {L L' : List UInt8} {C : List Ent} (hL : L.length = n * 64) (hn : (C.map Ent.k).Nodup) (hc : ∀ e ∈ C, e.k < n ∧ e.s.size = 64) (h' : L'.length = n * 64) (hs : ∀ k, k < n → sec L' k = (readS L C k).data.toList) : L' = syncL L C :=
  secs_ext n L' _ h' (syncL_len C L hL hc) (fun k hk => by rw [hs k hk, sync_sec hk C L hL hn hc])

/-- The reference's disk beside a disk. -/
structure RAt (b lb mb rx : Nat) (w : World) (L : List UInt8) (C : List Ent) (a2 : Option Addr) (k2 : Nat) (cv : Value) : Prop where
  box : DAt w rx (.slice a2 6 k2) cv false (-1)
  lasts : Reads w (.slice a2 6 k2) (secV 6 L)
  cache : Ch w cv C
  la : ∀ g, (Value.slice a2 6 k2).ownBlock = some g → g ≠ rx ∧ ¬ DkS b lb mb g
  ca : ∀ g, cv.ownBlock = some g → g ≠ rx ∧ ¬ DkS b lb mb g
  na : ¬ DkS b lb mb rx
theorem RAt.disk {b lb mb rx : Nat} {w w' : World} {L : List UInt8} {C : List Ent} {a2 : Option Addr} {k2 : Nat} {cv : Value} (h : RAt b lb mb rx w L C a2 k2 cv) (ht : Touch (DkS b lb mb) w w') : RAt b lb mb rx w' L C a2 k2 cv :=
  { h with box := h.box.kept ht h.na, lasts := h.lasts.kept ht (fun g hg => (h.la g hg).2), cache := h.cache.kept ht (fun g hg => (h.ca g hg).2) }
theorem RAt.still {b lb mb rx : Nat} {w w' : World} {L : List UInt8} {C : List Ent} {a2 : Option Addr} {k2 : Nat} {cv : Value} (h : RAt b lb mb rx w L C a2 k2 cv) (ht : Touch (fun _ => False) w w') : RAt b lb mb rx w' L C a2 k2 cv :=
  { h with box := h.box.kept ht id, lasts := h.lasts.still ht, cache := h.cache.kept ht (fun _ _ => id) }
theorem RAt.made {b lb mb rx : Nat} {w : World} {lv0 cv0 : Value} {o0 : Bool} {f0 : Int} {L : List UInt8} {C : List Ent} {a2 : Option Addr} {k2 : Nat} {cv : Value} (hD : DAt w rx lv0 cv0 o0 f0) (hl : Reads w (.slice a2 6 k2) (secV 6 L)) (hc : Ch w cv C)
    (hla : ∀ g, (Value.slice a2 6 k2).ownBlock = some g → g ≠ rx ∧ ¬ DkS b lb mb g) (hca : ∀ g, cv.ownBlock = some g → g ≠ rx ∧ ¬ DkS b lb mb g) (hna : ¬ DkS b lb mb rx) :
    RAt b lb mb rx ((((w.setCell ⟨rx, 0, none⟩ (.slice a2 6 k2)).setCell ⟨rx, 1, none⟩ cv).setCell ⟨rx, 2, none⟩ (.bool false)).setCell ⟨rx, 3, none⟩ (.int .i64 (-1))) L C a2 k2 cv :=
  have hT := d_touch4 (w := w) rx (.slice a2 6 k2) cv (.bool false) (.int .i64 (-1))
  { box := d_set4 hD, lasts := hl.kept hT (fun g hg => (hla g hg).1), cache := hc.kept hT (fun g hg => (hca g hg).1), la := hla, ca := hca, na := hna }
theorem touch5 {w : World} (rx : Nat) (u0 u1 u2 u3 u4 : Value) : Touch (fun j => j = rx) w (((((w.setCell ⟨rx, 0, none⟩ u0).setCell ⟨rx, 1, none⟩ u1).setCell ⟨rx, 2, none⟩ u2).setCell ⟨rx, 3, none⟩ u3).setCell ⟨rx, 2, none⟩ u4) :=
  (d_touch4 (w := w) rx u0 u1 u2 u3).setCell (p := ⟨rx, 2, none⟩) (Or.inl rfl) _
theorem RAt.made5 {b lb mb rx : Nat} {w : World} {lv0 cv0 : Value} {o0 o1 : Bool} {f0 : Int} {L : List UInt8} {C : List Ent} {a2 : Option Addr} {k2 : Nat} {cv : Value} (hD : DAt w rx lv0 cv0 o0 f0) (hl : Reads w (.slice a2 6 k2) (secV 6 L)) (hc : Ch w cv C)
    (hla : ∀ g, (Value.slice a2 6 k2).ownBlock = some g → g ≠ rx ∧ ¬ DkS b lb mb g) (hca : ∀ g, cv.ownBlock = some g → g ≠ rx ∧ ¬ DkS b lb mb g) (hna : ¬ DkS b lb mb rx) :
    RAt b lb mb rx (((((w.setCell ⟨rx, 0, none⟩ (.slice a2 6 k2)).setCell ⟨rx, 1, none⟩ cv).setCell ⟨rx, 2, none⟩ (.bool o1)).setCell ⟨rx, 3, none⟩ (.int .i64 (-1))).setCell ⟨rx, 2, none⟩ (.bool false)) L C a2 k2 cv :=
  have hT := touch5 (w := w) rx (.slice a2 6 k2) cv (.bool o1) (.int .i64 (-1)) (.bool false)
  { box := Block.set (d_set4 (off' := o1) (fz' := -1) (lv' := .slice a2 6 k2) (cv' := cv) hD) 2 _, lasts := hl.kept hT (fun g hg => (hla g hg).1), cache := hc.kept hT (fun g hg => (hca g hg).1), la := hla, ca := hca, na := hna }
theorem DkAt.beside {b lb mb rx c n : Nat} {w w' : World} {L : List UInt8} {C : List Ent} {t : Nat} {f : Int} {on : Bool} (h : DkAt w b lb mb c n L C t f on) (hn : ¬ DkS b lb mb rx) (ht : Touch (fun j => j = rx) w w') : DkAt w' b lb mb c n L C t f on :=
  h.kept ht (fun e => hn (.inl e.symm)) (fun e => hn (.inr (.inl e.symm))) (fun e => hn (.inr (.inr e.symm)))
/-- A new block is apart. -/
theorem apart_new {b lb mb rx : Nat} {w : World} {v : Value} (h : DNew w v) (hl : b < w.heap.size ∧ lb < w.heap.size ∧ mb < w.heap.size) (hx : rx < w.heap.size) : ∀ g, v.ownBlock = some g → g ≠ rx ∧ ¬ DkS b lb mb g := fun g hg => by
  have := h g hg
  exact ⟨by omega, fun e => by rcases e with e | e | e <;> omega⟩
theorem sec_zero (i : Nat) (hi : i < 6) : sec (List.replicate (6 * 64) 0) i = (secB 0).data.toList := by
  unfold sec
  rw [List.drop_replicate, List.take_replicate, secB_list]
  congr 1
  omega
theorem secV_snoc (i : Nat) (L : List UInt8) : secV (i + 1) L = secV i L ++ [.string ⟨(sec L i).toArray⟩] := by
  unfold secV; rw [List.range_succ, List.map_append]; rfl
theorem joined (L : List UInt8) (k : Nat) : L.take (k * 64) ++ sec L k = L.take ((k + 1) * 64) := by
  unfold sec
  rw [show (k + 1) * 64 = k * 64 + 64 by omega, List.take_add]
/-- An act in its box. -/
structure XAt (b lb mb xb rx : Nat) (w : World) (wh ps : Int) (by' : UInt8) (xn : Int) (afv : Option Addr) (nf cfv : Nat) : Prop where
  box : Block w xb 35 [.int .i64 wh, .int .i64 ps, .int .u8 (by'.toNat : Nat), .int .i64 xn, .slice afv nf cfv]
  na : ¬ DkS b lb mb xb ∧ xb ≠ rx
theorem XAt.kept {b lb mb xb rx : Nat} {w w' : World} {wh ps : Int} {by' : UInt8} {xn : Int} {afv : Option Addr} {nf cfv : Nat} (h : XAt b lb mb xb rx w wh ps by' xn afv nf cfv) (ht : Touch (fun _ => False) w w') : XAt b lb mb xb rx w' wh ps by' xn afv nf cfv := ⟨h.box.kept ht id, h.na⟩
theorem XAt.disk {b lb mb xb rx : Nat} {w w' : World} {wh ps : Int} {by' : UInt8} {xn : Int} {afv : Option Addr} {nf cfv : Nat} (h : XAt b lb mb xb rx w wh ps by' xn afv nf cfv) (ht : Touch (DkS b lb mb) w w') : XAt b lb mb xb rx w' wh ps by' xn afv nf cfv := ⟨h.box.kept ht h.na.1, h.na⟩
theorem XAt.cells {b lb mb xb rx : Nat} {w : World} {wh ps : Int} {by' : UInt8} {xn : Int} {afv : Option Addr} {nf cfv : Nat} (h : XAt b lb mb xb rx w wh ps by' xn afv nf cfv) :
    w.cell? ⟨xb, 0, none⟩ = some (.int .i64 wh) ∧ w.cell? ⟨xb, 1, none⟩ = some (.int .i64 ps) ∧ w.cell? ⟨xb, 2, none⟩ = some (.int .u8 (by'.toNat : Nat)) ∧ w.cell? ⟨xb, 3, none⟩ = some (.int .i64 xn) ∧ w.cell? ⟨xb, 4, none⟩ = some (.slice afv nf cfv) :=
  ⟨Block.cell h.box 0, Block.cell h.box 1, Block.cell h.box 2, Block.cell h.box 3, Block.cell h.box 4⟩
end Go.Proofs.Ytjjpknmjkhaahaa
