/- LinkPlays: what each operation of three regions leaves. -/
import Derived.Test.YtimiiahhedpfaaaLkE
import Derived.Test.YtimiiahhedpfaaaActLit
namespace Go.Proofs.Ytimiiahhedpfaaa
open Go Go.RowKit
set_option maxRecDepth 100000

/-- What each operation of the region leaves. -/
def lk3I (N : Nat) (QV XV : Value) (gq oq _xb : Nat) (t0 _X0 : ByteArray) (_pos : Int) (_bts : Nat) (T : List Value) (i : Nat) (v : Value) (W : World) : Prop := match i with
  | 0 => Pin W N 9 [] v
  | 1 => v = QV
  | 2 => v = XV
  | 3 => Pin W N 9 T v
  | 4 => v = QV
  | 5 => v = .pointer (some ⟨gq, oq, none⟩)
  | 6 => v = .string t0
  | 7 => One W N 9 (.string t0) v
  | 8 => Pin W N 9 (T ++ [.string t0]) v
  | 9 => Pin W N 9 (T ++ [.string t0]) v
  | _ => True
theorem lk3I_keep {N : Nat} {QV XV : Value} {gq oq xb : Nat} {t0 X0 : ByteArray} {pos : Int} {bts : Nat} {T : List Value} {W W' : World} (p0 : ∀ v, Pin W N 9 [] v → Pin W' N 9 [] v) (p1 : ∀ v, Pin W N 9 T v → Pin W' N 9 T v) (p2 : ∀ v, Pin W N 9 (T ++ [.string t0]) v → Pin W' N 9 (T ++ [.string t0]) v) (p3 : ∀ v, One W N 9 (.string t0) v → One W' N 9 (.string t0) v) :
    ∀ j v, lk3I N QV XV gq oq xb t0 X0 pos bts T j v W → lk3I N QV XV gq oq xb t0 X0 pos bts T j v W' := by
  intro j v h
  match j, h with
  | 0, h => exact p0 v h
  | 1, h => exact h
  | 2, h => exact h
  | 3, h => exact p1 v h
  | 4, h => exact h
  | 5, h => exact h
  | 6, h => exact h
  | 7, h => exact p3 v h
  | 8, h => exact p2 v h
  | 9, h => exact p2 v h
  | _ + 10, _ => trivial
theorem lk3I_still {N : Nat} {QV XV : Value} {gq oq xb : Nat} {t0 X0 : ByteArray} {pos : Int} {bts : Nat} {T : List Value} {W W' : World} (ht : Touch (fun _ => False) W W') : ∀ j v, lk3I N QV XV gq oq xb t0 X0 pos bts T j v W → lk3I N QV XV gq oq xb t0 X0 pos bts T j v W' :=
  lk3I_keep (fun _ h => h.kept ht (fun _ e => e.elim)) (fun _ h => h.kept ht (fun _ e => e.elim)) (fun _ h => h.kept ht (fun _ e => e.elim)) (fun _ h => h.kept ht (fun _ e => e.elim))

/-- What each operation of the region leaves. -/
def lk4I (N : Nat) (QV _XV : Value) (gq oq _xb : Nat) (t0 _X0 : ByteArray) (_pos : Int) (_bts : Nat) (T : List Value) (i : Nat) (v : Value) (W : World) : Prop := match i with
  | 0 => Pin W N 9 [] v
  | 1 => v = QV
  | 2 => Pin W N 9 T v
  | 3 => v = QV
  | 4 => v = .pointer (some ⟨gq, oq, none⟩)
  | 5 => v = .string t0
  | 6 => One W N 9 (.string t0) v
  | 7 => Pin W N 9 (T ++ [.string t0]) v
  | 8 => Pin W N 9 (T ++ [.string t0]) v
  | _ => True
theorem lk4I_keep {N : Nat} {QV XV : Value} {gq oq xb : Nat} {t0 X0 : ByteArray} {pos : Int} {bts : Nat} {T : List Value} {W W' : World} (p0 : ∀ v, Pin W N 9 [] v → Pin W' N 9 [] v) (p1 : ∀ v, Pin W N 9 T v → Pin W' N 9 T v) (p2 : ∀ v, Pin W N 9 (T ++ [.string t0]) v → Pin W' N 9 (T ++ [.string t0]) v) (p3 : ∀ v, One W N 9 (.string t0) v → One W' N 9 (.string t0) v) :
    ∀ j v, lk4I N QV XV gq oq xb t0 X0 pos bts T j v W → lk4I N QV XV gq oq xb t0 X0 pos bts T j v W' := by
  intro j v h
  match j, h with
  | 0, h => exact p0 v h
  | 1, h => exact h
  | 2, h => exact p1 v h
  | 3, h => exact h
  | 4, h => exact h
  | 5, h => exact h
  | 6, h => exact p3 v h
  | 7, h => exact p2 v h
  | 8, h => exact p2 v h
  | _ + 9, _ => trivial
theorem lk4I_still {N : Nat} {QV XV : Value} {gq oq xb : Nat} {t0 X0 : ByteArray} {pos : Int} {bts : Nat} {T : List Value} {W W' : World} (ht : Touch (fun _ => False) W W') : ∀ j v, lk4I N QV XV gq oq xb t0 X0 pos bts T j v W → lk4I N QV XV gq oq xb t0 X0 pos bts T j v W' :=
  lk4I_keep (fun _ h => h.kept ht (fun _ e => e.elim)) (fun _ h => h.kept ht (fun _ e => e.elim)) (fun _ h => h.kept ht (fun _ e => e.elim)) (fun _ h => h.kept ht (fun _ e => e.elim))

/-- What each operation of the region leaves. -/
def lk5I (N : Nat) (QV XV : Value) (gq oq xb : Nat) (t0 X0 : ByteArray) (pos : Int) (bts : Nat) (T : List Value) (i : Nat) (v : Value) (W : World) : Prop := match i with
  | 0 => v = QV
  | 1 => v = .pointer (some ⟨gq, oq, none⟩)
  | 2 => v = .string t0
  | 3 => v = .pointer (some ⟨xb, 3, none⟩)
  | 4 => v = .int .i64 pos
  | 5 => v = .pointer (some ⟨xb, 4, none⟩)
  | 6 => v = .int .u32 (bts : Nat)
  | 7 => v = .string X0
  | 8 => One W N 9 (.string X0) v
  | 9 => v = QV
  | 10 => v = XV
  | 11 => Pin W N 9 (.string X0 :: T) v
  | 12 => Pin W N 9 (.string X0 :: T) v
  | _ => True
theorem lk5I_keep {N : Nat} {QV XV : Value} {gq oq xb : Nat} {t0 X0 : ByteArray} {pos : Int} {bts : Nat} {T : List Value} {W W' : World} (_p0 : ∀ v, Pin W N 9 [] v → Pin W' N 9 [] v) (_p1 : ∀ v, Pin W N 9 T v → Pin W' N 9 T v) (p2 : ∀ v, Pin W N 9 (.string X0 :: T) v → Pin W' N 9 (.string X0 :: T) v) (p3 : ∀ v, One W N 9 (.string X0) v → One W' N 9 (.string X0) v) :
    ∀ j v, lk5I N QV XV gq oq xb t0 X0 pos bts T j v W → lk5I N QV XV gq oq xb t0 X0 pos bts T j v W' := by
  intro j v h
  match j, h with
  | 0, h => exact h
  | 1, h => exact h
  | 2, h => exact h
  | 3, h => exact h
  | 4, h => exact h
  | 5, h => exact h
  | 6, h => exact h
  | 7, h => exact h
  | 8, h => exact p3 v h
  | 9, h => exact h
  | 10, h => exact h
  | 11, h => exact p2 v h
  | 12, h => exact p2 v h
  | _ + 13, _ => trivial
theorem lk5I_still {N : Nat} {QV XV : Value} {gq oq xb : Nat} {t0 X0 : ByteArray} {pos : Int} {bts : Nat} {T : List Value} {W W' : World} (ht : Touch (fun _ => False) W W') : ∀ j v, lk5I N QV XV gq oq xb t0 X0 pos bts T j v W → lk5I N QV XV gq oq xb t0 X0 pos bts T j v W' :=
  lk5I_keep (fun _ h => h.kept ht (fun _ e => e.elim)) (fun _ h => h.kept ht (fun _ e => e.elim)) (fun _ h => h.kept ht (fun _ e => e.elim)) (fun _ h => h.kept ht (fun _ e => e.elim))

end Go.Proofs.Ytimiiahhedpfaaa
