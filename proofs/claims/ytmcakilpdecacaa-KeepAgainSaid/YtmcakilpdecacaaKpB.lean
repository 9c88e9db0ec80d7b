/- Contracts of package keep, second part: a keep in memory; Put beside a file. -/
import Derived.Test.YtmcakilpdecacaaKpA
import Derived.Test.YtmcakilpdecacaaWlH
import Derived.Test.YtmcakilpdecacaaStS
namespace Go.Proofs.Ytmcakilpdecacaa
open Go Go.RowKit Go.Maps
set_option maxRecDepth 100000

/-- A keep's cells. -/
def KBox (w : World) (kb gb fb se ep sz sm : Nat) (dn fl : Bool) : Prop :=
  Block w kb 122 [.pointer (some ⟨gb, 0, none⟩), .pointer (some ⟨fb, 0, none⟩), .int .u32 se, .int .u32 ep, .int .i64 sz, .int .u32 sm, .bool dn, .bool fl]
theorem KBox.cells {w : World} {kb gb fb se ep sz sm : Nat} {dn fl : Bool} (h : KBox w kb gb fb se ep sz sm dn fl) :
    w.cell? ⟨kb, 0, none⟩ = some (.pointer (some ⟨gb, 0, none⟩)) ∧ w.cell? ⟨kb, 1, none⟩ = some (.pointer (some ⟨fb, 0, none⟩)) ∧ w.cell? ⟨kb, 2, none⟩ = some (.int .u32 se) ∧ w.cell? ⟨kb, 3, none⟩ = some (.int .u32 ep) ∧ w.cell? ⟨kb, 4, none⟩ = some (.int .i64 sz) ∧ w.cell? ⟨kb, 5, none⟩ = some (.int .u32 sm) ∧ w.cell? ⟨kb, 6, none⟩ = some (.bool dn) ∧ w.cell? ⟨kb, 7, none⟩ = some (.bool fl) :=
  ⟨Block.cell h 0, Block.cell h 1, Block.cell h 2, Block.cell h 3, Block.cell h 4, Block.cell h 5, Block.cell h 6, Block.cell h 7⟩

/-- A log and a file behind it, on a disk without a fuse. -/
structure Duo (w : World) (b lb mb c n t gb fb N : Nat) (nt : ByteArray) (L : List UInt8) (B : List UInt8) : Prop where
  live : Live w b lb mb c n L t (-1) gb 0 8 N nt
  file : FlAt w fb b 8 ((n - 8) * 64) B.length
  holds : Holds L [] (8 * 64) B
  fsep : ¬ DkS b lb mb fb ∧ fb ≠ gb
  n9 : 9 ≤ n
  size : B.length ≤ (n - 8) * 64
theorem Duo.still {w w' : World} {b lb mb c n t gb fb N : Nat} {nt : ByteArray} {L B : List UInt8} (h : Duo w b lb mb c n t gb fb N nt L B) (ht : Touch (fun _ => False) w w') : Duo w' b lb mb c n t gb fb N nt L B :=
  { h with live := h.live.still ht, file := h.file.kept ht id }
theorem Duo.away {S : Nat → Prop} {w w' : World} {b lb mb c n t gb fb N : Nat} {nt : ByteArray} {L B : List UInt8} (h : Duo w b lb mb c n t gb fb N nt L B) (ht : Touch S w w') (hs : ∀ k, DkS b lb mb k ∨ k = gb ∨ k = fb → ¬ S k) : Duo w' b lb mb c n t gb fb N nt L B :=
  { h with live := ⟨h.live.disk.kept ht (hs _ (.inl (.inl rfl))) (hs _ (.inl (.inr (.inl rfl)))) (hs _ (.inl (.inr (.inr rfl)))), h.live.log.kept ht (hs _ (.inr (.inl rfl))), h.live.sep, h.live.secs⟩, file := h.file.kept ht (hs _ (.inr (.inr rfl))) }
theorem Duo.fil {w : World} {b lb mb c n t gb fb N : Nat} {nt : ByteArray} {L B : List UInt8} (h : Duo w b lb mb c n t gb fb N nt L B) : Fil w b lb mb c n t fb 8 ((n - 8) * 64) B :=
  ⟨L, [], h.live.disk, h.file, h.holds, h.fsep.1, by have := h.n9; omega, h.size⟩
theorem Duo.lt {w : World} {b lb mb c n t gb fb N : Nat} {nt : ByteArray} {L B : List UInt8} (h : Duo w b lb mb c n t gb fb N nt L B) : (∀ k, DkS b lb mb k ∨ k = gb ∨ k = fb → k < w.heap.size) := fun k hk => by
  have h1 := h.live.disk.lt
  have h2 := h.live.log.lt
  have h3 := h.file.lt
  rcases hk with (rfl | rfl | rfl) | rfl | rfl
  · exact h1.1
  · exact h1.2.1
  · exact h1.2.2
  · exact h2
  · exact h3

theorem kput_calls {w : World} {b lb mb c n t gb fb N : Nat} {nt : ByteArray} {L B : List UInt8} (h : Duo w b lb mb c n t gb fb N nt L B) (s : ByteArray) (hs : s.size ≤ 23) (hN : N < 1000000) (ht : t < 1000000) :
    Calls Try.prog 89 #[.pointer (some ⟨gb, 0, none⟩), .string s] w fun e w' => e = .returned (.int .i64 0) ∧ (∃ L', Duo w' b lb mb c n (t + 1) gb fb (N + 1) s L' B) ∧ Touch (fun k => DkS b lb mb k ∨ k = gb) w w' := by
  have hn9 := h.n9
  refine (put_calls h.live.disk h.live.log h.live.sep (by omega) (by omega) s hN hs ht).mono ?_
  rintro e w' ⟨hT, ⟨hf0, hf1, rfl, hL, L', hL', hD⟩ | ⟨hf, _⟩⟩
  · have hr : (N + 1) % 8 < 8 := Nat.mod_lt _ (by omega)
    have hsz : s.data.toList.length ≤ 23 := by rw [ba_len]; exact hs
    have hp := h.live.secs.put (by rw [secsOf_len]; omega) s.data.toList hsz
    rw [secsOf_len] at hp
    have e1 := secsOf_put hr (by omega) hL'
    refine ⟨rfl, ⟨L', ⟨⟨hD, hL, h.live.sep, by rw [e1]; exact hp⟩, h.file.kept hT (by rintro (h1 | h1); exact h.fsep.1 h1; exact h.fsep.2 h1), h.holds.congr fun j hj => ?_, h.fsep, h.n9, h.size⟩⟩, hT⟩
    have hz := h.size
    show (sec L' ((8 * 64 + j) / 64)).getD _ 0 = (sec L ((8 * 64 + j) / 64)).getD _ 0
    rw [hL' _ (by omega), if_neg (by omega)]
  · omega

/-- The note of a state. -/
def ntB (se ep : Nat) (A : List UInt8) (dn : Bool) : ByteArray := ntS se ep A.length (moreN 0 A) (if dn then 1 else 0)
/-- What a log's last note says of a state. -/
def NoteOf (N : Nat) (nt : ByteArray) (se ep : Nat) (A : List UInt8) (dn : Bool) : Prop :=
  (N = 0 → se = 0 ∧ ep = 0 ∧ A = [] ∧ dn = false) ∧ (N ≠ 0 → nt = ntB se ep A dn)

/-- A keep in use. -/
structure Kp (w : World) (b lb mb c n t gb fb kb N : Nat) (nt : ByteArray) (L : List UInt8) (se ep : Nat) (A : List UInt8) (dn : Bool) : Prop where
  duo : Duo w b lb mb c n t gb fb N nt L A
  box : KBox w kb gb fb se ep A.length (moreN 0 A) dn false
  ksep : ¬ DkS b lb mb kb ∧ kb ≠ gb ∧ kb ≠ fb
  se2 : se < 4294967296
  ep2 : ep < 4294967296
  note : NoteOf N nt se ep A dn
theorem Kp.still {w w' : World} {b lb mb c n t gb fb kb N : Nat} {nt : ByteArray} {L : List UInt8} {se ep : Nat} {A : List UInt8} {dn : Bool} (h : Kp w b lb mb c n t gb fb kb N nt L se ep A dn) (ht : Touch (fun _ => False) w w') : Kp w' b lb mb c n t gb fb kb N nt L se ep A dn :=
  { h with duo := h.duo.still ht, box := Block.kept h.box ht id }
theorem more_lt (A : List UInt8) : moreN 0 A < 4294967296 := moreN_lt 0 A (by decide)

end Go.Proofs.Ytmcakilpdecacaa
