
/- Contracts of package disk, second part: check, Read. -/
import Derived.Test.YtjjpknmjkhaahaaDkB
import Derived.Test.YtjjpknmjkhaahaaOpen
namespace Go.Proofs.Ytjjpknmjkhaahaa
open Go Go.RowKit Go.Maps
set_option maxRecDepth 100000

/-- A sector as it lasts. -/
def sec (L : List UInt8) (i : Nat) : List UInt8 := (L.drop (i * 64)).take 64
/-- A sector as it is read. -/
def readS (L : List UInt8) (C : List Ent) (i : Nat) : ByteArray := match findE C i with
  | some e => e.s
  | none => ⟨(sec L i).toArray⟩

theorem sec_len {n : Nat} {L : List UInt8} (h : L.length = n * 64) {i : Nat} (hi : i < n) : (sec L i).length = 64 := by
  unfold sec; rw [List.length_take, List.length_drop]; omega

theorem DkAt.secRow {w : World} {b lb mb c n : Nat} {L : List UInt8} {C : List Ent} {t : Nat} {f : Int} {on : Bool} (h : DkAt w b lb mb c n L C t f on) (i : Nat) (hi : i < n) :
    Row w 5 (secS lb c i) (byteVs (sec L i)) := by
  have hc := h.cap
  have hl := h.len
  have h1 := Row.from h.row (q := i * 64) (by omega) (by omega)
  have ea : (⟨lb, 0, none⟩ : Addr).add (i * 64) = ⟨lb, i * 64, none⟩ := by rw [add_plain, Nat.zero_add]
  rw [Option.map_some, ea] at h1
  have h2 := Row.upto h1.1 (q := 64) (by omega)
  unfold secS Go.Proofs.Ytjjpknmjkhaahaa.sec
  rwa [byteVs_drop, byteVs_take] at h2

theorem check_off {w : World} {b lb mb c n : Nat} {L : List UInt8} {C : List Ent} {t : Nat} {f : Int} (h : DkAt w b lb mb c n L C t f false) (i : Int) :
    Calls Try.prog 24 #[.pointer (some ⟨b, 0, none⟩), .int .i64 i] w fun e w' => e = .returned (.int .i64 14) ∧ w = w' := by
  obtain ⟨c0, c1, c2, c3, c4⟩ := h.cells
  clear h
  go_enter Try.func24, Try.ntmps24
  go_wp2
  go_ret
  exact ⟨rfl, rfl⟩
theorem check_neg {w : World} {b lb mb c n : Nat} {L : List UInt8} {C : List Ent} {t : Nat} {f : Int} (h : DkAt w b lb mb c n L C t f true) (i : Int) (hi : i < 0) :
    Calls Try.prog 24 #[.pointer (some ⟨b, 0, none⟩), .int .i64 i] w fun e w' => e = .returned (.int .i64 20) ∧ w = w' := by
  obtain ⟨c0, c1, c2, c3, c4⟩ := h.cells
  clear h
  have d1 : decide (i < 0) = true := decide_eq_true hi
  go_enter Try.func24, Try.ntmps24
  go_wp2
  go_ret
  exact ⟨rfl, rfl⟩
theorem check_high {w : World} {b lb mb c n : Nat} {L : List UInt8} {C : List Ent} {t : Nat} {f : Int} (h : DkAt w b lb mb c n L C t f true) (i : Int) (h0 : 0 ≤ i) (hi : n ≤ i) :
    Calls Try.prog 24 #[.pointer (some ⟨b, 0, none⟩), .int .i64 i] w fun e w' => e = .returned (.int .i64 20) ∧ w = w' := by
  obtain ⟨c0, c1, c2, c3, c4⟩ := h.cells
  have d1 : decide (i < 0) = false := decide_eq_false (by omega)
  have d2 : decide ((n : Int) ≤ i) = true := decide_eq_true hi
  have H := Lib.hid h
  clear h
  go_enter Try.func24, Try.ntmps24
  go_wp2_with (go_at_call 20; refine (sectors_calls H.out).mono ?_; rintro e w' ⟨rfl, rfl⟩)
  go_ret
  exact ⟨rfl, rfl⟩
theorem check_bad {w : World} {b lb mb c n : Nat} {L : List UInt8} {C : List Ent} {t : Nat} {f : Int} (h : DkAt w b lb mb c n L C t f true) (i : Int) (hi : i < 0 ∨ n ≤ i) :
    Calls Try.prog 24 #[.pointer (some ⟨b, 0, none⟩), .int .i64 i] w fun e w' => e = .returned (.int .i64 20) ∧ w = w' := by
  by_cases h0 : i < 0
  · exact check_neg h i h0
  · exact check_high h i (by omega) (by omega)
theorem check_ok {w : World} {b lb mb c n : Nat} {L : List UInt8} {C : List Ent} {t : Nat} {f : Int} (h : DkAt w b lb mb c n L C t f true) (i : Nat) (hi : i < n) :
    Calls Try.prog 24 #[.pointer (some ⟨b, 0, none⟩), .int .i64 i] w fun e w' => e = .returned (.int .i64 0) ∧ w = w' := by
  obtain ⟨c0, c1, c2, c3, c4⟩ := h.cells
  have d1 : decide ((i : Int) < 0) = false := decide_eq_false (by omega)
  have d2 : decide (n ≤ i) = false := decide_eq_false (by omega)
  have d3 : decide ((n : Int) ≤ (i : Int)) = false := decide_eq_false (by omega)
  have H := Lib.hid h
  clear h
  go_enter Try.func24, Try.ntmps24
  go_wp2_with (go_at_call 20; refine (sectors_calls H.out).mono ?_; rintro e w' ⟨rfl, rfl⟩)
  go_ret
  exact ⟨rfl, rfl⟩

theorem read_nil (i : Int) (w : World) : Calls Try.prog 19 #[.pointer none, .int .i64 i] w fun e w' => e = .returned (.tuple #[.string ⟨#[]⟩, .int .i64 1]) ∧ w = w' := by
  go_enter Try.func19, Try.ntmps19
  go_wp2
  go_ret2
  exact ⟨rfl, rfl⟩
theorem read_off {w : World} {b lb mb c n : Nat} {L : List UInt8} {C : List Ent} {t : Nat} {f : Int} (h : DkAt w b lb mb c n L C t f false) (i : Int) :
    Calls Try.prog 19 #[.pointer (some ⟨b, 0, none⟩), .int .i64 i] w fun e w' => e = .returned (.tuple #[.string ⟨#[]⟩, .int .i64 14]) ∧ w = w' := by
  have H := Lib.hid h
  clear h
  go_enter Try.func19, Try.ntmps19
  go_wp2_with (go_at_call 24; refine (check_off H.out _).mono ?_; rintro e w' ⟨rfl, rfl⟩)
  go_ret2
  exact ⟨rfl, rfl⟩
theorem read_bad {w : World} {b lb mb c n : Nat} {L : List UInt8} {C : List Ent} {t : Nat} {f : Int} (h : DkAt w b lb mb c n L C t f true) (i : Int) (hi : i < 0 ∨ n ≤ i) :
    Calls Try.prog 19 #[.pointer (some ⟨b, 0, none⟩), .int .i64 i] w fun e w' => e = .returned (.tuple #[.string ⟨#[]⟩, .int .i64 20]) ∧ w = w' := by
  have H := Lib.hid h
  have HI := Lib.hid hi
  clear h hi
  go_enter Try.func19, Try.ntmps19
  go_wp2_with (go_at_call 24; refine (check_bad H.out _ HI.out).mono ?_; rintro e w' ⟨rfl, rfl⟩)
  go_ret2
  exact ⟨rfl, rfl⟩
set_option maxHeartbeats 400000 in
theorem read_ok {w : World} {b lb mb c n : Nat} {L : List UInt8} {C : List Ent} {t : Nat} {f : Int} (h : DkAt w b lb mb c n L C t f true) (i : Nat) (hi : i < n) :
    Calls Try.prog 19 #[.pointer (some ⟨b, 0, none⟩), .int .i64 i] w fun e w' => e = .returned (.tuple #[.string (readS L C i), .int .i64 0]) ∧ Touch (fun _ => False) w w' := by
  obtain ⟨c0, c1, c2, c3, c4⟩ := h.cells
  have hn := h.n2
  have hlk := (h.map.look i (by omega) (by omega)).1
  have HR : Hid (∀ w', Touch (fun _ => False) w w' → (convert 53 9 (secS lb c i)).run Try.prog w' = .ok (.string ⟨(sec L i).toArray⟩) w') := Lib.hid (fun w' hT =>
    run_bytes_row (P := Try.prog) w' 53 5 9 Try.underlying53 Try.underlying5 Try.underlying9 ((h.secRow i hi).kept hT (fun _ _ => id)))
  have H := Lib.hid h
  clear h c0 c2 c3 c4
  unfold readS
  unfold lookV at hlk
  rw [hasE_find] at hlk
  cases hf : findE C i with
  | some e =>
    rw [hf] at hlk
    clear hf
    simp only [Option.isSome_some] at hlk
    obtain ⟨k, s, t'⟩ := e
    unfold elV at hlk
    simp only at hlk ⊢
    go_enter Try.func19, Try.ntmps19
    go_wp2_with (go_at_call 24; refine (check_ok H.out _ hi).mono ?_; rintro e w' ⟨rfl, rfl⟩)
    go_ret2
    exact ⟨rfl, (Touch.refl _ w).alloc _⟩
  | none =>
    rw [hf] at hlk
    clear hf
    simp only [Option.isSome_none] at hlk
    unfold elV at hlk
    go_enter Try.func19, Try.ntmps19
    have hT := (Touch.refl (fun _ => False) w).alloc (.cells #[.string ⟨#[]⟩, .int .i64 0] 58)
    have hcv := HR.out _ hT
    have HT := Lib.hid hT
    clear hT HR
    unfold secS at hcv
    go_wp2_with (first
      | (go_at_call 24; refine (check_ok H.out _ hi).mono ?_; rintro e w' ⟨rfl, rfl⟩)
      | (go_at_call 22; refine (sector_calls (H.out.still HT.out) i hi).mono ?_; rintro e w' ⟨rfl, rfl⟩; unfold secS))
    go_ret2
    exact ⟨rfl, HT.out⟩

end Go.Proofs.Ytjjpknmjkhaahaa
