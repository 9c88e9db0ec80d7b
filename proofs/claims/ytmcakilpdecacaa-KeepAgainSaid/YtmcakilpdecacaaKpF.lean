/- Contracts of package keep, sixth part: Append, State, Room, Read. -/
import Derived.Test.YtmcakilpdecacaaKpE
namespace Go.Proofs.Ytmcakilpdecacaa
open Go Go.RowKit Go.Maps
set_option maxRecDepth 100000

theorem kappend_nil (s : ByteArray) (w : World) : Calls Try.prog 41 #[.pointer none, .string s] w fun e w' => e = .returned (.int .i64 1) ∧ Touch (fun _ => False) w w' := by
  go_enter Try.func41, Try.ntmps41
  go_wp2_with (go_at_call 70; refine (change_nil _ _).mono ?_; rintro e w' ⟨rfl, rfl⟩)
  go_ret
  exact ⟨rfl, ((Touch.refl _ w).alloc _).alloc _⟩
theorem kcommit_nil (w : World) : Calls Try.prog 46 #[.pointer none] w fun e w' => e = .returned (.int .i64 1) ∧ w = w' := by
  go_enter Try.func46, Try.ntmps46
  go_wp2_with (go_at_call 70; refine (change_nil _ _).mono ?_; rintro e w' ⟨rfl, rfl⟩)
  go_ret
  exact ⟨rfl, rfl⟩

theorem kappend_calls {w : World} {b lb mb c n t gb fb kb N : Nat} {nt : ByteArray} {L : List UInt8} {se ep : Nat} {A : List UInt8} (h : Kp w b lb mb c n t gb fb kb N nt L se ep A false) (s : ByteArray) (hs : s.size ≤ (n - 8) * 64 - A.length) (hN : N < 999999) (ht : t + s.size < 999999) :
    Calls Try.prog 41 #[.pointer (some ⟨kb, 0, none⟩), .string s] w fun e w' => KOut w w' b lb mb c n t gb fb kb N se ep (A ++ s.data.toList) false s.size e := by
  obtain ⟨w1, hw1⟩ : ∃ w1, w.alloc (.cells #[.pointer (some ⟨kb, 0, none⟩)] 74) = w1 := ⟨_, rfl⟩
  obtain ⟨w2, hw2⟩ : ∃ w2, w1.alloc (.cells #[.string s] 9) = w2 := ⟨_, rfl⟩
  have hT1 : Touch (fun _ => False) w w1 := by rw [← hw1]; exact (Touch.refl _ w).alloc _
  have hT2 : Touch (fun _ => False) w1 w2 := by rw [← hw2]; exact (Touch.refl _ w1).alloc _
  have hb1 : Block w1 w.heap.size 74 [.pointer (some ⟨kb, 0, none⟩)] := by rw [← hw1]; exact Block.new w _ _
  have hb2 : Block w2 w1.heap.size 9 [.string s] := by rw [← hw2]; exact Block.new w1 _ _
  have hb1' := Block.kept hb1 hT2 id
  have hl1 := Block.lt hb1'
  have hl2 := Block.lt hb2
  have hT := hT1.trans hT2
  have hK := h.still hT
  have hch : Calls Try.prog 70 #[.pointer (some ⟨kb, 0, none⟩), .func (.func 71) #[] #[.pointer (some ⟨w.heap.size, 0, none⟩), .pointer (some ⟨w1.heap.size, 0, none⟩)]] w2 fun e w' => KOut w2 w' b lb mb c n t gb fb kb N se ep (A ++ s.data.toList) false s.size e :=
    change_calls hK 71 #[.pointer (some ⟨w.heap.size, 0, none⟩), .pointer (some ⟨w1.heap.size, 0, none⟩)] (enters_append _ _) se ep (A ++ s.data.toList) false s.size h.se2 h.ep2 (fun W nb hW hnb hB => append1_how (hK.duo.still hW) hB (Block.kept hK.box hW id) (fun h => h.elim hK.ksep.1 hK.ksep.2.2) (hK.newbox hnb) s ⟨by omega, by omega⟩ (hW.cell (Block.cell hb1' 0) id) (hW.cell (Block.cell hb2 0) id) (by omega) hs (by omega)) hN (by omega)
  have hz : w1.heap.size = w.heap.size + 1 := by rw [← hw1]; show (w.heap.push _).size = _; simp
  rw [hz] at hch
  have HC := Lib.hid hch
  have HT := Lib.hid hT
  clear hz hch h hK hT1 hT2 hb1 hb2 hb1' hl1 hl2 hT
  subst hw1
  subst hw2
  go_enter Try.func41, Try.ntmps41
  go_wp2_with (go_at_call 70; refine HC.out.mono ?_; rintro e w' ⟨rfl, h1, h2⟩)
  go_ret
  exact KOut.weak HT.out ⟨rfl, h1, h2⟩

theorem Try.sizeSt : (Try.prog.info? 82).map (·.size) = some 5 := by kernel_rfl

theorem kstate_nil (w : World) : Calls Try.prog 48 #[.pointer none] w fun e w' => e = .returned (stV 0 0 0 0 false) ∧ Touch (fun _ => False) w w' := by
  go_enter Try.func48, Try.ntmps48
  go_wp2
  exact bodyPost_ret (results_cell_row rfl _ _ w.heap.size _ _ _ _ rfl (heap_alloc_new w _) Try.underlying82 rfl Try.sizeSt) rfl ⟨rfl, (Touch.refl _ w).alloc _⟩

theorem kstate_calls {w : World} {kb gb fb se ep sz sm : Nat} {dn fl : Bool} (h : KBox w kb gb fb se ep sz sm dn fl) : Calls Try.prog 48 #[.pointer (some ⟨kb, 0, none⟩)] w fun e w' => e = .returned (stV se ep sz sm dn) ∧ Touch (fun _ => False) w w' := by
  obtain ⟨c0, c1, c2, c3, c4, c5, c6, c7⟩ := h.cells
  have hlt := Block.lt h
  clear h
  go_enter Try.func48, Try.ntmps48
  go_wp2
  exact bodyPost_ret (results_cell_row rfl _ _ w.heap.size _ _ _ _ rfl (heap_alloc_new w _) Try.underlying82 rfl Try.sizeSt) rfl ⟨rfl, (Touch.refl _ w).alloc _⟩

theorem kroom_nil (w : World) : Calls Try.prog 47 #[.pointer none] w fun e w' => e = .returned (.int .i64 0) ∧ w = w' := by
  go_enter Try.func47, Try.ntmps47
  go_wp2
  go_ret
  exact ⟨rfl, rfl⟩
theorem kroom_calls {w : World} {b lb mb c n t gb fb kb N : Nat} {nt : ByteArray} {L : List UInt8} {se ep : Nat} {A : List UInt8} (h : Kp w b lb mb c n t gb fb kb N nt L se ep A false) :
    Calls Try.prog 47 #[.pointer (some ⟨kb, 0, none⟩)] w fun e w' => e = .returned (.int .i64 (((n - 8) * 64 - A.length : Nat) : Int)) ∧ Touch (fun _ => False) w w' := by
  obtain ⟨c0, c1, c2, c3, c4, c5, c6, c7⟩ := h.box.cells
  have HR := Lib.hid (fil_room h.duo.fil)
  clear h
  go_enter Try.func47, Try.ntmps47
  go_wp2_with (go_at_call 34; refine HR.out.mono ?_; rintro e w' ⟨rfl, hT⟩)
  go_ret
  exact ⟨rfl, hT⟩
theorem kread_nil (p k : Int) (w : World) : Calls Try.prog 43 #[.pointer none, .int .i64 p, .int .i64 k] w fun e w' => e = .returned (.tuple #[.string ⟨#[]⟩, .int .i64 1]) ∧ w = w' := by
  go_enter Try.func43, Try.ntmps43
  go_wp2
  go_ret2
  exact ⟨rfl, rfl⟩
theorem kread_calls {w : World} {b lb mb c n t gb fb kb N : Nat} {nt : ByteArray} {L : List UInt8} {se ep : Nat} {A : List UInt8} {dn : Bool} (h : Kp w b lb mb c n t gb fb kb N nt L se ep A dn) (p k : Nat) (hk : p + k ≤ A.length) :
    Calls Try.prog 43 #[.pointer (some ⟨kb, 0, none⟩), .int .i64 p, .int .i64 k] w fun e w' => e = .returned (.tuple #[.string ⟨((A.drop p).take k).toArray⟩, .int .i64 0]) ∧ Touch (fun _ => False) w w' := by
  obtain ⟨c0, c1, c2, c3, c4, c5, c6, c7⟩ := h.box.cells
  have HR := Lib.hid (fil_read h.duo.fil p k hk)
  clear h
  go_enter Try.func43, Try.ntmps43
  go_wp2_with (go_at_call 28; refine HR.out.mono ?_; rintro e w' ⟨rfl, hT⟩)
  go_ret2
  exact ⟨rfl, hT⟩

end Go.Proofs.Ytmcakilpdecacaa
