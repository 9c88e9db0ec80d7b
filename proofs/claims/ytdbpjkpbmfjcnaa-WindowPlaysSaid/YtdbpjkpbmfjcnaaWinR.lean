/- Contracts of layer 6's plain program over the translated program: the last bytes, and what is copied. -/
import Derived.Test.YtdbpjkpbmfjcnaaWinC
namespace Go.Proofs.Ytdbpjkpbmfjcnaa
open Go Go.RowKit
set_option maxRecDepth 100000

theorem str_list (t : ByteArray) : t = ⟨t.data.toList.toArray⟩ := by
  apply ByteArray.ext
  simp
theorem ext_size (q : ByteArray) (p : Nat) (hp : p < q.size) : (q.extract p (p + 1)).size = 1 := by
  simp
  omega
theorem ext_list (q : ByteArray) (p : Nat) (hp : p < q.size) : (q.extract p (p + 1)).data.toList = [q.data.toList.getD p 0] := by
  have hp' : p < q.data.toList.length := by rw [data_length]; exact hp
  rw [ByteArray.data_extract, Array.toList_extract]
  rw [List.extract_eq_take_drop, show p + 1 - p = 1 by omega, List.drop_eq_getElem_cons hp']
  simp [List.getD, List.getElem?_eq_getElem hp']
theorem ext_end (q : ByteArray) (n : Nat) : q.extract n q.size = ⟨(q.data.toList.drop n).toArray⟩ := by
  apply ByteArray.ext
  apply Array.ext'
  rw [ByteArray.data_extract, Array.toList_extract, List.extract_eq_take_drop]
  simp only [List.toList_toArray]
  apply List.take_of_length_le
  rw [List.length_drop, data_length]
  exact Nat.le_refl _

theorem last_calls (s : ByteArray) (n : Nat) (w : World) (hs : s.size ≤ 1000000) : Calls Try.prog 40 #[.string s, .int .i64 n] w fun e w' => e = .returned (.string ⟨(s.data.toList.drop (s.size - n)).toArray⟩) ∧ w = w' := by
  by_cases h : n < s.size
  · have hi : (n : Int) < (s.size : Int) := by omega
    obtain ⟨x, hx⟩ : ∃ x : Nat, s.size - n = x := ⟨_, rfl⟩
    have hxi : (s.size : Int) - (n : Int) = (x : Nat) := by omega
    have hx2 : (x : Int) ≤ (s.size : Int) := by omega
    have hx0 : (0 : Int) ≤ (x : Int) := by omega
    rw [hx]
    have HE := Lib.hid (ext_end s x)
    have hwx : wrap64 (x : Int) = (x : Int) := by unfold wrap64; omega
    clear hx h hs
    go_enter Try.func40, Try.ntmps40
    go_wp2
    go_ret
    rw [← HE.out]
    exact ⟨rfl, rfl⟩
  · have hi : ¬ (n : Int) < (s.size : Int) := by omega
    have hx : s.size - n = 0 := by omega
    rw [hx, List.drop_zero, ← str_list s]
    clear hx h
    go_enter Try.func40, Try.ntmps40
    go_wp2
    go_ret
    exact ⟨rfl, rfl⟩

theorem copyL_front (P L : List UInt8) (d : Nat) (_h1 : 1 ≤ d) (hd : d ≤ L.length) : ∀ k, copyL k d (P ++ L) = P ++ copyL k d L := by
  intro k
  induction k with
  | zero => rfl
  | succ k ih =>
    have hl := copyL_length k d L
    rw [copyL_snoc, ih, copyL_snoc, List.append_assoc]
    congr 3
    simp only [List.getD, List.length_append]
    rw [List.getElem?_append_right (by omega)]
    congr 2
    omega

theorem mk_size (L : List UInt8) : (⟨L.toArray⟩ : ByteArray).size = L.length := by
  show L.toArray.size = _
  simp
theorem mk_list (L : List UInt8) : (⟨L.toArray⟩ : ByteArray).data.toList = L := by simp

/-- The last bytes as a string, and what copies make of them. -/
theorem lasts_facts (s : ByteArray) (d M : Nat) (h1 : 1 ≤ d) (h2 : d ≤ min s.size M) : ∃ ws : ByteArray, ws = ⟨(s.data.toList.drop (s.size - M)).toArray⟩ ∧ ws.size = min s.size M ∧
    ∀ k, (copyL k d s.data.toList).drop s.size = (copyL k d ws.data.toList).drop ws.size := by
  have hl := data_length s
  have hq : (s.data.toList.drop (s.size - M)).length = s.size - (s.size - M) := by rw [List.length_drop, hl]
  have hf := copyL_front (s.data.toList.take (s.size - M)) (s.data.toList.drop (s.size - M)) d h1 (by rw [hq]; omega)
  rw [List.take_append_drop] at hf
  have hp : (s.data.toList.take (s.size - M)).length = s.size - M := by rw [List.length_take]; omega
  generalize s.data.toList.take (s.size - M) = P at hf hp
  generalize s.data.toList.drop (s.size - M) = L at hf hq ⊢
  refine ⟨⟨L.toArray⟩, rfl, ?_, fun k => ?_⟩
  · rw [mk_size L, hq]
    omega
  · rw [mk_size L, mk_list L, hf, hq, List.drop_append, hp, List.drop_eq_nil_of_le (by rw [hp]; omega), List.nil_append]

theorem refcopy_out (s : ByteArray) (n d : Int) (w : World) (hs : s.size ≤ 1000000) (h1 : n < 0 ∨ 258 < n ∨ d < 1 ∨ (min s.size 32768 : Nat) < d) :
    Calls Try.prog 38 #[.string s, .int .i64 n, .int .i64 d] w fun e w' => e = .returned (.tuple #[.string ⟨#[]⟩, .bool false]) ∧ w = w' := by
  have HLA : RowKit.Hid (∀ W, Calls Try.prog 40 #[.string s, .int .i64 32768] W fun e w' => e = .returned (.string ⟨(s.data.toList.drop (s.size - 32768)).toArray⟩) ∧ W = w') := Lib.hid (fun W => last_calls s 32768 W hs)
  obtain ⟨ws, hws⟩ : ∃ ws : ByteArray, ws = ⟨(s.data.toList.drop (s.size - 32768)).toArray⟩ := ⟨_, rfl⟩
  have hz : ws.size = min s.size 32768 := by
    rw [hws]
    show (s.data.toList.drop (s.size - 32768)).toArray.size = _
    simp [data_length]
    omega
  rw [← hws] at HLA
  have h2 : n < 0 ∨ 258 < n ∨ d < 1 ∨ (ws.size : Int) < d := by rw [hz]; exact h1
  clear h1 hz hws hs
  by_cases a1 : n < 0
  · have e1 : decide (n < 0) = true := decide_eq_true a1
    clear h2 a1
    go_enter Try.func38, Try.ntmps38
    go_wp2_with (go_at_call 40; refine (HLA.out _).mono ?_; rintro e w1 ⟨rfl, rfl⟩)
    go_ret2
    exact ⟨rfl, rfl⟩
  · have e1 : decide (n < 0) = false := decide_eq_false a1
    by_cases a2 : 258 < n
    · have e2 : decide (258 < n) = true := decide_eq_true a2
      clear h2 a1 a2
      go_enter Try.func38, Try.ntmps38
      go_wp2_with (go_at_call 40; refine (HLA.out _).mono ?_; rintro e w1 ⟨rfl, rfl⟩)
      go_ret2
      exact ⟨rfl, rfl⟩
    · have e2 : decide (258 < n) = false := decide_eq_false a2
      by_cases a3 : d < 1
      · have e3 : decide (d < 1) = true := decide_eq_true a3
        clear h2 a1 a2 a3
        go_enter Try.func38, Try.ntmps38
        go_wp2_with (go_at_call 40; refine (HLA.out _).mono ?_; rintro e w1 ⟨rfl, rfl⟩)
        go_ret2
        exact ⟨rfl, rfl⟩
      · have e3 : decide (d < 1) = false := decide_eq_false a3
        have e4 : decide ((ws.size : Int) < d) = true := decide_eq_true (by omega)
        clear h2 a1 a2 a3
        go_enter Try.func38, Try.ntmps38
        go_wp2_with (go_at_call 40; refine (HLA.out _).mono ?_; rintro e w1 ⟨rfl, rfl⟩)
        go_ret2
        exact ⟨rfl, rfl⟩
set_option maxHeartbeats 1000000 in
theorem refcopy_in (s : ByteArray) (n d : Nat) (w : World) (hn : n ≤ 258) (h1 : 1 ≤ d) (h2 : d ≤ min s.size 32768) (hs : s.size ≤ 1000000) :
    Calls Try.prog 38 #[.string s, .int .i64 n, .int .i64 d] w fun e w' => e = .returned (.tuple #[.string ⟨((copyL n d s.data.toList).drop s.size).toArray⟩, .bool true]) ∧ w = w' := by
  have HLA : RowKit.Hid (∀ W, Calls Try.prog 40 #[.string s, .int .i64 32768] W fun e w' => e = .returned (.string ⟨(s.data.toList.drop (s.size - 32768)).toArray⟩) ∧ W = w') := Lib.hid (fun W => last_calls s 32768 W hs)
  obtain ⟨ws, hws, hz, hcp⟩ := lasts_facts s d 32768 h1 h2
  rw [← hws] at HLA
  rw [hcp n]
  have hd : d ≤ ws.size := by omega
  have HZ := Lib.hid (show ws.size ≤ 32768 by omega)
  clear hcp hz h2 hws hs
  have e1 : decide ((n : Int) < 0) = false := decide_eq_false (by omega)
  have e2 : decide (258 < (n : Int)) = false := decide_eq_false (by omega)
  have e3 : decide ((d : Int) < 1) = false := decide_eq_false (by omega)
  have e4 : decide ((ws.size : Int) < (d : Int)) = false := decide_eq_false (by omega)
  have e5 : decide (ws.size < d) = false := decide_eq_false (by omega)
  go_enter Try.func38, Try.ntmps38
  go_wp2_with (go_at_call 40; refine (HLA.out _).mono ?_; rintro e w1 ⟨rfl, rfl⟩)
  go_loopw [9, 10, 11] (fun ov iv _ wr => wr = w ∧ ∃ (k : Nat) (o : ByteArray), k ≤ n ∧ iv = .int .i64 (k : Nat) ∧ ov = .string o ∧ o.size = k ∧ RowKit.Hid (ws.data.toList ++ o.data.toList = copyL k d ws.data.toList)) (fun _ iv _ _ => n - (intOf iv).toNat)
  case atStart => exact ⟨rfl, 0, ⟨#[]⟩, Nat.zero_le _, rfl, rfl, rfl, Lib.hid (by simp [copyL])⟩
  case round =>
    obtain ⟨rfl, k, o, hk, rfl, rfl, ho, HO⟩ := hrel
    by_cases hlt : k < n
    · obtain ⟨q, hq⟩ : ∃ q : ByteArray, q = ws ++ o := ⟨_, rfl⟩
      have hqz : q.size = ws.size + k := by rw [hq, ByteArray.size_append, ho]
      have hqd : q.data.toList = copyL k d ws.data.toList := by rw [hq, ByteArray.data_append, Array.toList_append]; exact HO.out
      obtain ⟨x, hx⟩ : ∃ x : Nat, q.size - d = x := ⟨_, rfl⟩
      have hx1 : (q.size : Int) - (d : Int) = (x : Nat) := by omega
      have hxl : x < q.size := by omega
      have hx2 : (x : Int) < (q.size : Int) := by omega
      have hx3 : (0 : Int) ≤ (x : Int) := by omega
      have hz1 := ext_size q x hxl
      have hl1 := ext_list q x hxl
      have hob : o.size ≤ 258 := by omega
      have hob2 : (q.extract x (x + 1)).size ≤ 1 := by omega
      have HQ := Lib.hid hq
      have HQZ := Lib.hid hqz
      have HQD := Lib.hid hqd
      have HX := Lib.hid hx
      have HZ1 := Lib.hid hz1
      have HL1 := Lib.hid hl1
      have HOZ := Lib.hid ho
      have hqb : q.size ≤ 40000 := by have := HZ.out; omega
      have hwb : ws.size ≤ 40000 := by have := HZ.out; omega
      have hqe : ws ++ o = q := hq.symm
      clear hq hqz hqd hx hz1 hl1 ho
      go_wp2_with fail
      have hcl := copyL_length k d ws.data.toList
      go_roundw
      case rel =>
        refine ⟨trivial, k + 1, o ++ q.extract x (x + 1), by omega, by go_num, rfl, by rw [ByteArray.size_append, HZ1.out, HOZ.out], Lib.hid ?_⟩
        rw [ByteArray.data_append, Array.toList_append, ← List.append_assoc, HO.out, HL1.out, copyL_snoc, HQD.out, hcl, data_length, ← HQZ.out, HX.out]
      case measure => simp [intOf]; omega
    · obtain rfl : k = n := by omega
      go_wp2_with fail
      go_ret2
      rw [← HO.out, ← data_length ws, List.drop_left, ← str_list o]
      exact ⟨rfl, rfl⟩
end Go.Proofs.Ytdbpjkpbmfjcnaa
