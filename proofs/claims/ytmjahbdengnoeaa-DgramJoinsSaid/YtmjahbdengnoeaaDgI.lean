/- Plain facts on a datagram's bytes: they are read back; the reference's Encode; what every statement of layer 22 asks first. -/
import Derived.Test.YtmjahbdengnoeaaDgH
import Derived.Test.YtmjahbdengnoeaaDgD
namespace Go.Proofs.Ytmjahbdengnoeaa
open Go Go.RowKit
set_option maxRecDepth 100000

theorem part_at {L A B R : List UInt8} (h : L = A ++ (B ++ R)) : (L.drop A.length).take B.length = B := by
  rw [h, List.drop_left, List.take_left]
theorem rd_part {s : ByteArray} {A R : List UInt8} {i k v : Nat} (h : s.data.toList = A ++ (leB k v ++ R)) (hi : A.length = i) : rd s i k = v % 256 ^ k := by
  unfold rd
  have h1 := part_at h
  rw [leB_length, hi] at h1
  rw [h1, getN_leB]
theorem byte_part {s : ByteArray} {A R : List UInt8} {i v : Nat} (h : s.data.toList = A ++ (leB 1 v ++ R)) (hi : A.length = i) : byteAt s i = v % 256 := by
  unfold byteAt
  rw [h, List.getD_eq_getElem?_getD, List.getElem?_append_right (by omega), hi, Nat.sub_self]
  simp [leB]
theorem readD_body (d : Dg) (hw : d.Wf) (hg : goodD d = true) : readD (bodyB d) = d := by
  obtain ⟨k, hk, hk6⟩ := good_kind hg
  have hs := good_size hg
  have hz := bodyB_size d
  have hL := bodyB_list d
  generalize bodyB d = b at hz hL
  unfold bodyL at hL
  obtain ⟨kind, se, ep, sq, pos, sm, mp, last, text⟩ := d
  obtain ⟨_, _, h0, h1, h2, h3, h4, h5⟩ := hw
  simp only at hk h0 h1 h2 h3 h4 h5 hs hz hL
  subst hk
  rw [show ((k : Nat) : Int).toNat = k by simp] at hL
  have e2 : byteAt b 2 = k % 256 := byte_part (A := [76, 71]) (by rw [hL]; rfl) rfl
  have e3 : byteAt b 3 = (if last then 1 else 0) % 256 := byte_part (A := 76 :: 71 :: leB 1 k) (by rw [hL]; simp only [List.cons_append]; rfl) (by simp [leB_length])
  have q4 : rd b 4 4 = se % 256 ^ 4 := rd_part (A := 76 :: 71 :: (leB 1 k ++ leB 1 (if last then 1 else 0))) (by rw [hL]; simp only [List.cons_append, List.append_assoc]; rfl) (by simp [leB_length])
  have q8 : rd b 8 4 = ep % 256 ^ 4 := rd_part (A := 76 :: 71 :: (leB 1 k ++ (leB 1 (if last then 1 else 0) ++ leB 4 se))) (by rw [hL]; simp only [List.cons_append, List.append_assoc]; rfl) (by simp [leB_length])
  have q12 : rd b 12 4 = sq % 256 ^ 4 := rd_part (A := 76 :: 71 :: (leB 1 k ++ (leB 1 (if last then 1 else 0) ++ (leB 4 se ++ leB 4 ep)))) (by rw [hL]; simp only [List.cons_append, List.append_assoc]; rfl) (by simp [leB_length])
  have q16 : rd b 16 8 = pos % 256 ^ 8 := rd_part (A := 76 :: 71 :: (leB 1 k ++ (leB 1 (if last then 1 else 0) ++ (leB 4 se ++ (leB 4 ep ++ leB 4 sq))))) (by rw [hL]; simp only [List.cons_append, List.append_assoc]; rfl) (by simp [leB_length])
  have q24 : rd b 24 4 = sm % 256 ^ 4 := rd_part (A := 76 :: 71 :: (leB 1 k ++ (leB 1 (if last then 1 else 0) ++ (leB 4 se ++ (leB 4 ep ++ (leB 4 sq ++ leB 8 pos)))))) (by rw [hL]; simp only [List.cons_append, List.append_assoc]; rfl) (by simp [leB_length])
  have q28 : rd b 28 4 = mp % 256 ^ 4 := rd_part (A := 76 :: 71 :: (leB 1 k ++ (leB 1 (if last then 1 else 0) ++ (leB 4 se ++ (leB 4 ep ++ (leB 4 sq ++ (leB 8 pos ++ leB 4 sm))))))) (by rw [hL]; simp only [List.cons_append, List.append_assoc]; rfl) (by simp [leB_length])
  have qt : b.extract 34 b.size = text := by
    apply ByteArray.ext
    apply Array.toList_inj.1
    rw [ex_list, hL, List.take_of_length_le]
    · have hA : (76 :: 71 :: (leB 1 k ++ (leB 1 (if last then 1 else 0) ++ (leB 4 se ++ (leB 4 ep ++ (leB 4 sq ++ (leB 8 pos ++ (leB 4 sm ++ (leB 4 mp ++ leB 2 text.size))))))))).length = 34 := by simp [leB_length]
      have hB : (76 :: 71 :: (leB 1 k ++ (leB 1 (if last then 1 else 0) ++ (leB 4 se ++ (leB 4 ep ++ (leB 4 sq ++ (leB 8 pos ++ (leB 4 sm ++ (leB 4 mp ++ (leB 2 text.size ++ text.data.toList)))))))))) = (76 :: 71 :: (leB 1 k ++ (leB 1 (if last then 1 else 0) ++ (leB 4 se ++ (leB 4 ep ++ (leB 4 sq ++ (leB 8 pos ++ (leB 4 sm ++ (leB 4 mp ++ leB 2 text.size))))))))) ++ text.data.toList := by simp only [List.cons_append, List.append_assoc]
      rw [hB]
      exact List.drop_left' hA
    · rw [List.length_drop, ← hL, Array.length_toList]
      show b.size - 34 ≤ b.size - 34
      omega
  unfold readD
  rw [e2, e3, q4, q8, q12, q16, q24, q28, qt]
  rw [Nat.mod_eq_of_lt (show k < 256 by omega), Nat.mod_eq_of_lt (show se < 256 ^ 4 by omega), Nat.mod_eq_of_lt (show ep < 256 ^ 4 by omega), Nat.mod_eq_of_lt (show sq < 256 ^ 4 by omega), Nat.mod_eq_of_lt (show pos < 256 ^ 8 by omega), Nat.mod_eq_of_lt (show sm < 256 ^ 4 by omega), Nat.mod_eq_of_lt (show mp < 256 ^ 4 by omega)]
  cases last <;> rfl
theorem told_body (d : Dg) (hw : d.Wf) (hg : goodD d = true) : toldB (bodyB d) = true ∧ toldD (bodyB d) = d := by
  have h := readD_body d hw hg
  have h1 : toldB (bodyB d) = true := by unfold toldB; rw [h, hg]; simp
  refine ⟨h1, ?_⟩
  unfold toldD
  rw [h1, h]
  rfl
theorem ba_app_left (a b : ByteArray) : (a ++ b).extract 0 a.size = a := by
  apply ByteArray.ext
  apply Array.toList_inj.1
  rw [ex_list, ByteArray.data_append, Array.toList_append, List.drop_zero]
  exact List.take_left' (Array.length_toList)
theorem ba_app_right (a b : ByteArray) : (a ++ b).extract a.size (a ++ b).size = b := by
  apply ByteArray.ext
  apply Array.toList_inj.1
  have e : (a.data.toList ++ b.data.toList).drop a.size = b.data.toList := List.drop_left' Array.length_toList
  rw [ex_list, ByteArray.data_append, Array.toList_append, e]
  exact List.take_of_length_le (by rw [ByteArray.size_append, Array.length_toList]; show b.size ≤ _; omega)
theorem sum_sealed (b : ByteArray) : sumOk (b ++ sealB b) = true ∧ (b ++ sealB b).extract 0 ((b ++ sealB b).size - 4) = b := by
  have hz : (b ++ sealB b).size = b.size + 4 := by rw [ByteArray.size_append, sealB_size]
  have h1 : (b ++ sealB b).extract 0 ((b ++ sealB b).size - 4) = b := by rw [hz, Nat.add_sub_cancel]; exact ba_app_left _ _
  refine ⟨?_, h1⟩
  unfold sumOk
  rw [h1, decide_eq_true (by omega)]
  rw [show (b ++ sealB b).size - 4 = b.size by omega, ba_app_right]
  simp
theorem decode_sealed (b : ByteArray) : decE (b ++ sealB b) = (if toldB b = true then 0 else 3) ∧ decD (b ++ sealB b) = toldD b := by
  obtain ⟨h1, h2⟩ := sum_sealed b
  unfold decE decD
  rw [h1, h2]
  exact ⟨rfl, rfl⟩
theorem decode_enc (d : Dg) (hw : d.Wf) (hg : goodD d = true) : decE (encB d) = 0 ∧ decD (encB d) = d := by
  have he : encB d = bodyB d ++ sealB (bodyB d) := by unfold encB; rw [hg]; rfl
  rw [he]
  obtain ⟨h1, h2⟩ := decode_sealed (bodyB d)
  obtain ⟨h3, h4⟩ := told_body d hw hg
  rw [h1, h2, h3, h4]
  exact ⟨rfl, rfl⟩
theorem encB_size (d : Dg) : (encB d).size ≤ 294 := by
  unfold encB
  split
  · rename_i h
    have := good_size h
    rw [ByteArray.size_append, bodyB_size, sealB_size]
    omega
  · show (0 : Nat) ≤ 294
    omega

set_option maxHeartbeats 1000000 in
theorem rencode_calls (d : Dg) (hw : d.Wf) (w : World) : Calls Try.prog 23 #[d.v] w fun e w' => e = .returned (.string (encB d)) ∧ Touch (fun _ => False) w w' := by
  cases hg : goodD d
  · have he : encB d = ⟨#[]⟩ := by unfold encB; rw [hg]; rfl
    have HG := Lib.hid (fun W => (hg ▸ rgood_calls d W : Calls Try.prog 20 #[d.v] W fun e w' => e = .returned (.bool false) ∧ Touch (fun _ => False) W w'))
    rw [he]
    clear he hg
    obtain ⟨kind, se, ep, sq, pos, sm, mp, last, text⟩ := d
    unfold Dg.v Dg.cells at HG ⊢
    simp only at HG ⊢
    go_enter Try.func23, Try.ntmps23
    go_wp2_with fail
    refine (HG.out _).mono ?_
    rintro e w1 ⟨rfl, hT1⟩
    go_wp2_with fail
    go_ret
    exact ⟨rfl, ((Touch.refl _ _).alloc _).trans hT1⟩
  · have he : encB d = bodyB d ++ sealB (bodyB d) := by unfold encB; rw [hg]; rfl
    rw [he]
    obtain ⟨k, hk, hk6⟩ := good_kind hg
    have hs := good_size hg
    obtain ⟨kind, se, ep, sq, pos, sm, mp, last, text⟩ := d
    obtain ⟨_, _, h0, h1, h2, h3, h4, h5⟩ := hw
    simp only at hk h0 h1 h2 h3 h4 h5 hs
    subst hk
    exact rencode_k k se ep sq pos sm mp last text hg (by omega) h0 h1 h2 h3 h4 h5 (by omega) w

def helloD : Dg := ⟨1, 7, 0, 0, 0, 0, 0, false, ⟨#[]⟩⟩
theorem hello_wf : helloD.Wf := ⟨by decide, by decide, by decide, by decide, by decide, by decide, by decide, by decide⟩
theorem hello_good : goodD helloD = true := by unfold goodD helloD; simp; decide
theorem hello_size : (encB helloD).size = 38 := by
  unfold encB
  rw [hello_good]
  simp only [if_true]
  rw [ByteArray.size_append, bodyB_size, sealB_size]
  rfl

set_option maxHeartbeats 2000000 in
theorem speaks22_calls (w : World) : Calls Try.prog 19 #[] w fun e w' => e = .returned (.bool true) ∧ Touch (fun _ => False) w w' := by
  have he := fun W => encode_calls helloD hello_wf W
  have hE : encE helloD = 0 := by unfold encE; rw [hello_good]; rfl
  have hz := hello_size
  have hd := fun W => decode_calls (encB helloD) (by rw [hz]; omega) W
  obtain ⟨h1, h2⟩ := decode_enc helloD hello_wf hello_good
  rw [h1, h2] at hd
  rw [hE] at he
  generalize encB helloD = s at he hz hd
  unfold helloD Dg.v Dg.cells at he hd
  simp only at he hd
  have HE := Lib.hid he
  have HD := Lib.hid hd
  have hzI : (s.size : Int) = 38 := by omega
  clear he hd h1 h2 hE
  go_enter Try.func19, Try.ntmps19
  go_wp2_with fail
  refine (HE.out _).mono ?_
  rintro e w1 ⟨rfl, hT1⟩
  go_wp2_with fail
  refine (HD.out _).mono ?_
  rintro e w2 ⟨rfl, hT2⟩
  go_wp2_with fail
  go_ret
  exact ⟨rfl, (hT1.trans hT2).alloc _⟩
end Go.Proofs.Ytmjahbdengnoeaa
