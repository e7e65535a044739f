/-
  Walks over the reference of package sum: the document's own answers, Next. No conditions but those in the theorems.
-/
import Derived.Test.YtkaanffclpbiiaaRows
import Derived.Test.YtkaanffclpbiiaaSumFrames
import Derived.Test.YtkaanffclpbiiaaSumFrames2
import Derived.Test.YtkaanffclpbiiaaSumRefB
import Derived.WalkKit
import Derived.WalkSpells
import Derived.WalkLawsBesides
import Derived.Handy
import Derived.Lib.Hide
import Derived.Deep.QuietTactic
import Derived.BigQuiet
import Derived.Deep.RegionHeld3
import Derived.Deep.MidRow
import Derived.Lib.ConvBytes
import Derived.Lib.SlBytesRow
namespace Go.Proofs.Ytkaanffclpbiiaa
open Go.RowKit

set_option maxHeartbeats 400000 in
theorem refNext_below (s : ByteArray) (a : Int) (w : World) (h0 : a < 0) :
    Calls Try.prog 20 #[.string s, .int .i64 a] w fun e w' => e = .returned (.tuple #[.string ⟨#[]⟩, .int .i64 0, .bool false]) ∧ Below w.heap.size w w' := by
  have ha : decide (a < 0) = true := decide_eq_true h0
  go_enter Try.func20, Try.ntmps20
  go_wp2
  go_ret3
  exact ⟨rfl, Below.refl _ _⟩

set_option maxHeartbeats 400000 in
theorem refNext_above (s : ByteArray) (k : Nat) (w : World) (h8 : s.size < k + 8) :
    Calls Try.prog 20 #[.string s, .int .i64 (k : Int)] w fun e w' => e = .returned (.tuple #[.string ⟨#[]⟩, .int .i64 0, .bool false]) ∧ Below w.heap.size w w' := by
  have ha : decide ((k : Int) < 0) = false := decide_eq_false (by omega)
  by_cases hk : s.size ≤ k
  · have hb : decide ((s.size : Int) ≤ (k : Int)) = true := decide_eq_true (by omega)
    have hb' : decide (s.size ≤ k) = true := by simpa using hk
    go_enter Try.func20, Try.ntmps20
    go_wp2
    go_ret3
    exact ⟨rfl, Below.refl _ _⟩
  · have hb : decide ((s.size : Int) ≤ (k : Int)) = false := decide_eq_false (by omega)
    have hb' : decide (s.size ≤ k) = false := by simpa using hk
    have hc : decide ((s.size : Int) - (k : Int) < 8) = true := decide_eq_true (by omega)
    go_enter Try.func20, Try.ntmps20
    go_wp2
    go_ret3
    exact ⟨rfl, Below.refl _ _⟩

/-- The number's upper bytes, those behind place z. -/
def tops (b0 b1 b2 b3 : Nat) (z : Int) : Nat := if z = 3 then 0 else if z = 2 then b3 else if z = 1 then 256 * b3 + b2 else if z = 0 then 256 * (256 * b3 + b2) + b1 else 256 * (256 * (256 * b3 + b2) + b1) + b0

theorem refNext_no (s : ByteArray) (k n : Nat) (hN : Sm.num (s.data.toList.drop k) = n) (h8 : k + 8 ≤ s.size) (h : 65536 < n ∨ s.size < k + 8 + n) : nextVal s.data.toList k = .tuple #[.string ⟨#[]⟩, .int .i64 0, .bool false] := by
  have hB : Sm.behind s.data.toList k = none := by
    unfold Sm.behind Sm.behindAt
    rw [if_neg (by omega), Int.toNat_natCast, hN, if_pos (by simp; omega), if_neg]
    intro hc
    have hl : s.data.toList.length = s.size := by simp
    omega
  unfold nextVal
  rw [hB]

theorem refNext_parts (s : ByteArray) (k n : Nat) (hN : Sm.num (s.data.toList.drop k) = n) (h8 : k + 8 ≤ s.size) (h1 : n ≤ 65536) (h2 : k + 8 + n ≤ s.size) :
    nextVal s.data.toList k = if Sm.frame (List.take n (List.drop (k + 8) s.data.toList)) = (s.extract k (k + 8 + n)).data.toList then .tuple #[.string (s.extract (k + 8) (k + 8 + n)), .int .i64 ((k : Int) + 8 + (n : Int)), .bool true] else .tuple #[.string ⟨#[]⟩, .int .i64 0, .bool false] := by
  have hl : s.data.toList.length = s.size := by simp
  have hB : Sm.behind s.data.toList k = if Sm.frame (List.take n (List.drop (k + 8) s.data.toList)) = (s.extract k (k + 8 + n)).data.toList then some (k + 8 + n) else none := by
    unfold Sm.behind
    rw [if_neg (by omega), Int.toNat_natCast, Sm.behindAt_ref _ _ (by omega) (by omega) (by omega), hN, extract_list, show k + 8 + n - k = 8 + n from by omega]
  unfold nextVal
  rw [hB]
  by_cases e : Sm.frame (List.take n (List.drop (k + 8) s.data.toList)) = (s.extract k (k + 8 + n)).data.toList
  · rw [if_pos e, if_pos e]
    have hb : (⟨(Sm.bodyAt s.data.toList k (k + 8 + n)).toArray⟩ : ByteArray) = s.extract (k + 8) (k + 8 + n) := by
      apply bytes_ext; rw [extract_list]; rfl
    simp only [Int.toNat_natCast]
    rw [hb]
    simp
  · rw [if_neg e, if_neg e]

set_option maxHeartbeats 1000000 in
theorem refNext_here (s : ByteArray) (k : Nat) (w : World) (hm : s.size ≤ 140737488355328) (h8 : k + 8 ≤ s.size) (n : Nat) (HN : Hid (Sm.num (s.data.toList.drop k) = n)) (hnl : n < 4294967296) :
    Calls Try.prog 20 #[.string s, .int .i64 (k : Int)] w fun e w' => e = .returned (nextVal s.data.toList k) ∧ Below w.heap.size w w' := by
  have ha : decide ((k : Int) < 0) = false := decide_eq_false (by omega)
  have hb : decide ((s.size : Int) ≤ (k : Int)) = false := decide_eq_false (by omega)
  have hb' : decide (s.size ≤ k) = false := decide_eq_false (by omega)
  have hc : decide ((s.size : Int) - (k : Int) < 8) = false := decide_eq_false (by omega)
  have i0 : (0 : Int) ≤ (k : Int) := by omega
  have i1 : (k : Int) + 3 < (s.size : Int) := by omega
  go_enter Try.func20, Try.ntmps20
  go_wp2
  go_loop [7, 8] (fun m i => ∃ z : Int, -1 ≤ z ∧ z ≤ 3 ∧ i = .int .i64 z ∧ m = .int .i64 (tops s[k].toNat s[k+1].toNat s[k+2].toNat s[k+3].toNat z : Nat)) (fun _ i => (intOf i + 1).toNat)
  case atStart => exact ⟨3, by omega, by omega, rfl, rfl⟩
  case round =>
    obtain ⟨z, hz0, hz1, rfl, rfl⟩ := hrel
    obtain rfl | rfl | rfl | rfl | rfl : z = 3 ∨ z = 2 ∨ z = 1 ∨ z = 0 ∨ z = -1 := by omega
    · have H : Hid (wrap64 (wrap64 (s[k+3].toNat : Int)) = (tops s[k].toNat s[k+1].toNat s[k+2].toNat s[k+3].toNat 2 : Nat)) := Lib.hid (by
        have := s[k+3].toNat_lt; simp only [wrap64, tops]; simp; omega)
      have e : tops s[k].toNat s[k+1].toNat s[k+2].toNat s[k+3].toNat 3 = 0 := rfl
      rw [e]
      clear e
      go_wp2
      go_round
      case rel => exact ⟨2, by omega, by omega, rfl, int_eq H.out⟩
      case measure => simp [intOf]
    · obtain ⟨t, ht⟩ : ∃ t, t = tops s[k].toNat s[k+1].toNat s[k+2].toNat s[k+3].toNat 2 := ⟨_, rfl⟩
      have hb : t ≤ 255 := by have := s[k+3].toNat_lt; simp [tops] at ht; omega
      have H : Hid (wrap64 (256 * (t : Int) + wrap64 (s[k+2].toNat : Int)) = (tops s[k].toNat s[k+1].toNat s[k+2].toNat s[k+3].toNat 1 : Nat)) := Lib.hid (by
        have := s[k+2].toNat_lt; have := s[k+3].toNat_lt; simp only [wrap64, tops] at ht ⊢; simp at ht ⊢; omega)
      rw [← ht]
      clear ht
      go_wp2
      go_round
      case rel => exact ⟨1, by omega, by omega, rfl, int_eq H.out⟩
      case measure => simp [intOf]
    · obtain ⟨t, ht⟩ : ∃ t, t = tops s[k].toNat s[k+1].toNat s[k+2].toNat s[k+3].toNat 1 := ⟨_, rfl⟩
      have hb : t ≤ 65535 := by have := s[k+3].toNat_lt; have := s[k+2].toNat_lt; simp [tops] at ht; omega
      have H : Hid (wrap64 (256 * (t : Int) + wrap64 (s[k+1].toNat : Int)) = (tops s[k].toNat s[k+1].toNat s[k+2].toNat s[k+3].toNat 0 : Nat)) := Lib.hid (by
        have := s[k+1].toNat_lt; have := s[k+2].toNat_lt; have := s[k+3].toNat_lt; simp only [wrap64, tops] at ht ⊢; simp at ht ⊢; omega)
      rw [← ht]
      clear ht
      go_wp2
      go_round
      case rel => exact ⟨0, by omega, by omega, rfl, int_eq H.out⟩
      case measure => simp [intOf]
    · obtain ⟨t, ht⟩ : ∃ t, t = tops s[k].toNat s[k+1].toNat s[k+2].toNat s[k+3].toNat 0 := ⟨_, rfl⟩
      have hb : t ≤ 16777215 := by have := s[k+3].toNat_lt; have := s[k+2].toNat_lt; have := s[k+1].toNat_lt; simp [tops] at ht; omega
      have H : Hid (wrap64 (256 * (t : Int) + wrap64 (s[k].toNat : Int)) = (tops s[k].toNat s[k+1].toNat s[k+2].toNat s[k+3].toNat (-1) : Nat)) := Lib.hid (by
        have := s[k].toNat_lt; have := s[k+1].toNat_lt; have := s[k+2].toNat_lt; have := s[k+3].toNat_lt; simp only [wrap64, tops] at ht ⊢; simp at ht ⊢; omega)
      rw [← ht]
      clear ht
      go_wp2
      go_round
      case rel => exact ⟨-1, by omega, by omega, rfl, int_eq H.out⟩
      case measure => simp [intOf]
    · have e : tops s[k].toNat s[k+1].toNat s[k+2].toNat s[k+3].toNat (-1) = n := by
        rw [← HN.out]
        have hg : ∀ j (hj : k + j < s.size), ((s.data.toList.drop k).getD j 0).toNat = s[k + j].toNat := by
          intro j hj; rw [byte_getD s (k + j) hj, List.getD_eq_getElem?_getD, List.getD_eq_getElem?_getD, List.getElem?_drop]
        unfold Sm.num
        rw [hg 0 (by omega), hg 1 (by omega), hg 2 (by omega), hg 3 (by omega)]
        simp [tops]; omega
      rw [e]
      clear e
      by_cases hn1 : 65536 < n
      · have HB := Lib.hid (refNext_no s k n HN.out h8 (Or.inl hn1))
        have hn1' : decide (65536 < (n : Int)) = true := decide_eq_true (by omega)
        go_wp2
        go_ret3
        exact ⟨by rw [HB.out]; rfl, Below.refl _ _⟩
      have hn1' : decide (65536 < (n : Int)) = false := decide_eq_false (by omega)
      by_cases hn2 : s.size < k + 8 + n
      · have HB := Lib.hid (refNext_no s k n HN.out h8 (Or.inr hn2))
        have hn2' : decide ((s.size : Int) - (k : Int) - 8 < (n : Int)) = true := decide_eq_true (by omega)
        go_wp2
        go_ret3
        exact ⟨by rw [HB.out]; rfl, Below.refl _ _⟩
      have hn2' : decide ((s.size : Int) - (k : Int) - 8 < (n : Int)) = false := decide_eq_false (by omega)
      have j1 : (0 : Int) ≤ (k : Int) + 8 := by omega
      have j2 : (k : Int) + 8 ≤ (k : Int) + 8 + (n : Int) := by omega
      have j3 : (k : Int) + 8 + (n : Int) ≤ (s.size : Int) := by omega
      have j4 : (k : Int) ≤ (k : Int) + 8 + (n : Int) := by omega
      have hbs : (s.extract (k + 8) (k + 8 + n)).size = n := by rw [ByteArray.size_extract]; omega
      have HBS := Lib.hid hbs
      clear hbs
      go_wp2_with fail
      refine (refFrame_short _ _ (by rw [HBS.out]; omega)).mono ?_
      rintro e w1 ⟨rfl, hb1⟩
      go_wp2
      · have hq : (!Sm.frame (List.take n (List.drop (k + 8) s.data.toList)) == (s.extract k (k + 8 + n)).toList) = true := by assumption
        go_ret3
        exact ⟨by rw [refNext_parts s k n HN.out h8 (by omega) (by omega), if_neg (by rw [ByteArray.toList_eq] at hq; simpa using hq)]; rfl, hb1⟩
      · have hq : (!Sm.frame (List.take n (List.drop (k + 8) s.data.toList)) == (s.extract k (k + 8 + n)).toList) = false := by assumption
        go_ret3
        exact ⟨by rw [refNext_parts s k n HN.out h8 (by omega) (by omega), if_pos (by rw [ByteArray.toList_eq] at hq; simpa using hq)]; rfl, hb1⟩

theorem refNext_any (s : ByteArray) (a : Int) (w : World) (hm : s.size ≤ 140737488355328) :
    Calls Try.prog 20 #[.string s, .int .i64 a] w fun e w' => e = .returned (nextVal s.data.toList a) ∧ Below w.heap.size w w' := by
  by_cases h0 : a < 0
  · have HB : nextVal s.data.toList a = .tuple #[.string ⟨#[]⟩, .int .i64 0, .bool false] := by unfold nextVal Sm.behind; rw [if_pos h0]
    rw [HB]; exact refNext_below s a w h0
  obtain ⟨k, rfl⟩ := Int.eq_ofNat_of_zero_le (show 0 ≤ a by omega)
  by_cases h8 : s.size < k + 8
  · have HB : nextVal s.data.toList k = .tuple #[.string ⟨#[]⟩, .int .i64 0, .bool false] := by
      unfold nextVal Sm.behind Sm.behindAt; rw [if_neg h0, Int.toNat_natCast, if_neg (by simp; omega)]
    rw [HB]; exact refNext_above s k w h8
  · exact refNext_here s k w hm (by omega) _ (Lib.hid rfl) (Sm.num_lt _)
end Go.Proofs.Ytkaanffclpbiiaa
