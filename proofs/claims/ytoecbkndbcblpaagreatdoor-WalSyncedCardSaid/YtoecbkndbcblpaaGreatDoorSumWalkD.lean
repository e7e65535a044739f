/-
  Walks over package sum: a body's clone, frames, what is at a place. No conditions but those in the theorems.
-/
import Derived.Test.YtoecbkndbcblpaaGreatDoorRows
import Derived.Test.YtoecbkndbcblpaaGreatDoorSumFrames
import Derived.Test.YtoecbkndbcblpaaGreatDoorSumWalkC
import Derived.Test.YtoecbkndbcblpaaGreatDoorSumShelf
import Derived.WalkKit
import Derived.WalkSpells
import Derived.WalkLawsBesides
import Derived.Handy
import Derived.Lib.Hide
import Derived.Deep.QuietTactic
import Derived.BigQuiet
import Derived.Deep.RegionHeld3
import Derived.Deep.MidRow
import Derived.Lib.ConvBytes
import Derived.Lib.SlBytesRow
namespace Go.Proofs.YtoecbkndbcblpaaGreatDoor
open Go.RowKit

theorem size_mk (l : List UInt8) : (⟨l.toArray⟩ : ByteArray).size = l.length := by simp [ByteArray.size]


theorem mk_list (s : ByteArray) : (⟨s.data.toList.toArray⟩ : ByteArray) = s := by simp
theorem bytes_ext {a b : ByteArray} (h : a.data.toList = b.data.toList) : a = b := by
  apply ByteArray.ext; exact Array.toList_inj.1 h

set_option maxHeartbeats 400000 in
theorem bodyOf_any (s : ByteArray) (w : World) (hm : s.size ≤ 140737488355328) (h8 : 8 ≤ s.size) :
    Calls Tryz.prog 105 #[.string s] w fun e w' => e = .returned (.string (s.extract 8 s.size)) ∧ Below w.heap.size w w' := by
  have i1 : (8 : Int) ≤ (s.size : Int) := by omega
  go_enter Tryz.func105, Tryz.ntmps105
  go_wp2_with fail
  refine (clone_any _ _ (by rw [ByteArray.size_extract]; omega)).mono ?_
  rintro e w2 ⟨rfl, h2⟩
  go_wp2_with fail
  go_ret
  exact ⟨rfl, h2⟩

set_option maxHeartbeats 400000 in
theorem Frame_long (s : ByteArray) (w : World) (hm : s.size ≤ maxLen) (hl : 65536 < s.size) :
    Calls Tryz.prog 29 #[.string s] w fun e w' => e = .returned (.tuple #[.string ⟨#[]⟩, .int .i64 3]) ∧ w = w' := by
  unfold maxLen at hm
  have h1 : (65536 : Int) < (s.size : Int) := by omega
  go_enter Tryz.func29, Tryz.ntmps29
  go_wp2
  go_ret2
  exact ⟨rfl, rfl⟩

set_option maxHeartbeats 400000 in
theorem Frame_short (s : ByteArray) (w : World) (hl : ¬ 65536 < s.size) :
    Calls Tryz.prog 29 #[.string s] w fun e w' => e = .returned (.tuple #[.string ⟨(Sm.frame s.data.toList).toArray⟩, .int .i64 0]) ∧ Below w.heap.size w w' := by
  have h1 : ¬ (65536 : Int) < (s.size : Int) := by omega
  go_enter Tryz.func29, Tryz.ntmps29
  have hadd1 : ∀ (n m : Nat) (W : World), (Op.stringOp .add ⟨(Sm.four n).toArray⟩ ⟨(Sm.four m).toArray⟩).run Tryz.prog W = .ok (.string ⟨(Sm.four n ++ Sm.four m).toArray⟩) W := fun n m W => run_string_add_lists W _ _ (by rw [Sm.four_len]; omega) (by rw [Sm.four_len]; omega)
  have hadd2 : ∀ (n m : Nat) (W : World), (Op.stringOp .add ⟨(Sm.four n ++ Sm.four m).toArray⟩ s).run Tryz.prog W = .ok (.string ⟨(Sm.four n ++ Sm.four m ++ s.data.toList).toArray⟩) W := fun n m W => by
    have h := run_string_add_lists (P := Tryz.prog) W (Sm.four n ++ Sm.four m) s.data.toList (by rw [List.length_append, Sm.four_len, Sm.four_len]; omega) (by simp; omega)
    rw [mk_list] at h; exact h
  have H1 := Lib.hid hadd1
  have H2 := Lib.hid hadd2
  clear hadd1 hadd2
  go_wp2_with fail
  refine (four_any s.size _ (by omega)).mono ?_
  rintro e w1 ⟨rfl, hb1⟩
  go_wp2_with fail
  refine (Crc_any _ _ (by rw [size_mk, Sm.four_len]; unfold maxLen; omega)).mono ?_
  rintro e w2 ⟨rfl, hb2⟩
  go_wp2_with fail
  refine (More_any _ s _ (by unfold maxLen; omega) (Sm.more_lt _ _)).mono ?_
  rintro e w3 ⟨rfl, hb3⟩
  go_wp2_with fail
  refine (four_any _ _ (Sm.more_lt _ _)).mono ?_
  rintro e w4 ⟨rfl, hb4⟩
  have h1 := H1.out
  have h2 := H2.out
  go_wp2
  go_ret2
  exact ⟨by show Ending.returned (.tuple #[.string ⟨(Sm.four _ ++ (Sm.four _ ++ _)).toArray⟩, _]) = _; rw [← List.append_assoc, show s.size = s.data.toList.length from by simp]; rfl, btr (btr (btr hb1 hb2) hb3) hb4⟩

set_option maxHeartbeats 400000 in
theorem Next_no (s : ByteArray) (a : Int) (w : World) (hm : s.size ≤ maxLen) (hB : Sm.behind s.data.toList a = none) :
    Calls Tryz.prog 84 #[.string s, .int .i64 a] w fun e w' => e = .returned (.tuple #[.string ⟨#[]⟩, .int .i64 0, .bool false]) ∧ Below w.heap.size w w' := by
  have HB := Lib.hid hB
  clear hB
  go_enter Tryz.func84, Tryz.ntmps84
  go_wp2_with fail
  refine (fours_any _).mono ?_
  rintro e w1 ⟨rfl, hb1⟩
  go_wp2_with fail
  refine (behind_any s a _ hm).mono ?_
  rintro e w2 ⟨rfl, hb2⟩
  rw [HB.out]
  simp only [told]
  go_wp2
  go_ret3
  exact ⟨rfl, btr hb1 hb2⟩

set_option maxHeartbeats 400000 in
theorem Next_yes (s : ByteArray) (k : Nat) (w : World) (hm : s.size ≤ 140737488355328) (n : Nat) (hB : Sm.behind s.data.toList k = some n) :
    Calls Tryz.prog 84 #[.string s, .int .i64 k] w fun e w' => e = .returned (.tuple #[.string ⟨(Sm.bodyAt s.data.toList k n).toArray⟩, .int .i64 (n : Nat), .bool true]) ∧ Below w.heap.size w w' := by
  have HB := Lib.hid hB
  have hle := Sm.behind_le hB
  have hlen : s.data.toList.length = s.size := by simp
  clear hB
  have i1 : (0 : Int) ≤ (k : Int) := by omega
  have i2 : (k : Int) ≤ (n : Int) := by omega
  have i3 : (n : Int) ≤ (s.size : Int) := by omega
  have HV : Hid ((s.extract k n).extract 8 (s.extract k n).size = ⟨(Sm.bodyAt s.data.toList k n).toArray⟩) := Lib.hid (by
    apply bytes_ext
    rw [extract_list, extract_list, ByteArray.size_extract]
    unfold Sm.bodyAt
    rw [List.drop_take, List.drop_drop, List.take_take]
    congr 1
    omega)
  have hsz : (s.extract k n).size = n - k := by rw [ByteArray.size_extract]; omega
  have HS := Lib.hid hsz
  clear hsz hlen
  go_enter Tryz.func84, Tryz.ntmps84
  go_wp2_with fail
  refine (fours_any _).mono ?_
  rintro e w1 ⟨rfl, hb1⟩
  go_wp2_with fail
  refine (behind_any s k _ (by unfold maxLen; omega)).mono ?_
  rintro e w2 ⟨rfl, hb2⟩
  rw [HB.out]
  simp only [told]
  go_wp2_with fail
  refine (bodyOf_any _ _ (by rw [HS.out]; omega) (by rw [HS.out]; omega)).mono ?_
  rintro e w3 ⟨rfl, hb3⟩
  rw [HV.out]
  go_wp2
  go_ret3
  exact ⟨rfl, btr (btr hb1 hb2) hb3⟩

/-- What Next answers. -/
def nextVal (l : List UInt8) (a : Int) : Value := match Sm.behind l a with
  | some e => .tuple #[.string ⟨(Sm.bodyAt l a.toNat e).toArray⟩, .int .i64 (e : Nat), .bool true]
  | none => .tuple #[.string ⟨#[]⟩, .int .i64 0, .bool false]

theorem Next_any (s : ByteArray) (a : Int) (w : World) (hm : s.size ≤ 140737488355328) :
    Calls Tryz.prog 84 #[.string s, .int .i64 a] w fun e w' => e = .returned (nextVal s.data.toList a) ∧ Below w.heap.size w w' := by
  unfold nextVal
  cases hB : Sm.behind s.data.toList a with
  | none => exact Next_no s a w (by unfold maxLen; omega) hB
  | some n =>
    have h0 := (Sm.behind_le hB).1
    obtain ⟨k, rfl⟩ := Int.eq_ofNat_of_zero_le h0
    exact Next_yes s k w hm n hB
end Go.Proofs.YtoecbkndbcblpaaGreatDoor
