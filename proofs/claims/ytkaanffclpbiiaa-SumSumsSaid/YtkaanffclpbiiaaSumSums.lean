/-
  Walks over package sum: the law SumSums. No conditions but those in the theorems.
-/
import Derived.Test.YtkaanffclpbiiaaRows
import Derived.Test.YtkaanffclpbiiaaSumFrames
import Derived.Test.YtkaanffclpbiiaaSumRefA
import Derived.WalkKit
import Derived.WalkSpells
import Derived.WalkLawsBesides
import Derived.Handy
import Derived.Lib.Hide
import Derived.Deep.QuietTactic
import Derived.BigQuiet
import Derived.Deep.RegionHeld3
import Derived.Deep.MidRow
import Derived.Lib.ConvBytes
import Derived.Lib.SlBytesRow
namespace Go.Proofs.Ytkaanffclpbiiaa
open Go.RowKit

set_option maxHeartbeats 400000 in
theorem sums_long (s r : ByteArray) (w : World) (hl : 20000 < s.size ∨ 20000 < r.size) :
    Calls Try.prog 4 #[.string s, .string r] w fun e w' => e = .returned (.bool true) ∧ Below w.heap.size w w' := by
  by_cases h1 : 20000 < s.size
  · have h2 : decide ((20000 : Int) < (s.size : Int)) = true := by simp; omega
    go_enter Try.func4, Try.ntmps4
    go_wp2_with fail
    refine (awake_any _).mono ?_
    rintro e w1 ⟨rfl, hb1⟩
    go_wp2
    go_ret
    exact ⟨rfl, hb1⟩
  · have h2 : decide ((20000 : Int) < (s.size : Int)) = false := by simp; omega
    have h3 : decide ((20000 : Int) < (r.size : Int)) = true := by simp; omega
    go_enter Try.func4, Try.ntmps4
    go_wp2_with fail
    refine (awake_any _).mono ?_
    rintro e w1 ⟨rfl, hb1⟩
    go_wp2
    go_ret
    exact ⟨rfl, hb1⟩

set_option maxHeartbeats 1000000 in
theorem sums_mid (s r : ByteArray) (w : World) (hs : s.size ≤ 20000) (hr : r.size ≤ 20000) :
    Calls Try.prog 4 #[.string s, .string r] w fun e w' => e = .returned (.bool true) ∧ Below w.heap.size w w' := by
  have h2 : decide ((20000 : Int) < (s.size : Int)) = false := by simp; omega
  have h3 : decide ((20000 : Int) < (r.size : Int)) = false := by simp; omega
  have hsm : s.size ≤ maxLen := by unfold maxLen; omega
  have hrm : r.size ≤ maxLen := by unfold maxLen; omega
  obtain ⟨sr, hsr⟩ : ∃ x : ByteArray, x = s ++ r := ⟨_, rfl⟩
  have hsz : sr.size ≤ maxLen := by rw [hsr, ByteArray.size_append]; unfold maxLen; omega
  have hadd : ∀ W : World, (Op.stringOp .add s r).run Try.prog W = .ok (.string sr) W := fun W => by
    rw [hsr]; exact run_string_add_sum W s r (by omega)
  have hl : sr.data.toList = s.data.toList ++ r.data.toList := by rw [hsr, ByteArray.data_append, Array.toList_append]
  have HL : Hid (Sm.crc sr.data.toList = Sm.more (Sm.crc s.data.toList) r.data.toList) := Lib.hid (by rw [hl, Sm.more_crc])
  have HADD := Lib.hid hadd
  clear hsr hl hadd
  go_enter Try.func4, Try.ntmps4
  go_wp2_with fail
  refine (awake_any _).mono ?_
  rintro e w1 ⟨rfl, hb1⟩
  go_wp2_with fail
  refine (Crc_any s _ hsm).mono ?_
  rintro e w2 ⟨rfl, hb2⟩
  go_wp2_with fail
  refine (refCrc_any s _ hsm).mono ?_
  rintro e w3 ⟨rfl, rfl⟩
  go_wp2_with fail
  refine (refCrc_any s _ hsm).mono ?_
  rintro e w3 ⟨rfl, rfl⟩
  go_wp2_with fail
  refine (More_any _ r _ hrm (Sm.more_lt _ _)).mono ?_
  rintro e w3 ⟨rfl, hb3⟩
  have hadd := HADD.out
  go_wp2_with fail
  refine (refCrc_any sr _ hsz).mono ?_
  rintro e w4 ⟨rfl, rfl⟩
  rw [HL.out]
  clear hadd
  go_wp2_with fail
  refine (long_any s _ hsm).mono ?_
  rintro e w4 ⟨rfl, rfl⟩
  go_wp2_with fail
  refine (refLong_any s _ hsm).mono ?_
  rintro e w4 ⟨rfl, rfl⟩
  go_wp2
  go_ret
  exact ⟨rfl, btr (btr hb1 hb2) hb3⟩

theorem sums_any (s r : ByteArray) (w : World) :
    Calls Try.prog 4 #[.string s, .string r] w fun e w' => e = .returned (.bool true) ∧ Below w.heap.size w w' := by
  by_cases h : 20000 < s.size ∨ 20000 < r.size
  · exact sums_long s r w h
  · exact sums_mid s r w (by omega) (by omega)
end Go.Proofs.Ytkaanffclpbiiaa
