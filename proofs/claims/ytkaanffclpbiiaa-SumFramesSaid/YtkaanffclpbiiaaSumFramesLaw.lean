/-
  Walks over package sum: the law SumFrames. No conditions but those in the theorems.
-/
import Derived.Test.YtkaanffclpbiiaaRows
import Derived.Test.YtkaanffclpbiiaaSumFrames
import Derived.Test.YtkaanffclpbiiaaSumRefC
import Derived.WalkKit
import Derived.WalkSpells
import Derived.WalkLawsBesides
import Derived.Handy
import Derived.Lib.Hide
import Derived.Deep.QuietTactic
import Derived.BigQuiet
import Derived.Deep.RegionHeld3
import Derived.Deep.MidRow
import Derived.Lib.ConvBytes
import Derived.Lib.SlBytesRow
namespace Go.Proofs.Ytkaanffclpbiiaa
open Go.RowKit

set_option maxHeartbeats 400000 in
theorem frames_long (s : ByteArray) (a : Int) (w : World) (hl : 70000 < s.size) :
    Calls Try.prog 5 #[.string s, .int .i64 a] w fun e w' => e = .returned (.bool true) ∧ Below w.heap.size w w' := by
  have h2 : decide ((70000 : Int) < (s.size : Int)) = true := decide_eq_true (by omega)
  have h3 : (70000 : Int) < (s.size : Int) := by omega
  go_enter Try.func5, Try.ntmps5
  go_wp2_with fail
  refine (awake_any _).mono ?_
  rintro e w1 ⟨rfl, hb1⟩
  go_wp2
  go_ret
  exact ⟨rfl, hb1⟩

/-- What Next answers: some text, place and truth. -/
theorem nextVal_shape (l : List UInt8) (a : Int) : ∃ (t : ByteArray) (n : Int) (b : Bool), nextVal l a = .tuple #[.string t, .int .i64 n, .bool b] := by
  unfold nextVal
  cases Sm.behind l a with
  | none => exact ⟨_, _, _, rfl⟩
  | some e => exact ⟨_, _, _, rfl⟩

set_option maxHeartbeats 1000000 in
theorem frames_mid (s : ByteArray) (a : Int) (w : World) (hl : s.size ≤ 70000) (F : ByteArray) (n : Int) (hF : ∀ w : World, Calls Try.prog 10 #[.string s] w fun e w' => e = .returned (.tuple #[.string F, .int .i64 n]) ∧ Below w.heap.size w w')
    (hG : ∀ w : World, Calls Try.prog 19 #[.string s] w fun e w' => e = .returned (.tuple #[.string F, .int .i64 n]) ∧ Below w.heap.size w w') :
    Calls Try.prog 5 #[.string s, .int .i64 a] w fun e w' => e = .returned (.bool true) ∧ Below w.heap.size w w' := by
  have h2 : decide ((70000 : Int) < (s.size : Int)) = false := decide_eq_false (by omega)
  obtain ⟨t, m, b, hN⟩ := nextVal_shape s.data.toList a
  have HF := Lib.hid hF
  have HG := Lib.hid hG
  have HN := Lib.hid hN
  clear hF hG hN
  go_enter Try.func5, Try.ntmps5
  go_wp2_with fail
  refine (awake_any _).mono ?_
  rintro e w1 ⟨rfl, hb1⟩
  go_wp2_with fail
  refine (HF.out _).mono ?_
  rintro e w2 ⟨rfl, hb2⟩
  go_wp2_with fail
  refine (HG.out _).mono ?_
  rintro e w3 ⟨rfl, hb3⟩
  go_wp2_with fail
  refine (Next_any s a _ (by omega)).mono ?_
  rintro e w4 ⟨rfl, hb4⟩
  rw [HN.out]
  go_wp2_with fail
  refine (refNext_any s a _ (by omega)).mono ?_
  rintro e w5 ⟨rfl, hb5⟩
  rw [HN.out]
  go_wp2
  go_ret
  exact ⟨rfl, btr (btr (btr (btr hb1 hb2) hb3) hb4) hb5⟩

theorem frames_any (s : ByteArray) (a : Int) (w : World) :
    Calls Try.prog 5 #[.string s, .int .i64 a] w fun e w' => e = .returned (.bool true) ∧ Below w.heap.size w w' := by
  by_cases h : 70000 < s.size
  · exact frames_long s a w h
  by_cases hl : 65536 < s.size
  · exact frames_mid s a w (by omega) _ _ (fun w => (Frame_long s w (by unfold maxLen; omega) hl).mono fun e w' h => ⟨h.1, h.2 ▸ Below.refl _ _⟩) (fun w => (refFrame_long s w hl).mono fun e w' h => ⟨h.1, h.2 ▸ Below.refl _ _⟩)
  · exact frames_mid s a w (by omega) _ _ (fun w => Frame_short s w hl) (fun w => refFrame_short s w hl)
end Go.Proofs.Ytkaanffclpbiiaa
