/-
  Calls of no table of texts: Floor, Clear, Twin. No condition.
-/
import Derived.Test.YthioogncbhkaoaaMemMoreS
import Derived.Test.YthioogncbhkaoaaMemCallsS
namespace Go.Proofs.Ythioogncbhkaoaa.MS
open Go.RowKit

set_option maxHeartbeats 2000000 in
theorem clear_nil (w : World) : Calls Try.prog 19 #[.pointer none] w fun e w' => e = .returned (.tuple #[]) ∧ w = w' := by
  go_enter Try.func19, Try.ntmps19
  go_wp2_with fail
  go_end0
  exact ⟨rfl, rfl⟩
set_option maxHeartbeats 2000000 in
theorem twin_nil (w : World) : Calls Try.prog 20 #[.pointer none] w fun e w' => e = .returned (.pointer none) ∧ w = w' := by
  go_enter Try.func20, Try.ntmps20
  go_wp2_with fail
  go_ret
  exact ⟨rfl, rfl⟩
set_option maxRecDepth 100000 in
set_option maxHeartbeats 2000000 in
theorem floor_nil (key : ByteArray) (w : World) : Calls Try.prog 14 #[.pointer none, .string key] w fun e w' => e = .returned (floorV none) ∧ Below w.heap.size w w' := by
  have h1 := tree_none w
  have h2 := floor_tree (w := w) (t := .nil) (p := .pointer none) rfl List.Pairwise.nil key
  have H1 := Lib.hid h1
  have H2 := Lib.hid h2
  clear h1 h2
  go_enter Try.func14, Try.ntmps14
  go_wp2_with fail
  refine H1.out.mono ?_
  rintro e w1 ⟨rfl, rfl⟩
  go_wp2_with fail
  refine H2.out.mono ?_
  rintro e w2 ⟨bv, rfl, hbest, hb⟩
  obtain rfl : bv = .pointer none := hbest
  have HB := Lib.hid hb
  clear hb
  go_wp2_with fail
  refine bodyPost_ret (v := floorV none) (by simp [floorV, results, Try.results14, go_sem]) rfl ⟨rfl, HB.out⟩
end Go.Proofs.Ythioogncbhkaoaa.MS
