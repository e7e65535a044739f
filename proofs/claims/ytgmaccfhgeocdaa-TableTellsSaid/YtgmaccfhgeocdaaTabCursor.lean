/-
  Walks over package table: the cursor: take, number. Conditions: those in the theorems.
-/
import Derived.Test.YtgmaccfhgeocdaaTabRow
import Derived.Deep.QuietTactic
import Derived.BigQuiet
namespace Go.Proofs.Ytgmaccfhgeocdaa
open Go.RowKit Tb

def curO (R : ByteArray) : Obj := .cells #[.string R] 76 (0, 0)
set_option maxHeartbeats 4000000 in
theorem take_any {w : World} {b : Nat} {R : ByteArray} (h : w.heap[b]? = some (curO R)) (n : Nat) (hn : n ≤ 4611686018427387904) (hR : R.size ≤ 140737488355328) :
    Calls Try.prog 39 #[.pointer (some ⟨b, 0, none⟩), .int .i64 (n : Nat)] w fun e w' => e = .returned (.string (R.extract 0 (min n R.size))) ∧ ∃ q, w' = (w.drewN q).setCell ⟨b, 0, none⟩ (.string (R.extract (min n R.size) R.size)) := by
  have c0 : w.cell? ⟨b, 0, none⟩ = some (.string R) := by rw [cell_of_row w b 0 _ _ _ h]; rfl
  have f0 : w.frozen? ⟨b, 0, none⟩ = false := frozen_of_row w b 0 _ _ h
  obtain ⟨m, hm⟩ : ∃ m, m = min n R.size := ⟨_, rfl⟩
  rw [← hm]
  have hmi : min (n : Int) (R.size : Int) = (m : Int) := by omega
  have hml : m ≤ R.size := by omega
  have hsz : (R.extract 0 m).size = m := by rw [ByteArray.size_extract]; omega
  have i1 : (0 : Int) ≤ (m : Int) := by omega
  have i2 : (m : Int) ≤ (R.size : Int) := by omega
  have HS := Lib.hid hsz
  clear h hm hml
  go_enter Try.func39, Try.ntmps39
  go_wp2_with fail
  go_quiet (fail)
  go_wp2_with fail
  go_ret
  exact ⟨rfl, _, rfl⟩
end Go.Proofs.Ytgmaccfhgeocdaa
