/-
  Noughts that a walk makes: make([]byte, n), and their text. Conditions: those in the theorems.
-/
import Derived.Test.YtgmaccfhgeocdaaProg
import Derived.WalkKit
import Derived.Laws.MakeOwn
import Derived.Laws.BytesArg
import Derived.Lib.SlBytesRow
namespace Go.Proofs.Ytgmaccfhgeocdaa
open Go.RowKit

theorem infoByte : (Try.prog.info? 5).map (fun i => (i.zero, i.size, i.bytes)) = some (some (.int .u8 0), 1, 1) := by kernel_rfl
/-- The cells of n noughts; the text of n noughts. -/
def nulls (n : Nat) : Array Value := (List.replicate n (Value.int .u8 0)).toArray
def nullText (n : Nat) : ByteArray := ⟨(List.replicate n (0 : UInt8)).toArray⟩
theorem nullText_size (n : Nat) : (nullText n).size = n := by simp [nullText, ByteArray.size]
theorem nullText_list (n : Nat) : (nullText n).data.toList = List.replicate n 0 := by simp [nullText]
theorem nulls_size (n : Nat) : (nulls n).size = n := by simp [nulls]
theorem made_nulls (n : Nat) : madeCells #[Value.int .u8 0] n = nulls n := by
  apply Array.ext
  · rw [size_madeCells, nulls_size]
  · intro i h1 h2
    simp [madeCells, nulls, Nat.mod_one]
theorem make_nulls (k : IntKind) (n : Nat) (hn : n ≤ 281474976710656) (u : World) :
    (Instr.makeSlice 39 (.int k (n : Int)) (.int k (n : Int))).run Try.prog u = .ok (.slice (some ⟨u.heap.size, 0, none⟩) n n) (u.alloc (.cells (nulls n) 5)) := by
  obtain ⟨i0, hi, hz0, hz1, hz2⟩ := info_parts infoByte
  have h := run_make (P := Try.prog) u 39 5 i0 (.int .u8 0) Try.underlying39 hi hz0 k k (n : Int) (n : Int) (by omega) (Int.le_refl _) (by rw [hz2]; omega) (by omega)
  simpa [hz1, Value.cells, made_nulls] using h
theorem text_nulls (n : Nat) (b : Nat) (w : World) (hb : w.heap[b]? = some (.cells (nulls n) 5 (0, 0))) :
    (convert 39 9 (.slice (some ⟨b, 0, none⟩) n n)).run Try.prog w = .ok (.string (nullText n)) w := by
  have h := run_convert_bytes_back (P := Try.prog) w 39 9 5 ⟨b, 0, none⟩ n (List.replicate n 0) Try.underlying39 Try.underlying5 Try.underlying9 ?_
  · rw [List.length_replicate] at h; exact h
  · intro j hj
    have hj' : j < n := by simpa using hj
    have hadd : (⟨b, 0, none⟩ : Addr).add j = ⟨b, j, none⟩ := by unfold Addr.add; split <;> simp_all
    rw [hadd, cell_of_row w b j _ _ _ hb]
    simp [nulls, hj']
end Go.Proofs.Ytgmaccfhgeocdaa
