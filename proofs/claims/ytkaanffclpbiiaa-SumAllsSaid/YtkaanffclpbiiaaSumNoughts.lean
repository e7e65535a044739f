/-
  Walks over package sum: noughts that are made, texts turned to bytes and back. No conditions but those in the theorems.
-/
import Derived.Test.YtkaanffclpbiiaaRows
import Derived.Test.YtkaanffclpbiiaaSumFrames
import Derived.Test.YtkaanffclpbiiaaSumWalkE
import Derived.WalkKit
import Derived.WalkSpells
import Derived.WalkLawsBesides
import Derived.Handy
import Derived.Lib.Hide
import Derived.Deep.QuietTactic
import Derived.BigQuiet
import Derived.Deep.RegionHeld3
import Derived.Deep.MidRow
import Derived.Lib.ConvBytes
import Derived.Lib.SlBytesRow
namespace Go.Proofs.Ytkaanffclpbiiaa
open Go.RowKit

theorem info5 : (Try.prog.info? 5).map (fun i => (i.zero, i.size, i.bytes)) = some (some (.int .u8 0), 1, 1) := by kernel_rfl

/-- The cells of n noughts; the text of n noughts. -/
def noughts (n : Nat) : Array Value := (List.replicate n (Value.int .u8 0)).toArray
def zeros (n : Nat) : ByteArray := ⟨(List.replicate n (0 : UInt8)).toArray⟩
theorem zeros_size (n : Nat) : (zeros n).size = n := by simp [zeros, ByteArray.size]
theorem zeros_list (n : Nat) : (zeros n).data.toList = List.replicate n 0 := by simp [zeros]
theorem noughts_size (n : Nat) : (noughts n).size = n := by simp [noughts]
theorem made_noughts (n : Nat) : madeCells #[Value.int .u8 0] n = noughts n := by
  apply Array.ext
  · rw [size_madeCells, noughts_size]
  · intro i h1 h2
    simp [madeCells, noughts, Nat.mod_one]

theorem make_noughts (k : IntKind) (n : Nat) (hn : n ≤ 281474976710656) (u : World) :
    (Instr.makeSlice 25 (.int k (n : Int)) (.int k (n : Int))).run Try.prog u = .ok (.slice (some ⟨u.heap.size, 0, none⟩) n n) (u.alloc (.cells (noughts n) 5)) := by
  obtain ⟨i0, hi, hz0, hz1, hz2⟩ := info_parts info5
  have h := run_make (P := Try.prog) u 25 5 i0 (.int .u8 0) Try.underlying25 hi hz0 k k (n : Int) (n : Int) (by omega) (Int.le_refl _) (by rw [hz2]; omega) (by omega)
  simpa [hz1, Value.cells, made_noughts] using h

theorem text_noughts (n : Nat) (b : Nat) (w : World) (hb : w.heap[b]? = some (.cells (noughts n) 5 (0, 0))) :
    (convert 25 9 (.slice (some ⟨b, 0, none⟩) n n)).run Try.prog w = .ok (.string (zeros n)) w := by
  have h := run_convert_bytes_back (P := Try.prog) w 25 9 5 ⟨b, 0, none⟩ n (List.replicate n 0) Try.underlying25 Try.underlying5 Try.underlying9 ?_
  · rw [List.length_replicate] at h; exact h
  · intro j hj
    have hj' : j < n := by simpa using hj
    have hadd : (⟨b, 0, none⟩ : Addr).add j = ⟨b, j, none⟩ := by unfold Addr.add; split <;> simp_all
    rw [hadd, cell_of_row w b j _ _ _ hb]
    simp [noughts, hj']

theorem zeros_none (n : Nat) : Sm.behind (zeros n).data.toList 0 = none := by
  rw [zeros_list]; exact Sm.behindAt_noughts n

/-- Block b begins with the bytes l. -/
def BytesAt (W : World) (b : Nat) (l : List UInt8) : Prop := ∀ j (h : j < l.length), W.cell? ⟨b, j, none⟩ = some (.int .u8 (l[j].toNat : Int))
theorem bytesAt_conv (W : World) (s : ByteArray) (cap : Nat) (fr : Nat × Nat) : BytesAt (W.alloc (.cells (bytesRow s cap) 5 fr)) W.heap.size s.data.toList := by
  intro j hj
  rw [cell_of_row _ _ _ _ _ _ (heap_alloc_new W _), bytesRow_at s cap j (by have := hj; simp at this; exact this)]
  rfl
theorem bytesAt_drew {W : World} {b : Nat} {l : List UInt8} (h : BytesAt W b l) : BytesAt W.drew b l := h
theorem bytesAt_below {B : Nat} {W W' : World} {b : Nat} {l : List UInt8} (h : BytesAt W b l) (hb : Below B W W') (hB : b < B) : BytesAt W' b l :=
  fun j hj => (hb.cell hB).trans (h j hj)
theorem bytesAt_set {W : World} {b i : Nat} {l : List UInt8} (h : BytesAt W b l) (hi : i < l.length) (y : UInt8) : BytesAt (W.setCell ⟨b, i, none⟩ (.int .u8 (y.toNat : Int))) b (l.set i y) := by
  intro j hj
  have hj' : j < l.length := by simpa using hj
  by_cases e : i = j
  · subst e
    rw [World.cell?_setCell_same _ _ _ (h i hi)]
    simp
  · rw [World.cell?_setCell_other _ _ _ _ (by simp), h j hj']
    simp [e]
theorem back_text {W : World} {b : Nat} {l : List UInt8} (h : BytesAt W b l) (n cap : Nat) (hn : l.length = n) :
    (convert 25 9 (.slice (some ⟨b, 0, none⟩) n cap)).run Try.prog W = .ok (.string ⟨l.toArray⟩) W := by
  subst hn
  exact run_convert_bytes_back (P := Try.prog) W 25 9 5 ⟨b, 0, none⟩ cap l Try.underlying25 Try.underlying5 Try.underlying9 (fun j hj => by
    have hadd : (⟨b, 0, none⟩ : Addr).add j = ⟨b, j, none⟩ := by unfold Addr.add; split <;> simp_all
    rw [hadd]; exact h j hj)
theorem bytes_frozen (W : World) (s : ByteArray) (cap i : Nat) (hi : i < s.size) (n : Nat) : (W.alloc (.cells (bytesRow s cap) 5 ((bytesRow s cap).size, n))).frozen? ⟨W.heap.size, i, none⟩ = false := by
  rw [World.frozen?_alloc_mark]
  have h : s.data.size ≤ (bytesRow s cap).size := by unfold bytesRow; rw [Array.size_append, Array.size_map]; omega
  have h2 : s.size = s.data.size := rfl
  have : ¬ (bytesRow s cap).size ≤ i := by omega
  simp [this]
/-- A byte turned. -/
theorem xor_walk (x : UInt8) (c : Int) (h0 : 0 ≤ c) (h1 : c ≤ 255) : ∃ y : UInt8, bits BinOp.xor .u8 (x.toNat : Int) c = (y.toNat : Int) ∧ (c ≠ 0 → x ≠ y) := by
  have hx := x.toNat_lt
  have hlt : x.toNat ^^^ c.toNat < 256 := Nat.xor_lt_two_pow (n := 8) (by omega) (by omega)
  refine ⟨UInt8.ofNat (x.toNat ^^^ c.toNat), ?_, ?_⟩
  · rw [u8_xor _ _ (by omega) (by omega) h0 (by omega), Int.toNat_natCast, UInt8.toNat_ofNat', Nat.mod_eq_of_lt hlt]
  · intro hc e
    have e2 := congrArg UInt8.toNat e
    rw [UInt8.toNat_ofNat', Nat.mod_eq_of_lt hlt] at e2
    have e3 : x.toNat ^^^ 0 = x.toNat ^^^ c.toNat := by rw [Nat.xor_zero]; exact e2
    have := Sm.xor_cancel e3
    omega
end Go.Proofs.Ytkaanffclpbiiaa
