/-
  A slice of bytes as a law's argument: its text. No condition.
-/
import Derived.Test.YthioogncbhkaoaaMemOpen
import Derived.Stop.Texts
namespace Go.Proofs.Ythioogncbhkaoaa
open Go.ChangeShapes Go.WideShapes Go.ChangeAt Go.RowKit
theorem one_byte : Try.prog.cellsOf 5 = 1 := by kernel_rfl
set_option maxRecDepth 100000 in
theorem open_bytesV {H : Type} {enc : TypeId × Value → H} {W : World} {base : Nat} {v : Value} {d : DataW H} {ps : List MemPlace} (hval : Value.okWide Try.prog W .any base 54 v) (h : DataW.Trod enc Try.prog W 0 (fun _ => true) true 54 v d ps) :
    ∃ (p : Option Addr) (n cap : Nat) (s : ByteArray), v = .slice p n cap ∧ (n = 0 ∨ ∃ elems spare, d = .slice elems spare ∧ n ≤ elems.length) ∧
      ∀ W', Below W.heap.size W W' → (convert 54 9 (.slice p n cap)).run Try.prog W' = .ok (.string s) W' := by
  obtain ⟨a0, len, cap, rfl⟩ := okWide_slice Try.underlying54 hval
  obtain ⟨fuel, hf⟩ := h
  rcases open_ints Try.underlying54 Try.underlying5 one_byte hf with ⟨hcs, hx⟩ | ⟨a, len', cap', zs, hcs, _, hl, hm, hz, hx, hcell, hwz⟩
  · simp [Value.cells] at hcs
    obtain ⟨rfl, rfl, rfl⟩ := hcs
    exact ⟨none, 0, 0, ⟨#[]⟩, rfl, .inl rfl, fun W' _ => by rw [run_convert_bytes_string W' 54 9 5 none 0 0 Try.underlying54 Try.underlying5 Try.underlying9]; rfl⟩
  · simp [Value.cells] at hcs
    obtain ⟨rfl, rfl, rfl⟩ := hcs
    simp only [Prod.mk.injEq] at hx
    obtain ⟨rfl, rfl⟩ := hx
    simp only [if_true] at hz
    have hlen : ((zs.take len).map fun n => UInt8.ofNat n.toNat).length = len := by simp; omega
    refine ⟨some a, len, cap, ⟨((zs.take len).map fun n => UInt8.ofNat n.toNat).toArray⟩, rfl, .inr ⟨_, _, rfl, by simp [lits]; omega⟩, fun W' hb => ?_⟩
    have h := run_convert_bytes_back (P := Try.prog) W' 54 9 5 a cap ((zs.take len).map fun n => UInt8.ofNat n.toNat) Try.underlying54 Try.underlying5 Try.underlying9 (fun j hj => by
      rw [hlen] at hj
      have hcj := hcell j (by omega)
      rw [hb.cell (cell_block hcj), hcj]
      have hb := range_u8 hwz j
      simp only [List.getElem_map, List.getElem_take]
      have e : zs.getD j 0 = zs[j]'(by omega) := by simp [List.getD, List.getElem?_eq_getElem (show j < zs.length by omega)]
      rw [List.getD_eq_getElem?_getD] at e
      rw [e] at hb
      rw [List.getD_eq_getElem?_getD, e]
      congr 2
      simp only [UInt8.toNat_ofNat']
      omega)
    rw [hlen] at h
    exact h
end Go.Proofs.Ythioogncbhkaoaa
