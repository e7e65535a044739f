/-
  The document's Floor is the table's. No condition.
-/
import Derived.Test.YthioogncbhkaoaaMemRefC
namespace Go.Proofs.Ythioogncbhkaoaa
open Go.RowKit

theorem alike_in {L : Mm.Row} {xs : List Pr} (h : Rf.Alike L xs) {x : Pr} (hx : x ∈ xs) : (x.1, Value.string x.2) ∈ L := by
  have h1 := h.2.1.get hx
  rw [← h.2.2] at h1
  exact Mm.get_mem h1
theorem alike_of {L : Mm.Row} {xs : List Pr} (h : Rf.Alike L xs) {p : ByteArray × Value} (hp : p ∈ L) : ∃ x ∈ xs, p = (x.1, Value.string x.2) := by
  have h1 := h.1.get (k := p.1) (v := p.2) hp
  rw [h.2.2] at h1
  obtain ⟨t, e, hm⟩ := Rf.mem_of_get h1
  exact ⟨(p.1, t), hm, by rw [← e]⟩
theorem floor_best {L : Mm.Row} {xs : List Pr} (h : Rf.Alike L xs) {key : ByteArray} {o : Option Nat} (hb : BestR xs key xs.length o) :
    Mm.floor L key = (o.map fun b => ((floorP xs (some b)).1, Value.string (floorP xs (some b)).2)) := by
  cases hf : Mm.floor L key with
  | none =>
    cases o with
    | none => rfl
    | some b =>
      obtain ⟨-, hl, h2, -⟩ := hb
      have := Mm.floor_none hf _ (alike_in h (List.getElem_mem hl))
      rw [h2] at this; cases this
  | some p =>
    obtain ⟨h1, h2, h3⟩ := Mm.floor_some h.1 hf
    obtain ⟨x, hx, rfl⟩ := alike_of h h1
    obtain ⟨j, hj, rfl⟩ := List.getElem_of_mem hx
    cases o with
    | none =>
      have := hb j hj hj
      rw [h2] at this; cases this
    | some b =>
      obtain ⟨-, hl, h4, h5⟩ := hb
      have e1 := h5 j hj hj h2
      have e2 := h3 _ (alike_in h (List.getElem_mem hl)) h4
      have hk : xs[j].1 = xs[b].1 := by
        refine Decidable.byContradiction fun hne => ?_
        rcases Mm.lt_total hne with h' | h'
        · rw [e2] at h'; cases h'
        · rw [e1] at h'; cases h'
      have hv : xs[j] = xs[b] := by
        have g1 := h.2.1.get (List.getElem_mem hj)
        have g2 := h.2.1.get (List.getElem_mem hl)
        rw [hk, g2] at g1
        simp only [Option.some.injEq, Value.string.injEq] at g1
        exact Prod.ext hk g1.symm
      have hF : floorP xs (some b) = xs[b] := by show xs.getD b _ = _; rw [List.getD_eq_getElem?_getD, List.getElem?_eq_getElem hl]; rfl
      rw [Option.map_some, hF, ← hv]
end Go.Proofs.Ythioogncbhkaoaa
