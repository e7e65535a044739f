/-
  Rows of a schema that are read only, element by element, as a walk meets them; what a call tells that found one. Conditions: those in the theorems.
-/
import Derived.Test.YtnkdhmoocomjfaaGreatDoorSchAt
import Derived.Test.YtnkdhmoocomjfaaGreatDoorCkMath
set_option linter.unusedSimpArgs false
set_option linter.unusedVariables false
namespace Go.Proofs.YtnkdhmoocomjfaaGreatDoor
open Go.RowKit

section
variable {W : World} {v : Value} {i : Nat}
theorem ro_len {α : Type} {K : RowKind α} {inn : α → Prop} {sub : World → Value → α → Prop} {L : List α} (h : RoIs K inn sub W v L) : ∃ p c, v = .slice p L.length c ∧ L.length ≤ 9223372036854775807 := by
  obtain ⟨p, c, e, h1, h2⟩ := h.shape
  exact ⟨p, c, e, Nat.le_trans h1 h2⟩
theorem so_at {L : List Ip.So} (h : RoSo W v L) (hi : i < L.length) : ∃ A c, v = .slice (some A) L.length c ∧ A.block < W.heap.size ∧ W.cell? (A.add (i * 2)) = some (.int .u8 (L[i].kind : Nat)) ∧ W.cell? ⟨(A.add (i * 2)).block, (A.add (i * 2)).off + 1, none⟩ = some (.string L[i].name) ∧ SoIn L[i] := by
  obtain ⟨A, c, t, e, hA, -, hin, c0, c1⟩ := RoIs.at h (by decide) (fun _ _ => rfl) hi
  exact ⟨A, c, e, hA, c0 _ rfl, c1 1 _ (by decide) rfl, hin⟩
theorem mth_at {L : List Ip.Mth} (h : RoMth W v L) (hi : i < L.length) : ∃ A c, v = .slice (some A) L.length c ∧ A.block < W.heap.size ∧ W.cell? (A.add (i * 5)) = some (.string L[i].name) ∧ W.cell? ⟨(A.add (i * 5)).block, (A.add (i * 5)).off + 1, none⟩ = some (.string L[i].arg) ∧
    W.cell? ⟨(A.add (i * 5)).block, (A.add (i * 5)).off + 2, none⟩ = some (.int .u8 (L[i].result : Nat)) ∧ W.cell? ⟨(A.add (i * 5)).block, (A.add (i * 5)).off + 3, none⟩ = some (.string L[i].effect) ∧ W.cell? ⟨(A.add (i * 5)).block, (A.add (i * 5)).off + 4, none⟩ = some (.string L[i].undo) ∧ MthIn L[i] := by
  obtain ⟨A, c, t, e, hA, -, hin, c0, c1⟩ := RoIs.at h (by decide) (fun _ _ => rfl) hi
  exact ⟨A, c, e, hA, c0 _ rfl, c1 1 _ (by decide) rfl, c1 2 _ (by decide) rfl, c1 3 _ (by decide) rfl, c1 4 _ (by decide) rfl, hin⟩
theorem stp_at {L : List Ip.Stp} (h : RoStp W v L) (hi : i < L.length) : ∃ A c, v = .slice (some A) L.length c ∧ A.block < W.heap.size ∧ W.cell? (A.add (i * 3)) = some (.string L[i].service) ∧ W.cell? ⟨(A.add (i * 3)).block, (A.add (i * 3)).off + 1, none⟩ = some (.string L[i].method) ∧
    W.cell? ⟨(A.add (i * 3)).block, (A.add (i * 3)).off + 2, none⟩ = some (.int .i64 L[i].at_) ∧ StpIn L[i] := by
  obtain ⟨A, c, t, e, hA, -, hin, c0, c1⟩ := RoIs.at h (by decide) (fun _ _ => rfl) hi
  exact ⟨A, c, e, hA, c0 _ rfl, c1 1 _ (by decide) rfl, c1 2 _ (by decide) rfl, hin⟩
theorem fld_at {L : List Ip.Fld} (h : RoFld W v L) (hi : i < L.length) : ∃ A c p k, v = .slice (some A) L.length c ∧ A.block < W.heap.size ∧ W.cell? (A.add (i * 2)) = some (.string L[i].name) ∧ W.cell? ⟨(A.add (i * 2)).block, (A.add (i * 2)).off + 1, none⟩ = some (.slice p L[i].type.length k) ∧
    FldIn L[i] ∧ RoSo W (.slice p L[i].type.length k) L[i].type ∧ L[i].type.length ≤ 9223372036854775807 := by
  obtain ⟨A, c, t, e, hA, hs, hin, c0, c1⟩ := RoIs.at h (by decide) (fun _ _ => rfl) hi
  obtain ⟨p, k, rfl, hl⟩ := ro_len hs
  exact ⟨A, c, p, k, e, hA, c0 _ rfl, c1 1 _ (by decide) rfl, hin, hs, hl⟩
theorem rcd_at {L : List Ip.Rcd} (h : RoRcd W v L) (hi : i < L.length) : ∃ A c p k, v = .slice (some A) L.length c ∧ A.block < W.heap.size ∧ W.cell? (A.add (i * 3)) = some (.string L[i].name) ∧ W.cell? ⟨(A.add (i * 3)).block, (A.add (i * 3)).off + 1, none⟩ = some (.bool L[i].choice) ∧
    W.cell? ⟨(A.add (i * 3)).block, (A.add (i * 3)).off + 2, none⟩ = some (.slice p L[i].fields.length k) ∧ RcdIn L[i] ∧ RoFld W (.slice p L[i].fields.length k) L[i].fields ∧ L[i].fields.length ≤ 9223372036854775807 := by
  obtain ⟨A, c, t, e, hA, hs, hin, c0, c1⟩ := RoIs.at h (by decide) (fun _ _ => rfl) hi
  obtain ⟨p, k, rfl, hl⟩ := ro_len hs
  exact ⟨A, c, p, k, e, hA, c0 _ rfl, c1 1 _ (by decide) rfl, c1 2 _ (by decide) rfl, hin, hs, hl⟩
theorem srv_at {L : List Ip.Srv} (h : RoSrv W v L) (hi : i < L.length) : ∃ A c p k, v = .slice (some A) L.length c ∧ A.block < W.heap.size ∧ W.cell? (A.add (i * 2)) = some (.string L[i].name) ∧ W.cell? ⟨(A.add (i * 2)).block, (A.add (i * 2)).off + 1, none⟩ = some (.slice p L[i].methods.length k) ∧
    SrvIn L[i] ∧ RoMth W (.slice p L[i].methods.length k) L[i].methods ∧ L[i].methods.length ≤ 9223372036854775807 := by
  obtain ⟨A, c, t, e, hA, hs, hin, c0, c1⟩ := RoIs.at h (by decide) (fun _ _ => rfl) hi
  obtain ⟨p, k, rfl, hl⟩ := ro_len hs
  exact ⟨A, c, p, k, e, hA, c0 _ rfl, c1 1 _ (by decide) rfl, hin, hs, hl⟩
theorem sga_at {L : List Ip.Sga} (h : RoSga W v L) (hi : i < L.length) : ∃ A c p k, v = .slice (some A) L.length c ∧ A.block < W.heap.size ∧ W.cell? (A.add (i * 3)) = some (.string L[i].name) ∧ W.cell? ⟨(A.add (i * 3)).block, (A.add (i * 3)).off + 1, none⟩ = some (.string L[i].arg) ∧
    W.cell? ⟨(A.add (i * 3)).block, (A.add (i * 3)).off + 2, none⟩ = some (.slice p L[i].steps.length k) ∧ SgaIn L[i] ∧ RoStp W (.slice p L[i].steps.length k) L[i].steps ∧ L[i].steps.length ≤ 9223372036854775807 := by
  obtain ⟨A, c, t, e, hA, hs, hin, c0, c1⟩ := RoIs.at h (by decide) (fun _ _ => rfl) hi
  obtain ⟨p, k, rfl, hl⟩ := ro_len hs
  exact ⟨A, c, p, k, e, hA, c0 _ rfl, c1 1 _ (by decide) rfl, c1 2 _ (by decide) rfl, hin, hs, hl⟩
end
/-! ### what is told of one that was looked for -/
def RcdV (W : World) (v : Value) (x : Ip.Rcd) : Prop := ∃ p c, v = .agg #[.string x.name, .bool x.choice, .slice p x.fields.length c] ∧ RcdIn x ∧ RoFld W (.slice p x.fields.length c) x.fields
def SgaV (W : World) (v : Value) (x : Ip.Sga) : Prop := ∃ p c, v = .agg #[.string x.name, .string x.arg, .slice p x.steps.length c] ∧ SgaIn x ∧ RoStp W (.slice p x.steps.length c) x.steps
def noRcd : Ip.Rcd := ⟨⟨#[]⟩, false, []⟩
def noSga : Ip.Sga := ⟨⟨#[]⟩, ⟨#[]⟩, []⟩
def noMth : Ip.Mth := ⟨⟨#[]⟩, ⟨#[]⟩, 0, ⟨#[]⟩, ⟨#[]⟩⟩
def mthV (m : Ip.Mth) : Value := .agg #[.string m.name, .string m.arg, .int .u8 (m.result : Nat), .string m.effect, .string m.undo]
def FoundR (o : Option Ip.Rcd) (w : World) (e : Ending) (w' : World) : Prop := ∃ v, e = .returned (.tuple #[v, .bool o.isSome]) ∧ RcdV w' v (o.getD noRcd) ∧ Below w.heap.size w w'
def FoundS (o : Option Ip.Sga) (w : World) (e : Ending) (w' : World) : Prop := ∃ v, e = .returned (.tuple #[v, .bool o.isSome]) ∧ SgaV w' v (o.getD noSga) ∧ Below w.heap.size w w'
def FoundM (o : Option Ip.Mth) (w : World) (e : Ending) (w' : World) : Prop := e = .returned (.tuple #[mthV (o.getD noMth), .bool o.isSome]) ∧ Below w.heap.size w w'
theorem RcdV.none (W : World) : RcdV W (.agg #[.string ⟨#[]⟩, .bool false, .slice none 0 0]) noRcd := ⟨_, _, rfl, Nat.zero_le _, RoIs.nil _ (Nat.zero_le _)⟩
theorem SgaV.none (W : World) : SgaV W (.agg #[.string ⟨#[]⟩, .string ⟨#[]⟩, .slice none 0 0]) noSga := ⟨_, _, rfl, ⟨Nat.zero_le _, Nat.zero_le _⟩, RoIs.nil _ (Nat.zero_le _)⟩
theorem RcdV.below {W W' : World} {v : Value} {x : Ip.Rcd} (h : RcdV W v x) (hb : Below W.heap.size W W') : RcdV W' v x := by
  obtain ⟨p, c, e, h1, h2⟩ := h; exact ⟨p, c, e, h1, h2.below hb⟩
theorem SgaV.below {W W' : World} {v : Value} {x : Ip.Sga} (h : SgaV W v x) (hb : Below W.heap.size W W') : SgaV W' v x := by
  obtain ⟨p, c, e, h1, h2⟩ := h; exact ⟨p, c, e, h1, h2.below hb⟩
end Go.Proofs.YtnkdhmoocomjfaaGreatDoor
