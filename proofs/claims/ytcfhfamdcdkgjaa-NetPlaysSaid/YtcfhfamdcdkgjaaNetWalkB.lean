/-
  Walks over package net: lets. Conditions: those in the theorems.
-/
import Derived.Test.YtcfhfamdcdkgjaaNetWalkA
import Derived.Deep.RegionHeld3
namespace Go.Proofs.Ytcfhfamdcdkgjaa
open Go.RowKit Go.Maps

theorem look_cut {w : World} {v : Value} {cut : Int → Int → Bool} {n : Nat} (h : CutAt w v cut n) {x y : Int} (hx : Nm.Wf x) (hy : Nm.Wf y) :
    (Instr.lookup 48 v (wayV x y) true).run Try.prog w = .ok (.tuple #[.agg #[], .bool (cut x y)]) w := by
  rcases h with ⟨rfl, h⟩ | ⟨m, D, rfl, h1, h2⟩
  · rw [h x y hx hy]
    exact Maps.look_nil true lawWay Try.underlying48 (zeroUnit w) (keyOfW hx hy)
  · obtain ⟨u, ps, hrun, hu⟩ := h1.look_ok lawWay Try.underlying48 (zeroUnit w) unitElem_mk (keyOfW hx hy)
    obtain ⟨rfl, -⟩ := unitElem_inv hu
    rw [hrun, h2 x y hx hy]
theorem wf_min {x y : Int} (hx : Nm.Wf x) (hy : Nm.Wf y) : Nm.Wf (min x y) := by unfold Nm.Wf at *; omega
theorem wf_max {x y : Int} (hx : Nm.Wf x) (hy : Nm.Wf y) : Nm.Wf (max x y) := by unfold Nm.Wf at *; omega

set_option maxRecDepth 100000 in
set_option maxHeartbeats 4000000 in
theorem lets_rep {w : World} {a : Nat} {N : Nm.Net} {rv mv : Value} (h : Rep w a N rv mv) (p : Nm.Pk) (hf : Nm.Wf p.f) (ht : Nm.Wf p.t) :
    Calls Try.prog 25 #[.pointer (some ⟨a, 0, none⟩), pkV p] w fun e w' => e = .returned (.bool (!N.isCut p)) ∧ Below w.heap.size w w' := by
  obtain ⟨f, t, d⟩ := p
  simp only at hf ht
  have hv : N.isCut ⟨f, t, d⟩ = N.cut (min f t) (max f t) := rfl
  rw [hv]
  clear hv
  unfold pkV
  have hlt := h.lt.1
  obtain ⟨W1, hW1⟩ : ∃ W1, w.alloc (.cells #[.int .i64 f, .int .i64 t, .string d] 23) = W1 := ⟨_, rfl⟩
  have hb1 : Below w.heap.size w W1 := by rw [← hW1]; exact (Below.refl _ w).alloc (Nat.le_refl _) _
  have hq : W1.heap[w.heap.size]? = some (.cells #[.int .i64 f, .int .i64 t, .string d] 23 (0, 0)) := by rw [← hW1]; exact heap_alloc_new w _
  have hz : w.heap.size + 1 = W1.heap.size := by rw [← hW1]; simp
  have all : ∀ W, Below W1.heap.size W1 W → W.cell? ⟨a, 1, none⟩ = some mv ∧ W.cell? ⟨w.heap.size, 0, none⟩ = some (.int .i64 f) ∧ W.cell? ⟨w.heap.size, 1, none⟩ = some (.int .i64 t) ∧
      (Instr.lookup 48 mv (.agg #[.int .i64 (min f t), .int .i64 (max f t)]) true).run Try.prog W = .ok (.tuple #[.agg #[], .bool (N.cut (min f t) (max f t))]) W ∧ Below W1.heap.size W1 W := fun W hW => by
    have h2 := (h.below hb1).below hW
    obtain ⟨-, c1, -⟩ := cells2 h2.cell
    obtain ⟨d0, d1, -, -⟩ := cells3 ((hW.block _ (by omega)).trans hq)
    exact ⟨c1, d0, d1, look_cut h2.map (wf_min hf ht) (wf_max hf ht), hW⟩
  have fin : ∀ W, Below W1.heap.size W1 W → Below w.heap.size w W := fun W hW => hb1.trans (hW.mono hb1.size)
  have hbw := fun W => between_any f t W
  unfold wayV at hbw
  have HA := Lib.hid all
  have HF := Lib.hid fin
  have HB := Lib.hid hbw
  have HW := Lib.hid hW1
  have h0 := (HA.out _ (Below.refl _ _).drew)
  clear all fin hbw hW1 h hlt hb1 hq hz hf ht
  generalize N.cut (min f t) (max f t) = b at *
  go_enter Try.func25, Try.ntmps25
  go_wp2_with fail
  rw [HW.out]
  go_region_held3 (fun W => W.cell? ⟨a, 1, none⟩ = some mv ∧ W.cell? ⟨w.heap.size, 0, none⟩ = some (.int .i64 f) ∧ W.cell? ⟨w.heap.size, 1, none⟩ = some (.int .i64 t) ∧
      (Instr.lookup 48 mv (.agg #[.int .i64 (min f t), .int .i64 (max f t)]) true).run Try.prog W = .ok (.tuple #[.agg #[], .bool b]) W ∧ Below W1.heap.size W1 W)
    (first | exact h0 | exact HA.out _ hB3 | (have hx := ‹_ ∧ _ ∧ _ ∧ _ ∧ Below _ _ _›; exact HA.out _ (hx.2.2.2.2.alloc hx.2.2.2.2.size _)) | (have hx := ‹_ ∧ _ ∧ _ ∧ _ ∧ Below _ _ _›; exact HA.out _ hx.2.2.2.2))
    (first | (go_at_call 29; refine (HB.out _).mono ?_; rintro e w3 ⟨rfl, hb3⟩; have hx := ‹_ ∧ _ ∧ _ ∧ _ ∧ Below _ _ _›; have hB3 := hx.2.2.2.2.trans (hb3.mono hx.2.2.2.2.size)))
  all_goals
    go_wp2_with fail
    go_ret
    exact ⟨rfl, HF.out _ (‹_ ∧ _ ∧ _ ∧ _ ∧ Below _ _ _›).2.2.2.2⟩
end Go.Proofs.Ytcfhfamdcdkgjaa
