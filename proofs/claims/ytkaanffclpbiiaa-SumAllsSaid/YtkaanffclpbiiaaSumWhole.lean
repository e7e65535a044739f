/-
  Walks over package sum: Whole. Condition: texts of at most 2^63 - 1 bytes.
-/
import Derived.Test.YtkaanffclpbiiaaRows
import Derived.Test.YtkaanffclpbiiaaSumEnds
import Derived.Shelf.Abstract
import Derived.Shelf.RegionOpen
import Derived.WalkKit
import Derived.OwnWalkIn
import Derived.TacticsInMore
import Derived.LoopNIn
import Derived.LoopIn
import Derived.Lib.Hide
import Derived.Deep.WholeRow
namespace Go.Proofs.Ytkaanffclpbiiaa
open Go.RowKit Go.Shelf
attribute [local go_sem] Oper.semAt_some

/-- How far a text is frames. -/
def wholeOf (es : List Nat) : Nat := Sm.at_ 0 es es.length

set_option maxRecDepth 100000 in
set_option maxHeartbeats 2000000 in
theorem Whole_any (s : ByteArray) (hm : s.size ≤ maxLen) (es : List Nat) (hc : Sm.Chain s.data.toList 0 es) (w : World) :
    Calls Try.prog 16 #[.string s] w fun e w' => e = .returned (.int .i64 (wholeOf es : Nat)) ∧ Below w.heap.size w w' := by
  refine (callsIn_wide (n := 9)).1 ?_
  refine callsIn_of_wp_marks Try.func16 rfl trivial ?_ rfl
  simp only [Try.ntmps16, List.size_toArray, List.length_cons, List.length_nil, Nat.reduceAdd, Nat.reduceSub, Array.replicate_succ, Array.replicate_zero, List.push_toArray, List.append_toArray, List.nil_append, List.cons_append]
  gi_wp2_with fail
  refine ⟨trivial, ?_⟩
  refine (callsIn_wide.2 (ends_any s _)).mono ?_
  rintro e w1 ⟨rfl, rfl⟩
  gi_wp2_with fail
  obtain ⟨W0, hW0⟩ : ∃ W0, (w.alloc (Obj.cells #[Value.int IntKind.i64 0] 3)).alloc (Obj.cells #[Value.string s] 9) = W0 := ⟨_, rfl⟩
  have hz0 : W0.heap.size = w.heap.size + 2 := by rw [← hW0]; simp
  have hb0 : W0.heap[w.heap.size + 1]? = some (.cells #[.string s] 9 (0, 0)) := by
    rw [← hW0]; have := heap_alloc_new (w.alloc (Obj.cells #[Value.int IntKind.i64 0] 3)) (Obj.cells #[Value.string s] 9); rw [World.size_alloc] at this; exact this
  have hx0 : W0.heap[w.heap.size]? = some (.cells #[.int .i64 0] 3 (0, 0)) := by
    rw [← hW0]; exact (Below.heap_alloc _ _ _ (by simp)).trans (heap_alloc_new w _)
  have hbw : Below w.heap.size w W0 := by rw [← hW0]; exact ((Below.refl _ w).alloc (Nat.le_refl _) _).alloc (by simp) _
  rw [hW0]
  clear hW0
  refine wpIn_rangeX rfl (by omega) (gf := 34) (lb := #[.pointer (some ⟨w.heap.size + 1, 0, none⟩)]) rfl trivial (enters_of Try.func34 (by kernel_rfl) rfl)
    (encs := fun e : Nat => #[.int .i64 (e : Int)]) (xs := es) (cap := fun k => k = w.heap.size + 1) (ends1_seq 8 s hm es hc (w.heap.size + 1) W0 hb0) (fun k hk => by omega) (Below.refl _ _) (fun _ => rfl)
    (fun _ i W => W.heap[w.heap.size]? = some (.cells #[.int .i64 (Sm.at_ 0 es i : Nat)] 3 (0, 0)) ∧ Below w.heap.size w W)
    (fun _ _ _ _ => False)
    (fun T i A C hs _ st => ⟨(st.block _ (Array.getElem?_eq_some_iff.1 hs.1).1 (.inl (by omega))).trans hs.1, below_steps hs.2 st (Nat.le_refl _) (by omega)⟩)
    (fun _ _ _ _ _ hs _ _ => hs)
    (fun _ _ => ⟨hx0, hbw⟩)
    (fun x => { tmps := #[.string s, undef, .int .i64 0, .pointer (some ⟨w.heap.size, 0, none⟩), .int .i64 (x : Nat), .string s, .func (.func 34) #[] #[.pointer (some ⟨w.heap.size + 1, 0, none⟩)], .int .i64 (x : Nat), undef, undef], defers := [] }) ?assign ?body ?done ?stop
  case assign =>
    intro l x W K hK
    gi_wp2
    exact hK
  case body =>
    rintro l T i hi W hT1 hT2 ⟨hbx, hbe⟩
    have hc1 : W.cell? ⟨w.heap.size, 0, none⟩ = some (.int .i64 (Sm.at_ 0 es i : Nat)) := by rw [cell_of_row _ _ _ _ _ _ hbx]; rfl
    have hf1 := frozen_of_row W w.heap.size 0 _ _ hbx
    gi_wp2
    refine ⟨BodyKeeps.setCell _ (by simp) (by simp; omega), ?_, hbe.setCell (Nat.le_refl _) _⟩
    rw [heap_setCell_same W w.heap.size 0 _ _ _ hbx, Sm.at_succ 0 es i hi]
    rfl
  case done =>
    rintro D T W hD hDT ⟨hbx, hbe⟩ hK
    have hc1 : W.cell? ⟨w.heap.size, 0, none⟩ = some (.int .i64 (Sm.at_ 0 es es.length : Nat)) := by rw [cell_of_row _ _ _ _ _ _ hbx]; rfl
    gi_wp2
    refine ⟨by simp, .inl ⟨_, _, rfl, run_takeDeferred hK, ?_⟩⟩
    exact ⟨_, results_tmp rfl _ _ _, rfl, below_putObj hbe (by omega) _⟩
  case stop =>
    rintro D T c i W _ _ _ h _
    exact h.elim
end Go.Proofs.Ytkaanffclpbiiaa
