/-
  A table's further calls, values of pairs: Twin, Clear, Floor. Conditions: those in the theorems.
-/
import Derived.Test.YthioogncbhkaoaaMemLawP
namespace Go.Proofs.Ythioogncbhkaoaa.MP
open Go.RowKit

set_option maxHeartbeats 400000 in
theorem twin_at {w : World} {a : Nat} {p : Value} {t : Mm.Tr} (h : Tab w a p) (ht : At w t p) : Calls Try.prog 25 #[.pointer (some ⟨a, 0, none⟩)] w fun e w' =>
    e = .returned (.pointer (some ⟨w.heap.size, 0, none⟩)) ∧ w' = w.alloc (.cells #[p] 84) := by
  obtain ⟨c0, -⟩ := cells1 h
  obtain ⟨op, rfl⟩ := ht.ptr
  clear h ht
  go_enter Try.func25, Try.ntmps25
  go_wp2_with fail
  go_ret
  exact ⟨rfl, rfl⟩
set_option maxHeartbeats 400000 in
theorem clear_at {w : World} {a : Nat} {p : Value} (h : Tab w a p) : Calls Try.prog 29 #[.pointer (some ⟨a, 0, none⟩)] w fun e w' =>
    e = .returned (.tuple #[]) ∧ w' = w.setCell ⟨a, 0, none⟩ (.pointer none) := by
  obtain ⟨c0, c1⟩ := cells1 h
  have c2 := c1 0
  clear h c1
  go_enter Try.func29, Try.ntmps29
  go_wp2_with fail
  go_returns
  exact ⟨rfl, rfl⟩

section
variable {w0 w w' : World} {a : Nat} {L : Mm.Row} {R : List (Value × Mm.Row)} {B B' : List (Nat × Obj)}
theorem clear_m (h : Mem w0 w a L R B) : Calls Try.prog 29 #[.pointer (some ⟨a, 0, none⟩)] w fun e w' => e = .returned (.tuple #[]) ∧ Mem w0 w' a [] R B ∧ Kept w w' ∧ Only a w w' := by
  obtain ⟨p, h1, h2, h4⟩ := h
  refine (clear_at (p := p) h1.head).mono ?_
  rintro e w' ⟨rfl, rfl⟩
  have hk : Kept w (w.setCell ⟨a, 0, none⟩ (.pointer none)) := kept_box (T := 84) h1.head memT_not _
  exact ⟨rfl, ⟨_, Now.set (T := 84) h1 _, root_nil _, fun r hr => (h4 r hr).kept hk⟩, hk, Only.setCell a w 0 _⟩
/-- The twin is a table of its own: it becomes the one at hand; the elder one stands among the blocks. -/
theorem twin_m (h : Mem w0 w a L R B) : Calls Try.prog 25 #[.pointer (some ⟨a, 0, none⟩)] w fun e w' => ∃ b p, e = .returned (.pointer (some ⟨b, 0, none⟩)) ∧ Mem w0 w' a L ((p, L) :: R) ((b, memO p) :: B) ∧ Kept w w' := by
  obtain ⟨p, h1, h2, h4⟩ := h
  have h2' := h2
  obtain ⟨t, h5, -, -⟩ := h2'
  refine (twin_at (p := p) h1.head h5).mono ?_
  rintro e w' ⟨rfl, rfl⟩
  refine ⟨_, p, rfl, ⟨p, (h1.alloc _).swap, h2.kept (.alloc _ _), fun r hr => ?_⟩, .alloc _ _⟩
  rcases List.mem_cons.1 hr with rfl | hr
  · exact h2.kept (.alloc _ _)
  · exact (h4 r hr).kept (.alloc _ _)
end
end Go.Proofs.Ythioogncbhkaoaa.MP
