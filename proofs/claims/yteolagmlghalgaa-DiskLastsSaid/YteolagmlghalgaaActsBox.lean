/-
  A list of acts in a later world; the box of an act. No condition.
-/
import Derived.Test.YteolagmlghalgaaGreat
import Derived.Test.YteolagmlghalgaaDiskAside
namespace Go.Proofs.Yteolagmlghalgaa
open Go.RowKit Go.Maps Go.Sort Go.Shelf

theorem Acts.below {W W' : World} {p : Option Addr} {xs : List ActV} (h : Acts W p xs) (hb : Below W.heap.size W W') : Acts W' p xs := fun i hi => by
  obtain ⟨A, h1, h2, h3, h4⟩ := h i hi
  refine ⟨A, h1, Nat.lt_of_lt_of_le h2 hb.size, fun j hj => (hb.cell (by rw [add_blk]; exact h2)).trans (h3 j hj), ⟨h4.act, h4.name, h4.to, h4.data, h4.n, h4.keep, fun k hk => ?_⟩⟩
  obtain ⟨B, k1, k2, k3, k4⟩ := h4.ints k hk
  exact ⟨B, k1, by have := hb.size; omega, Nat.lt_of_lt_of_le k3 hb.size, (hb.cell (by rw [add_blk]; exact k3)).trans k4⟩

/-- The cells of an act in its box. -/
def boxOf (n : Int) (x : ActV) : Obj := .cells #[.int .i64 n, .string x.name, .string x.to, .string x.data, .int .i64 x.n, .slice x.kp x.ks.length x.kcap] 44 (0, 0)
theorem box_name {w : World} {b : Nat} {n : Int} {x : ActV} (h : w.heap[b]? = some (boxOf n x)) : w.cell? ⟨b, 1, none⟩ = some (.string x.name) := by rw [cell_of_row w b 1 _ _ _ h]; rfl
end Go.Proofs.Yteolagmlghalgaa
