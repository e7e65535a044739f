/-
  Rows of texts in a walk; the reference's comparison of two such rows. Condition: at most a million texts.
-/
import Derived.Test.YteolagmlghalgaaProg
import Derived.WalkKit
import Derived.OwnWalk
import Derived.Lib.Hide
import Derived.BigQuiet
import Derived.Deep.QuietTactic
import Derived.WalkSmall
namespace Go.Proofs.Yteolagmlghalgaa
open Go.RowKit

/-- A slice of texts: cell i holds ss[i]. -/
def TextsOf (W : World) (p : Option Addr) (ss : List ByteArray) : Prop := ∀ i (h : i < ss.length), ∃ a, p = some a ∧ a.block < W.heap.size ∧ W.cell? (a.add i) = some (.string ss[i])
theorem add_at (a : Addr) (i : Nat) : (a.add i).block = a.block := by unfold Addr.add; split <;> rfl
theorem TextsOf.below {W W' : World} {p : Option Addr} {ss : List ByteArray} (h : TextsOf W p ss) (hb : Below W.heap.size W W') : TextsOf W' p ss := fun i hi => by
  obtain ⟨a, h1, h2, h3⟩ := h i hi
  exact ⟨a, h1, Nat.lt_of_lt_of_le h2 hb.size, (hb.cell (by rw [add_at]; exact h2)).trans h3⟩
theorem textsOf_row {W : World} {base : Nat} {v : Value} {ks : List (List UInt8)} (h : W.ownsRow base 9 1 v ks.length (ks.map fun k => .string ⟨k.toArray⟩)) :
    ∃ p cap, v = .slice p ks.length cap ∧ TextsOf W p (ks.map fun k => ⟨k.toArray⟩) := by
  have hc := World.ownsRow.cells (g := (v.ownBlock).getD 0) h
  have hlt := World.ownsRow.lt h
  rcases h.2 with ⟨rfl, hn⟩ | ⟨g, cap, cur, rfl, hb, hg, h1, h2, h3, h4⟩
  · rw [hn]; exact ⟨none, 0, rfl, fun i hi => by rw [List.length_map] at hi; omega⟩
  · refine ⟨some ⟨g, 0, none⟩, cap, rfl, fun i hi => ⟨_, rfl, (hlt g rfl).2, ?_⟩⟩
    have hi' : i < ks.length := by simpa using hi
    exact (show W.cell? ((⟨g, 0, none⟩ : Addr).add i) = _ from hc rfl i _ (by rw [List.getElem?_map, List.getElem?_eq_getElem hi']; rfl)).trans (by simp)

set_option maxHeartbeats 1000000 in
theorem textsSame_any (p q : Option Addr) (cap cap2 : Nat) (ss : List ByteArray) (hn : ss.length ≤ 1000000) (w : World) (hp : TextsOf w p ss) (hq : TextsOf w q ss) :
    Calls Try.prog 20 #[.slice p ss.length cap, .slice q ss.length cap2] w fun e w' => e = .returned (.bool true) ∧ Below w.heap.size w w' := by
  go_enter Try.func20, Try.ntmps20
  go_wp2_with fail
  go_loopw [5] (fun i wr => ∃ k : Nat, k ≤ ss.length ∧ i = .int .i64 (k : Nat) ∧ Below w.heap.size w wr) (fun i _ => ss.length - (intOf i).toNat)
  case atStart => exact ⟨0, Nat.zero_le _, rfl, Below.refl _ _⟩
  case round =>
    obtain ⟨k, hk, rfl, hb⟩ := hrel
    by_cases hlt : k < ss.length
    · obtain ⟨a, rfl, ha, hca⟩ := hp k hlt
      obtain ⟨b, rfl, hb2, hcb⟩ := hq k hlt
      have h1 : wr.cell? (a.add k) = some (.string ss[k]) := (hb.cell (by rw [add_at]; exact ha)).trans hca
      have h2 : wr.cell? (b.add k) = some (.string ss[k]) := (hb.cell (by rw [add_at]; exact hb2)).trans hcb
      have i0 : (k : Int) < (ss.length : Int) := by omega
      have i1 : (0 : Int) ≤ (k : Int) := by omega
      generalize ss[k] = c at *
      go_wp2_with fail
      go_quiet (fail)
      go_wp2_with fail
      go_roundw
      case rel => exact ⟨k + 1, by omega, rfl, below_drewN hb _⟩
      case measure => simp [intOf]; omega
    · obtain rfl : k = ss.length := by omega
      have i0 : ¬ (ss.length : Int) < (ss.length : Int) := by omega
      go_wp2_with fail
      go_ret
      exact ⟨rfl, hb⟩
end Go.Proofs.Yteolagmlghalgaa
