/-
  Walks over the laws' own functions for tokens: wakes. Conditions: those in the theorems.
-/
import Derived.Test.YthbealndbfboiaaDoorTokAll
import Derived.Deep.QuietTactic
import Derived.BigQuiet
set_option linter.unusedSimpArgs false
set_option linter.unusedVariables false
namespace Go.Proofs.YthbealndbfboiaaDoor
open Go.RowKit

theorem OwnTok.opens {W : World} {base : Nat} {v : Value} {xs : List Tk.Token} (h : OwnTok W base v xs) (hp : ∀ x ∈ xs, TokIn x) (hn : xs.length ≠ 0) : ∃ g cap, v = .slice (some ⟨g, 0, none⟩) xs.length cap ∧ xs.length ≤ cap ∧ cap ≤ maxLen ∧ base ≤ g ∧ ToksAt W (some ⟨g, 0, none⟩) xs := by
  obtain ⟨p, cap, e, h1, h2, h3⟩ := h.toks hp
  rcases h.2 with ⟨rfl, hz⟩ | ⟨g, cap', cur, rfl, hg, -⟩
  · exact absurd hz hn
  · cases e; exact ⟨g, cap, rfl, h1, h2, hg, h3⟩
def wakeT : List Tk.Token := [⟨1, ⟨#[97]⟩, 0, 0⟩, ⟨3, ⟨#[45, 62]⟩, 0, 1⟩, ⟨1, ⟨#[98]⟩, 0, 3⟩, ⟨3, ⟨#[46]⟩, 0, 4⟩, ⟨1, ⟨#[99]⟩, 0, 5⟩, ⟨2, ⟨#[49, 48]⟩, 10, 7⟩]
theorem wake_all : Tk.all 0 [97, 45, 62, 98, 46, 99, 32, 49, 48] = .ok wakeT := by rfl
theorem wake_in : ∀ t ∈ wakeT, TokIn t := by
  intro t ht
  unfold wakeT at ht
  simp only [List.mem_cons, List.not_mem_nil, or_false] at ht
  rcases ht with rfl | rfl | rfl | rfl | rfl | rfl <;> exact ⟨by decide, by decide, ⟨by decide, by decide⟩, ⟨by decide, by decide⟩⟩
set_option maxRecDepth 100000 in
set_option maxHeartbeats 4000000 in
theorem wakes_any (w : World) : Calls Tryd.prog 8 #[] w fun e w' => e = .returned (.bool true) ∧ Below w.heap.size w w' := by
  have q := All_any ⟨#[97, 45, 62, 98, 46, 99, 32, 49, 48]⟩ w (by decide)
  rw [show (⟨#[97, 45, 62, 98, 46, 99, 32, 49, 48]⟩ : ByteArray).data.toList = [97, 45, 62, 98, 46, 99, 32, 49, 48] from rfl, wake_all] at q
  unfold Alls Tk.Out.at_ Tk.Out.err Tk.Out.toks at q
  go_enter Tryd.func8, Tryd.ntmps8
  go_wp2_with fail
  refine Calls.mono q ?_
  rintro e w' ⟨v, rfl, ho, hb⟩
  obtain ⟨g, cap, rfl, -, -, -, ht⟩ := ho.opens wake_in (by decide)
  obtain ⟨A, e1, c0, c1, c2, c3, -⟩ := ht.at (Below.refl _ _) (i := 1) (by decide)
  obtain ⟨B, e2, d0, d1, d2, d3, -⟩ := ht.at (Below.refl _ _) (i := 5) (by decide)
  cases e1; cases e2
  have a1 : (⟨g, 0, none⟩ : Addr).add (1 * 4) = ⟨g, 4, none⟩ := rfl
  have a5 : (⟨g, 0, none⟩ : Addr).add (5 * 4) = ⟨g, 20, none⟩ := rfl
  rw [a1] at c0 c1 c2 c3
  rw [a5] at d0 d1 d2 d3
  have w1 : wakeT.length = 6 := rfl
  have x1 : wakeT[1] = ⟨3, ⟨#[45, 62]⟩, 0, 1⟩ := rfl
  have x5 : wakeT[5] = ⟨2, ⟨#[49, 48]⟩, 10, 7⟩ := rfl
  simp only [x1, x5] at c0 c1 c2 c3 d0 d1 d2 d3
  rw [w1]
  have HB := Lib.hid hb
  clear ho ht q w1 x1 x5 hb a1 a5
  go_wp2_with fail
  go_ret
  exact ⟨rfl, HB.out⟩
end Go.Proofs.YthbealndbfboiaaDoor
