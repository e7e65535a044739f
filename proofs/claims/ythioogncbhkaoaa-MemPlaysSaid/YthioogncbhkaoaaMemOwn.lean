/-
  Rows of texts that a law builds, by append, in a range's body. Condition: few texts.
-/
import Derived.Test.YthioogncbhkaoaaMemOuts
import Derived.Test.YthioogncbhkaoaaTextsAt
import Derived.OwnWalk
import Derived.OwnWalkIn
import Derived.Deep.WholeRow
namespace Go.Proofs.Ythioogncbhkaoaa
open Go.RowKit

def OwnTexts (W : World) (base : Nat) (v : Value) (ss : List ByteArray) : Prop := W.ownsRow base 9 1 v ss.length (ss.map Value.string)
theorem OwnTexts.texts {W : World} {base : Nat} {v : Value} {ss : List ByteArray} (h : OwnTexts W base v ss) : ∃ p cap, v = .slice p ss.length cap ∧ ss.length ≤ cap ∧ cap ≤ maxLen ∧ TextsAt W p ss := by
  have hc := World.ownsRow.cells (g := (v.ownBlock).getD 0) h
  have hlt := World.ownsRow.lt h
  rcases h.2 with ⟨rfl, hn⟩ | ⟨g, cap, cur, rfl, hb, hg, h1, h2, h3, h4⟩
  · rw [hn]; exact ⟨none, 0, rfl, Nat.le_refl _, Nat.zero_le _, fun i hi => by omega⟩
  · refine ⟨some ⟨g, 0, none⟩, cap, rfl, h1, h2, fun i hi => ⟨_, rfl, (hlt g rfl).2, ?_⟩⟩
    exact hc rfl i _ (by rw [List.getElem?_map, List.getElem?_eq_getElem hi]; rfl)
theorem infoS : (Try.prog.info? 9).map (fun i => (i.zero, i.size, i.bytes)) = some (some (.string ⟨#[]⟩), 1, 16) := by kernel_rfl
theorem OwnTexts.lt {W : World} {base : Nat} {v : Value} {ss : List ByteArray} (h : OwnTexts W base v ss) : ∀ k, v.ownBlock = some k → base ≤ k ∧ k < W.heap.size := World.ownsRow.lt h
theorem OwnTexts.nil (W : World) (base : Nat) : OwnTexts W base (.slice none 0 0) [] := World.ownsRow_nil _ _ _ _
/-- A row stays where its block does. -/
theorem OwnTexts.stays {A C : World} {T : Nat} {v : Value} {ss : List ByteArray} (h : OwnTexts A T v ss) (hb : ∀ k, k < A.heap.size → T ≤ k → ¬ NoCells A k → C.heap[k]? = A.heap[k]?) : OwnTexts C T v ss := by
  refine ⟨h.1, ?_⟩
  rcases h.2 with hn | ⟨g, cap, cur, rfl, h1, h2, h3⟩
  · exact .inl hn
  · exact .inr ⟨g, cap, cur, rfl, h1, (hb g (Array.getElem?_eq_some_iff.1 h2).1 h1 fun hn => hn _ _ _ h2).trans h2, h3⟩
theorem OwnTexts.its {A C : World} {T n : Nat} {v : Value} {ss : List ByteArray} (h : OwnTexts A T v ss) (st : ItS n A C) : OwnTexts C T v ss := h.stays fun k hk _ hn => st.block k hk (.inr hn)
theorem OwnTexts.below {A C : World} {T : Nat} {v : Value} {ss : List ByteArray} (h : OwnTexts A T v ss) (hb : Below A.heap.size A C) : OwnTexts C T v ss := h.stays fun k hk _ _ => hb.block k hk
/-- Its block holds texts. -/
theorem OwnTexts.cells {A : World} {T : Nat} {v : Value} {ss : List ByteArray} (h : OwnTexts A T v ss) : ∀ k, v.ownBlock = some k → ∃ cs f, A.heap[k]? = some (.cells cs 9 f) := by
  intro k hk
  rcases h.2 with ⟨rfl, hn⟩ | ⟨g, cap, cur, rfl, h1, h2, h3⟩
  · simp [Value.ownBlock] at hk
  · simp [Value.ownBlock] at hk; subst hk; exact ⟨_, _, h2⟩
/-- What append leaves: of what lay, the row's block alone may have turned. -/
theorem grown_outs {G : List Nat} {w A C : World} {row : Option Nat} (h : Outs G w A) (hg : A.grownBy C row) (hr : ∀ k, row = some k → w.heap.size ≤ k) : Outs G w C :=
  ⟨hg.os.trans h.os, hg.tape.trans h.tape, hg.output.trans h.output, Nat.le_trans h.size hg.size, fun k hk hn => (hg.block k (Nat.lt_of_lt_of_le hk h.size) fun e => by have := hr k e.symm; omega).trans (h.block k hk hn)⟩
theorem grown_bodyK {cap : Nat → Prop} {A C : World} {row : Option Nat} (hg : A.grownBy C row) (hr : ∀ k, row = some k → ¬ cap k ∧ ¬ NoCells A k) : BodyK cap A C :=
  ⟨hg.size, fun k hk hb => hg.block k hk fun e => by
    obtain ⟨h1, h2⟩ := hr k e.symm
    rcases hb with hb | hb
    · exact h1 hb
    · exact h2 hb⟩
end Go.Proofs.Ythioogncbhkaoaa
