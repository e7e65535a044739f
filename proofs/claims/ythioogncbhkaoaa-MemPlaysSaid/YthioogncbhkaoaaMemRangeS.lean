/-
  A table and a law's ranges over it, values of type string: behind a range; what the iterator owes. Conditions: those in the theorems.
-/
import Derived.Test.YthioogncbhkaoaaMemLawS
import Derived.Test.YthioogncbhkaoaaMemOuts
namespace Go.Proofs.Ythioogncbhkaoaa.MS
open Go.RowKit
section
variable {w0 w w' A : World} {a : Nat} {L : Mm.Row} {R : List (Value × Mm.Row)} {B : List (Nat × Obj)}
theorem Mem.now (h : Mem w0 w a L R B) : Now w0 w B := by obtain ⟨p, h1, -⟩ := h; exact h1.tail
theorem Mem.lt (h : Mem w0 w a L R B) {q : Nat × Obj} (hq : q ∈ B) : q.1 < w.heap.size := h.now.lt hq
theorem Mem.alt (h : Mem w0 w a L R B) : a < w.heap.size := by obtain ⟨p, h1, -⟩ := h; exact h1.lt (q := (a, memO p)) List.mem_cons_self
theorem Mem.rt (h : Mem w0 w a L R B) {r : Value × Mm.Row} (hr : r ∈ R) : Root w r.1 r.2 := by obtain ⟨p, -, -, h3⟩ := h; exact h3 r hr
theorem Mem.outs {G G' : List (Nat × Obj)} (h : Mem w0 w a L R (G ++ B)) (ho : Outs (G.map Prod.fst) w A) (e : G'.map Prod.fst = G.map Prod.fst) (hG : ∀ q ∈ G', A.heap[q.1]? = some q.2) (hT : ∀ g ∈ G.map Prod.fst, ¬ IsNode w g) : Mem w0 A a L R (G' ++ B) := by
  obtain ⟨p, h1, h2, h3⟩ := h
  have hk := ho.kept hT
  have h4 : Now w0 w (G ++ ((a, memO p) :: B)) := h1.perm (List.perm_middle.symm)
  exact ⟨p, (h4.outs ho e hG).perm List.perm_middle, h2.kept hk, fun r hr => (h3 r hr).kept hk⟩
theorem Mem.mark {D : Nat} (h : Mem w0 A a L R B) (hK : A.heap[D]? = some (.deferred (some []))) (h0 : w0.heap.size ≤ D) (ha : a ≠ D) (hB : ∀ q ∈ B, q.1 ≠ D) : Mem w0 A a L R ((D, MarkO) :: B) := by
  obtain ⟨p, h1, h2, h3⟩ := h
  exact ⟨p, (h1.add hK h0 (fun q hq => by
    rcases List.mem_cons.1 hq with rfl | hq
    · exact ha
    · exact hB q hq)).swap, h2, h3⟩
/-- BEHIND A RANGE. -/
theorem Mem.ranged {G G' : List (Nat × Obj)} {D : Nat} (h : Mem w0 w a L R (G ++ B)) (ho : Outs (G.map Prod.fst) w A) (e : G'.map Prod.fst = G.map Prod.fst) (hG : ∀ q ∈ G', A.heap[q.1]? = some q.2) (hT : ∀ g ∈ G.map Prod.fst, ¬ IsNode w g)
    (hD : w.heap.size ≤ D) (hK : A.heap[D]? = some (.deferred (some []))) : Mem w0 A a L R ((D, MarkO) :: (G' ++ B)) := by
  have hs := h.below.size
  have ha := h.alt
  refine (h.outs ho e hG hT).mark hK (by omega) (by omega) fun q hq => ?_
  rcases List.mem_append.1 hq with hq | hq
  · have : q.1 ∈ G.map Prod.fst := e ▸ List.mem_map.2 ⟨q, hq, rfl⟩
    obtain ⟨r, hr, e'⟩ := List.mem_map.1 this
    have := h.lt (List.mem_append_left _ hr)
    omega
  · have := h.lt (List.mem_append_right _ hq)
    omega
/-- What the iterator owes, of what From gave. -/
theorem Mem.seq {b1 b2 : Nat} {p : Value} {L' : Mm.Row} {key : ByteArray} (h : Mem w0 w a L' R B) (hp : (p, L) ∈ R) (h1 : (b1, Obj.cells #[p] 27 (0, 0)) ∈ B) (h2 : (b2, Obj.cells #[.string key] 9 (0, 0)) ∈ B) (n : Nat) :
    SeqY Fence.wide n Try.prog 58 #[.pointer (some ⟨b1, 0, none⟩), .pointer (some ⟨b2, 0, none⟩)] (fun q : ByteArray × Value => #[.string q.1, q.2]) (Mm.from_ L key) (IsNode w) w :=
  from_seq n (h.box h1) (h.box h2) (h.rt hp)
end
/-- The iterator's own steps leave a table, its roots and boxes as they are. -/
theorem Mem.its {w0 A C : World} {n a : Nat} {L : Mm.Row} {R : List (Value × Mm.Row)} {B : List (Nat × Obj)} (h : Mem w0 A a L R B) (st : ItS n A C) (h0 : w0.heap.size ≤ n) (ha : a < n) (hB : ∀ q ∈ B, q.1 < n) : Mem w0 C a L R B := by
  obtain ⟨p, h1, h2, h3⟩ := h
  have hk : Kept A C := ⟨st.size, fun k hk => st.block k hk.lt (.inr fun hn => by obtain ⟨cs, T, -, h⟩ := hk; exact hn _ _ _ h)⟩
  refine ⟨p, ⟨⟨st.os.trans h1.below.os, st.tape.trans h1.below.tape, st.output.trans h1.below.output, Nat.le_trans h1.below.size st.size, fun k hk => (st.block k (by have := h1.below.size; omega) (.inl (by omega))).trans (h1.below.block k hk)⟩, fun q hq => ?_, h1.new, h1.apart⟩, h2.kept hk, fun r hr => (h3 r hr).kept hk⟩
  refine (st.block q.1 (h1.lt hq) (.inl ?_)).trans (h1.box q hq)
  rcases List.mem_cons.1 hq with rfl | hq
  · exact ha
  · exact hB q hq
theorem bodyK_only {cap : Nat → Prop} {A C : World} {w0 : World} {a : Nat} {L : Mm.Row} {R : List (Value × Mm.Row)} {B : List (Nat × Obj)} (h : Mem w0 A a L R B) (ho : Only a A C) (hc : ¬ cap a) : BodyK cap A C := by
  obtain ⟨p, h1, -⟩ := h
  exact BodyK.of_only ho.size ho.block h1.head hc
theorem Mem.aNot {w0 w : World} {a : Nat} {L : Mm.Row} {R : List (Value × Mm.Row)} {B : List (Nat × Obj)} (h : Mem w0 w a L R B) : ¬ IsNode w a := by
  obtain ⟨p, h1, -⟩ := h
  exact Tab.notNode (p := p) h1.head
/-- A box among the blocks is no node. -/
theorem Mem.notNode {w0 w : World} {a : Nat} {L : Mm.Row} {R : List (Value × Mm.Row)} {B : List (Nat × Obj)} (h : Mem w0 w a L R B) {b : Nat} {cs : Array Value} {T : TypeId} (hq : (b, Obj.cells cs T (0, 0)) ∈ B) (hT : ¬ nodeT T) : ¬ IsNode w b := not_node (h.box hq) hT
end Go.Proofs.Ythioogncbhkaoaa.MS
