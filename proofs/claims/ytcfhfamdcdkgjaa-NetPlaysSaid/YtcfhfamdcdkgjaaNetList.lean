/-
  One net in a law, beside a list of packets that the law has built. No condition but those in the theorems.
-/
import Derived.Test.YtcfhfamdcdkgjaaNetOpen
namespace Go.Proofs.Ytcfhfamdcdkgjaa
open Go.RowKit Go.Maps

/-- Since w0 the world has turned in new blocks alone; a net with N lies in them; v is a row of the packets l, in a block of its own. -/
structure InL (w0 w : World) (a : Nat) (N : Nm.Net) (v : Value) (l : List Nm.Pk) : Prop where
  ex : ∃ S : Nat → Prop, Net w a N S ∧ (∀ k, S k → w0.heap.size ≤ k ∧ k < w.heap.size) ∧ ∀ k ∈ rowBlk v, ¬ S k ∧ w0.heap.size ≤ k
  row : w.ownsRow 0 23 3 v l.length (rowCells l)
  below : Below w0.heap.size w0 w

section
variable {w0 w w' : World} {a : Nat} {N N' : Nm.Net} {v : Value} {l : List Nm.Pk}
theorem In.list {B : List (Nat × Obj)} (h : In w0 w a N B) : InL w0 w a N (.slice none 0 0) [] := by
  obtain ⟨S, h1, h2, -⟩ := h.ex
  exact ⟨⟨_, h1.tight, fun k hk => ⟨h2 k hk.1, hk.2⟩, fun k hk => nomatch hk⟩, World.ownsRow_nil _ _ _ _, h.below⟩
theorem InL.inn (h : InL w0 w a N v l) : In w0 w a N [] := by
  obtain ⟨S, h1, h2, -⟩ := h.ex
  exact ⟨⟨S, h1, fun k hk => (h2 k hk).1, fun _ h => nomatch h⟩, (fun _ h => nomatch h), h.below⟩
theorem InL.of {S : Nat → Prop} (h : InL w0 w a N v l) (h2 : ∀ k, S k → w0.heap.size ≤ k ∧ k < w.heap.size) (h3 : ∀ k ∈ rowBlk v, ¬ S k ∧ w0.heap.size ≤ k) (hn : Net w' a N' (Grow S w)) (ht : Turned S w w') : InL w0 w' a N' v l := by
  have hlt := row_lt h.row
  refine ⟨⟨_, hn.tight, fun k hk => ⟨hk.1.elim (fun e => (h2 k e).1) fun e => Nat.le_trans h.below.size e, hk.2⟩, fun k hk => ⟨fun e => e.1.elim (h3 k hk).1 fun e1 => by have := hlt k hk; omega, (h3 k hk).2⟩⟩,
    row_of h.row fun k hk => ht.block k (hlt k hk) (h3 k hk).1, h.below.trans (ht.below h.below.size fun k hk => (h2 k hk).1)⟩
theorem InL.same (h : InL w0 w a N v l) (hb : Below w.heap.size w w') : InL w0 w' a N v l := by
  obtain ⟨S, h1, h2, h3⟩ := h.ex
  exact h.of h2 h3 ((h1.below hb).mono fun k hk => .inl hk) (turned_of_below hb)
theorem InL.alloc (h : InL w0 w a N v l) (o : Obj) : InL w0 (w.alloc o) a N v l := h.same ((Below.refl _ w).alloc (Nat.le_refl _) o)
theorem InL.drewN (h : InL w0 w a N v l) (q : Nat) : InL w0 (w.drewN q) a N v l := h.same (below_drewN (Below.refl _ w) q)
theorem send_l (h : InL w0 w a N v l) (f t : Int) (d : ByteArray) (hf : Nm.Wf f) (ht : Nm.Wf t) (hd : d.size ≤ maxLen) {b : Bool} (e : Nm.send N ⟨f, t, d⟩ = (b, N')) :
    Calls Try.prog 11 #[.pointer (some ⟨a, 0, none⟩), .agg #[.int .i64 f, .int .i64 t, .string d]] w fun e w' => e = .returned (.bool b) ∧ InL w0 w' a N' v l := by
  obtain ⟨S, h1, h2, h3⟩ := h.ex
  have := send_net h1 ⟨f, t, d⟩ hf ht hd
  rw [e] at this
  exact this.mono fun _ _ ⟨he, hn, ht⟩ => ⟨he, h.of h2 h3 hn ht⟩
theorem come_l (h : InL w0 w a N v l) (i : Int) (hi : Nm.Wf i) {f t : Int} {d : ByteArray} {b : Bool} (e : Nm.come N i = (⟨f, t, d⟩, b, N')) :
    Calls Try.prog 12 #[.pointer (some ⟨a, 0, none⟩), .int .i64 i] w fun e w' => e = .returned (.tuple #[.agg #[.int .i64 f, .int .i64 t, .string d], .bool b]) ∧ InL w0 w' a N' v l := by
  obtain ⟨S, h1, h2, h3⟩ := h.ex
  have := come_net h1 i hi
  rw [e] at this
  exact this.mono fun _ _ ⟨he, hn, ht⟩ => ⟨he, h.of h2 h3 (hn.mono fun k hk => .inl hk) ht⟩
theorem lose_l (h : InL w0 w a N v l) (i : Int) (hi : Nm.Wf i) {b : Bool} (e : Nm.lose N i = (b, N')) :
    Calls Try.prog 15 #[.pointer (some ⟨a, 0, none⟩), .int .i64 i] w fun e w' => e = .returned (.bool b) ∧ InL w0 w' a N' v l := by
  obtain ⟨S, h1, h2, h3⟩ := h.ex
  have := lose_net h1 i hi
  rw [e] at this
  exact this.mono fun _ _ ⟨he, hn, ht⟩ => ⟨he, h.of h2 h3 (hn.mono fun k hk => .inl hk) ht⟩
theorem dup_l (h : InL w0 w a N v l) (i : Int) (hi : Nm.Wf i) {b : Bool} (e : Nm.dup N i = (b, N')) :
    Calls Try.prog 13 #[.pointer (some ⟨a, 0, none⟩), .int .i64 i] w fun e w' => e = .returned (.bool b) ∧ InL w0 w' a N' v l := by
  obtain ⟨S, h1, h2, h3⟩ := h.ex
  have := dup_net h1 i hi
  rw [e] at this
  exact this.mono fun _ _ ⟨he, hn, ht⟩ => ⟨he, h.of h2 h3 hn ht⟩
theorem cut_l (h : InL w0 w a N v l) (x y : Int) (on : Bool) (hx : Nm.Wf x) (hy : Nm.Wf y) (hn : N.cuts < 1000000) :
    Calls Try.prog 16 #[.pointer (some ⟨a, 0, none⟩), .int .i64 x, .int .i64 y, .bool on] w fun e w' => e = .returned (.tuple #[]) ∧ InL w0 w' a (Nm.cutTo N x y on) v l := by
  obtain ⟨S, h1, h2, h3⟩ := h.ex
  exact (cut_net h1 x y on hx hy hn).mono fun _ _ ⟨he, hn, ht⟩ => ⟨he, h.of h2 h3 hn ht⟩
theorem waiting_l (h : InL w0 w a N v l) {c : Int} (e : (N.row.length : Int) = c) :
    Calls Try.prog 14 #[.pointer (some ⟨a, 0, none⟩)] w fun e w' => e = .returned (.int .i64 c) ∧ w = w' := waiting_in h.inn e
/-- The row's slice, and the cells of the packet number i. -/
theorem InL.shape (h : InL w0 w a N v l) : ∃ p cap, v = .slice p l.length cap ∧ l.length ≤ cap ∧ cap ≤ maxLen := row_shape h.row
theorem cells_row {w : World} {v : Value} {l : List Nm.Pk} (h : w.ownsRow 0 23 3 v l.length (rowCells l)) {i : Nat} (hi : i < l.length) :
    ∃ g cap, v = .slice (some ⟨g, 0, none⟩) l.length cap ∧ w.cell? ⟨g, i * 3, none⟩ = some (.int .i64 l[i].f) ∧ w.cell? ⟨g, i * 3 + 1, none⟩ = some (.int .i64 l[i].t) ∧ w.cell? ⟨g, i * 3 + 2, none⟩ = some (.string l[i].d) := by
  obtain ⟨g, cap, cur, e, hg, h1, h2, h3, h4⟩ := row_open h (by omega)
  have cell : ∀ j, j < 3 → w.cell? ⟨g, i * 3 + j, none⟩ = (pkCells l[i])[j]? := fun j hj => by
    rw [cell_of_row w g _ cur _ _ hg, ← rowCells_get hi hj, ← h4, List.getElem?_take, if_pos (by omega)]; simp
  exact ⟨g, cap, e, cell 0 (by omega), cell 1 (by omega), cell 2 (by omega)⟩
/-- An append of one packet to the list: the net stays. -/
theorem append_l (h : InL w0 w a N v l) (p : Nm.Pk) (hl : l.length < 1000000) (ty : TypeId) :
    ∃ (pv : Option Addr) (cv nl : Nat) (w4 : World), (Builtin.append_ #[43, 43] ty #[v, .slice (some ⟨w.heap.size, 0, none⟩) 1 1]).run Try.prog (w.alloc (.cells #[.int .i64 p.f, .int .i64 p.t, .string p.d] 23)) = .ok (.slice pv nl cv) w4 ∧ nl = (l ++ [p]).length ∧ InL w0 w4 a N (.slice pv nl cv) (l ++ [p]) := by
  obtain ⟨i0, hi0, hz0, hz1, hz2⟩ := info_parts infoPk
  have hA := h.alloc (.cells #[.int .i64 p.f, .int .i64 p.t, .string p.d] 23)
  have hnews : ∀ j u, (pkCells p)[j]? = some u → (w.alloc (.cells #[.int .i64 p.f, .int .i64 p.t, .string p.d] 23)).cell? ((⟨w.heap.size, 0, none⟩ : Addr).add j) = some u := fun j u hu => by
    have hadd : (⟨w.heap.size, 0, none⟩ : Addr).add j = ⟨w.heap.size, j, none⟩ := by unfold Addr.add; split <;> simp_all
    rw [hadd, cell_of_row _ _ _ _ _ _ (heap_alloc_new w _)]
    simpa [pkCells] using hu
  obtain ⟨v', w4, hrun, ho, hg, hnil, hat⟩ := run_append_own_at (P := Try.prog) (w.alloc (.cells #[.int .i64 p.f, .int .i64 p.t, .string p.d] 23)) 0 43 ty 23 i0 _ 3 32 Try.underlying43 hi0 hz0 hz1 hz2 rfl (by decide) v _ _ hA.row
    ⟨w.heap.size, 0, none⟩ 1 1 (pkCells p) rfl hnews (fun u hu => by simp [pkCells] at hu; rcases hu with rfl | rfl | rfl <;> rfl) (by unfold maxLen; omega) (by omega) (Nat.zero_le _)
  obtain ⟨S, h1, h2, h3⟩ := hA.ex
  have ho2 : w4.ownsRow 0 23 3 v' (l ++ [p]).length (rowCells (l ++ [p])) := by
    rw [rowCells_append, List.length_append]
    have e : rowCells [p] = pkCells p := by simp [rowCells]
    rw [e]; exact ho
  obtain ⟨pv, cv, rfl, -, -⟩ := row_shape ho2
  refine ⟨pv, cv, _, w4, hrun, rfl, ⟨S, h1.stay (turned_grown (S := fun k => k ∈ rowBlk v) hg fun k hk => ownBlock_row.1 hk) fun k hk e => (h3 k e).1 hk, fun k hk => ⟨(h2 k hk).1, Nat.lt_of_lt_of_le (h2 k hk).2 hg.size⟩, fun k hk => ?_⟩, ho2, ?_⟩
  · rcases hat with e | e
    · exact h3 k (ownBlock_row.1 (by rw [← e]; exact ownBlock_row.2 hk))
    · have e2 := ownBlock_row.2 hk
      rw [e] at e2
      have e3 := Option.some.inj e2
      exact ⟨fun e4 => by have := (h2 k e4).2; omega, by have := hA.below.size; omega⟩
  · exact hA.below.grown hg hA.below.size fun k hk => (h3 k (ownBlock_row.1 hk)).2
end
end Go.Proofs.Ytcfhfamdcdkgjaa
