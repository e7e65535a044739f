/-
  Two nets in a law, beside a list of packets that the law has built; the list built anew of parts of it. Conditions: those in the theorems.
-/
import Derived.Test.YtcfhfamdcdkgjaaNetList
import Derived.Test.YtcfhfamdcdkgjaaNetTwo
namespace Go.Proofs.Ytcfhfamdcdkgjaa
open Go.RowKit Go.Maps

/-- Since w0 the world has turned in new blocks alone; two nets with N and M lie in them, apart; v is a row of the packets l, in a block of its own. -/
structure TwoL (w0 w : World) (a : Nat) (N : Nm.Net) (b : Nat) (M : Nm.Net) (v : Value) (l : List Nm.Pk) : Prop where
  ex : ∃ S T : Nat → Prop, Net w a N S ∧ Net w b M T ∧ (∀ k, S k → w0.heap.size ≤ k ∧ k < w.heap.size) ∧ (∀ k, T k → w0.heap.size ≤ k ∧ k < w.heap.size) ∧ (∀ k, S k → ¬ T k) ∧ ∀ k ∈ rowBlk v, ¬ S k ∧ ¬ T k ∧ w0.heap.size ≤ k
  row : w.ownsRow 0 23 3 v l.length (rowCells l)
  below : Below w0.heap.size w0 w

section
variable {w0 w w' : World} {a b : Nat} {N N' M : Nm.Net} {v v' : Value} {l l' : List Nm.Pk}
theorem TwoL.swap (h : TwoL w0 w a N b M v l) : TwoL w0 w b M a N v l := by
  obtain ⟨S, T, h1, h2, h3, h4, h5, h6⟩ := h.ex
  exact ⟨⟨T, S, h2, h1, h4, h3, fun k hk e => h5 k e hk, fun k hk => ⟨(h6 k hk).2.1, (h6 k hk).1, (h6 k hk).2.2⟩⟩, h.row, h.below⟩
theorem TwoL.one (h : TwoL w0 w a N b M v l) : InL w0 w a N v l := by
  obtain ⟨S, T, h1, h2, h3, h4, h5, h6⟩ := h.ex
  exact ⟨⟨S, h1, h3, fun k hk => ⟨(h6 k hk).1, (h6 k hk).2.2⟩⟩, h.row, h.below⟩
theorem TwoL.of {S T : Nat → Prop} (h : TwoL w0 w a N b M v l) (h2 : Net w b M T) (h3 : ∀ k, S k → w0.heap.size ≤ k ∧ k < w.heap.size) (h4 : ∀ k, T k → w0.heap.size ≤ k ∧ k < w.heap.size) (h5 : ∀ k, S k → ¬ T k) (h6 : ∀ k ∈ rowBlk v, ¬ S k ∧ ¬ T k ∧ w0.heap.size ≤ k)
    (hn : Net w' a N' (Grow S w)) (ht : Turned S w w') : TwoL w0 w' a N' b M v l := by
  have hlt := row_lt h.row
  refine ⟨⟨_, T, hn.tight, h2.stay ht fun k hk e => h5 k e hk, fun k hk => ⟨hk.1.elim (fun e => (h3 k e).1) fun e => Nat.le_trans h.below.size e, hk.2⟩, fun k hk => ⟨(h4 k hk).1, Nat.lt_of_lt_of_le (h4 k hk).2 ht.size⟩,
      fun k hk e => hk.1.elim (fun e1 => h5 k e1 e) fun e1 => by have := (h4 k e).2; omega, fun k hk => ⟨fun e => e.1.elim (h6 k hk).1 fun e1 => by have := hlt k hk; omega, (h6 k hk).2⟩⟩,
    row_of h.row fun k hk => ht.block k (hlt k hk) (h6 k hk).1, h.below.trans (ht.below h.below.size fun k hk => (h3 k hk).1)⟩
/-- Where all that was stays, and the list may be another one, in new blocks. -/
theorem TwoL.list (h : TwoL w0 w a N b M v l) (hb : Below w.heap.size w w') (hr : w'.ownsRow 0 23 3 v' l'.length (rowCells l')) (hf : ∀ k ∈ rowBlk v', w.heap.size ≤ k) : TwoL w0 w' a N b M v' l' := by
  obtain ⟨S, T, h1, h2, h3, h4, h5, h6⟩ := h.ex
  refine ⟨⟨S, T, h1.below hb, h2.below hb, fun k hk => ⟨(h3 k hk).1, Nat.lt_of_lt_of_le (h3 k hk).2 hb.size⟩, fun k hk => ⟨(h4 k hk).1, Nat.lt_of_lt_of_le (h4 k hk).2 hb.size⟩, h5, fun k hk => ?_⟩, hr, h.below.trans (hb.mono h.below.size)⟩
  have h7 := hf k hk
  exact ⟨fun e => by have := (h3 k e).2; omega, fun e => by have := (h4 k e).2; omega, Nat.le_trans h.below.size h7⟩
theorem TwoL.same (h : TwoL w0 w a N b M v l) (hb : Below w.heap.size w w') : TwoL w0 w' a N b M v l := by
  obtain ⟨S, T, h1, h2, h3, h4, h5, h6⟩ := h.ex
  exact h.of h2 h3 h4 h5 h6 ((h1.below hb).mono fun k hk => .inl hk) (turned_of_below hb)
theorem TwoL.alloc (h : TwoL w0 w a N b M v l) (o : Obj) : TwoL w0 (w.alloc o) a N b M v l := h.same ((Below.refl _ w).alloc (Nat.le_refl _) o)
theorem TwoL.drewN (h : TwoL w0 w a N b M v l) (q : Nat) : TwoL w0 (w.drewN q) a N b M v l := h.same (below_drewN (Below.refl _ w) q)
theorem twin_l (h : InL w0 w a N v l) : Calls Try.prog 18 #[.pointer (some ⟨a, 0, none⟩)] w fun e w' => ∃ b, e = .returned (.pointer (some ⟨b, 0, none⟩)) ∧ TwoL w0 w' a N b N v l := by
  obtain ⟨S, h1, h2, h3⟩ := h.ex
  have hlt := row_lt h.row
  refine (twin_net h1).mono fun e w' ⟨b, he, hn, hb⟩ => ⟨b, he, ⟨⟨S, _, h1.below hb, hn.tight, fun k hk => ⟨(h2 k hk).1, Nat.lt_of_lt_of_le (h2 k hk).2 hb.size⟩, fun k hk => ⟨Nat.le_trans h.below.size hk.1, hk.2⟩, fun k hk e => ?_, fun k hk => ⟨(h3 k hk).1, fun e => ?_, (h3 k hk).2⟩⟩, row_of h.row fun k hk => hb.block k (hlt k hk), h.below.trans (hb.mono h.below.size)⟩⟩
  · have h4 := (h2 k hk).2; have h5 : w.heap.size ≤ k := e.1; omega
  · have h4 := hlt k hk; have h5 : w.heap.size ≤ k := e.1; omega
theorem come_tl (h : TwoL w0 w a N b M v l) (i : Int) (hi : Nm.Wf i) {f t : Int} {d : ByteArray} {c : Bool} (e : Nm.come N i = (⟨f, t, d⟩, c, N')) :
    Calls Try.prog 12 #[.pointer (some ⟨a, 0, none⟩), .int .i64 i] w fun e w' => e = .returned (.tuple #[.agg #[.int .i64 f, .int .i64 t, .string d], .bool c]) ∧ TwoL w0 w' a N' b M v l := by
  obtain ⟨S, T, h1, h2, h3, h4, h5, h6⟩ := h.ex
  have := come_net h1 i hi
  rw [e] at this
  exact this.mono fun _ _ ⟨he, hn, ht⟩ => ⟨he, h.of h2 h3 h4 h5 h6 (hn.mono fun k hk => .inl hk) ht⟩
theorem waiting_tl (h : TwoL w0 w a N b M v l) {c : Int} (e : (N.row.length : Int) = c) :
    Calls Try.prog 14 #[.pointer (some ⟨a, 0, none⟩)] w fun e w' => e = .returned (.int .i64 c) ∧ w = w' := waiting_in h.one.inn e

/-- A part of a row is appended to another row. -/
theorem append_part {W : World} {v : Value} {xs l : List Nm.Pk} {g cap : Nat} (hv : W.ownsRow 0 23 3 v xs.length (rowCells xs)) (hrow : W.ownsRow 0 23 3 (.slice (some ⟨g, 0, none⟩) l.length cap) l.length (rowCells l))
    (j m : Nat) (hjm : j + m ≤ l.length) (A : Addr) (hA : m = 0 ∨ A = ⟨g, j * 3, none⟩) (c : Nat) (hs : xs.length + m ≤ 100000) (n : Nat) (hn : n = xs.length + m) (ty : TypeId) :
    ∃ (pv : Option Addr) (cv : Nat) (W' : World), (Builtin.append_ #[43, 43] ty #[v, .slice (some A) m c]).run Try.prog W = .ok (.slice pv n cv) W' ∧
      W'.ownsRow 0 23 3 (.slice pv n cv) n (rowCells (xs ++ (l.drop j).take m)) ∧ Turned (fun k => k ∈ rowBlk v) W W' ∧ (∀ k ∈ rowBlk (.slice pv n cv), k ∈ rowBlk v ∨ W.heap.size ≤ k) := by
  subst hn
  obtain ⟨i0, hi0, hz0, hz1, hz2⟩ := info_parts infoPk
  have hlen : ((l.drop j).take m).length = m := by rw [List.length_take, List.length_drop]; omega
  have hnews : ∀ q u, (rowCells ((l.drop j).take m))[q]? = some u → W.cell? (A.add q) = some u := fun q u hu => by
    have hq : q < m * 3 := by
      have := (List.getElem?_eq_some_iff.1 hu).1
      rw [rowCells_length, hlen] at this; exact this
    rcases hA with e0 | rfl
    · omega
    · have hadd : (⟨g, j * 3, none⟩ : Addr).add q = ⟨g, j * 3 + q, none⟩ := by unfold Addr.add; split <;> simp_all
      rcases hrow.2 with ⟨e, -⟩ | ⟨g', cap', cur, e, h2, hg, h4, h5, h6, h7⟩
      · cases e
      · cases e
        rw [hadd, cell_of_row W g _ cur _ _ hg]
        rw [← rowCells_take, ← rowCells_drop, List.getElem?_take, if_pos hq, List.getElem?_drop, ← h7, List.getElem?_take, if_pos (by omega)] at hu
        rw [← hu]; simp
  obtain ⟨v', W', hrun, ho, hg, hnil, hat⟩ := run_append_own_at (P := Try.prog) W 0 43 ty 23 i0 _ 3 32 Try.underlying43 hi0 hz0 hz1 hz2 rfl (by decide) v _ _ hv
    A m c (rowCells ((l.drop j).take m)) (by rw [rowCells_length, hlen]) hnews (rowCells_one _) (by unfold maxLen; omega) (by omega) (Nat.zero_le _)
  rw [← rowCells_append] at ho
  obtain ⟨pv, cv, rfl, -, -⟩ := row_shape ho
  refine ⟨pv, cv, W', hrun, ho, turned_grown (S := fun k => k ∈ rowBlk v) hg fun k hk => ownBlock_row.1 hk, fun k hk => ?_⟩
  rcases hat with e | e
  · exact .inl (ownBlock_row.1 (by rw [← e]; exact ownBlock_row.2 hk))
  · have e2 := ownBlock_row.2 hk
    rw [e] at e2
    have e3 := Option.some.inj e2
    exact .inr (by omega)
/-- What the list is behind 'append(append([]Packet{}, on[:m]...), on[m+1:]...)': both appends as they run, and where all stands then. -/
theorem remake_tl {W : World} {a b : Nat} {N M : Nm.Net} {l : List Nm.Pk} {g cap : Nat} (h : TwoL w0 W a N b M (.slice (some ⟨g, 0, none⟩) l.length cap) l) {m j : Nat} (hm : m < l.length) (hj : j = m + 1) (hl : l.length ≤ 1000) (A : Addr) (hA : l.length - j = 0 ∨ A = ⟨g, j * 3, none⟩) (c1 c2 : Nat) (ty : TypeId) :
    ∃ (p8 : Option Addr) (c8 : Nat) (W8 : World), (Builtin.append_ #[43, 43] ty #[.slice (some ⟨W.heap.size, 0, none⟩) 0 0, .slice (some ⟨g, 0, none⟩) m c1]).run Try.prog (W.alloc (.cells #[] 23)).drew = .ok (.slice p8 m c8) W8 ∧
      ∃ (p9 : Option Addr) (c9 : Nat) (W9 : World), (Builtin.append_ #[43, 43] ty #[.slice p8 m c8, .slice (some A) (l.length - j) c2]).run Try.prog W8 = .ok (.slice p9 (l.eraseIdx m).length c9) W9 ∧ TwoL w0 W9 a N b M (.slice p9 (l.eraseIdx m).length c9) (l.eraseIdx m) := by
  subst hj
  have hb7 : Below W.heap.size W (W.alloc (.cells #[] 23)).drew := ((Below.refl _ W).alloc (Nat.le_refl _) _).drew
  have h7 := h.same hb7
  have hz : (W.alloc (.cells #[] 23)).drew.heap[W.heap.size]? = some (.cells #[] 23 (0, 0)) := heap_alloc_new W _
  have hv0 : (W.alloc (.cells #[] 23)).drew.ownsRow 0 23 3 (.slice (some ⟨W.heap.size, 0, none⟩) 0 0) (List.length ([] : List Nm.Pk)) (rowCells []) := ⟨rfl, .inr ⟨_, 0, #[], rfl, Nat.zero_le _, hz, Nat.le_refl _, Nat.zero_le _, rfl, rfl⟩⟩
  obtain ⟨p8, c8, W8, hrun8, ho8, hT8, hb8⟩ := append_part hv0 h7.row 0 m (by omega) ⟨g, 0, none⟩ (.inr (by simp)) c1 (by simp; omega) m (by simp) ty
  have hg : g < W.heap.size := row_lt h.row g (by simp [rowBlk])
  have hrow8 := row_of h7.row fun k hk => hT8.block k (row_lt h7.row k hk) (by
    intro e
    simp [rowBlk] at e hk
    omega)
  rw [List.nil_append, List.drop_zero] at ho8
  have hlt : (l.take m).length = m := by rw [List.length_take]; omega
  have hle : (l.eraseIdx m).length = m + (l.length - (m + 1)) := by rw [List.length_eraseIdx, if_pos hm]; omega
  obtain ⟨p9, c9, W9, hrun9, ho9, hT9, hb9⟩ := append_part (xs := l.take m) (by rw [hlt]; exact ho8) hrow8 (m + 1) (l.length - (m + 1)) (by omega) A hA c2 (by omega) (l.eraseIdx m).length (by omega) ty
  have e1 : l.take m ++ (l.drop (m + 1)).take (l.length - (m + 1)) = l.eraseIdx m := by
    have h0 : (l.drop (m + 1)).take (l.length - (m + 1)) = l.drop (m + 1) := List.take_of_length_le (by rw [List.length_drop]; omega)
    rw [h0, List.eraseIdx_eq_take_drop_succ]
  rw [e1] at ho9
  refine ⟨p8, c8, W8, hrun8, p9, c9, W9, hrun9, ?_⟩
  have hblk8 : ∀ k ∈ rowBlk (.slice p8 m c8), W.heap.size ≤ k := fun k hk => (hb8 k hk).elim (fun e => by simp [rowBlk] at e; omega) fun e => Nat.le_trans hb7.size e
  have hB8 : Below W.heap.size W W8 := hb7.trans (hT8.below hb7.size fun k hk => by simp [rowBlk] at hk; omega)
  have hB9 : Below W.heap.size W W9 := hB8.trans (hT9.below hB8.size hblk8)
  exact h.list hB9 ho9 fun k hk => (hb9 k hk).elim (hblk8 k) fun e => Nat.le_trans hB8.size e
end
end Go.Proofs.Ytcfhfamdcdkgjaa
