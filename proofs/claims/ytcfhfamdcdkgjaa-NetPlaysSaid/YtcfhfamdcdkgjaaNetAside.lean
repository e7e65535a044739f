/-
  A net in a law beside blocks that stay as they were (a list, a box, a twin). No condition but those in the theorems.
-/
import Derived.Test.YtcfhfamdcdkgjaaNetAllList
namespace Go.Proofs.Ytcfhfamdcdkgjaa
open Go.RowKit Go.Maps

/-- Since w0 the world has turned in new blocks alone; a net with N lies in them; the blocks of K are none of its, and are as they were in wk. -/
structure NAside (w0 wk w : World) (a : Nat) (N : Nm.Net) (K : Nat → Prop) : Prop where
  ex : ∃ S : Nat → Prop, Net w a N S ∧ (∀ k, S k → w0.heap.size ≤ k ∧ k < w.heap.size) ∧ (∀ k, S k → ¬ K k)
  lt : ∀ k, K k → k < w.heap.size
  kept : ∀ k, K k → w.heap[k]? = wk.heap[k]?
  below : Below w0.heap.size w0 w

section
variable {w0 wk w w' : World} {a : Nat} {N N' : Nm.Net} {K K' T : Nat → Prop}
theorem In.naside {B : List (Nat × Obj)} (h : In w0 w a N B) : NAside w0 w w a N fun _ => False := by
  obtain ⟨S, h1, h2, -⟩ := h.ex
  exact ⟨⟨_, h1.tight, fun k hk => ⟨h2 k hk.1, hk.2⟩, fun _ _ e => e⟩, (fun _ e => e.elim), fun _ _ => rfl, h.below⟩
theorem NAside.of {S : Nat → Prop} (h : NAside w0 wk w a N K) (h2 : ∀ k, S k → w0.heap.size ≤ k ∧ k < w.heap.size) (h3 : ∀ k, S k → ¬ K k) (hn : Net w' a N' (Grow S w)) (ht : Turned S w w') : NAside w0 wk w' a N' K :=
  ⟨⟨_, hn.tight, fun k hk => ⟨hk.1.elim (fun e => (h2 k e).1) fun e => Nat.le_trans h.below.size e, hk.2⟩, fun k hk e => hk.1.elim (fun e1 => h3 k e1 e) fun e1 => Nat.lt_irrefl _ (Nat.lt_of_lt_of_le (h.lt k e) e1)⟩,
    fun k hk => Nat.lt_of_lt_of_le (h.lt k hk) ht.size, fun k hk => (ht.block k (h.lt k hk) fun e => h3 k e hk).trans (h.kept k hk), h.below.trans (ht.below h.below.size fun k e => (h2 k e).1)⟩
theorem NAside.same (h : NAside w0 wk w a N K) (hb : Below w.heap.size w w') : NAside w0 wk w' a N K := by
  obtain ⟨S, h1, h2, h3⟩ := h.ex
  exact h.of h2 h3 ((h1.below hb).mono fun k hk => .inl hk) (turned_of_below hb)
theorem NAside.turn (h : NAside w0 wk w a N K) (ht : Turned T w w') (hT : ∀ k, T k → K k ∧ w0.heap.size ≤ k) (hK : ∀ k, K' k → (K k ∨ w.heap.size ≤ k) ∧ k < w'.heap.size) : NAside w0 w' w' a N K' := by
  obtain ⟨S, h1, h2, h3⟩ := h.ex
  exact ⟨⟨S, h1.stay ht fun k hk e => h3 k hk (hT k e).1, fun k hk => ⟨(h2 k hk).1, Nat.lt_of_lt_of_le (h2 k hk).2 ht.size⟩, fun k hk e => (hK k e).1.elim (h3 k hk) fun e => by have := (h2 k hk).2; omega⟩, fun k hk => (hK k hk).2, fun _ _ => rfl, h.below.trans (ht.below h.below.size fun k hk => (hT k hk).2)⟩
theorem NAside.rebase (h : NAside w0 wk w a N K) (hK : ∀ k, K' k → K k) : NAside w0 w w a N K' := by
  obtain ⟨S, h1, h2, h3⟩ := h.ex
  exact ⟨⟨S, h1, h2, fun k hk e => h3 k hk (hK k e)⟩, fun k hk => h.lt k (hK k hk), fun _ _ => rfl, h.below⟩
theorem NAside.grow (h : NAside w0 wk w a N K) (hb : Below w.heap.size w w') (hK : ∀ k, K' k → K k ∨ (w.heap.size ≤ k ∧ k < w'.heap.size)) : NAside w0 w' w' a N K' := by
  obtain ⟨S, h1, h2, h3⟩ := h.ex
  exact ⟨⟨S, h1.below hb, fun k hk => ⟨(h2 k hk).1, Nat.lt_of_lt_of_le (h2 k hk).2 hb.size⟩, fun k hk e => (hK k e).elim (h3 k hk) fun e => by have := (h2 k hk).2; omega⟩, fun k hk => (hK k hk).elim (fun e => Nat.lt_of_lt_of_le (h.lt k e) hb.size) (·.2), fun _ _ => rfl, h.below.trans (hb.mono h.below.size)⟩
theorem NAside.back (h : NAside w0 wk w a N K) {W : World} (hs : ∀ k, K' k → K k) (hk : ∀ k, K' k → wk.heap[k]? = W.heap[k]?) : NAside w0 W w a N K' := by
  obtain ⟨S, h1, h2, h3⟩ := h.ex
  exact ⟨⟨S, h1, h2, fun k hk e => h3 k hk (hs k e)⟩, fun k hk' => h.lt k (hs k hk'), fun k hk' => (h.kept k (hs k hk')).trans (hk k hk'), h.below⟩
theorem send_na (h : NAside w0 wk w a N K) (f t : Int) (d : ByteArray) (hf : Nm.Wf f) (ht : Nm.Wf t) (hd : d.size ≤ maxLen) {b : Bool} (e : Nm.send N ⟨f, t, d⟩ = (b, N')) :
    Calls Try.prog 11 #[.pointer (some ⟨a, 0, none⟩), .agg #[.int .i64 f, .int .i64 t, .string d]] w fun e w' => e = .returned (.bool b) ∧ NAside w0 wk w' a N' K := by
  obtain ⟨S, h1, h2, h3⟩ := h.ex
  have := send_net h1 ⟨f, t, d⟩ hf ht hd
  rw [e] at this
  exact this.mono fun _ _ ⟨he, hn, ht⟩ => ⟨he, h.of h2 h3 hn ht⟩
theorem come_na (h : NAside w0 wk w a N K) (i : Int) (hi : Nm.Wf i) {f t : Int} {d : ByteArray} {b : Bool} (e : Nm.come N i = (⟨f, t, d⟩, b, N')) :
    Calls Try.prog 12 #[.pointer (some ⟨a, 0, none⟩), .int .i64 i] w fun e w' => e = .returned (.tuple #[.agg #[.int .i64 f, .int .i64 t, .string d], .bool b]) ∧ NAside w0 wk w' a N' K := by
  obtain ⟨S, h1, h2, h3⟩ := h.ex
  have := come_net h1 i hi
  rw [e] at this
  exact this.mono fun _ _ ⟨he, hn, ht⟩ => ⟨he, h.of h2 h3 (hn.mono fun k hk => .inl hk) ht⟩
theorem dup_na (h : NAside w0 wk w a N K) (i : Int) (hi : Nm.Wf i) {b : Bool} (e : Nm.dup N i = (b, N')) :
    Calls Try.prog 13 #[.pointer (some ⟨a, 0, none⟩), .int .i64 i] w fun e w' => e = .returned (.bool b) ∧ NAside w0 wk w' a N' K := by
  obtain ⟨S, h1, h2, h3⟩ := h.ex
  have := dup_net h1 i hi
  rw [e] at this
  exact this.mono fun _ _ ⟨he, hn, ht⟩ => ⟨he, h.of h2 h3 hn ht⟩
theorem cut_na (h : NAside w0 wk w a N K) (x y : Int) (on : Bool) (hx : Nm.Wf x) (hy : Nm.Wf y) (hn : N.cuts < 1000000) :
    Calls Try.prog 16 #[.pointer (some ⟨a, 0, none⟩), .int .i64 x, .int .i64 y, .bool on] w fun e w' => e = .returned (.tuple #[]) ∧ NAside w0 wk w' a (Nm.cutTo N x y on) K := by
  obtain ⟨S, h1, h2, h3⟩ := h.ex
  exact (cut_net h1 x y on hx hy hn).mono fun _ _ ⟨he, hn, ht⟩ => ⟨he, h.of h2 h3 hn ht⟩
theorem waiting_na (h : NAside w0 wk w a N K) {c : Int} (e : (N.row.length : Int) = c) :
    Calls Try.prog 14 #[.pointer (some ⟨a, 0, none⟩)] w fun e w' => e = .returned (.int .i64 c) ∧ w = w' := by
  obtain ⟨S, ⟨rv, mv, h1, -⟩, -⟩ := h.ex
  rw [← e]; exact waiting_rep h1
/-- A twin: it is told beside the net, and the net beside it. -/
theorem twin_na (h : NAside w0 wk w a N K) : Calls Try.prog 18 #[.pointer (some ⟨a, 0, none⟩)] w fun e w' => ∃ t, e = .returned (.pointer (some ⟨t, 0, none⟩)) ∧
    Net w' t N (fun k => w.heap.size ≤ k ∧ k < w'.heap.size) ∧ (∀ k, K k → w'.heap[k]? = wk.heap[k]?) ∧ NAside w0 w' w' a N fun k => K k ∨ (w.heap.size ≤ k ∧ k < w'.heap.size) := by
  obtain ⟨S, h1, h2, h3⟩ := h.ex
  exact (twin_net h1).mono fun _ _ ⟨t, he, hn, hb⟩ => ⟨t, he, hn.tight, fun k hk => (hb.block k (h.lt k hk)).trans (h.kept k hk), h.grow hb fun k hk => hk⟩

/-- Behind an act of a law: a net, a list of packets, the act's box. -/
structure NMid (w0 w : World) (a : Nat) (N : Nm.Net) (v : Value) (L : List Nm.Pk) (b : Nat) (o : Obj) : Prop where
  aside : NAside w0 w w a N fun k => k ∈ rowBlk v ∨ k = b
  row : w.ownsRow 0 23 3 v L.length (rowCells L)
  fresh : ∀ k ∈ rowBlk v, w0.heap.size ≤ k
  box : w.heap[b]? = some o
  new : w0.heap.size ≤ b
  apart : b ∉ rowBlk v
/-- The head of a round: without a box. -/
structure NHead (w0 w : World) (a : Nat) (N : Nm.Net) (v : Value) (L : List Nm.Pk) : Prop where
  aside : NAside w0 w w a N fun k => k ∈ rowBlk v
  row : w.ownsRow 0 23 3 v L.length (rowCells L)
  fresh : ∀ k ∈ rowBlk v, w0.heap.size ≤ k
variable {v : Value} {L : List Nm.Pk} {b : Nat} {o : Obj}
theorem In.nhead {B : List (Nat × Obj)} (h : In w0 w a N B) : NHead w0 w a N (.slice none 0 0) [] :=
  ⟨h.naside.rebase fun _ e => (nomatch e), World.ownsRow_nil _ _ _ _, fun _ e => nomatch e⟩
theorem NHead.box (h : NHead w0 w a N v L) (o : Obj) : NMid w0 (w.alloc o) a N v L w.heap.size o := by
  have hb : Below w.heap.size w (w.alloc o) := (Below.refl _ w).alloc (Nat.le_refl _) o
  have hlt := row_lt h.row
  exact ⟨h.aside.grow hb fun k hk => hk.elim .inl fun e => .inr ⟨by omega, by rw [e]; simp⟩, row_of h.row fun k hk => hb.block k (hlt k hk), h.fresh, heap_alloc_new w o, h.aside.below.size, fun e => Nat.lt_irrefl _ (hlt _ e)⟩
theorem NMid.head (h : NMid w0 w a N v L b o) : NHead w0 w a N v L := ⟨h.aside.rebase fun _ hk => .inl hk, h.row, h.fresh⟩
theorem NMid.of (h : NMid w0 w a N v L b o) (ha : NAside w0 w w' a N' fun k => k ∈ rowBlk v ∨ k = b) : NMid w0 w' a N' v L b o :=
  ⟨ha.rebase fun _ hk => hk, row_of h.row fun k hk => ha.kept k (.inl hk), h.fresh, (ha.kept b (.inr rfl)).trans h.box, h.new, h.apart⟩
theorem NMid.same (h : NMid w0 w a N v L b o) (hb : Below w.heap.size w w') : NMid w0 w' a N v L b o := h.of (h.aside.same hb)
theorem NMid.alloc (h : NMid w0 w a N v L b o) (q : Obj) : NMid w0 (w.alloc q) a N v L b o := h.same ((Below.refl _ w).alloc (Nat.le_refl _) q)
theorem NMid.drewN (h : NMid w0 w a N v L b o) (q : Nat) : NMid w0 (w.drewN q) a N v L b o := h.same (below_drewN (Below.refl _ w) q)
theorem NMid.list {v' : Value} {L' : List Nm.Pk} (h : NMid w0 w a N v L b o) (hb : Below w.heap.size w w') (hr : w'.ownsRow 0 23 3 v' L'.length (rowCells L')) (hf : ∀ k ∈ rowBlk v', w.heap.size ≤ k) : NMid w0 w' a N v' L' b o := by
  have hbl : b < w.heap.size := (Array.getElem?_eq_some_iff.1 h.box).1
  exact ⟨h.aside.grow hb fun k hk => hk.elim (fun e => .inr ⟨hf k e, row_lt hr k e⟩) fun e => .inl (.inr e), hr, fun k hk => Nat.le_trans h.aside.below.size (hf k hk), (hb.block _ hbl).trans h.box, h.new, fun e => by have := hf b e; omega⟩
theorem NMid.append (h : NMid w0 w a N v L b o) (f t : Int) (d : ByteArray) (hl : L.length < 10000) (ty : TypeId) :
    ∃ (pv : Option Addr) (cv : Nat) (w4 : World), (Builtin.append_ #[43, 43] ty #[v, .slice (some ⟨w.heap.size, 0, none⟩) 1 1]).run Try.prog (w.alloc (.cells #[.int .i64 f, .int .i64 t, .string d] 23)) = .ok (.slice pv (L.length + 1) cv) w4 ∧ NMid w0 w4 a N (.slice pv (L ++ [(⟨f, t, d⟩ : Nm.Pk)]).length cv) (L ++ [(⟨f, t, d⟩ : Nm.Pk)]) b o := by
  have h7 := h.alloc (.cells #[.int .i64 f, .int .i64 t, .string d] 23)
  have hsrc : (w.alloc (.cells #[.int .i64 f, .int .i64 t, .string d] 23)).ownsRow 0 23 3 (.slice (some ⟨w.heap.size, 0, none⟩) (List.length [(⟨f, t, d⟩ : Nm.Pk)]) 1) (List.length [(⟨f, t, d⟩ : Nm.Pk)]) (rowCells [⟨f, t, d⟩]) :=
    ⟨rfl, .inr ⟨_, 1, _, rfl, Nat.zero_le _, heap_alloc_new w _, Nat.le_refl _, by unfold maxLen; omega, rfl, rfl⟩⟩
  obtain ⟨pv, cv, w4, hrun, ho, hT, hb⟩ := append_part h7.row hsrc 0 1 (by simp) ⟨w.heap.size, 0, none⟩ (.inr (by simp)) 1 (by omega) (L.length + 1) rfl ty
  have hl1 : (L ++ [(⟨f, t, d⟩ : Nm.Pk)]).length = L.length + 1 := by simp
  have e1 : List.take 1 (List.drop 0 [(⟨f, t, d⟩ : Nm.Pk)]) = [⟨f, t, d⟩] := rfl
  rw [e1, ← hl1] at ho
  rw [← hl1] at hb
  have hbl : b < (w.alloc (.cells #[.int .i64 f, .int .i64 t, .string d] 23)).heap.size := (Array.getElem?_eq_some_iff.1 h7.box).1
  refine ⟨pv, cv, w4, hrun, ⟨h7.aside.turn hT (fun k hk => ⟨.inl hk, h.fresh k hk⟩) fun k hk => ?_, ho, fun k hk => ?_, (hT.block b hbl h.apart).trans h7.box, h.new, fun e => ?_⟩⟩
  · rcases hk with hk | hk
    · exact ⟨(hb k hk).imp .inl id, row_lt ho k hk⟩
    · exact ⟨.inl (.inr hk), by rw [hk]; exact Nat.lt_of_lt_of_le hbl hT.size⟩
  · exact (hb k hk).elim (h.fresh k) fun e => Nat.le_trans h7.aside.below.size e
  · exact (hb b e).elim h.apart fun e => by omega
/-- What the list is behind 'append(append([]Packet{}, on[:m]...), on[m+1:]...)'. -/
theorem NMid.remake {g cap : Nat} (h : NMid w0 w a N (.slice (some ⟨g, 0, none⟩) L.length cap) L b o) {m j : Nat} (hm : m < L.length) (hj : j = m + 1) (hl : L.length ≤ 1000) (A : Addr) (hA : L.length - j = 0 ∨ A = ⟨g, j * 3, none⟩) (c1 c2 : Nat) (ty : TypeId) :
    ∃ (p8 : Option Addr) (c8 : Nat) (W8 : World), (Builtin.append_ #[43, 43] ty #[.slice (some ⟨w.heap.size, 0, none⟩) 0 0, .slice (some ⟨g, 0, none⟩) m c1]).run Try.prog (w.alloc (.cells #[] 23)).drew = .ok (.slice p8 m c8) W8 ∧
      ∃ (p9 : Option Addr) (c9 : Nat) (W9 : World), (Builtin.append_ #[43, 43] ty #[.slice p8 m c8, .slice (some A) (L.length - j) c2]).run Try.prog W8 = .ok (.slice p9 (L.eraseIdx m).length c9) W9 ∧ NMid w0 W9 a N (.slice p9 (L.eraseIdx m).length c9) (L.eraseIdx m) b o := by
  subst hj
  have hb7 : Below w.heap.size w (w.alloc (.cells #[] 23)).drew := ((Below.refl _ w).alloc (Nat.le_refl _) _).drew
  have h7 := h.same hb7
  have hz : (w.alloc (.cells #[] 23)).drew.heap[w.heap.size]? = some (.cells #[] 23 (0, 0)) := heap_alloc_new w _
  have hv0 : (w.alloc (.cells #[] 23)).drew.ownsRow 0 23 3 (.slice (some ⟨w.heap.size, 0, none⟩) 0 0) (List.length ([] : List Nm.Pk)) (rowCells []) := ⟨rfl, .inr ⟨_, 0, #[], rfl, Nat.zero_le _, hz, Nat.le_refl _, Nat.zero_le _, rfl, rfl⟩⟩
  obtain ⟨p8, c8, W8, hrun8, ho8, hT8, hb8⟩ := append_part hv0 h7.row 0 m (by omega) ⟨g, 0, none⟩ (.inr (by simp)) c1 (by simp; omega) m (by simp) ty
  have hg : g < w.heap.size := row_lt h.row g (by simp [rowBlk])
  have hrow8 := row_of h7.row fun k hk => hT8.block k (row_lt h7.row k hk) (by
    intro e
    simp [rowBlk] at e hk
    omega)
  rw [List.nil_append, List.drop_zero] at ho8
  have hlt : (L.take m).length = m := by rw [List.length_take]; omega
  have hle : (L.eraseIdx m).length = m + (L.length - (m + 1)) := by rw [List.length_eraseIdx, if_pos hm]; omega
  obtain ⟨p9, c9, W9, hrun9, ho9, hT9, hb9⟩ := append_part (xs := L.take m) (by rw [hlt]; exact ho8) hrow8 (m + 1) (L.length - (m + 1)) (by omega) A hA c2 (by omega) (L.eraseIdx m).length (by omega) ty
  have e1 : L.take m ++ (L.drop (m + 1)).take (L.length - (m + 1)) = L.eraseIdx m := by
    have h0 : (L.drop (m + 1)).take (L.length - (m + 1)) = L.drop (m + 1) := List.take_of_length_le (by rw [List.length_drop]; omega)
    rw [h0, List.eraseIdx_eq_take_drop_succ]
  rw [e1] at ho9
  refine ⟨p8, c8, W8, hrun8, p9, c9, W9, hrun9, ?_⟩
  have hblk8 : ∀ k ∈ rowBlk (.slice p8 m c8), w.heap.size ≤ k := fun k hk => (hb8 k hk).elim (fun e => by simp [rowBlk] at e; omega) fun e => Nat.le_trans hb7.size e
  have hB8 : Below w.heap.size w W8 := hb7.trans (hT8.below hb7.size fun k hk => by simp [rowBlk] at hk; omega)
  have hB9 : Below w.heap.size w W9 := hB8.trans (hT9.below hB8.size hblk8)
  exact h.list hB9 ho9 fun k hk => (hb9 k hk).elim (hblk8 k) fun e => Nat.le_trans hB8.size e
/-- The box of an act. -/
def boxN (x : NAct) : Obj := .cells #[.int .i64 x.act, .int .i64 x.p.f, .int .i64 x.p.t, .string x.p.d, .int .i64 x.i, .bool x.on] 38 (0, 0)
theorem NMid.cells {x : NAct} (h : NMid w0 w a N v L b (boxN x)) : w.cell? ⟨b, 0, none⟩ = some (.int .i64 x.act) ∧ w.cell? ⟨b, 1, none⟩ = some (.int .i64 x.p.f) ∧ w.cell? ⟨b, 2, none⟩ = some (.int .i64 x.p.t) ∧ w.cell? ⟨b, 3, none⟩ = some (.string x.p.d) ∧ w.cell? ⟨b, 4, none⟩ = some (.int .i64 x.i) ∧ w.cell? ⟨b, 5, none⟩ = some (.bool x.on) := by
  refine ⟨?_, ?_, ?_, ?_, ?_, ?_⟩ <;> rw [cell_of_row w b _ _ _ _ h.box] <;> rfl
end
end Go.Proofs.Ytcfhfamdcdkgjaa
