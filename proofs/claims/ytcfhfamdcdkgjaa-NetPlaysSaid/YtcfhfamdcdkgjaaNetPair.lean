/-
  A net and the document's answer for it in a law, beside boxes; a net and its twin there. Walk over both. No condition but those in the theorems.
-/
import Derived.Test.YtcfhfamdcdkgjaaNetAside
import Derived.Test.YtcfhfamdcdkgjaaNetRefD
namespace Go.Proofs.Ytcfhfamdcdkgjaa
open Go.RowKit Go.Maps

/-- Since w0 the world has turned in new blocks alone; a net with N and a reference's with M lie in them, apart; the blocks of B are none of theirs, and hold what B says. -/
structure Pair (w0 w : World) (a : Nat) (N : Nm.Net) (r : Nat) (M : Nm.Net) (B : List (Nat × Obj)) : Prop where
  ex : ∃ S U : Nat → Prop, Net w a N S ∧ RNet w r M U ∧ (∀ k, S k → w0.heap.size ≤ k ∧ k < w.heap.size) ∧ (∀ k, U k → w0.heap.size ≤ k ∧ k < w.heap.size) ∧ (∀ k, S k → ¬ U k) ∧ (∀ p ∈ B, ¬ S p.1 ∧ ¬ U p.1)
  box : ∀ p ∈ B, w.heap[p.1]? = some p.2
  below : Below w0.heap.size w0 w

section
variable {w0 w w' : World} {a r t : Nat} {N N' M M' : Nm.Net} {B : List (Nat × Obj)}
theorem RNet.stay {S S' : Nat → Prop} {w W : World} {r : Nat} {N : Nm.Net} (h : RNet w r N S) (ht : Turned S' w W) (hs : ∀ k, S k → ¬ S' k) : RNet W r N S := by
  obtain ⟨rv, cv, h1, h2⟩ := h; exact ⟨rv, cv, h1.same h2 fun k hk hl => ht.block k hl (hs k hk), h2⟩
theorem Pair.net {S U : Nat → Prop} (h : Pair w0 w a N r M B) (h2 : RNet w r M U) (h3 : ∀ k, S k → w0.heap.size ≤ k ∧ k < w.heap.size) (h4 : ∀ k, U k → w0.heap.size ≤ k ∧ k < w.heap.size) (h5 : ∀ k, S k → ¬ U k) (h6 : ∀ p ∈ B, ¬ S p.1 ∧ ¬ U p.1)
    (hn : Net w' a N' (Grow S w)) (ht : Turned S w w') : Pair w0 w' a N' r M B :=
  ⟨⟨_, U, hn.tight, h2.stay ht fun k hk e => h5 k e hk, fun k hk => ⟨hk.1.elim (fun e => (h3 k e).1) fun e => Nat.le_trans h.below.size e, hk.2⟩, fun k hk => ⟨(h4 k hk).1, Nat.lt_of_lt_of_le (h4 k hk).2 ht.size⟩,
      fun k hk e => hk.1.elim (fun e1 => h5 k e1 e) fun e1 => by have := (h4 k e).2; omega, fun p hp => ⟨fun e => e.1.elim (h6 p hp).1 fun e => by have := box_lt h.box p hp; omega, (h6 p hp).2⟩⟩,
    fun p hp => (ht.block _ (box_lt h.box p hp) (h6 p hp).1).trans (h.box p hp), h.below.trans (ht.below h.below.size fun k hk => (h3 k hk).1)⟩
theorem Pair.ref {S U : Nat → Prop} (h : Pair w0 w a N r M B) (h1 : Net w a N S) (h3 : ∀ k, S k → w0.heap.size ≤ k ∧ k < w.heap.size) (h4 : ∀ k, U k → w0.heap.size ≤ k ∧ k < w.heap.size) (h5 : ∀ k, S k → ¬ U k) (h6 : ∀ p ∈ B, ¬ S p.1 ∧ ¬ U p.1)
    (hn : RNet w' r M' (Grow U w)) (ht : Turned U w w') : Pair w0 w' a N r M' B :=
  ⟨⟨S, _, h1.stay ht fun k hk e => h5 k hk e, hn.tight, fun k hk => ⟨(h3 k hk).1, Nat.lt_of_lt_of_le (h3 k hk).2 ht.size⟩, fun k hk => ⟨hk.1.elim (fun e => (h4 k e).1) fun e => Nat.le_trans h.below.size e, hk.2⟩,
      fun k hk e => e.1.elim (fun e1 => h5 k hk e1) fun e1 => by have := (h3 k hk).2; omega, fun p hp => ⟨(h6 p hp).1, fun e => e.1.elim (h6 p hp).2 fun e => by have := box_lt h.box p hp; omega⟩⟩,
    fun p hp => (ht.block _ (box_lt h.box p hp) (h6 p hp).2).trans (h.box p hp), h.below.trans (ht.below h.below.size fun k hk => (h4 k hk).1)⟩
theorem Pair.same (h : Pair w0 w a N r M B) (hb : Below w.heap.size w w') : Pair w0 w' a N r M B := by
  obtain ⟨S, U, h1, h2, h3, h4, h5, h6⟩ := h.ex
  exact h.net h2 h3 h4 h5 h6 ((h1.below hb).mono fun k hk => .inl hk) (turned_of_below hb)
theorem Pair.alloc (h : Pair w0 w a N r M B) (o : Obj) : Pair w0 (w.alloc o) a N r M ((w.heap.size, o) :: B) := by
  obtain ⟨S, U, h1, h2, h3, h4, h5, h6⟩ := h.ex
  have hb : Below w.heap.size w (w.alloc o) := (Below.refl _ w).alloc (Nat.le_refl _) o
  refine ⟨⟨S, U, h1.below hb, h2.below hb, fun k hk => ⟨(h3 k hk).1, Nat.lt_of_lt_of_le (h3 k hk).2 hb.size⟩, fun k hk => ⟨(h4 k hk).1, Nat.lt_of_lt_of_le (h4 k hk).2 hb.size⟩, h5, fun p hp => ?_⟩, fun p hp => ?_, h.below.trans (hb.mono h.below.size)⟩
  · rcases List.mem_cons.1 hp with rfl | hp
    · exact ⟨fun e => Nat.lt_irrefl _ (h3 _ e).2, fun e => Nat.lt_irrefl _ (h4 _ e).2⟩
    · exact h6 p hp
  · rcases List.mem_cons.1 hp with rfl | hp
    · exact heap_alloc_new w o
    · exact (hb.block _ (box_lt h.box p hp)).trans (h.box p hp)
theorem Pair.sub {B' : List (Nat × Obj)} (h : Pair w0 w a N r M B) (hs : ∀ p ∈ B', p ∈ B) : Pair w0 w a N r M B' := by
  obtain ⟨S, U, h1, h2, h3, h4, h5, h6⟩ := h.ex
  exact ⟨⟨S, U, h1, h2, h3, h4, h5, fun p hp => h6 p (hs p hp)⟩, fun p hp => h.box p (hs p hp), h.below⟩
theorem Pair.start (h : In w0 w a N []) (hr : RNet w' r M (w.heap.size ≤ ·)) (hb : Below w.heap.size w w') : Pair w0 w' a N r M [] := by
  obtain ⟨S, h1, h2, -⟩ := h.ex
  exact ⟨⟨_, _, h1.tight.below hb, hr.tight, fun k hk => ⟨h2 k hk.1, Nat.lt_of_lt_of_le hk.2 hb.size⟩, fun k hk => ⟨Nat.le_trans h.below.size hk.1, hk.2⟩, fun k hk e => by have h1 := hk.2; have h2 : w.heap.size ≤ k := e.1; omega, fun _ h => nomatch h⟩, (fun _ h => nomatch h), h.below.trans (hb.mono h.below.size)⟩
theorem send_p (h : Pair w0 w a N r M B) (f t : Int) (d : ByteArray) (hf : Nm.Wf f) (ht : Nm.Wf t) (hd : d.size ≤ maxLen) {c : Bool} (e : Nm.send N ⟨f, t, d⟩ = (c, N')) :
    Calls Try.prog 11 #[.pointer (some ⟨a, 0, none⟩), .agg #[.int .i64 f, .int .i64 t, .string d]] w fun e w' => e = .returned (.bool c) ∧ Pair w0 w' a N' r M B := by
  obtain ⟨S, U, h1, h2, h3, h4, h5, h6⟩ := h.ex
  have := send_net h1 ⟨f, t, d⟩ hf ht hd
  rw [e] at this
  exact this.mono fun _ _ ⟨he, hn, ht⟩ => ⟨he, h.net h2 h3 h4 h5 h6 hn ht⟩
theorem come_p (h : Pair w0 w a N r M B) (i : Int) (hi : Nm.Wf i) {f t : Int} {d : ByteArray} {c : Bool} (e : Nm.come N i = (⟨f, t, d⟩, c, N')) :
    Calls Try.prog 12 #[.pointer (some ⟨a, 0, none⟩), .int .i64 i] w fun e w' => e = .returned (.tuple #[.agg #[.int .i64 f, .int .i64 t, .string d], .bool c]) ∧ Pair w0 w' a N' r M B := by
  obtain ⟨S, U, h1, h2, h3, h4, h5, h6⟩ := h.ex
  have := come_net h1 i hi
  rw [e] at this
  exact this.mono fun _ _ ⟨he, hn, ht⟩ => ⟨he, h.net h2 h3 h4 h5 h6 (hn.mono fun k hk => .inl hk) ht⟩
theorem lose_p (h : Pair w0 w a N r M B) (i : Int) (hi : Nm.Wf i) {c : Bool} (e : Nm.lose N i = (c, N')) :
    Calls Try.prog 15 #[.pointer (some ⟨a, 0, none⟩), .int .i64 i] w fun e w' => e = .returned (.bool c) ∧ Pair w0 w' a N' r M B := by
  obtain ⟨S, U, h1, h2, h3, h4, h5, h6⟩ := h.ex
  have := lose_net h1 i hi
  rw [e] at this
  exact this.mono fun _ _ ⟨he, hn, ht⟩ => ⟨he, h.net h2 h3 h4 h5 h6 (hn.mono fun k hk => .inl hk) ht⟩
theorem dup_p (h : Pair w0 w a N r M B) (i : Int) (hi : Nm.Wf i) {c : Bool} (e : Nm.dup N i = (c, N')) :
    Calls Try.prog 13 #[.pointer (some ⟨a, 0, none⟩), .int .i64 i] w fun e w' => e = .returned (.bool c) ∧ Pair w0 w' a N' r M B := by
  obtain ⟨S, U, h1, h2, h3, h4, h5, h6⟩ := h.ex
  have := dup_net h1 i hi
  rw [e] at this
  exact this.mono fun _ _ ⟨he, hn, ht⟩ => ⟨he, h.net h2 h3 h4 h5 h6 hn ht⟩
theorem cut_p (h : Pair w0 w a N r M B) (x y : Int) (on : Bool) (hx : Nm.Wf x) (hy : Nm.Wf y) (hn : N.cuts < 1000000) :
    Calls Try.prog 16 #[.pointer (some ⟨a, 0, none⟩), .int .i64 x, .int .i64 y, .bool on] w fun e w' => e = .returned (.tuple #[]) ∧ Pair w0 w' a (Nm.cutTo N x y on) r M B := by
  obtain ⟨S, U, h1, h2, h3, h4, h5, h6⟩ := h.ex
  exact (cut_net h1 x y on hx hy hn).mono fun _ _ ⟨he, hn, ht⟩ => ⟨he, h.net h2 h3 h4 h5 h6 hn ht⟩
theorem waiting_p (h : Pair w0 w a N r M B) {c : Int} (e : (N.row.length : Int) = c) :
    Calls Try.prog 14 #[.pointer (some ⟨a, 0, none⟩)] w fun e w' => e = .returned (.int .i64 c) ∧ w = w' := by
  obtain ⟨S, U, ⟨rv, mv, h1, -⟩, -⟩ := h.ex
  rw [← e]; exact waiting_rep h1
theorem rsend_p (h : Pair w0 w a N r M B) (f t : Int) (d : ByteArray) (hf : Nm.Wf f) (ht : Nm.Wf t) (hd : d.size ≤ maxLen) (hm : M.cuts ≤ 1000000) {c : Bool} (e : Nm.send M ⟨f, t, d⟩ = (c, M')) :
    Calls Try.prog 31 #[.pointer (some ⟨r, 0, none⟩), .agg #[.int .i64 f, .int .i64 t, .string d]] w fun e w' => e = .returned (.bool c) ∧ Pair w0 w' a N r M' B := by
  obtain ⟨S, U, h1, h2, h3, h4, h5, h6⟩ := h.ex
  exact (refSend_net h2 f t d hf ht hd hm e).mono fun _ _ ⟨he, hn, ht⟩ => ⟨he, h.ref h1 h3 h4 h5 h6 hn ht⟩
theorem rcome_p (h : Pair w0 w a N r M B) (i : Int) (hi : Nm.Wf i) (hm : M.cuts ≤ 1000000) {f t : Int} {d : ByteArray} {c : Bool} (e : Nm.come M i = (⟨f, t, d⟩, c, M')) :
    Calls Try.prog 23 #[.pointer (some ⟨r, 0, none⟩), .int .i64 i] w fun e w' => e = .returned (.tuple #[.agg #[.int .i64 f, .int .i64 t, .string d], .bool c]) ∧ Pair w0 w' a N r M' B := by
  obtain ⟨S, U, h1, h2, h3, h4, h5, h6⟩ := h.ex
  exact (refCome_net h2 i hi hm e).mono fun _ _ ⟨he, hn, ht⟩ => ⟨he, h.ref h1 h3 h4 h5 h6 hn ht⟩
theorem rlose_p (h : Pair w0 w a N r M B) (i : Int) (hi : Nm.Wf i) {c : Bool} (e : Nm.lose M i = (c, M')) :
    Calls Try.prog 32 #[.pointer (some ⟨r, 0, none⟩), .int .i64 i] w fun e w' => e = .returned (.bool c) ∧ Pair w0 w' a N r M' B := by
  obtain ⟨S, U, h1, h2, h3, h4, h5, h6⟩ := h.ex
  have := refLose_net h2 i hi
  rw [e] at this
  exact this.mono fun _ _ ⟨he, hn, ht⟩ => ⟨he, h.ref h1 h3 h4 h5 h6 hn ht⟩
theorem rdup_p (h : Pair w0 w a N r M B) (i : Int) (hi : Nm.Wf i) {c : Bool} (e : Nm.dup M i = (c, M')) :
    Calls Try.prog 33 #[.pointer (some ⟨r, 0, none⟩), .int .i64 i] w fun e w' => e = .returned (.bool c) ∧ Pair w0 w' a N r M' B := by
  obtain ⟨S, U, h1, h2, h3, h4, h5, h6⟩ := h.ex
  exact (refDup_net h2 i hi e).mono fun _ _ ⟨he, hn, ht⟩ => ⟨he, h.ref h1 h3 h4 h5 h6 hn ht⟩
theorem rcut_p (h : Pair w0 w a N r M B) (x y : Int) (on : Bool) (hm : M.cuts ≤ 1000000) :
    Calls Try.prog 34 #[.pointer (some ⟨r, 0, none⟩), .int .i64 x, .int .i64 y, .bool on] w fun e w' => e = .returned (.tuple #[]) ∧ Pair w0 w' a N r (Nm.cutTo M x y on) B := by
  obtain ⟨S, U, h1, h2, h3, h4, h5, h6⟩ := h.ex
  exact (refCut_net h2 x y on hm).mono fun _ _ ⟨he, hn, ht⟩ => ⟨he, h.ref h1 h3 h4 h5 h6 hn ht⟩
theorem rwaiting_p (h : Pair w0 w a N r M B) {c : Int} (e : (M.row.length : Int) = c) :
    Calls Try.prog 22 #[.pointer (some ⟨r, 0, none⟩)] w fun e w' => e = .returned (.int .i64 c) ∧ w = w' := by
  obtain ⟨S, U, -, h2, -⟩ := h.ex
  rw [← e]; exact refWaiting_rep h2

/-- A net that goes its own way beside its twin and a reference's net. -/
structure Trio (w0 w : World) (a : Nat) (N : Nm.Net) (t : Nat) (N' : Nm.Net) (r : Nat) (M : Nm.Net) : Prop where
  ex : ∃ (w1 : World) (U T : Nat → Prop), NAside w0 w1 w a N (fun k => U k ∨ T k) ∧ Net w1 t N' T ∧ RNet w1 r M U ∧ (∀ k, U k → w0.heap.size ≤ k) ∧ (∀ k, T k → w0.heap.size ≤ k) ∧ ∀ k, T k → ¬ U k
variable {Na Nb : Nm.Net}
theorem twin_p (h : Pair w0 w a N r M []) : Calls Try.prog 18 #[.pointer (some ⟨a, 0, none⟩)] w fun e w' => ∃ t, e = .returned (.pointer (some ⟨t, 0, none⟩)) ∧ Trio w0 w' a N t N r M := by
  obtain ⟨S, U, h1, h2, h3, h4, h5, -⟩ := h.ex
  have hN : NAside w0 w w a N U := ⟨⟨S, h1, h3, h5⟩, fun k hk => (h4 k hk).2, fun _ _ => rfl, h.below⟩
  refine (twin_na hN).mono fun e w' ⟨t, he, ht, hk, hn⟩ => ⟨t, he, w', U, _, hn, ht, h2.kept hk, fun k hk => (h4 k hk).1, fun k hk => Nat.le_trans h.below.size hk.1, fun k hk e => ?_⟩
  have := (h4 k e).2
  have := hk.1
  omega
theorem Trio.pair (h : Trio w0 w a N t N' r M) : Pair w0 w t N' r M [] := by
  obtain ⟨w1, U, T, h1, h2, h3, h4, h5, h6⟩ := h.ex
  have e2 : Net w t N' T := by
    obtain ⟨rv, mv, hR, hS⟩ := h2
    exact ⟨rv, mv, hR.same hS fun k hk _ => h1.kept k (.inr hk), hS⟩
  exact ⟨⟨T, U, e2, h3.kept fun k hk => h1.kept k (.inl hk), fun k hk => ⟨h5 k hk, h1.lt k (.inr hk)⟩, fun k hk => ⟨h4 k hk, h1.lt k (.inl hk)⟩, h6, fun _ h => nomatch h⟩, (fun _ h => nomatch h), h1.below⟩
theorem Trio.same (h : Trio w0 w a N t N' r M) (hb : Below w.heap.size w w') : Trio w0 w' a N t N' r M := by
  obtain ⟨w1, U, T, h1, h2, h3, h4, h5, h6⟩ := h.ex
  exact ⟨w1, U, T, h1.same hb, h2, h3, h4, h5, h6⟩
theorem lose_t (h : Trio w0 w a N t N' r M) (i : Int) (hi : Nm.Wf i) :
    Calls Try.prog 15 #[.pointer (some ⟨a, 0, none⟩), .int .i64 i] w fun e w' => e = .returned (.bool (Nm.lose N i).1) ∧ Trio w0 w' a (Nm.lose N i).2 t N' r M := by
  obtain ⟨w1, U, T, h1, h2, h3, h4, h5, h6⟩ := h.ex
  obtain ⟨S, g1, g2, g3⟩ := h1.ex
  exact (lose_net g1 i hi).mono fun _ _ ⟨he, hn, ht⟩ => ⟨he, w1, U, T, h1.of g2 g3 (hn.mono fun k hk => .inl hk) ht, h2, h3, h4, h5, h6⟩
theorem cut_t (h : Trio w0 w a N t N' r M) (x y : Int) (on : Bool) (hx : Nm.Wf x) (hy : Nm.Wf y) (hn : N.cuts < 1000000) :
    Calls Try.prog 16 #[.pointer (some ⟨a, 0, none⟩), .int .i64 x, .int .i64 y, .bool on] w fun e w' => e = .returned (.tuple #[]) ∧ Trio w0 w' a (Nm.cutTo N x y on) t N' r M := by
  obtain ⟨w1, U, T, h1, h2, h3, h4, h5, h6⟩ := h.ex
  exact (cut_na h1 x y on hx hy hn).mono fun _ _ ⟨he, hn⟩ => ⟨he, w1, U, T, hn, h2, h3, h4, h5, h6⟩
theorem send_t (h : Trio w0 w a N t N' r M) (f t' : Int) (d : ByteArray) (hf : Nm.Wf f) (ht : Nm.Wf t') (hd : d.size ≤ maxLen) :
    Calls Try.prog 11 #[.pointer (some ⟨a, 0, none⟩), .agg #[.int .i64 f, .int .i64 t', .string d]] w fun e w' => ∃ c, e = .returned (.bool c) ∧ Pair w0 w' t N' r M [] := by
  obtain ⟨w1, U, T, h1, h2, h3, h4, h5, h6⟩ := h.ex
  exact (send_na h1 f t' d hf ht hd (b := (Nm.send N ⟨f, t', d⟩).1) (N' := (Nm.send N ⟨f, t', d⟩).2) rfl).mono fun _ _ ⟨he, hn⟩ => ⟨_, he, (⟨w1, U, T, hn, h2, h3, h4, h5, h6⟩ : Trio _ _ _ _ _ _ _ _).pair⟩
end
end Go.Proofs.Ytcfhfamdcdkgjaa
