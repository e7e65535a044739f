/-
  Two nets in a law, beside blocks that stay. No condition but those in the theorems.
-/
import Derived.Test.YtcfhfamdcdkgjaaNetLaw
namespace Go.Proofs.Ytcfhfamdcdkgjaa
open Go.RowKit Go.Maps

/-- Since w0 the world has turned in new blocks alone; two nets with N and M lie in them, apart; the blocks of B are none of theirs, and hold what B says. -/
structure Two (w0 w : World) (a : Nat) (N : Nm.Net) (b : Nat) (M : Nm.Net) (B : List (Nat × Obj)) : Prop where
  ex : ∃ S T : Nat → Prop, Net w a N S ∧ Net w b M T ∧ (∀ k, S k → w0.heap.size ≤ k) ∧ (∀ k, T k → w0.heap.size ≤ k ∧ k < w.heap.size) ∧ (∀ k, S k → ¬ T k) ∧ (∀ p ∈ B, ¬ S p.1 ∧ ¬ T p.1)
  box : ∀ p ∈ B, w.heap[p.1]? = some p.2
  below : Below w0.heap.size w0 w

section
variable {w0 w w' : World} {a b : Nat} {N N' M : Nm.Net} {B : List (Nat × Obj)}
theorem Two.swap (h : Two w0 w a N b M B) : Two w0 w b M a N B := by
  obtain ⟨S, T, h1, h2, h3, h4, h5, h6⟩ := h.ex
  exact ⟨⟨T, _, h2, h1.tight, fun k hk => (h4 k hk).1, fun k hk => ⟨h3 k hk.1, hk.2⟩, fun k hk e => h5 k e.1 hk, fun p hp => ⟨(h6 p hp).2, fun e => (h6 p hp).1 e.1⟩⟩, h.box, h.below⟩
theorem Two.one (h : Two w0 w a N b M B) : In w0 w a N B := by
  obtain ⟨S, T, h1, h2, h3, h4, h5, h6⟩ := h.ex
  exact ⟨⟨S, h1, h3, fun p hp => (h6 p hp).1⟩, h.box, h.below⟩
theorem Two.of {S T : Nat → Prop} (h : Two w0 w a N b M B) (h2 : Net w b M T) (h3 : ∀ k, S k → w0.heap.size ≤ k) (h4 : ∀ k, T k → w0.heap.size ≤ k ∧ k < w.heap.size) (h5 : ∀ k, S k → ¬ T k) (h6 : ∀ p ∈ B, ¬ S p.1 ∧ ¬ T p.1)
    (hn : Net w' a N' (Grow S w)) (ht : Turned S w w') : Two w0 w' a N' b M B :=
  ⟨⟨_, T, hn, h2.stay ht fun k hk e => h5 k e hk, fun k hk => hk.elim (h3 k) fun e => Nat.le_trans h.below.size e, fun k hk => ⟨(h4 k hk).1, Nat.lt_of_lt_of_le (h4 k hk).2 ht.size⟩,
      fun k hk e => hk.elim (fun e1 => h5 k e1 e) fun e1 => by have := (h4 k e).2; omega, fun p hp => ⟨fun e => e.elim (h6 p hp).1 fun e => by have := box_lt h.box p hp; omega, (h6 p hp).2⟩⟩,
    fun p hp => (ht.block _ (box_lt h.box p hp) (h6 p hp).1).trans (h.box p hp), h.below.trans (ht.below h.below.size h3)⟩
theorem Two.same (h : Two w0 w a N b M B) (hb : Below w.heap.size w w') : Two w0 w' a N b M B := by
  obtain ⟨S, T, h1, h2, h3, h4, h5, h6⟩ := h.ex
  exact h.of h2 h3 h4 h5 h6 ((h1.below hb).mono fun k hk => .inl hk) (turned_of_below hb)
theorem Two.alloc (h : Two w0 w a N b M B) (o : Obj) : Two w0 (w.alloc o) a N b M ((w.heap.size, o) :: B) := by
  obtain ⟨S, T, h1, h2, h3, h4, h5, h6⟩ := h.ex
  have hb : Below w.heap.size w (w.alloc o) := (Below.refl _ w).alloc (Nat.le_refl _) o
  refine ⟨⟨_, T, h1.tight.below hb, h2.below hb, fun k hk => h3 k hk.1, fun k hk => ⟨(h4 k hk).1, Nat.lt_of_lt_of_le (h4 k hk).2 hb.size⟩, fun k hk => h5 k hk.1, fun p hp => ?_⟩, fun p hp => ?_, h.below.trans (hb.mono h.below.size)⟩
  · rcases List.mem_cons.1 hp with rfl | hp
    · exact ⟨fun e => Nat.lt_irrefl _ e.2, fun e => Nat.lt_irrefl _ (h4 _ e).2⟩
    · exact ⟨fun e => (h6 p hp).1 e.1, (h6 p hp).2⟩
  · rcases List.mem_cons.1 hp with rfl | hp
    · exact heap_alloc_new w o
    · exact (hb.block _ (box_lt h.box p hp)).trans (h.box p hp)
theorem Two.sub {B' : List (Nat × Obj)} (h : Two w0 w a N b M B) (hs : ∀ p ∈ B', p ∈ B) : Two w0 w a N b M B' := by
  obtain ⟨S, T, h1, h2, h3, h4, h5, h6⟩ := h.ex
  exact ⟨⟨S, T, h1, h2, h3, h4, h5, fun p hp => h6 p (hs p hp)⟩, fun p hp => h.box p (hs p hp), h.below⟩
theorem twin_in (h : In w0 w a N B) : Calls Try.prog 18 #[.pointer (some ⟨a, 0, none⟩)] w fun e w' => ∃ b, e = .returned (.pointer (some ⟨b, 0, none⟩)) ∧ Two w0 w' a N b N B := by
  obtain ⟨S, h1, h2, h3⟩ := h.ex
  refine (twin_net h1).mono fun e w' ⟨b, he, hn, hb⟩ => ⟨b, he, ⟨⟨_, _, h1.tight.below hb, hn.tight, fun k hk => h2 k hk.1, fun k hk => ⟨Nat.le_trans h.below.size hk.1, hk.2⟩, fun k hk e => ?_, fun p hp => ⟨fun e => h3 p hp e.1, fun e => ?_⟩⟩, fun p hp => (hb.block _ (box_lt h.box p hp)).trans (h.box p hp), h.below.trans (hb.mono h.below.size)⟩⟩
  · have h1 := hk.2; have h2 : w.heap.size ≤ k := e.1; omega
  · have h1 := box_lt h.box p hp; have h2 : w.heap.size ≤ p.1 := e.1; omega
theorem send_two (h : Two w0 w a N b M B) (f t : Int) (d : ByteArray) (hf : Nm.Wf f) (ht : Nm.Wf t) (hd : d.size ≤ maxLen) {c : Bool} (e : Nm.send N ⟨f, t, d⟩ = (c, N')) :
    Calls Try.prog 11 #[.pointer (some ⟨a, 0, none⟩), .agg #[.int .i64 f, .int .i64 t, .string d]] w fun e w' => e = .returned (.bool c) ∧ Two w0 w' a N' b M B := by
  obtain ⟨S, T, h1, h2, h3, h4, h5, h6⟩ := h.ex
  have := send_net h1 ⟨f, t, d⟩ hf ht hd
  rw [e] at this
  exact this.mono fun _ _ ⟨he, hn, ht⟩ => ⟨he, h.of h2 h3 h4 h5 h6 hn ht⟩
theorem come_two (h : Two w0 w a N b M B) (i : Int) (hi : Nm.Wf i) {f t : Int} {d : ByteArray} {c : Bool} (e : Nm.come N i = (⟨f, t, d⟩, c, N')) :
    Calls Try.prog 12 #[.pointer (some ⟨a, 0, none⟩), .int .i64 i] w fun e w' => e = .returned (.tuple #[.agg #[.int .i64 f, .int .i64 t, .string d], .bool c]) ∧ Two w0 w' a N' b M B := by
  obtain ⟨S, T, h1, h2, h3, h4, h5, h6⟩ := h.ex
  have := come_net h1 i hi
  rw [e] at this
  exact this.mono fun _ _ ⟨he, hn, ht⟩ => ⟨he, h.of h2 h3 h4 h5 h6 (hn.mono fun k hk => .inl hk) ht⟩
theorem lose_two (h : Two w0 w a N b M B) (i : Int) (hi : Nm.Wf i) {c : Bool} (e : Nm.lose N i = (c, N')) :
    Calls Try.prog 15 #[.pointer (some ⟨a, 0, none⟩), .int .i64 i] w fun e w' => e = .returned (.bool c) ∧ Two w0 w' a N' b M B := by
  obtain ⟨S, T, h1, h2, h3, h4, h5, h6⟩ := h.ex
  have := lose_net h1 i hi
  rw [e] at this
  exact this.mono fun _ _ ⟨he, hn, ht⟩ => ⟨he, h.of h2 h3 h4 h5 h6 (hn.mono fun k hk => .inl hk) ht⟩
theorem dup_two (h : Two w0 w a N b M B) (i : Int) (hi : Nm.Wf i) {c : Bool} (e : Nm.dup N i = (c, N')) :
    Calls Try.prog 13 #[.pointer (some ⟨a, 0, none⟩), .int .i64 i] w fun e w' => e = .returned (.bool c) ∧ Two w0 w' a N' b M B := by
  obtain ⟨S, T, h1, h2, h3, h4, h5, h6⟩ := h.ex
  have := dup_net h1 i hi
  rw [e] at this
  exact this.mono fun _ _ ⟨he, hn, ht⟩ => ⟨he, h.of h2 h3 h4 h5 h6 hn ht⟩
theorem cut_two (h : Two w0 w a N b M B) (x y : Int) (on : Bool) (hx : Nm.Wf x) (hy : Nm.Wf y) (hn : N.cuts < 1000000) :
    Calls Try.prog 16 #[.pointer (some ⟨a, 0, none⟩), .int .i64 x, .int .i64 y, .bool on] w fun e w' => e = .returned (.tuple #[]) ∧ Two w0 w' a (Nm.cutTo N x y on) b M B := by
  obtain ⟨S, T, h1, h2, h3, h4, h5, h6⟩ := h.ex
  exact (cut_net h1 x y on hx hy hn).mono fun _ _ ⟨he, hn, ht⟩ => ⟨he, h.of h2 h3 h4 h5 h6 hn ht⟩
theorem waiting_two (h : Two w0 w a N b M B) {c : Int} (e : (N.row.length : Int) = c) :
    Calls Try.prog 14 #[.pointer (some ⟨a, 0, none⟩)] w fun e w' => e = .returned (.int .i64 c) ∧ w = w' := waiting_in h.one e
end
end Go.Proofs.Ytcfhfamdcdkgjaa
