/-
  One net in a law, beside blocks that stay (boxes): each call by what the net has. No condition but those in the theorems.
-/
import Derived.Test.YtcfhfamdcdkgjaaNetWalkI
import Derived.Laws.StructEq
namespace Nm
def Pk.same (p q : Pk) : Bool := p.f == q.f && (p.t == q.t && p.d.toList == q.d.toList)
theorem bytes_inj {d d' : ByteArray} (h : d.toList = d'.toList) : d = d' := by
  rw [Go.ByteArray.toList_eq, Go.ByteArray.toList_eq] at h
  obtain ⟨⟨x⟩⟩ := d; obtain ⟨⟨y⟩⟩ := d'
  simp at h; rw [h]
theorem same_iff {p q : Pk} : p.same q = true ↔ p = q := by
  obtain ⟨f, t, d⟩ := p; obtain ⟨f', t', d'⟩ := q
  unfold Pk.same; simp
  intro _ _
  exact ⟨bytes_inj, fun e => by rw [e]⟩
theorem same_self (p : Pk) : p.same p = true := same_iff.2 rfl
theorem same_ne {p q : Pk} (h : p ≠ q) : p.same q = false := by
  cases e : p.same q with
  | false => rfl
  | true => exact absurd (same_iff.1 e) h
end Nm
namespace Go.Proofs.Ytcfhfamdcdkgjaa
open Go.RowKit Go.Maps

/-! ### the model's == at packets -/
theorem pkGuard (op : BinOp) (a b : Operand) (xs ys : Array Value) (w : World) : (eqGuard op 23 a b (.agg xs) (.agg ys)).run Try.prog w = .ok () w := run_eqGuard_agg w op 23 a b xs ys (by kernel_rfl)
theorem pk_eq (p q : Nm.Pk) (w : World) : (Op.equalIn 10000 23 (pkV p) (pkV q)).run Try.prog w = .ok (p.same q) w := by
  have u3 := Try.underlying3
  have a3 := Try.isAgg3
  have z3 := Try.sizeOf3
  have u9 := Try.underlying9
  have a9 := Try.isAgg9
  have z9 := Try.sizeOf9
  have hS : Try.prog.underlying 23 = some (.struct (Try.prog.fieldsOf 23)) := by kernel_rfl
  have hp : Try.prog.stoodInHeld 23 = false := by kernel_rfl
  obtain ⟨f, t, d⟩ := p; obtain ⟨f', t', d'⟩ := q
  unfold pkV Nm.Pk.same
  rw [show (10000 : Nat) = 9999 + 1 from rfl, run_equalIn_agg w 9999 23 _ _ hS hp]
  simp only [Program.fieldsOf, Try.underlying23]
  go_simp
  by_cases h1 : f = f' <;> by_cases h2 : t = t' <;> simp [h1, h2]
  by_cases h3 : d.toList = d'.toList <;> simp [h3]

theorem wf_of {x : Int} (h : (Lit.int .i64 x).wf = true) : Nm.Wf x := by
  unfold Nm.Wf
  simp [Lit.wf, IntKind.min, IntKind.max, IntKind.signed, IntKind.bits] at h; omega

/-! ### a net beside boxes -/
def boxPk (p : Nm.Pk) : Obj := .cells #[.int .i64 p.f, .int .i64 p.t, .string p.d] 23 (0, 0)
/-- Since w0 the world has turned in new blocks alone; a net with N lies in them; the blocks of B are none of its, and hold what B says. -/
structure In (w0 w : World) (a : Nat) (N : Nm.Net) (B : List (Nat × Obj)) : Prop where
  ex : ∃ S : Nat → Prop, Net w a N S ∧ (∀ k, S k → w0.heap.size ≤ k) ∧ ∀ p ∈ B, ¬ S p.1
  box : ∀ p ∈ B, w.heap[p.1]? = some p.2
  below : Below w0.heap.size w0 w

section
variable {w0 w w' : World} {a : Nat} {N N' : Nm.Net} {B : List (Nat × Obj)}
theorem In.right (h : In w0 w a N B) : Nm.Right N := by obtain ⟨S, h1, -⟩ := h.ex; exact h1.right
theorem box_lt (h : ∀ p ∈ B, w.heap[p.1]? = some p.2) : ∀ p ∈ B, p.1 < w.heap.size := fun p hp => (Array.getElem?_eq_some_iff.1 (h p hp)).1
theorem In.of {S : Nat → Prop} (h : In w0 w a N B) (h2 : ∀ k, S k → w0.heap.size ≤ k) (h3 : ∀ p ∈ B, ¬ S p.1) (hn : Net w' a N' (Grow S w)) (ht : Turned S w w') : In w0 w' a N' B :=
  ⟨⟨_, hn, fun k hk => hk.elim (h2 k) fun e => Nat.le_trans h.below.size e, fun p hp e => e.elim (h3 p hp) fun e => by have := box_lt h.box p hp; omega⟩,
    fun p hp => (ht.block _ (box_lt h.box p hp) (h3 p hp)).trans (h.box p hp), h.below.trans (ht.below h.below.size h2)⟩
theorem In.same (h : In w0 w a N B) (hb : Below w.heap.size w w') : In w0 w' a N B := by
  obtain ⟨S, h1, h2, h3⟩ := h.ex
  exact h.of h2 h3 ((h1.below hb).mono fun k hk => .inl hk) (turned_of_below hb)
theorem In.alloc (h : In w0 w a N B) (o : Obj) : In w0 (w.alloc o) a N ((w.heap.size, o) :: B) := by
  obtain ⟨S, h1, h2, h3⟩ := h.ex
  have hb : Below w.heap.size w (w.alloc o) := (Below.refl _ w).alloc (Nat.le_refl _) o
  refine ⟨⟨_, h1.tight.below hb, fun k hk => h2 k hk.1, fun p hp e => ?_⟩, fun p hp => ?_, h.below.trans (hb.mono h.below.size)⟩
  · rcases List.mem_cons.1 hp with rfl | hp
    · exact Nat.lt_irrefl _ e.2
    · exact h3 p hp e.1
  · rcases List.mem_cons.1 hp with rfl | hp
    · exact heap_alloc_new w o
    · exact (hb.block _ (box_lt h.box p hp)).trans (h.box p hp)
theorem In.sub {B' : List (Nat × Obj)} (h : In w0 w a N B) (hs : ∀ p ∈ B', p ∈ B) : In w0 w a N B' := by
  obtain ⟨S, h1, h2, h3⟩ := h.ex
  exact ⟨⟨S, h1, h2, fun p hp => h3 p (hs p hp)⟩, fun p hp => h.box p (hs p hp), h.below⟩
theorem new_in (hb : Below w0.heap.size w0 w) (hB : ∀ p ∈ B, w.heap[p.1]? = some p.2) : Calls Try.prog 10 #[] w fun e w' => ∃ a, e = .returned (.pointer (some ⟨a, 0, none⟩)) ∧ In w0 w' a Nm.new B :=
  (new_net w).mono fun _ _ ⟨he, hn, hb'⟩ => ⟨_, he, ⟨_, hn, fun _ e => Nat.le_trans hb.size e, fun p hp e => by have h1 := box_lt hB p hp; have h2 : w.heap.size ≤ p.1 := e; omega⟩, fun p hp => (hb'.block _ (box_lt hB p hp)).trans (hB p hp), hb.trans (hb'.mono hb.size)⟩
theorem send_in (h : In w0 w a N B) (p : Nm.Pk) (hf : Nm.Wf p.f) (ht : Nm.Wf p.t) (hd : p.d.size ≤ maxLen) {b : Bool} (e : Nm.send N p = (b, N')) :
    Calls Try.prog 11 #[.pointer (some ⟨a, 0, none⟩), pkV p] w fun e w' => e = .returned (.bool b) ∧ In w0 w' a N' B := by
  obtain ⟨S, h1, h2, h3⟩ := h.ex
  have := send_net h1 p hf ht hd
  rw [e] at this
  exact this.mono fun _ _ ⟨he, hn, ht⟩ => ⟨he, h.of h2 h3 hn ht⟩
theorem send_lit (h : In w0 w a N B) (f t : Int) (d : ByteArray) (hf : Nm.Wf f) (ht : Nm.Wf t) (hd : d.size ≤ maxLen) {b : Bool} (e : Nm.send N ⟨f, t, d⟩ = (b, N')) :
    Calls Try.prog 11 #[.pointer (some ⟨a, 0, none⟩), .agg #[.int .i64 f, .int .i64 t, .string d]] w fun e w' => e = .returned (.bool b) ∧ In w0 w' a N' B := send_in h ⟨f, t, d⟩ hf ht hd e
theorem come_in (h : In w0 w a N B) (i : Int) (hi : Nm.Wf i) {p : Nm.Pk} {b : Bool} (e : Nm.come N i = (p, b, N')) :
    Calls Try.prog 12 #[.pointer (some ⟨a, 0, none⟩), .int .i64 i] w fun e w' => e = .returned (.tuple #[pkV p, .bool b]) ∧ In w0 w' a N' B := by
  obtain ⟨S, h1, h2, h3⟩ := h.ex
  have := come_net h1 i hi
  rw [e] at this
  exact this.mono fun _ _ ⟨he, hn, ht⟩ => ⟨he, h.of h2 h3 (hn.mono fun k hk => .inl hk) ht⟩
theorem lose_in (h : In w0 w a N B) (i : Int) (hi : Nm.Wf i) {b : Bool} (e : Nm.lose N i = (b, N')) :
    Calls Try.prog 15 #[.pointer (some ⟨a, 0, none⟩), .int .i64 i] w fun e w' => e = .returned (.bool b) ∧ In w0 w' a N' B := by
  obtain ⟨S, h1, h2, h3⟩ := h.ex
  have := lose_net h1 i hi
  rw [e] at this
  exact this.mono fun _ _ ⟨he, hn, ht⟩ => ⟨he, h.of h2 h3 (hn.mono fun k hk => .inl hk) ht⟩
theorem dup_in (h : In w0 w a N B) (i : Int) (hi : Nm.Wf i) {b : Bool} (e : Nm.dup N i = (b, N')) :
    Calls Try.prog 13 #[.pointer (some ⟨a, 0, none⟩), .int .i64 i] w fun e w' => e = .returned (.bool b) ∧ In w0 w' a N' B := by
  obtain ⟨S, h1, h2, h3⟩ := h.ex
  have := dup_net h1 i hi
  rw [e] at this
  exact this.mono fun _ _ ⟨he, hn, ht⟩ => ⟨he, h.of h2 h3 hn ht⟩
theorem cut_in (h : In w0 w a N B) (x y : Int) (on : Bool) (hx : Nm.Wf x) (hy : Nm.Wf y) (hn : N.cuts < 1000000) :
    Calls Try.prog 16 #[.pointer (some ⟨a, 0, none⟩), .int .i64 x, .int .i64 y, .bool on] w fun e w' => e = .returned (.tuple #[]) ∧ In w0 w' a (Nm.cutTo N x y on) B := by
  obtain ⟨S, h1, h2, h3⟩ := h.ex
  exact (cut_net h1 x y on hx hy hn).mono fun _ _ ⟨he, hn, ht⟩ => ⟨he, h.of h2 h3 hn ht⟩
theorem waiting_in (h : In w0 w a N B) {c : Int} (e : (N.row.length : Int) = c) :
    Calls Try.prog 14 #[.pointer (some ⟨a, 0, none⟩)] w fun e w' => e = .returned (.int .i64 c) ∧ w = w' := by
  obtain ⟨S, ⟨rv, mv, h1, -⟩, -⟩ := h.ex
  rw [← e]; exact waiting_rep h1
end

def pkA : Nm.Pk := ⟨1, 2, ⟨#[97]⟩⟩
/-- A net with these packets, no way cut. -/
def nets (l : List Nm.Pk) : Nm.Net := ⟨l, fun _ _ => false, 0⟩
set_option maxRecDepth 100000 in
set_option maxHeartbeats 4000000 in
theorem netAwake_any (w : World) : Calls Try.prog 17 #[] w fun e w' => e = .returned (.bool true) ∧ Below w.heap.size w w' := by
  have hg := pkGuard
  have he := pk_eq pkA pkA
  rw [Nm.same_self] at he
  unfold pkV pkA at he
  simp only at he
  go_enter Try.func17, Try.ntmps17
  go_wp2_with fail
  refine (new_in (B := []) (Below.refl _ w) (fun _ h => nomatch h)).mono ?_
  rintro e w1 ⟨a, rfl, h1⟩
  have h2 := h1.alloc (.cells #[.int .i64 1, .int .i64 2, .string ⟨#[97]⟩] 23)
  obtain ⟨x0, x1, x2, -⟩ := cells3 (h2.box _ List.mem_cons_self)
  go_wp2_with fail
  refine (send_in h2 pkA ⟨by decide, by decide⟩ ⟨by decide, by decide⟩ (by decide) (N' := nets [pkA]) (b := true) rfl).mono ?_
  rintro e w3 ⟨rfl, h3⟩
  clear x0 x1 x2
  go_wp2_with fail
  refine (dup_in h3 5 ⟨by decide, by decide⟩ (N' := nets [pkA, pkA]) (b := true) rfl).mono ?_
  rintro e w4 ⟨rfl, h4⟩
  clear h3
  go_wp2_with fail
  refine (waiting_in h4 (c := 2) rfl).mono ?_
  rintro e w5 ⟨rfl, rfl⟩
  go_wp2_with fail
  refine (come_in h4 (-1) ⟨by decide, by decide⟩ (p := pkA) (b := true) (N' := nets [pkA]) rfl).mono ?_
  rintro e w5 ⟨rfl, h5⟩
  clear h4 h2 h1
  have h6 := h5.alloc (.cells #[.int .i64 1, .int .i64 2, .string ⟨#[97]⟩] 23)
  obtain ⟨x0, x1, x2, -⟩ := cells3 (h6.box _ (List.mem_cons_of_mem _ List.mem_cons_self))
  clear h5
  unfold pkV pkA
  go_wp2_with fail
  refine (waiting_in h6 (c := 1) rfl).mono ?_
  rintro e w7 ⟨rfl, rfl⟩
  have hB := h6.below
  clear h6
  go_wp2_with fail
  go_ret
  exact ⟨rfl, hB⟩
end Go.Proofs.Ytcfhfamdcdkgjaa
