/-
  A table in a law, values of type int: each call by what the table has. Conditions: those in the theorems.
-/
import Derived.Test.YthioogncbhkaoaaMemNow
import Derived.Test.YthioogncbhkaoaaMemFromI
namespace Go.Proofs.Ythioogncbhkaoaa.MI
open Go.RowKit

def memO (p : Value) : Obj := .cells #[p] 94 (0, 0)
/-- p is the root of a tree that has L. -/
def Root (w : World) (p : Value) (L : Mm.Row) : Prop := ∃ t, At w t p ∧ t.flat = L ∧ Mm.Sorted L
theorem Root.kept {w w' : World} {p : Value} {L : Mm.Row} (h : Root w p L) (hk : Kept w w') : Root w' p L := by
  obtain ⟨t, h1, h2, h3⟩ := h; exact ⟨t, h1.kept hk, h2, h3⟩
theorem root_nil (w : World) : Root w (.pointer none) [] := ⟨.nil, rfl, rfl, List.Pairwise.nil⟩
theorem Root.sorted {w : World} {p : Value} {L : Mm.Row} (h : Root w p L) : Mm.Sorted L := by obtain ⟨t, h1, h2, h3⟩ := h; exact h3
theorem Root.ptr {w : World} {p : Value} {L : Mm.Row} (h : Root w p L) : ∃ o, p = .pointer o := by obtain ⟨t, h1, h2, h3⟩ := h; exact h1.ptr
theorem Root.good {w : World} {p : Value} {L : Mm.Row} (h : Root w p L) : ∀ q ∈ L, q.1.size ≤ 281474976710656 ∧ ∃ x : Int, q.2 = .int .i64 x := by
  obtain ⟨t, h1, rfl, -⟩ := h
  induction t generalizing p with
  | nil => intro q hq; cases hq
  | node l k v r ih1 ih2 =>
    obtain ⟨a, i, pl, pr, -, -, ⟨hks, x, hx, -⟩, hl, hr⟩ := h1
    intro q hq
    rcases List.mem_append.1 hq with hq | hq
    · exact ih1 hl q hq
    · rcases List.mem_cons.1 hq with rfl | hq
      · exact ⟨hks, x, hx⟩
      · exact ih2 hr q hq

/-- Block a is a table that has L; R: further roots, with what they have; B: further blocks. -/
def Mem (w0 w : World) (a : Nat) (L : Mm.Row) (R : List (Value × Mm.Row)) (B : List (Nat × Obj)) : Prop := ∃ p, Now w0 w ((a, memO p) :: B) ∧ Root w p L ∧ ∀ r ∈ R, Root w r.1 r.2
section
variable {w0 w w' : World} {a : Nat} {L : Mm.Row} {R : List (Value × Mm.Row)} {B B' : List (Nat × Obj)}
theorem Mem.below (h : Mem w0 w a L R B) : Below w0.heap.size w0 w := by obtain ⟨p, h1, -⟩ := h; exact h1.below
theorem Mem.sorted (h : Mem w0 w a L R B) : Mm.Sorted L := by obtain ⟨p, -, h2, -⟩ := h; exact h2.sorted
theorem Mem.good (h : Mem w0 w a L R B) : ∀ q ∈ L, q.1.size ≤ 281474976710656 ∧ ∃ x : Int, q.2 = .int .i64 x := by obtain ⟨p, -, h2, -⟩ := h; exact h2.good
theorem Mem.same (h : Mem w0 w a L R B) (hb : Below w.heap.size w w') : Mem w0 w' a L R B := by
  obtain ⟨p, h1, h2, h3⟩ := h
  exact ⟨p, h1.same hb, h2.kept (.of_below hb), fun r hr => (h3 r hr).kept (.of_below hb)⟩
theorem Mem.sub (h : Mem w0 w a L R B) (hs : B'.Sublist B) : Mem w0 w a L R B' := by
  obtain ⟨p, h1, h2, h3⟩ := h; exact ⟨p, h1.sub (hs.cons_cons _), h2, h3⟩
theorem Mem.alloc (h : Mem w0 w a L R B) (o : Obj) : Mem w0 (w.alloc o) a L R ((w.heap.size, o) :: B) := by
  obtain ⟨p, h1, h2, h3⟩ := h
  exact ⟨p, (h1.alloc o).swap, h2.kept (.alloc _ _), fun r hr => (h3 r hr).kept (.alloc _ _)⟩
theorem Mem.box (h : Mem w0 w a L R B) {q : Nat × Obj} (hq : q ∈ B) : w.heap[q.1]? = some q.2 := by obtain ⟨p, h1, -⟩ := h; exact h1.box q (List.mem_cons_of_mem _ hq)
theorem Mem.set {b : Nat} {x : Value} {T : TypeId} (h : Mem w0 w a L R ((b, .cells #[x] T (0, 0)) :: B)) (hT : ¬ nodeT T) (v : Value) : Mem w0 (w.setCell ⟨b, 0, none⟩ v) a L R ((b, .cells #[v] T (0, 0)) :: B) := by
  obtain ⟨p, h1, h2, h3⟩ := h
  have hk : Kept w (w.setCell ⟨b, 0, none⟩ v) := kept_box h1.swap.head hT v
  exact ⟨p, (h1.swap.set v).swap, h2.kept hk, fun r hr => (h3 r hr).kept hk⟩
theorem Mem.perm (h : Mem w0 w a L R B) (hs : B.Perm B') : Mem w0 w a L R B' := by
  obtain ⟨p, h1, h2, h3⟩ := h; exact ⟨p, h1.perm (hs.cons _), h2, h3⟩
theorem Mem.other {b : Nat} {pb : Value} {Lb : Mm.Row} (h : Mem w0 w a L ((pb, Lb) :: R) ((b, memO pb) :: B)) : ∃ pa, Mem w0 w b Lb ((pa, L) :: R) ((a, memO pa) :: B) := by
  obtain ⟨p, h1, h2, h3⟩ := h
  refine ⟨p, pb, h1.swap, h3 _ List.mem_cons_self, fun r hr => ?_⟩
  rcases List.mem_cons.1 hr with rfl | hr
  · exact h2
  · exact h3 r (List.mem_cons_of_mem _ hr)
theorem Mem.root (h : Mem w0 w a L R B) : ∃ p, w.heap[a]? = some (memO p) ∧ Root w p L := by obtain ⟨p, h1, h2, -⟩ := h; exact ⟨p, h1.head, h2⟩
theorem Mem.snap (h : Mem w0 w a L R B) : ∃ p, w.heap[a]? = some (memO p) ∧ Mem w0 w a L ((p, L) :: R) B := by
  obtain ⟨p, h1, h2, h3⟩ := h
  refine ⟨p, h1.head, p, h1, h2, fun r hr => ?_⟩
  rcases List.mem_cons.1 hr with rfl | hr
  · exact h2
  · exact h3 r hr
theorem Mem.fewer {R' : List (Value × Mm.Row)} (h : Mem w0 w a L R B) (hs : ∀ r ∈ R', r ∈ R) : Mem w0 w a L R' B := by
  obtain ⟨p, h1, h2, h3⟩ := h; exact ⟨p, h1, h2, fun r hr => h3 r (hs r hr)⟩

theorem new_m (h : Now w0 w B) (hR : ∀ r ∈ R, Root w r.1 r.2) : Calls Try.prog 30 #[] w fun e w' => ∃ a, e = .returned (.pointer (some ⟨a, 0, none⟩)) ∧ Mem w0 w' a [] R B ∧ Kept w w' := by
  refine (new_any w).mono ?_
  rintro e w' ⟨rfl, rfl⟩
  exact ⟨_, rfl, ⟨_, h.alloc _, root_nil _, fun r hr => (hR r hr).kept (.alloc _ _)⟩, .alloc _ _⟩
theorem wrote_m {t' : Mm.Tr} {v : Value} {L' : Mm.Row} {p : Value} (h : Now w0 w ((a, memO p) :: B)) (hR : ∀ r ∈ R, Root w r.1 r.2) (hf : t'.flat = L') (hs : Mm.Sorted L') {e : Ending} (hw : Wrote w a t' v e w') : e = .returned v ∧ Mem w0 w' a L' R B ∧ Kept w w' ∧ Only a w w' := by
  obtain ⟨he, ho, p', h1, h2⟩ := hw
  have hk : Kept w w' := ho.kept (Tab.notNode (p := p) h.head)
  exact ⟨he, ⟨p', h.turn ho.os ho.tape ho.output ho.size ho.block h1, ⟨t', h2, hf, hs⟩, fun r hr => (hR r hr).kept hk⟩, hk, ho⟩
theorem set_m (h : Mem w0 w a L R B) (key : ByteArray) (hk : key.size ≤ 281474976710656) (hn : L.length ≤ 999999) (x : Int) {b : Bool} (hb : (Mm.get L key).isSome = b) :
    Calls Try.prog 31 #[.pointer (some ⟨a, 0, none⟩), .string key, .int .i64 x] w fun e w' => e = .returned (.bool (!b)) ∧ Mem w0 w' a (Mm.put L key (.int .i64 x)) R B ∧ Kept w w' ∧ Only a w w' := by
  obtain ⟨p, h1, ⟨t, h2, rfl, h3⟩, h4⟩ := h
  subst hb
  refine (set_at (p := p) h1.head h2 h3 key hk (by rw [← Mm.Tr.count_flat]; exact hn) x).mono fun e w' hw => ?_
  exact wrote_m h1 h4 (Mm.flat_with t key _ h3) (h3.put _ _) hw
theorem get_m (h : Mem w0 w a L R B) (key : ByteArray) {o : Option Value} (ho : Mm.get L key = o) :
    Calls Try.prog 33 #[.pointer (some ⟨a, 0, none⟩), .string key] w fun e w' => e = .returned (.tuple #[o.getD (.int .i64 0), .bool o.isSome]) ∧ Mem w0 w' a L R B ∧ Below w.heap.size w w' := by
  have h' := h
  obtain ⟨p, h1, ⟨t, h2, rfl, h3⟩, h4⟩ := h'
  subst ho
  exact (get_at (p := p) h1.head h2 h3 key).mono fun e w' hw => ⟨hw.1, h.same hw.2, hw.2⟩
theorem len_m (h : Mem w0 w a L R B) {c : Int} (e : (L.length : Int) = c) :
    Calls Try.prog 32 #[.pointer (some ⟨a, 0, none⟩)] w fun e w' => e = .returned (.int .i64 c) ∧ w = w' := by
  obtain ⟨p, h1, ⟨t, h2, rfl, h3⟩, h4⟩ := h
  subst e
  exact len_at (p := p) h1.head h2
def nodeP : TypeId := 92
/-- What From gave, over blocks b1, b2. -/
def fromV (b1 b2 : Nat) : Value := .func (.func 52) #[] #[.pointer (some ⟨b1, 0, none⟩), .pointer (some ⟨b2, 0, none⟩)]
theorem from_m (h : Mem w0 w a L R B) (key : ByteArray) (hk : key.size ≤ 281474976710656) :
    Calls Try.prog 34 #[.pointer (some ⟨a, 0, none⟩), .string key] w fun e w' => ∃ b1 b2 p, e = .returned (fromV b1 b2) ∧
      Mem w0 w' a L ((p, L) :: R) ((b1, .cells #[p] 92 (0, 0)) :: (b2, .cells #[.string key] 9 (0, 0)) :: B) ∧ Below w.heap.size w w' := by
  obtain ⟨p, h1, h2, h4⟩ := h
  have h2' := h2
  obtain ⟨t, h5, -, -⟩ := h2'
  refine (from_at (p := p) h1.head h5 key hk).mono ?_
  rintro e w' ⟨b1, b2, rfl, r1, r2, hb1, hb2, hb⟩
  have k := Kept.of_below hb
  refine ⟨b1, b2, p, rfl, ⟨p, ?_, h2.kept k, fun r hr => ?_⟩, hb⟩
  · have n1 : Now w0 w' ((a, memO p) :: B) := h1.same hb
    have n2 := n1.add (a := b2) r2 (by have := h1.below.size; omega) (fun q hq => by have := h1.lt hq; omega)
    have n3 := n2.add (a := b1) r1 (by have := h1.below.size; omega) (fun q hq => by
      rcases List.mem_cons.1 hq with rfl | hq
      · show b2 ≠ b1; omega
      · have := h1.lt hq; omega)
    exact n3.perm ((List.Perm.cons _ (List.Perm.swap _ _ _)).trans (List.Perm.swap _ _ _))
  · rcases List.mem_cons.1 hr with rfl | hr
    · exact h2.kept k
    · exact (h4 r hr).kept k
/-- The iterator's contract, by the two blocks and the root that they hold. -/
theorem from_seq (n : Nat) {p : Value} {key : ByteArray} {b1 b2 : Nat} (h1 : w.heap[b1]? = some (.cells #[p] 92 (0, 0))) (h2 : w.heap[b2]? = some (.cells #[.string key] 9 (0, 0))) (hr : Root w p L) :
    SeqY Fence.wide n Try.prog 52 #[.pointer (some ⟨b1, 0, none⟩), .pointer (some ⟨b2, 0, none⟩)] pairV (Mm.from_ L key) (IsNode w) w := by
  obtain ⟨t, h3, rfl, h4⟩ := hr
  exact from1_seq n key t p b1 b2 w h3 h4 h1 h2
end
end Go.Proofs.Ythioogncbhkaoaa.MI
