/-
  A table of texts in a law, or none: each call by what it has (MemPlays). Conditions: those in the theorems.
-/
import Derived.Test.YthioogncbhkaoaaMemMoreS
import Derived.Test.YthioogncbhkaoaaMemFromLaw
import Derived.Test.YthioogncbhkaoaaMemNilS
import Derived.Test.YthioogncbhkaoaaMemDelS
import Derived.Test.YthioogncbhkaoaaMemPTurn
namespace Go.Proofs.Ythioogncbhkaoaa
open Go.RowKit

/-- mv is a table that has L, or there is none (nn), beside the boxes B. -/
def Tbl (w0 w : World) (nn : Bool) (mv : Value) (L : Mm.Row) (R : List (Value × Mm.Row)) (B : List (Nat × Obj)) : Prop :=
  (nn = true ∧ mv = .pointer none ∧ L = [] ∧ Now w0 w B ∧ ∀ r ∈ R, MS.Root w r.1 r.2) ∨ (nn = false ∧ ∃ a, mv = .pointer (some ⟨a, 0, none⟩) ∧ MS.Mem w0 w a L R B)
/-- Rows of pairs that lay lie as they lay. -/
def KeepsP (w w' : World) : Prop := ∀ p ws, PairsAt w p ws → PairsAt w' p ws
theorem KeepsP.of_below {w w' : World} (h : Below w.heap.size w w') : KeepsP w w' := fun _ _ hp => hp.below h
theorem KeepsP.trans {w w' w'' : World} (h : KeepsP w w') (k : KeepsP w' w'') : KeepsP w w'' := fun p ws hp => k p ws (h p ws hp)
theorem keepsP_only {w0 w w' : World} {a : Nat} {L : Mm.Row} {R : List (Value × Mm.Row)} {B : List (Nat × Obj)} (h : MS.Mem w0 w a L R B) (ho : MS.Only a w w') : KeepsP w w' := fun p ws hp => by
  obtain ⟨q, h1, h2, -⟩ := h
  obtain ⟨oq, rfl⟩ := h2.ptr
  exact pairs_turn hp ho.size fun k hk hc => ho.block k hk fun e => by subst e; exact no_text h1.head (fun _ h => by cases h) hc
section
variable {w0 w w' A : World} {nn : Bool} {mv : Value} {L : Mm.Row} {R : List (Value × Mm.Row)} {B B' : List (Nat × Obj)}
theorem Tbl.ptr (h : Tbl w0 w nn mv L R B) : ∃ o, mv = .pointer o ∧ o.isNone = nn := by
  rcases h with ⟨rfl, rfl, -⟩ | ⟨rfl, a, rfl, -⟩ <;> exact ⟨_, rfl, rfl⟩
theorem Tbl.now (h : Tbl w0 w nn mv L R B) : Now w0 w B := by
  rcases h with ⟨-, -, -, h, -⟩ | ⟨-, a, -, h⟩
  · exact h
  · exact MS.Mem.now h
theorem Tbl.rt (h : Tbl w0 w nn mv L R B) {r : Value × Mm.Row} (hr : r ∈ R) : MS.Root w r.1 r.2 := by
  rcases h with ⟨-, -, -, -, h⟩ | ⟨-, a, -, h⟩
  · exact h r hr
  · exact MS.Mem.rt h hr
theorem Tbl.below (h : Tbl w0 w nn mv L R B) : Below w0.heap.size w0 w := h.now.below
theorem Tbl.same (h : Tbl w0 w nn mv L R B) (hb : Below w.heap.size w w') : Tbl w0 w' nn mv L R B := by
  rcases h with ⟨h1, h2, h3, h, h4⟩ | ⟨h1, a, h2, h⟩
  · exact .inl ⟨h1, h2, h3, Now.same h hb, fun r hr => (h4 r hr).kept (.of_below hb)⟩
  · exact .inr ⟨h1, a, h2, MS.Mem.same h hb⟩
theorem Tbl.sub (h : Tbl w0 w nn mv L R B) (hs : B'.Sublist B) : Tbl w0 w nn mv L R B' := by
  rcases h with ⟨h1, h2, h3, h, h4⟩ | ⟨h1, a, h2, h⟩
  · exact .inl ⟨h1, h2, h3, Now.sub h hs, h4⟩
  · exact .inr ⟨h1, a, h2, MS.Mem.sub h hs⟩
theorem Tbl.perm (h : Tbl w0 w nn mv L R B) (hs : B.Perm B') : Tbl w0 w nn mv L R B' := by
  rcases h with ⟨h1, h2, h3, h, h4⟩ | ⟨h1, a, h2, h⟩
  · exact .inl ⟨h1, h2, h3, Now.perm h hs, h4⟩
  · exact .inr ⟨h1, a, h2, MS.Mem.perm h hs⟩
theorem Tbl.alloc (h : Tbl w0 w nn mv L R B) (o : Obj) : Tbl w0 (w.alloc o) nn mv L R ((w.heap.size, o) :: B) := by
  rcases h with ⟨h1, h2, h3, h, h4⟩ | ⟨h1, a, h2, h⟩
  · exact .inl ⟨h1, h2, h3, Now.alloc h o, fun r hr => (h4 r hr).kept (.alloc _ _)⟩
  · exact .inr ⟨h1, a, h2, MS.Mem.alloc h o⟩
theorem Tbl.set {b : Nat} {x : Value} {T : TypeId} (h : Tbl w0 w nn mv L R ((b, .cells #[x] T (0, 0)) :: B)) (hT : ¬ nodeT T) (v : Value) : Tbl w0 (w.setCell ⟨b, 0, none⟩ v) nn mv L R ((b, .cells #[v] T (0, 0)) :: B) := by
  rcases h with ⟨h1, h2, h3, h, h4⟩ | ⟨h1, a, h2, h⟩
  · exact .inl ⟨h1, h2, h3, h.set v, fun r hr => (h4 r hr).kept (kept_box h.head hT v)⟩
  · exact .inr ⟨h1, a, h2, MS.Mem.set h hT v⟩
theorem Tbl.box (h : Tbl w0 w nn mv L R B) {q : Nat × Obj} (hq : q ∈ B) : w.heap[q.1]? = some q.2 := h.now.box q hq
theorem Tbl.lt (h : Tbl w0 w nn mv L R B) {q : Nat × Obj} (hq : q ∈ B) : q.1 < w.heap.size := h.now.lt hq
theorem Tbl.sorted (h : Tbl w0 w nn mv L R B) : Mm.Sorted L := by
  rcases h with ⟨-, -, rfl, -⟩ | ⟨-, a, -, h⟩
  · exact List.Pairwise.nil
  · exact MS.Mem.sorted h
/-- The table's own block, if there is one, lies below n. -/
def LowM (n : Nat) (mv : Value) : Prop := ∀ a, mv = .pointer (some ⟨a, 0, none⟩) → a < n
theorem Tbl.low (h : Tbl w0 w nn mv L R B) : LowM w.heap.size mv := fun a e => by
  rcases h with ⟨-, rfl, -⟩ | ⟨-, a', rfl, h⟩
  · cases e
  · injection e with e
    injection e with e
    injection e with e
    subst e; exact MS.Mem.alt h
theorem LowM.mono {n m : Nat} {mv : Value} (h : LowM n mv) (hm : n ≤ m) : LowM m mv := fun a e => Nat.lt_of_lt_of_le (h a e) hm
theorem Tbl.mark {D : Nat} (h : Tbl w0 A nn mv L R B) (hK : A.heap[D]? = some (.deferred (some []))) (h0 : w0.heap.size ≤ D) (ha : LowM D mv) (hB : ∀ q ∈ B, q.1 ≠ D) : Tbl w0 A nn mv L R ((D, MarkO) :: B) := by
  rcases h with ⟨h1, h2, h3, h, h4⟩ | ⟨h1, a, h2, h⟩
  · exact .inl ⟨h1, h2, h3, h.add hK h0 hB, h4⟩
  · exact .inr ⟨h1, a, h2, MS.Mem.mark h hK h0 (Nat.ne_of_lt (ha a h2)) hB⟩
theorem Tbl.its {n : Nat} {C : World} (h : Tbl w0 A nn mv L R B) (st : ItS n A C) (h0 : w0.heap.size ≤ n) (ha : LowM n mv) (hB : ∀ q ∈ B, q.1 < n) : Tbl w0 C nn mv L R B := by
  rcases h with ⟨h1, h2, h3, h, h4⟩ | ⟨h1, a, h2, h⟩
  · have hk : Kept A C := ⟨st.size, fun k hk => st.block k hk.lt (.inr fun hn => by obtain ⟨cs, T, -, h⟩ := hk; exact hn _ _ _ h)⟩
    refine .inl ⟨h1, h2, h3, ⟨⟨st.os.trans h.below.os, st.tape.trans h.below.tape, st.output.trans h.below.output, Nat.le_trans h.below.size st.size, fun k hk => (st.block k (by have := h.below.size; omega) (.inl (by omega))).trans (h.below.block k hk)⟩, fun q hq => ?_, h.new, h.apart⟩, fun r hr => (h4 r hr).kept hk⟩
    exact (st.block q.1 (h.lt hq) (.inl (hB q hq))).trans (h.box q hq)
  · exact .inr ⟨h1, a, h2, MS.Mem.its h st h0 (ha a h2) hB⟩
/-- What a call of the table leaves as it was, in a range's body. -/
def AwayT (cap : Nat → Prop) (mv : Value) : Prop := ∀ a, mv = .pointer (some ⟨a, 0, none⟩) → ¬ cap a
theorem Tbl.away (h : Tbl w0 w nn mv L R B) : AwayT (IsNode w) mv := fun a e => by
  rcases h with ⟨-, rfl, -⟩ | ⟨-, a', rfl, h⟩
  · cases e
  · injection e with e
    injection e with e
    injection e with e
    subst e; exact MS.Mem.aNot h
def LeftT (mv : Value) (w w' : World) : Prop := ∀ cap : Nat → Prop, AwayT cap mv → BodyK cap w w'
theorem LeftT.of_below (h : Below w.heap.size w w') : LeftT mv w w' := fun _ _ => .of_below h
theorem leftT_only {a : Nat} (h : MS.Mem w0 w a L R B) (ho : MS.Only a w w') : LeftT (.pointer (some ⟨a, 0, none⟩)) w w' := fun cap hc => MS.bodyK_only h ho (hc a rfl)

theorem set_t (h : Tbl w0 w nn mv L R B) (key : ByteArray) (hk : key.size ≤ 281474976710656) (hn : L.length ≤ 999999) (x : ByteArray) {b : Bool} (hb : (!nn && !(Mm.get L key).isSome) = b) :
    Calls Try.prog 8 #[mv, .string key, .string x] w fun e w' => e = .returned (.bool b) ∧ Tbl w0 w' nn mv (if nn = true then [] else Mm.put L key (.string x)) R B ∧ KeepsP w w' ∧ LeftT mv w w' := by
  subst hb
  rcases h with ⟨rfl, rfl, rfl, h, h4⟩ | ⟨rfl, a, rfl, h⟩
  · refine (MS.set_nil key x w).mono ?_
    rintro e w' ⟨rfl, rfl⟩
    exact ⟨rfl, .inl ⟨rfl, rfl, rfl, h, h4⟩, fun _ _ h => h, .of_below (Below.refl _ _)⟩
  · refine (MS.set_m h key hk hn x rfl).mono ?_
    rintro e w' ⟨rfl, h2, -, ho⟩
    exact ⟨rfl, .inr ⟨rfl, a, rfl, h2⟩, keepsP_only h ho, leftT_only h ho⟩
theorem delete_t (h : Tbl w0 w nn mv L R B) (key : ByteArray) (hn : L.length ≤ 999999) {b : Bool} (hb : (Mm.get L key).isSome = b) :
    Calls Try.prog 13 #[mv, .string key] w fun e w' => e = .returned (.bool b) ∧ Tbl w0 w' nn mv (Mm.del L key) R B ∧ KeepsP w w' ∧ LeftT mv w w' := by
  subst hb
  rcases h with ⟨rfl, rfl, rfl, h, h4⟩ | ⟨rfl, a, rfl, h⟩
  · refine (MS.delete_nil key w).mono ?_
    rintro e w' ⟨rfl, hb⟩
    exact ⟨rfl, .inl ⟨rfl, rfl, rfl, h.same hb, fun r hr => (h4 r hr).kept (.of_below hb)⟩, .of_below hb, .of_below hb⟩
  · refine (MS.delete_m h key hn rfl).mono ?_
    rintro e w' ⟨rfl, h2, -, ho⟩
    exact ⟨rfl, .inr ⟨rfl, a, rfl, h2⟩, keepsP_only h ho, leftT_only h ho⟩
theorem get_t (h : Tbl w0 w nn mv L R B) (key : ByteArray) {o : Option Value} (ho : Mm.get L key = o) :
    Calls Try.prog 10 #[mv, .string key] w fun e w' => e = .returned (.tuple #[o.getD (.string ⟨#[]⟩), .bool o.isSome]) ∧ Below w.heap.size w w' := by
  subst ho
  rcases h with ⟨rfl, rfl, rfl, h⟩ | ⟨rfl, a, rfl, h⟩
  · exact (MS.get_nil key w).mono fun e w' hw => ⟨hw.1, hw.2⟩
  · exact (MS.get_m h key rfl).mono fun e w' hw => ⟨hw.1, hw.2.2⟩
theorem floor_t (h : Tbl w0 w nn mv L R B) (key : ByteArray) {o : Option (ByteArray × Value)} (ho : Mm.floor L key = o) :
    Calls Try.prog 14 #[mv, .string key] w fun e w' => e = .returned (MS.floorV o) ∧ Below w.heap.size w w' := by
  subst ho
  rcases h with ⟨rfl, rfl, rfl, h⟩ | ⟨rfl, a, rfl, h⟩
  · exact (MS.floor_nil key w).mono fun e w' hw => ⟨hw.1, hw.2⟩
  · exact (MS.floor_m h key rfl).mono fun e w' hw => ⟨hw.1, hw.2.2⟩
theorem len_t (h : Tbl w0 w nn mv L R B) {c : Int} (e : (L.length : Int) = c) :
    Calls Try.prog 22 #[mv] w fun e w' => e = .returned (.int .i64 c) ∧ w = w' := by
  rcases h with ⟨rfl, rfl, rfl, h⟩ | ⟨rfl, a, rfl, h⟩
  · subst e; exact MS.len_none w
  · exact MS.len_m h e
theorem clear_t (h : Tbl w0 w nn mv L R B) : Calls Try.prog 19 #[mv] w fun e w' => e = .returned (.tuple #[]) ∧ Tbl w0 w' nn mv [] R B ∧ KeepsP w w' := by
  rcases h with ⟨rfl, rfl, rfl, h, h4⟩ | ⟨rfl, a, rfl, h⟩
  · refine (MS.clear_nil w).mono ?_
    rintro e w' ⟨rfl, rfl⟩
    exact ⟨rfl, .inl ⟨rfl, rfl, rfl, h, h4⟩, fun _ _ h => h⟩
  · refine (MS.clear_m h).mono ?_
    rintro e w' ⟨rfl, h2, -, ho⟩
    exact ⟨rfl, .inr ⟨rfl, a, rfl, h2⟩, keepsP_only h ho⟩
/-- The twin is a table of its own, and new. -/
theorem twin_t (h : Tbl w0 w nn mv L R B) : Calls Try.prog 20 #[mv] w fun e w' => ∃ mv', e = .returned mv' ∧ Tbl w w' nn mv' L [] [] ∧ Below w.heap.size w w' := by
  rcases h with ⟨rfl, rfl, rfl, h, h4⟩ | ⟨rfl, a, rfl, h⟩
  · refine (MS.twin_nil w).mono ?_
    rintro e w' ⟨rfl, rfl⟩
    exact ⟨_, rfl, .inl ⟨rfl, rfl, rfl, now_start w, fun _ h => nomatch h⟩, Below.refl _ _⟩
  · obtain ⟨p, h1, h2, h4⟩ := h
    have h2' := h2
    obtain ⟨t, h5, -, -⟩ := h2'
    refine (MS.twin_at (p := p) h1.head h5).mono ?_
    rintro e w' ⟨rfl, rfl⟩
    exact ⟨_, rfl, .inr ⟨rfl, _, rfl, p, (now_start w).alloc _, h2.kept (.alloc _ _), fun _ h => nomatch h⟩, below_alloc w _⟩
theorem from_tr (h : Tbl w0 w nn mv L R B) (key : ByteArray) (hk : key.size ≤ 281474976710656) :
    Calls Try.prog 41 #[mv, .string key] w fun e w' => ∃ b1 b2 p, e = .returned (MS.fromV b1 b2) ∧
      Tbl w0 w' nn mv L ((p, L) :: R) ((b1, .cells #[p] 27 (0, 0)) :: (b2, .cells #[.string key] 9 (0, 0)) :: B) ∧ Below w.heap.size w w' := by
  rcases h with ⟨rfl, rfl, rfl, h, h4⟩ | ⟨rfl, a, rfl, h⟩
  · refine (MS.from_nil w key hk).mono ?_
    rintro e w' ⟨b1, b2, rfl, r1, r2, hb1, hb2, hb⟩
    have n1 := h.same hb
    have n2 := n1.add (a := b2) r2 (by have := h.below.size; omega) (fun q hq => by have := h.lt hq; omega)
    have n3 := n2.add (a := b1) r1 (by have := h.below.size; omega) (fun q hq => by
      rcases List.mem_cons.1 hq with rfl | hq
      · show b2 ≠ b1; omega
      · have := h.lt hq; omega)
    refine ⟨b1, b2, .pointer none, rfl, .inl ⟨rfl, rfl, rfl, n3, fun r hr => ?_⟩, hb⟩
    rcases List.mem_cons.1 hr with rfl | hr
    · exact MS.root_nil _
    · exact (h4 r hr).kept (.of_below hb)
  · refine (MS.from_m h key hk).mono ?_
    rintro e w' ⟨b1, b2, p, rfl, h2, hb⟩
    exact ⟨b1, b2, p, rfl, .inr ⟨rfl, a, rfl, h2⟩, hb⟩
/-- The law's from: the list of what is gone over. -/
theorem from_t {ws : List Pr} (h : Tbl w0 w nn mv L R B) (hl : L.length ≤ 1000) (hal : Rf.Alike L ws) (hin : ∀ x ∈ ws, PrIn x) (key : ByteArray) (hk : key.size ≤ 281474976710656) :
    Calls Try.prog 17 #[mv, .string key] w fun e w' => ∃ v, e = .returned v ∧ MadeP w w' v (Rf.fromR ws key) := by
  have e1 := hal.from_ key
  have e2 := hal.length
  have e3 := Rf.fromR_length ws key
  refine fromS_any (by omega) (fun x hx => hin x (Rf.mem_fromR.1 hx).1) ?_
  intro w' hb
  have hs := h.same hb
  clear h
  rcases hs with ⟨-, rfl, rfl, -⟩ | ⟨-, a, rfl, h⟩
  · refine (MS.from_nil w' key hk).mono ?_
    rintro e w'' ⟨b1, b2, rfl, r1, r2, hb1, hb2, hb⟩
    exact ⟨b1, b2, .pointer none, [], rfl, r1, r2, MS.root_nil _, e1.symm, hb⟩
  · obtain ⟨p, h1, h2, -⟩ := h
    have h2' := h2
    obtain ⟨t, hat, hfl, hst⟩ := h2'
    refine (MS.from_at (p := p) h1.head hat key hk).mono ?_
    rintro e w'' ⟨b1, b2, rfl, r1, r2, hb1, hb2, hb⟩
    exact ⟨b1, b2, p, L, rfl, r1, r2, h2.kept (.of_below hb), e1.symm, hb⟩
end
end Go.Proofs.Ythioogncbhkaoaa
