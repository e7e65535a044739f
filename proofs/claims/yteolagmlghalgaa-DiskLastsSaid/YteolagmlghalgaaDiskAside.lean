/-
  A disk in a law beside blocks that stay as they were (a box, a twin): each call by what the disk has. No condition but those in the theorems.
-/
import Derived.Test.YteolagmlghalgaaDiskTwo
namespace Go.Proofs.Yteolagmlghalgaa
open Go.RowKit Go.Maps Go.Sort Go.Shelf

/-- Since w0 the world has turned in new blocks alone; a disk with D lies in them; the blocks of K are none of its, and are as they were in wk. -/
structure Aside (w0 wk w : World) (a : Nat) (D : Dm.Disk) (K : Nat → Prop) : Prop where
  ex : ∃ S : Nat → Prop, Disk w a D S ∧ (∀ k, S k → w0.heap.size ≤ k) ∧ (∀ k, S k → ¬ K k)
  lt : ∀ k, K k → k < w.heap.size
  kept : ∀ k, K k → w.heap[k]? = wk.heap[k]?
  below : Below w0.heap.size w0 w

theorem Rep.same {w W : World} {a m : Nat} {D : Dm.Disk} {T : List (List UInt8 × Ent)} {S : Nat → Prop} (h : Rep w a m D T) (hw : Within S a m T) (hk : ∀ k, S k → W.heap[k]? = w.heap[k]?) : Rep W a m D T :=
  ⟨h.right, h.files, (hk _ hw.1).trans h.cell, ownsMap_of h.map (hk _ hw.2.1), fun p hp => entAt_of (h.ents p hp) fun k hk' => hk k (hw.2.2 p hp k hk'), h.apart⟩

section
variable {w0 wk w : World} {a : Nat} {D D' : Dm.Disk} {K : Nat → Prop} {c : Nat} {z : Int}
theorem In.aside (h : In w0 w a D) (o : Obj) : Aside w0 (w.alloc o) (w.alloc o) a D (· = w.heap.size) := by
  obtain ⟨m, T, h1, h2⟩ := h.disk.tight
  exact ⟨⟨_, ⟨m, T, h1.alloc _, h2⟩, fun k hk => hk.1, fun k hk e => by have := hk.2; omega⟩, fun k e => by rw [e]; simp, fun _ _ => rfl, (h.alloc o).below⟩
theorem Aside.same {w' : World} (h : Aside w0 wk w a D K) (hb : Below w.heap.size w w') : Aside w0 wk w' a D K := by
  obtain ⟨S, h1, h2, h3⟩ := h.ex
  exact ⟨⟨S, h1.keep hb, h2, h3⟩, fun k hk => Nat.lt_of_lt_of_le (h.lt k hk) hb.size, fun k hk => (hb.block k (h.lt k hk)).trans (h.kept k hk), h.below.trans (hb.mono h.below.size)⟩
theorem Aside.of {w' : World} {S : Nat → Prop} (h : Aside w0 wk w a D K) (h2 : ∀ k, S k → w0.heap.size ≤ k) (h3 : ∀ k, S k → ¬ K k) (hd : Disk w' a D' (Grow S w)) (ht : Turned S w w') : Aside w0 wk w' a D' K :=
  ⟨⟨_, hd, fun k hk => hk.elim (h2 k) fun e => Nat.le_trans h.below.size e, fun k hk e => hk.elim (fun e1 => h3 k e1 e) fun e1 => Nat.lt_irrefl _ (Nat.lt_of_lt_of_le (h.lt k e) e1)⟩,
    fun k hk => Nat.lt_of_lt_of_le (h.lt k hk) ht.size, fun k hk => (ht.block k (h.lt k hk) fun e => h3 k e hk).trans (h.kept k hk), h.below.trans (ht.below h.below.size fun k e => h2 k e)⟩
theorem Aside.inn (h : Aside w0 wk w a D K) : In w0 w a D := by
  obtain ⟨S, h1, h2, -⟩ := h.ex
  exact ⟨h1.mono h2, h.below⟩
theorem Aside.cell (h : Aside w0 wk w a D K) {b i : Nat} (hb : K b) : w.cell? ⟨b, i, none⟩ = wk.cell? ⟨b, i, none⟩ := World.cell?_of_block (h.kept b hb)
theorem create_aside (h : Aside w0 wk w a D K) (s : ByteArray) (hs : s.size ≤ maxLen) (e : Dm.create D s.data.toList = (c, D')) (hz : (c : Int) = z) :
    Calls Try.prog 10 #[.pointer (some ⟨a, 0, none⟩), .string s] w fun e w' => e = .returned (.int .i64 z) ∧ Aside w0 wk w' a D' K := by
  obtain ⟨S, h1, h2, h3⟩ := h.ex
  have := Create_disk h1 s hs
  rw [e] at this; subst hz
  exact this.mono fun _ _ ⟨he, hd, ht⟩ => ⟨he, h.of h2 h3 hd ht⟩
theorem append_aside (h : Aside w0 wk w a D K) (s r : ByteArray) (hs : s.size ≤ maxLen) (hr : r.size ≤ maxLen) (e : Dm.append D s.data.toList r.data.toList = (c, D')) (hz : (c : Int) = z) :
    Calls Try.prog 11 #[.pointer (some ⟨a, 0, none⟩), .string s, .string r] w fun e w' => e = .returned (.int .i64 z) ∧ Aside w0 wk w' a D' K := by
  obtain ⟨S, h1, h2, h3⟩ := h.ex
  have := Append_disk h1 s r hs hr
  rw [e] at this; subst hz
  exact this.mono fun _ _ ⟨he, hd, ht⟩ => ⟨he, h.of h2 h3 hd ht⟩
theorem sync_aside (h : Aside w0 wk w a D K) (s : ByteArray) (hs : s.size ≤ maxLen) (e : Dm.sync D s.data.toList = (c, D')) (hz : (c : Int) = z) :
    Calls Try.prog 13 #[.pointer (some ⟨a, 0, none⟩), .string s] w fun e w' => e = .returned (.int .i64 z) ∧ Aside w0 wk w' a D' K := by
  obtain ⟨S, h1, h2, h3⟩ := h.ex
  have := Sync_disk h1 s hs
  rw [e] at this; subst hz
  exact this.mono fun _ _ ⟨he, hd, ht⟩ => ⟨he, h.of h2 h3 hd ht⟩
theorem rename_aside (h : Aside w0 wk w a D K) (s r : ByteArray) (hs : s.size ≤ maxLen) (hr : r.size ≤ maxLen) (e : Dm.rename D s.data.toList r.data.toList = (c, D')) (hz : (c : Int) = z) :
    Calls Try.prog 17 #[.pointer (some ⟨a, 0, none⟩), .string s, .string r] w fun e w' => e = .returned (.int .i64 z) ∧ Aside w0 wk w' a D' K := by
  obtain ⟨S, h1, h2, h3⟩ := h.ex
  have := Rename_disk h1 s r hs hr
  rw [e] at this; subst hz
  exact this.mono fun _ _ ⟨he, hd, ht⟩ => ⟨he, h.of h2 h3 hd ht⟩
theorem remove_aside (h : Aside w0 wk w a D K) (s : ByteArray) (hs : s.size ≤ maxLen) (e : Dm.remove D s.data.toList = (c, D')) (hz : (c : Int) = z) :
    Calls Try.prog 26 #[.pointer (some ⟨a, 0, none⟩), .string s] w fun e w' => e = .returned (.int .i64 z) ∧ Aside w0 wk w' a D' K := by
  obtain ⟨S, h1, h2, h3⟩ := h.ex
  have := Remove_disk h1 s hs
  rw [e] at this; subst hz
  exact this.mono fun _ _ ⟨he, hd, ht⟩ => ⟨he, h.of h2 h3 hd ht⟩
theorem start_aside (h : Aside w0 wk w a D K) :
    Calls Try.prog 15 #[.pointer (some ⟨a, 0, none⟩)] w fun e w' => e = .returned (.tuple #[]) ∧ Aside w0 wk w' a (Dm.start D) K := by
  obtain ⟨S, h1, h2, h3⟩ := h.ex
  exact (Start_disk h1).mono fun _ _ ⟨he, hd, ht⟩ => ⟨he, h.of h2 h3 (hd.mono fun _ e => .inl e) ht⟩
theorem read_aside (h : Aside w0 wk w a D K) (s : ByteArray) (hs : s.size ≤ maxLen) {l : List UInt8} (e : Dm.read D s.data.toList = (l, c)) (hz : (c : Int) = z) :
    Calls Try.prog 19 #[.pointer (some ⟨a, 0, none⟩), .string s] w fun e w' => e = .returned (.tuple #[.string ⟨l.toArray⟩, .int .i64 z]) ∧ w = w' := by
  obtain ⟨S, h1, -⟩ := h.ex
  have := Read_disk h1 s hs
  rw [e] at this; subst hz; exact this
theorem down_aside (h : Aside w0 wk w a D K) {b : Bool} (hb : D.down = b) :
    Calls Try.prog 18 #[.pointer (some ⟨a, 0, none⟩)] w fun e w' => e = .returned (.bool b) ∧ w = w' := by
  obtain ⟨S, h1, -⟩ := h.ex
  rw [← hb]; exact Down_disk h1
theorem used_aside (h : Aside w0 wk w a D K) (hz : (Dm.used D.files : Int) = z) :
    Calls Try.prog 12 #[.pointer (some ⟨a, 0, none⟩)] w fun e w' => e = .returned (.int .i64 z) ∧ Aside w0 wk w' a D K := by
  obtain ⟨S, h1, -⟩ := h.ex
  exact (Used_disk h1).mono fun _ _ ⟨he, hb⟩ => ⟨by rw [he, hz], h.same hb⟩
/-- A twin: it stays, as all that stayed before. -/
theorem twin_aside (h : Aside w0 wk w a D K) :
    Calls Try.prog 25 #[.pointer (some ⟨a, 0, none⟩)] w fun e w' => ∃ t, e = .returned (.pointer (some ⟨t, 0, none⟩)) ∧ Disk w' t D (fun k => w.heap.size ≤ k ∧ k < w'.heap.size) ∧ (∀ k, K k → w'.heap[k]? = wk.heap[k]?) ∧
      Aside w0 w' w' a D fun k => K k ∨ (w.heap.size ≤ k ∧ k < w'.heap.size) := by
  obtain ⟨S, h1, h2, h3⟩ := h.ex
  have h1' := h1.tight
  exact (Twin_disk h1).mono fun _ _ ⟨t, he, hd, hb⟩ => ⟨t, he, hd.tight, fun k hk => (hb.block k (h.lt k hk)).trans (h.kept k hk),
    ⟨⟨_, h1'.keep hb, fun k hk => h2 k hk.1, fun k hk e => e.elim (h3 k hk.1) fun e => by have := hk.2; omega⟩, fun k hk => hk.elim (fun e => Nat.lt_of_lt_of_le (h.lt k e) hb.size) (·.2), fun _ _ => rfl, h.below.trans (hb.mono h.below.size)⟩⟩
/-- The disk against one that stayed. -/
theorem same_aside (h : Aside w0 wk w a D K) {t : Nat} {E : Dm.Disk} {S' : Nat → Prop} (hE : Disk wk t E S') (hlt : ∀ k, S' k → K k) {b : Bool} (e : Dm.same D E = b) :
    Calls Try.prog 23 #[.pointer (some ⟨a, 0, none⟩), .pointer (some ⟨t, 0, none⟩)] w fun e w' => e = .returned (.bool b) ∧ Aside w0 wk w' a D K := by
  obtain ⟨S, h1, -⟩ := h.ex
  have h2 : Disk w t E S' := by
    obtain ⟨m, T, k1, k2⟩ := hE
    exact ⟨m, T, k1.same k2 fun k hk => h.kept k (hlt k hk), k2⟩
  exact (Same_disk h1 h2).mono fun _ _ ⟨he, hb⟩ => ⟨by rw [he, e], h.same hb⟩
end
end Go.Proofs.Yteolagmlghalgaa
