/-
  Two disks in a law: one, and its twin that stays as it was. No condition but those in the theorems.
-/
import Derived.Test.YteolagmlghalgaaDiskLaw
namespace Go.Proofs.Yteolagmlghalgaa
open Go.RowKit Go.Maps Go.Sort Go.Shelf

/-- Since w0 the world has turned in new blocks alone; a disk with D lies in them, and apart from it one with E. -/
structure Two (w0 w : World) (a t : Nat) (D E : Dm.Disk) : Prop where
  ex : ∃ S S' : Nat → Prop, Disk w a D S ∧ Disk w t E S' ∧ (∀ k, S k → S' k → False) ∧ (∀ k, S' k → k < w.heap.size) ∧ (∀ k, S k → w0.heap.size ≤ k)
  below : Below w0.heap.size w0 w

theorem Disk.keep {w w' : World} {a : Nat} {D : Dm.Disk} {S : Nat → Prop} (h : Disk w a D S) (hb : Below w.heap.size w w') : Disk w' a D S := by
  obtain ⟨m, T, h1, h2⟩ := h; exact ⟨m, T, h1.heap fun k hk => hb.block k hk, h2⟩

section
variable {w0 w : World} {a t : Nat} {D E : Dm.Disk}
theorem Two.same {w' : World} (h : Two w0 w a t D E) (hb : Below w.heap.size w w') : Two w0 w' a t D E := by
  obtain ⟨S, S', h1, h2, h3, h4, h5⟩ := h.ex
  exact ⟨⟨S, S', h1.keep hb, h2.keep hb, h3, fun k hk => Nat.lt_of_lt_of_le (h4 k hk) hb.size, h5⟩, h.below.trans (hb.mono h.below.size)⟩
theorem twin_two (h : In w0 w a D) :
    Calls Try.prog 25 #[.pointer (some ⟨a, 0, none⟩)] w fun e w' => ∃ t, e = .returned (.pointer (some ⟨t, 0, none⟩)) ∧ Two w0 w' a t D D :=
  (twin_in h).mono fun _ _ ⟨t, he, ht, ha, hb⟩ => ⟨t, he, ⟨_, _, ha, ht, fun k h1 h2 => Nat.lt_irrefl _ (Nat.lt_of_lt_of_le h1.2 h2.1), fun k hk => hk.2, fun k hk => hk.1⟩, hb⟩
theorem two_read (h : Two w0 w a t D E) (s : ByteArray) (hs : s.size ≤ maxLen) {l : List UInt8} {c : Nat} {z : Int} (e : Dm.read D s.data.toList = (l, c)) (hz : (c : Int) = z) :
    Calls Try.prog 19 #[.pointer (some ⟨a, 0, none⟩), .string s] w fun e w' => e = .returned (.tuple #[.string ⟨l.toArray⟩, .int .i64 z]) ∧ w = w' := by
  obtain ⟨S, S', h1, -⟩ := h.ex
  have := Read_disk h1 s hs
  rw [e] at this; subst hz; exact this
theorem two_read' (h : Two w0 w a t D E) (s : ByteArray) (hs : s.size ≤ maxLen) {l : List UInt8} {c : Nat} {z : Int} (e : Dm.read E s.data.toList = (l, c)) (hz : (c : Int) = z) :
    Calls Try.prog 19 #[.pointer (some ⟨t, 0, none⟩), .string s] w fun e w' => e = .returned (.tuple #[.string ⟨l.toArray⟩, .int .i64 z]) ∧ w = w' := by
  obtain ⟨S, S', -, h1, -⟩ := h.ex
  have := Read_disk h1 s hs
  rw [e] at this; subst hz; exact this
theorem two_used (h : Two w0 w a t D E) {z : Int} (hz : (Dm.used D.files : Int) = z) :
    Calls Try.prog 12 #[.pointer (some ⟨a, 0, none⟩)] w fun e w' => e = .returned (.int .i64 z) ∧ Two w0 w' a t D E := by
  obtain ⟨S, S', h1, -⟩ := h.ex
  exact (Used_disk h1).mono fun _ _ ⟨he, hb⟩ => ⟨by rw [he, hz], h.same hb⟩
theorem two_used' (h : Two w0 w a t D E) {z : Int} (hz : (Dm.used E.files : Int) = z) :
    Calls Try.prog 12 #[.pointer (some ⟨t, 0, none⟩)] w fun e w' => e = .returned (.int .i64 z) ∧ Two w0 w' a t D E := by
  obtain ⟨S, S', -, h1, -⟩ := h.ex
  exact (Used_disk h1).mono fun _ _ ⟨he, hb⟩ => ⟨by rw [he, hz], h.same hb⟩
theorem two_same (h : Two w0 w a t D E) {b : Bool} (e : Dm.same D E = b) :
    Calls Try.prog 23 #[.pointer (some ⟨a, 0, none⟩), .pointer (some ⟨t, 0, none⟩)] w fun e w' => e = .returned (.bool b) ∧ Two w0 w' a t D E := by
  obtain ⟨S, S', h1, h2, -⟩ := h.ex
  exact (Same_disk h1 h2).mono fun _ _ ⟨he, hb⟩ => ⟨by rw [he, e], h.same hb⟩
theorem Two.of {w' : World} {D' : Dm.Disk} {S S' : Nat → Prop} (h2 : Disk w t E S') (h3 : ∀ k, S k → S' k → False) (h4 : ∀ k, S' k → k < w.heap.size) (h5 : ∀ k, S k → w0.heap.size ≤ k) (hb : Below w0.heap.size w0 w) (hd : Disk w' a D' (Grow S w)) (ht : Turned S w w') : Two w0 w' a t D' E :=
  ⟨⟨_, S', hd, h2.stay ht fun k hk h => h3 k h hk, fun k h1 hk => h1.elim (fun h1 => h3 k h1 hk) fun h1 => Nat.lt_irrefl _ (Nat.lt_of_lt_of_le (h4 k hk) h1), fun k hk => Nat.lt_of_lt_of_le (h4 k hk) ht.size,
    fun k hk => hk.elim (h5 k) fun h1 => Nat.le_trans hb.size h1⟩, hb.trans (ht.below hb.size fun k e => h5 k e)⟩
theorem two_rename (h : Two w0 w a t D E) (s r : ByteArray) (hs : s.size ≤ maxLen) (hr : r.size ≤ maxLen) {c : Nat} {D' : Dm.Disk} {z : Int} (e : Dm.rename D s.data.toList r.data.toList = (c, D')) (hz : (c : Int) = z) :
    Calls Try.prog 17 #[.pointer (some ⟨a, 0, none⟩), .string s, .string r] w fun e w' => e = .returned (.int .i64 z) ∧ Two w0 w' a t D' E := by
  obtain ⟨S, S', h1, h2, h3, h4, h5⟩ := h.ex
  have := Rename_disk h1 s r hs hr
  rw [e] at this; subst hz
  exact this.mono fun _ _ ⟨he, hd, ht⟩ => ⟨he, Two.of h2 h3 h4 h5 h.below hd ht⟩
end
end Go.Proofs.Yteolagmlghalgaa
