/-
  A disk in a law beside boxes (blocks that hold what is told of them): a log's object, its numbers. Each call of the disk keeps them. No condition but those in the theorems.
-/
import Derived.Test.YtoecbkndbcblpaaGreatDoorDiskIn
import Derived.Test.YtoecbkndbcblpaaGreatDoorWalShelf
namespace Go.Proofs.YtoecbkndbcblpaaGreatDoor
open Go.RowKit Go.Maps Go.Sort Go.Shelf

/-- Since w0 the world has turned in new blocks alone; a disk with D lies in them, at a; the blocks of B are none of its, are apart, and hold what B says. -/
structure Bx (w0 w : World) (a : Nat) (D : Dm.Disk) (B : List (Nat × Obj)) : Prop where
  ex : ∃ S : Nat → Prop, Disk w a D S ∧ (∀ k, S k → w0.heap.size ≤ k ∧ k < w.heap.size) ∧ ∀ p ∈ B, ¬ S p.1
  box : ∀ p ∈ B, w.heap[p.1]? = some p.2
  apart : (B.map (·.1)).Nodup
  new : ∀ p ∈ B, w0.heap.size ≤ p.1
  below : Below w0.heap.size w0 w

section
variable {w0 w w' : World} {a : Nat} {D D' : Dm.Disk} {B B' : List (Nat × Obj)}
theorem Bx.lt (h : Bx w0 w a D B) : ∀ p ∈ B, p.1 < w.heap.size := fun p hp => (Array.getElem?_eq_some_iff.1 (h.box p hp)).1
theorem Bx.right (h : Bx w0 w a D B) : Dm.Right D := by obtain ⟨S, h1, -⟩ := h.ex; exact h1.right
theorem Bx.of {S : Nat → Prop} (h : Bx w0 w a D B) (h2 : ∀ k, S k → w0.heap.size ≤ k ∧ k < w.heap.size) (h3 : ∀ p ∈ B, ¬ S p.1) (hd : Disk w' a D' (Grow S w)) (ht : Turned S w w') : Bx w0 w' a D' B :=
  ⟨⟨_, hd.tight, fun k hk => ⟨hk.1.elim (fun e => (h2 k e).1) fun e => Nat.le_trans h.below.size e, hk.2⟩, fun p hp e => e.1.elim (h3 p hp) fun e => by have := h.lt p hp; omega⟩,
    fun p hp => (ht.block _ (h.lt p hp) (h3 p hp)).trans (h.box p hp), h.apart, h.new, h.below.trans (ht.below h.below.size fun k hk => (h2 k hk).1)⟩
theorem Disk.below_ {S : Nat → Prop} (h : Disk w a D S) (hb : Below w.heap.size w w') : Disk w' a D S := by
  obtain ⟨m, T, h1, h2⟩ := h; exact ⟨m, T, h1.heap fun k hk => hb.block k hk, h2⟩
theorem Bx.same (h : Bx w0 w a D B) (hb : Below w.heap.size w w') : Bx w0 w' a D B := by
  obtain ⟨S, h1, h2, h3⟩ := h.ex
  exact h.of h2 h3 ((h1.below_ hb).mono fun _ e => .inl e) (turned_of_below hb)
theorem Bx.alloc (h : Bx w0 w a D B) (o : Obj) : Bx w0 (w.alloc o) a D ((w.heap.size, o) :: B) := by
  obtain ⟨S, h1, h2, h3⟩ := h.ex
  have hb : Below w.heap.size w (w.alloc o) := (Below.refl _ w).alloc (Nat.le_refl _) o
  refine ⟨⟨S, h1.below_ hb, fun k hk => ⟨(h2 k hk).1, Nat.lt_of_lt_of_le (h2 k hk).2 hb.size⟩, fun p hp => ?_⟩, fun p hp => ?_, ?_, fun p hp => ?_, h.below.trans (hb.mono h.below.size)⟩
  · rcases List.mem_cons.1 hp with rfl | hp
    · exact fun e => Nat.lt_irrefl _ (h2 _ e).2
    · exact h3 p hp
  · rcases List.mem_cons.1 hp with rfl | hp
    · exact heap_alloc_new w o
    · exact (hb.block _ (h.lt p hp)).trans (h.box p hp)
  · rw [List.map_cons]
    refine List.nodup_cons.2 ⟨fun e => ?_, h.apart⟩
    obtain ⟨p, hp, e⟩ := List.mem_map.1 e
    have := h.lt p hp
    simp only at e; omega
  · rcases List.mem_cons.1 hp with rfl | hp
    · exact h.below.size
    · exact h.new p hp
theorem Bx.sub (h : Bx w0 w a D B) (hs : B'.Sublist B) : Bx w0 w a D B' := by
  obtain ⟨S, h1, h2, h3⟩ := h.ex
  exact ⟨⟨S, h1, h2, fun p hp => h3 p (hs.subset hp)⟩, fun p hp => h.box p (hs.subset hp), h.apart.sublist (hs.map _), fun p hp => h.new p (hs.subset hp), h.below⟩
theorem Bx.perm (h : Bx w0 w a D B) (hs : B'.Perm B) : Bx w0 w a D B' := by
  obtain ⟨S, h1, h2, h3⟩ := h.ex
  exact ⟨⟨S, h1, h2, fun p hp => h3 p (hs.subset hp)⟩, fun p hp => h.box p (hs.subset hp), (hs.map _).nodup_iff.2 h.apart, fun p hp => h.new p (hs.subset hp), h.below⟩
/-- A box turns, and what is new. -/
theorem Bx.turn {b : Nat} {o o' : Obj} (h : Bx w0 w a D ((b, o) :: B)) (ht : Turned (fun k => k = b) w w') (ho : w'.heap[b]? = some o') : Bx w0 w' a D ((b, o') :: B) := by
  obtain ⟨S, h1, h2, h3⟩ := h.ex
  have hbS := h3 _ List.mem_cons_self
  have hnd := List.nodup_cons.1 h.apart
  have hne : ∀ p ∈ B, p.1 ≠ b := fun p hp e => hnd.1 (List.mem_map.2 ⟨p, hp, e⟩)
  refine ⟨⟨S, h1.stay ht fun k hk e => hbS (by rw [← e]; exact hk), fun k hk => ⟨(h2 k hk).1, Nat.lt_of_lt_of_le (h2 k hk).2 ht.size⟩, fun p hp => ?_⟩, fun p hp => ?_, h.apart, fun p hp => ?_, h.below.trans (ht.below h.below.size fun k e => by rw [e]; exact h.new _ List.mem_cons_self)⟩
  · rcases List.mem_cons.1 hp with rfl | hp
    · exact hbS
    · exact h3 p (List.mem_cons_of_mem _ hp)
  · rcases List.mem_cons.1 hp with rfl | hp
    · exact ho
    · exact (ht.block _ (h.lt p (List.mem_cons_of_mem _ hp)) (hne p hp)).trans (h.box p (List.mem_cons_of_mem _ hp))
  · rcases List.mem_cons.1 hp with rfl | hp
    · exact h.new (b, o) List.mem_cons_self
    · exact h.new p (List.mem_cons_of_mem _ hp)
theorem Bx.set {b : Nat} {cs : Array Value} {T : TypeId} (h : Bx w0 w a D ((b, .cells cs T (0, 0)) :: B)) (i : Nat) (v : Value) : Bx w0 (w.setCell ⟨b, i, none⟩ v) a D ((b, .cells (cs.setIfInBounds i v) T (0, 0)) :: B) :=
  h.turn (turned_setCell _ _ _ rfl) (set1 (h.box _ List.mem_cons_self) v)
theorem Bx.drew (h : Bx w0 w a D B) : Bx w0 w.drew a D B := h.same (Below.refl _ w).drew

theorem create_b (h : Bx w0 w a D B) (s : ByteArray) (hs : s.size ≤ maxLen) {c : Nat} (e : Dm.create D s.data.toList = (c, D')) :
    Calls Tryz.prog 21 #[.pointer (some ⟨a, 0, none⟩), .string s] w fun e w' => e = .returned (.int .i64 (c : Nat)) ∧ Bx w0 w' a D' B := by
  obtain ⟨S, h1, h2, h3⟩ := h.ex
  have := Create_disk h1 s hs
  rw [e] at this
  exact this.mono fun _ _ ⟨he, hd, ht⟩ => ⟨he, h.of h2 h3 hd ht⟩
theorem append_b (h : Bx w0 w a D B) (s t : ByteArray) (hs : s.size ≤ maxLen) (ht : t.size ≤ maxLen) {c : Nat} (e : Dm.append D s.data.toList t.data.toList = (c, D')) :
    Calls Tryz.prog 22 #[.pointer (some ⟨a, 0, none⟩), .string s, .string t] w fun e w' => e = .returned (.int .i64 (c : Nat)) ∧ Bx w0 w' a D' B := by
  obtain ⟨S, h1, h2, h3⟩ := h.ex
  have := Append_disk h1 s t hs ht
  rw [e] at this
  exact this.mono fun _ _ ⟨he, hd, ht⟩ => ⟨he, h.of h2 h3 hd ht⟩
theorem sync_b (h : Bx w0 w a D B) (s : ByteArray) (hs : s.size ≤ maxLen) {c : Nat} (e : Dm.sync D s.data.toList = (c, D')) :
    Calls Tryz.prog 55 #[.pointer (some ⟨a, 0, none⟩), .string s] w fun e w' => e = .returned (.int .i64 (c : Nat)) ∧ Bx w0 w' a D' B := by
  obtain ⟨S, h1, h2, h3⟩ := h.ex
  have := Sync_disk h1 s hs
  rw [e] at this
  exact this.mono fun _ _ ⟨he, hd, ht⟩ => ⟨he, h.of h2 h3 hd ht⟩
theorem rename_b (h : Bx w0 w a D B) (s t : ByteArray) (hs : s.size ≤ maxLen) (ht : t.size ≤ maxLen) {c : Nat} (e : Dm.rename D s.data.toList t.data.toList = (c, D')) :
    Calls Tryz.prog 115 #[.pointer (some ⟨a, 0, none⟩), .string s, .string t] w fun e w' => e = .returned (.int .i64 (c : Nat)) ∧ Bx w0 w' a D' B := by
  obtain ⟨S, h1, h2, h3⟩ := h.ex
  have := Rename_disk h1 s t hs ht
  rw [e] at this
  exact this.mono fun _ _ ⟨he, hd, ht⟩ => ⟨he, h.of h2 h3 hd ht⟩
theorem remove_b (h : Bx w0 w a D B) (s : ByteArray) (hs : s.size ≤ maxLen) {c : Nat} (e : Dm.remove D s.data.toList = (c, D')) :
    Calls Tryz.prog 70 #[.pointer (some ⟨a, 0, none⟩), .string s] w fun e w' => e = .returned (.int .i64 (c : Nat)) ∧ Bx w0 w' a D' B := by
  obtain ⟨S, h1, h2, h3⟩ := h.ex
  have := Remove_disk h1 s hs
  rw [e] at this
  exact this.mono fun _ _ ⟨he, hd, ht⟩ => ⟨he, h.of h2 h3 hd ht⟩
theorem read_b (h : Bx w0 w a D B) (s : ByteArray) (hs : s.size ≤ maxLen) {l : List UInt8} {c : Nat} (e : Dm.read D s.data.toList = (l, c)) :
    Calls Tryz.prog 24 #[.pointer (some ⟨a, 0, none⟩), .string s] w fun e w' => e = .returned (.tuple #[.string ⟨l.toArray⟩, .int .i64 (c : Nat)]) ∧ w = w' := by
  obtain ⟨S, h1, -⟩ := h.ex
  have := Read_disk h1 s hs
  rw [e] at this
  exact this
theorem list_b (h : Bx w0 w a D B) :
    Calls Tryz.prog 17 #[.pointer (some ⟨a, 0, none⟩)] w fun e w' => ∃ v, e = .returned v ∧ Listed w (Dm.keys D.files) v w' ∧ Bx w0 w' a D B := by
  obtain ⟨S, h1, -⟩ := h.ex
  exact (List_disk h1).mono fun _ _ ⟨v, he, hl⟩ => ⟨v, he, hl, h.same hl.2.2⟩
theorem down_b (h : Bx w0 w a D B) {b : Bool} (hb : D.down = b) :
    Calls Tryz.prog 18 #[.pointer (some ⟨a, 0, none⟩)] w fun e w' => e = .returned (.bool b) ∧ w = w' := by
  obtain ⟨S, h1, -⟩ := h.ex
  rw [← hb]; exact Down_disk h1
theorem fuse_b (h : Bx w0 w a D B) (n : Int) (hn : n ≤ 9223372036854775807) :
    Calls Tryz.prog 19 #[.pointer (some ⟨a, 0, none⟩), .int .i64 n] w fun e w' => e = .returned (.tuple #[]) ∧ Bx w0 w' a (Dm.fuseTo D n) B := by
  obtain ⟨S, h1, h2, h3⟩ := h.ex
  exact (Fuse_disk h1 n hn).mono fun _ _ ⟨he, hd, ht⟩ => ⟨he, h.of h2 h3 (hd.mono fun _ e => .inl e) ht⟩
theorem start_b (h : Bx w0 w a D B) :
    Calls Tryz.prog 14 #[.pointer (some ⟨a, 0, none⟩)] w fun e w' => e = .returned (.tuple #[]) ∧ Bx w0 w' a (Dm.start D) B := by
  obtain ⟨S, h1, h2, h3⟩ := h.ex
  exact (Start_disk h1).mono fun _ _ ⟨he, hd, ht⟩ => ⟨he, h.of h2 h3 (hd.mono fun _ e => .inl e) ht⟩
theorem crash_b (h : Bx w0 w a D B) (p : Option Addr) (cap : Nat) (ks : List Int) (hcap : ks.length ≤ cap) (hk : ∀ S : Nat → Prop, (∀ k, S k → w0.heap.size ≤ k) → Ints w S p ks) :
    Calls Tryz.prog 13 #[.pointer (some ⟨a, 0, none⟩), .slice p ks.length cap] w fun e w' => e = .returned (.tuple #[]) ∧ Bx w0 w' a (Dm.crash D ks) B := by
  obtain ⟨S, h1, h2, h3⟩ := h.ex
  exact (Crash_disk h1 p cap ks hcap (hk S fun k hk => (h2 k hk).1)).mono fun _ _ ⟨he, hd, ht⟩ => ⟨he, h.of h2 h3 (hd.mono fun _ e => .inl e) ht⟩
theorem crash_b0 (h : Bx w0 w a D B) :
    Calls Tryz.prog 13 #[.pointer (some ⟨a, 0, none⟩), .slice none 0 0] w fun e w' => e = .returned (.tuple #[]) ∧ Bx w0 w' a (Dm.crash D []) B :=
  crash_b h none 0 [] (Nat.le_refl _) fun _ _ _ hi => nomatch hi
theorem new_b (hb : Below w0.heap.size w0 w) : Calls Tryz.prog 7 #[] w fun e w' => ∃ a, e = .returned (.pointer (some ⟨a, 0, none⟩)) ∧ Bx w0 w' a Dm.new [] :=
  (New_disk w).mono fun _ _ ⟨a, he, hd, hb'⟩ => ⟨a, he, ⟨_, hd.tight, fun k hk => ⟨Nat.le_trans hb.size hk.1, hk.2⟩, fun _ h => nomatch h⟩, (fun _ h => nomatch h), List.nodup_nil, (fun _ h => nomatch h), hb.trans (hb'.mono hb.size)⟩
end
end Go.Proofs.YtoecbkndbcblpaaGreatDoor
