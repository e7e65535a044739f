/-
  One disk in a law: it and all that is new since the law began; each call by what the disk has. No condition but those in the theorems.
-/
import Derived.Test.YtoecbkndbcblpaaGreatDoorDiskWalkO
namespace Go.Proofs.YtoecbkndbcblpaaGreatDoor
open Go.RowKit Go.Maps Go.Sort Go.Shelf

/-- Since w0 the world has turned in new blocks alone; a disk with D lies in them. -/
structure In (w0 w : World) (a : Nat) (D : Dm.Disk) : Prop where
  disk : Disk w a D (w0.heap.size ≤ ·)
  below : Below w0.heap.size w0 w

section
variable {w0 w : World} {a : Nat} {D : Dm.Disk}
theorem In.right (h : In w0 w a D) : Dm.Right D := h.disk.right
theorem In.of {w' : World} {D' : Dm.Disk} (h : In w0 w a D) (hd : Disk w' a D' (Grow (w0.heap.size ≤ ·) w)) (ht : Turned (w0.heap.size ≤ ·) w w') : In w0 w' a D' :=
  ⟨hd.mono fun _ e => e.elim id fun e => Nat.le_trans h.below.size e, h.below.trans (ht.below h.below.size fun _ e => e)⟩
theorem In.same {w' : World} (h : In w0 w a D) (hb : Below w.heap.size w w') : In w0 w' a D :=
  ⟨by obtain ⟨m, T, h1, h2⟩ := h.disk; exact ⟨m, T, h1.heap fun k hk => hb.block k hk, h2⟩, h.below.trans (hb.mono h.below.size)⟩
theorem In.alloc (h : In w0 w a D) (o : Obj) : In w0 (w.alloc o) a D := h.same ((Below.refl _ w).alloc (Nat.le_refl _) o)

theorem new_in (hb : Below w0.heap.size w0 w) : Calls Tryz.prog 7 #[] w fun e w' => ∃ a, e = .returned (.pointer (some ⟨a, 0, none⟩)) ∧ In w0 w' a Dm.new :=
  (New_disk w).mono fun _ _ ⟨a, he, hd, hb'⟩ => ⟨a, he, hd.mono fun _ e => Nat.le_trans hb.size e, hb.trans (hb'.mono hb.size)⟩
theorem create_in (h : In w0 w a D) (s : ByteArray) (hs : s.size ≤ maxLen) {c : Int} (hc : ((Dm.create D s.data.toList).1 : Int) = c) :
    Calls Tryz.prog 21 #[.pointer (some ⟨a, 0, none⟩), .string s] w fun e w' => e = .returned (.int .i64 c) ∧ In w0 w' a (Dm.create D s.data.toList).2 :=
  (Create_disk h.disk s hs).mono fun _ _ ⟨he, hd, ht⟩ => ⟨by rw [he, hc], h.of hd ht⟩
theorem append_in (h : In w0 w a D) (s t : ByteArray) (hs : s.size ≤ maxLen) (ht : t.size ≤ maxLen) {c : Int} (hc : ((Dm.append D s.data.toList t.data.toList).1 : Int) = c) :
    Calls Tryz.prog 22 #[.pointer (some ⟨a, 0, none⟩), .string s, .string t] w fun e w' => e = .returned (.int .i64 c) ∧ In w0 w' a (Dm.append D s.data.toList t.data.toList).2 :=
  (Append_disk h.disk s t hs ht).mono fun _ _ ⟨he, hd, ht⟩ => ⟨by rw [he, hc], h.of hd ht⟩
theorem sync_in (h : In w0 w a D) (s : ByteArray) (hs : s.size ≤ maxLen) {c : Int} (hc : ((Dm.sync D s.data.toList).1 : Int) = c) :
    Calls Tryz.prog 55 #[.pointer (some ⟨a, 0, none⟩), .string s] w fun e w' => e = .returned (.int .i64 c) ∧ In w0 w' a (Dm.sync D s.data.toList).2 :=
  (Sync_disk h.disk s hs).mono fun _ _ ⟨he, hd, ht⟩ => ⟨by rw [he, hc], h.of hd ht⟩
theorem rename_in (h : In w0 w a D) (s t : ByteArray) (hs : s.size ≤ maxLen) (ht : t.size ≤ maxLen) {c : Int} (hc : ((Dm.rename D s.data.toList t.data.toList).1 : Int) = c) :
    Calls Tryz.prog 115 #[.pointer (some ⟨a, 0, none⟩), .string s, .string t] w fun e w' => e = .returned (.int .i64 c) ∧ In w0 w' a (Dm.rename D s.data.toList t.data.toList).2 :=
  (Rename_disk h.disk s t hs ht).mono fun _ _ ⟨he, hd, ht⟩ => ⟨by rw [he, hc], h.of hd ht⟩
theorem remove_in (h : In w0 w a D) (s : ByteArray) (hs : s.size ≤ maxLen) {c : Int} (hc : ((Dm.remove D s.data.toList).1 : Int) = c) :
    Calls Tryz.prog 70 #[.pointer (some ⟨a, 0, none⟩), .string s] w fun e w' => e = .returned (.int .i64 c) ∧ In w0 w' a (Dm.remove D s.data.toList).2 :=
  (Remove_disk h.disk s hs).mono fun _ _ ⟨he, hd, ht⟩ => ⟨by rw [he, hc], h.of hd ht⟩
theorem read_in (h : In w0 w a D) (s : ByteArray) (hs : s.size ≤ maxLen) {l : List UInt8} {c : Int} (hl : (Dm.read D s.data.toList).1 = l) (hc : ((Dm.read D s.data.toList).2 : Int) = c) :
    Calls Tryz.prog 24 #[.pointer (some ⟨a, 0, none⟩), .string s] w fun e w' => e = .returned (.tuple #[.string ⟨l.toArray⟩, .int .i64 c]) ∧ w = w' :=
  (Read_disk h.disk s hs).mono fun _ _ ⟨he, hw⟩ => ⟨by rw [he, hl, hc], hw⟩
theorem used_in (h : In w0 w a D) {c : Int} (hc : (Dm.used D.files : Int) = c) :
    Calls Tryz.prog 47 #[.pointer (some ⟨a, 0, none⟩)] w fun e w' => e = .returned (.int .i64 c) ∧ In w0 w' a D :=
  (Used_disk h.disk).mono fun _ _ ⟨he, hb⟩ => ⟨by rw [he, hc], h.same hb⟩
theorem list_in (h : In w0 w a D) :
    Calls Tryz.prog 17 #[.pointer (some ⟨a, 0, none⟩)] w fun e w' => ∃ v, e = .returned v ∧ Listed w (Dm.keys D.files) v w' ∧ In w0 w' a D :=
  (List_disk h.disk).mono fun _ _ ⟨v, he, hl⟩ => ⟨v, he, hl, h.same hl.2.2⟩
theorem down_in (h : In w0 w a D) {b : Bool} (hb : D.down = b) :
    Calls Tryz.prog 18 #[.pointer (some ⟨a, 0, none⟩)] w fun e w' => e = .returned (.bool b) ∧ w = w' := by
  rw [← hb]; exact Down_disk h.disk
theorem fuse_in (h : In w0 w a D) (n : Int) (hn : n ≤ 9223372036854775807) :
    Calls Tryz.prog 19 #[.pointer (some ⟨a, 0, none⟩), .int .i64 n] w fun e w' => e = .returned (.tuple #[]) ∧ In w0 w' a (Dm.fuseTo D n) :=
  (Fuse_disk h.disk n hn).mono fun _ _ ⟨he, hd, ht⟩ => ⟨he, h.of (hd.mono fun _ e => .inl e) ht⟩
theorem start_in (h : In w0 w a D) :
    Calls Tryz.prog 14 #[.pointer (some ⟨a, 0, none⟩)] w fun e w' => e = .returned (.tuple #[]) ∧ In w0 w' a (Dm.start D) :=
  (Start_disk h.disk).mono fun _ _ ⟨he, hd, ht⟩ => ⟨he, h.of (hd.mono fun _ e => .inl e) ht⟩
/-- A crash by numbers that were handed in. -/
theorem crash_in (h : In w0 w a D) (p : Option Addr) (cap : Nat) (ks : List Int) (hcap : ks.length ≤ cap) (hk : Ints w (w0.heap.size ≤ ·) p ks) :
    Calls Tryz.prog 13 #[.pointer (some ⟨a, 0, none⟩), .slice p ks.length cap] w fun e w' => e = .returned (.tuple #[]) ∧ In w0 w' a (Dm.crash D ks) :=
  (Crash_disk h.disk p cap ks hcap hk).mono fun _ _ ⟨he, hd, ht⟩ => ⟨he, h.of (hd.mono fun _ e => .inl e) ht⟩
theorem crash_none (h : In w0 w a D) :
    Calls Tryz.prog 13 #[.pointer (some ⟨a, 0, none⟩), .slice none 0 0] w fun e w' => e = .returned (.tuple #[]) ∧ In w0 w' a (Dm.crash D []) :=
  crash_in h none 0 [] (Nat.le_refl _) fun _ hi => nomatch hi
/-- A crash by numbers that the law writes down there. -/
theorem crash_lit (h : In w0 w a D) (ks : List Int) (hks : ks ≠ []) :
    Calls Tryz.prog 13 #[.pointer (some ⟨a, 0, none⟩), .slice (some ⟨w.heap.size, 0, none⟩) ks.length ks.length] (w.alloc (.cells (ks.map (Value.int .i64)).toArray 3)) fun e w' => e = .returned (.tuple #[]) ∧ In w0 w' a (Dm.crash D ks) := by
  have hd := h.disk.tight
  have hd2 : Disk (w.alloc (.cells (ks.map (Value.int .i64)).toArray 3)) a D fun k => w0.heap.size ≤ k ∧ k < w.heap.size := by
    obtain ⟨m, T, h1, h2⟩ := hd; exact ⟨m, T, h1.alloc _, h2⟩
  refine (Crash_disk hd2 (some ⟨w.heap.size, 0, none⟩) ks.length ks (Nat.le_refl _) fun i hi => ⟨_, rfl, by simp, by simp, ?_⟩).mono fun _ _ ⟨he, hd, ht⟩ => ⟨he, (h.alloc _).of (hd.mono fun _ e => .inl e.1) (ht.mono fun _ e => e.1)⟩
  have e : (⟨w.heap.size, 0, none⟩ : Addr).add i = ⟨w.heap.size, i, none⟩ := by unfold Addr.add; split <;> simp_all
  rw [e, cell_of_row _ _ _ _ _ _ (heap_alloc_new w _)]
  simp [hi]
end
end Go.Proofs.YtoecbkndbcblpaaGreatDoor
