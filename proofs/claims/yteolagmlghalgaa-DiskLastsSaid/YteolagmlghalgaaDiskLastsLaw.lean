/-
  A disk in DiskLasts: beside the list of what is known, and an act's box. No condition but those in the theorems.
-/
import Derived.Test.YteolagmlghalgaaDiskBegins
namespace Go.Proofs.Yteolagmlghalgaa
open Go.RowKit Go.Maps Go.Sort Go.Shelf

section
variable {w0 wk w w' : World} {a : Nat} {D D' : Dm.Disk} {K K' T : Nat → Prop}
theorem Aside.turn (h : Aside w0 wk w a D K) (ht : Turned T w w') (hT : ∀ k, T k → K k ∧ w0.heap.size ≤ k) (hK : ∀ k, K' k → (K k ∨ w.heap.size ≤ k) ∧ k < w'.heap.size) : Aside w0 w' w' a D K' := by
  obtain ⟨S, h1, h2, h3⟩ := h.ex
  obtain ⟨m, R, q1, q2⟩ := h1.tight
  refine ⟨⟨_, ⟨m, R, q1.same q2 fun k hk => ht.block k hk.2 fun e => h3 k hk.1 (hT k e).1, q2⟩, fun k hk => h2 k hk.1, fun k hk e => (hK k e).1.elim (h3 k hk.1) fun e => by have := hk.2; omega⟩, fun k hk => (hK k hk).2, fun _ _ => rfl, h.below.trans (ht.below h.below.size fun k hk => (hT k hk).2)⟩
theorem Aside.rebase (h : Aside w0 wk w a D K) (hK : ∀ k, K' k → K k) : Aside w0 w w a D K' :=
  h.turn (T := fun _ => False) (Turned.refl _ _) (fun _ e => e.elim) fun k hk => ⟨.inl (hK k hk), h.lt k (hK k hk)⟩
theorem Aside.grow (h : Aside w0 wk w a D K) (hb : Below w.heap.size w w') (hK : ∀ k, K' k → K k ∨ (w.heap.size ≤ k ∧ k < w'.heap.size)) : Aside w0 w' w' a D K' :=
  h.turn (T := fun _ => False) (turned_of_below hb) (fun _ e => e.elim) fun k hk => (hK k hk).elim (fun e => ⟨.inl e, Nat.lt_of_lt_of_le (h.lt k e) hb.size⟩) fun e => ⟨.inr e.1, e.2⟩
theorem crash_aside (h : Aside w0 wk w a D K) (p : Option Addr) (cap : Nat) (ks : List Int) (hcap : ks.length ≤ cap) (hk : Ints w0 (w0.heap.size ≤ ·) p ks) :
    Calls Try.prog 14 #[.pointer (some ⟨a, 0, none⟩), .slice p ks.length cap] w fun e w' => e = .returned (.tuple #[]) ∧ Aside w0 wk w' a (Dm.crash D ks) K := by
  obtain ⟨S, h1, h2, h3⟩ := h.ex
  have hk' : Ints w S p ks := fun i hi => by
    obtain ⟨A, q1, q2, q3, q4⟩ := hk i hi
    exact ⟨A, q1, fun e => q2 (h2 _ e), Nat.lt_of_lt_of_le q3 h.below.size, (h.below.cell (by rw [add_blk]; exact q3)).trans q4⟩
  exact (Crash_disk h1 p cap ks hcap hk').mono fun _ _ ⟨he, hd, ht⟩ => ⟨he, h.of h2 h3 (hd.mono fun _ e => .inl e) ht⟩
theorem fuse_aside (h : Aside w0 wk w a D K) (n : Int) (hn : n ≤ 9223372036854775807) :
    Calls Try.prog 16 #[.pointer (some ⟨a, 0, none⟩), .int .i64 n] w fun e w' => e = .returned (.tuple #[]) ∧ Aside w0 wk w' a (Dm.fuseTo D n) K := by
  obtain ⟨S, h1, h2, h3⟩ := h.ex
  exact (Fuse_disk h1 n hn).mono fun _ _ ⟨he, hd, ht⟩ => ⟨he, h.of h2 h3 (hd.mono fun _ e => .inl e) ht⟩
/-- The disk against a twin that stayed. -/
theorem begins_aside (h : Aside w0 wk w a D K) {t : Nat} {E : Dm.Disk} {S' : Nat → Prop} (hE : Disk wk t E S') (hlt : ∀ k, S' k → K k) (hd : D.down = false) (he : E.down = false) (hB : Dm.Begins D E) :
    Calls Try.prog 30 #[.pointer (some ⟨a, 0, none⟩), .pointer (some ⟨t, 0, none⟩)] w fun e w' => e = .returned (.bool true) ∧ Aside w0 wk w' a D K := by
  obtain ⟨S, h1, -⟩ := h.ex
  have h2 : Disk w t E S' := by
    obtain ⟨m, R, k1, k2⟩ := hE
    exact ⟨m, R, k1.same k2 fun k hk => h.kept k (hlt k hk), k2⟩
  exact (begins_any h1 h2 hd he hB).mono fun _ _ ⟨h3, hb⟩ => ⟨h3, h.same hb⟩

/-- The head of a round: the disk, its power on; the list of what is known of it. -/
structure Lasts (w0 w : World) (a : Nat) (D : Dm.Disk) (v : Value) (L : KList) : Prop where
  aside : Aside w0 w w a D fun k => k ∈ rowBlk v
  row : KRow w v L
  fresh : ∀ k ∈ rowBlk v, w0.heap.size ≤ k
  sure : Dm.SureF D.files (plain L)
/-- Behind an act: the same, and the act's box. -/
structure Mid (w0 w : World) (a : Nat) (D : Dm.Disk) (v : Value) (L : KList) (b : Nat) (o : Obj) : Prop where
  aside : Aside w0 w w a D fun k => k ∈ rowBlk v ∨ k = b
  row : KRow w v L
  fresh : ∀ k ∈ rowBlk v, w0.heap.size ≤ k
  sure : Dm.SureF D.files (plain L)
  box : w.heap[b]? = some o
  new : w0.heap.size ≤ b
  apart : b ∉ rowBlk v
variable {v : Value} {L : KList} {b : Nat} {o : Obj}
theorem Lasts.box (h : Lasts w0 w a D v L) (o : Obj) : Mid w0 (w.alloc o) a D v L w.heap.size o := by
  have hb : Below w.heap.size w (w.alloc o) := (Below.refl _ w).alloc (Nat.le_refl _) o
  exact ⟨h.aside.grow hb fun k hk => hk.elim .inl fun e => .inr ⟨by omega, by rw [e]; simp⟩, h.row.below hb, h.fresh, h.sure, heap_alloc_new w o, h.aside.below.size, fun e => Nat.lt_irrefl _ (h.row.lt _ e)⟩
theorem Mid.lasts (h : Mid w0 w a D v L b o) : Lasts w0 w a D v L := ⟨h.aside.rebase fun _ hk => .inl hk, h.row, h.fresh, h.sure⟩
/-- Where only the disk has turned. -/
theorem Mid.of (h : Mid w0 w a D v L b o) (ha : Aside w0 w w' a D' fun k => k ∈ rowBlk v ∨ k = b) (hs : Dm.SureF D'.files (plain L)) : Mid w0 w' a D' v L b o :=
  ⟨ha.rebase fun _ hk => hk, h.row.of fun k hk => ha.kept k (.inl hk), h.fresh, hs, (ha.kept b (.inr rfl)).trans h.box, h.new, h.apart⟩
/-- Where a new list takes the old one's place. -/
theorem Mid.list {v' : Value} {L' : KList} (h : Mid w0 w a D v L b o) (hb : Below w.heap.size w w') (hr : KRow w' v' L') (hf : ∀ k ∈ rowBlk v', w.heap.size ≤ k) (hs : Dm.SureF D.files (plain L')) : Mid w0 w' a D v' L' b o := by
  have hbl : b < w.heap.size := (Array.getElem?_eq_some_iff.1 h.box).1
  refine ⟨h.aside.grow hb fun k hk => hk.elim (fun e => .inr ⟨hf k e, hr.lt k e⟩) fun e => .inl (.inr e), hr, fun k hk => Nat.le_trans h.aside.below.size (hf k hk), hs, (hb.block _ hbl).trans h.box, h.new, fun e => by have := hf b e; omega⟩
theorem Mid.same (h : Mid w0 w a D v L b o) (hb : Below w.heap.size w w') : Mid w0 w' a D v L b o := by
  have hbl : b < w.heap.size := (Array.getElem?_eq_some_iff.1 h.box).1
  exact ⟨h.aside.grow hb fun k hk => .inl hk, h.row.below hb, h.fresh, h.sure, (hb.block _ hbl).trans h.box, h.new, h.apart⟩
/-- .. and one more is appended. -/
theorem Mid.append (h : Mid w0 w a D v L b o) (n d : ByteArray) (g : Nat) (hsrc : w.heap[g]? = some (.cells #[.string n, .string d] 47 (0, 0))) (hl : L.length < 1000000) (hs : Dm.SureF D.files (plain (L ++ [(n, d)]))) (ty : TypeId) :
    ∃ (pv : Option Addr) (cv : Nat) (w4 : World), (Builtin.append_ #[42, 42] ty #[v, .slice (some ⟨g, 0, none⟩) 1 1]).run Try.prog w = .ok (.slice pv (L ++ [(n, d)]).length cv) w4 ∧
      Mid w0 w4 a D (.slice pv (L ++ [(n, d)]).length cv) (L ++ [(n, d)]) b o := by
  obtain ⟨pv, cv, w4, hrun, h4, hT, hb⟩ := append_kept h.row n d g hsrc hl ty
  have hbl : b < w.heap.size := (Array.getElem?_eq_some_iff.1 h.box).1
  refine ⟨pv, cv, w4, hrun, ⟨h.aside.turn hT (fun k hk => ⟨.inl hk, h.fresh k hk⟩) fun k hk => ?_, h4, fun k hk => ?_, hs, (hT.block b hbl h.apart).trans h.box, h.new, fun e => ?_⟩⟩
  · rcases hk with hk | hk
    · exact ⟨(hb k hk).imp .inl id, h4.lt k hk⟩
    · exact ⟨.inl (.inr hk), by rw [hk]; exact Nat.lt_of_lt_of_le hbl hT.size⟩
  · exact (hb k hk).elim (h.fresh k) fun e => Nat.le_trans h.aside.below.size e
  · exact (hb b e).elim h.apart fun e => by omega

/-- The box of an act. -/
def boxA (x : ActV) : Obj := .cells #[.int .i64 x.act, .string x.name, .string x.to, .string x.data, .int .i64 x.n, .slice x.kp x.ks.length x.kcap] 44 (0, 0)
theorem Mid.cells {x : ActV} (h : Mid w0 w a D v L b (boxA x)) : w.cell? ⟨b, 0, none⟩ = some (.int .i64 x.act) ∧ w.cell? ⟨b, 1, none⟩ = some (.string x.name) ∧ w.cell? ⟨b, 2, none⟩ = some (.string x.to) ∧ w.cell? ⟨b, 3, none⟩ = some (.string x.data) ∧ w.cell? ⟨b, 4, none⟩ = some (.int .i64 x.n) ∧ w.cell? ⟨b, 5, none⟩ = some (.slice x.kp x.ks.length x.kcap) := by
  refine ⟨?_, ?_, ?_, ?_, ?_, ?_⟩ <;> rw [cell_of_row w b _ _ _ _ h.box] <;> rfl
/-- What but makes of the list. -/
theorem but_mid {p : Option Addr} {cap : Nat} (h : Mid w0 w a D (.slice p L.length cap) L b o) (n : ByteArray) (hl : L.length ≤ 1000) :
    Calls Try.prog 28 #[.slice p L.length cap, .string n] w fun e w' => ∃ pv cv, e = .returned (.slice pv (butK L n).length cv) ∧ Mid w0 w' a D (.slice pv (butK L n).length cv) (butK L n) b o ∧ Below w.heap.size w w' :=
  (but_any h.row n hl).mono fun _ _ ⟨pv, cv, he, hr, hf, hb⟩ => ⟨pv, cv, he, h.list hb hr hf (by rw [plain_but]; exact h.sure.sub fun e he => (Dm.mem_but.1 he).1), hb⟩
end
end Go.Proofs.Yteolagmlghalgaa
