/-
  A table's further calls, values of type string: Twin, Clear, Floor. Conditions: those in the theorems.
-/
import Derived.Test.YthioogncbhkaoaaMemLawS
namespace Go.Proofs.Ythioogncbhkaoaa.MS
open Go.RowKit

set_option maxHeartbeats 400000 in
theorem twin_at {w : World} {a : Nat} {p : Value} {t : Mm.Tr} (h : Tab w a p) (ht : At w t p) : Calls Try.prog 20 #[.pointer (some ⟨a, 0, none⟩)] w fun e w' =>
    e = .returned (.pointer (some ⟨w.heap.size, 0, none⟩)) ∧ w' = w.alloc (.cells #[p] 29) := by
  obtain ⟨c0, -⟩ := cells1 h
  obtain ⟨op, rfl⟩ := ht.ptr
  clear h ht
  go_enter Try.func20, Try.ntmps20
  go_wp2_with fail
  go_ret
  exact ⟨rfl, rfl⟩
set_option maxHeartbeats 400000 in
theorem clear_at {w : World} {a : Nat} {p : Value} (h : Tab w a p) : Calls Try.prog 19 #[.pointer (some ⟨a, 0, none⟩)] w fun e w' =>
    e = .returned (.tuple #[]) ∧ w' = w.setCell ⟨a, 0, none⟩ (.pointer none) := by
  obtain ⟨c0, c1⟩ := cells1 h
  have c2 := c1 0
  clear h c1
  go_enter Try.func19, Try.ntmps19
  go_wp2_with fail
  go_returns
  exact ⟨rfl, rfl⟩

/-- What Floor tells. -/
def floorV : Option (ByteArray × Value) → Value
  | none => .tuple #[.string ⟨#[]⟩, .string ⟨#[]⟩, .bool false]
  | some p => .tuple #[.string p.1, p.2, .bool true]
set_option maxRecDepth 100000 in
set_option maxHeartbeats 2000000 in
theorem floor_at {w : World} {a : Nat} {p : Value} {t : Mm.Tr} (h : Tab w a p) (ht : At w t p) (hs : Mm.Sorted t.flat) (key : ByteArray) : Calls Try.prog 14 #[.pointer (some ⟨a, 0, none⟩), .string key] w fun e w' =>
    e = .returned (floorV (Mm.floor t.flat key)) ∧ Below w.heap.size w w' := by
  have h1 := tree_at h
  have HF := Lib.hid (floor_tree ht hs key)
  obtain ⟨op, rfl⟩ := ht.ptr
  clear h ht hs
  cases hfl : Mm.floor t.flat key with
  | none =>
    rw [hfl] at HF
    clear hfl
    unfold floorV
    go_enter Try.func14, Try.ntmps14
    go_wp2_with fail
    refine h1.mono ?_
    rintro e w' ⟨rfl, rfl⟩
    go_wp2_with fail
    refine HF.out.mono ?_
    rintro e w' ⟨bv, rfl, rfl, hb⟩
    go_wp2_with fail
    refine bodyPost_ret (v := .tuple #[.string ⟨#[]⟩, .string ⟨#[]⟩, .bool false]) (by simp [results, Try.results14, go_sem]) rfl ⟨rfl, hb⟩
  | some q =>
    rw [hfl] at HF
    obtain ⟨k, v⟩ := q
    clear hfl
    unfold floorV
    go_enter Try.func14, Try.ntmps14
    go_wp2_with fail
    refine h1.mono ?_
    rintro e w' ⟨rfl, rfl⟩
    go_wp2_with fail
    refine HF.out.mono ?_
    rintro e w2 ⟨bv, rfl, ⟨i, rfl, hks, x, hx, hrow⟩, hb⟩
    obtain rfl : v = .string x := hx
    obtain ⟨k0, k1, -⟩ := cells2 hrow
    have HB := Lib.hid hb
    have HK := Lib.hid hks
    have HC1 := Lib.hid k1
    have HB0 := Lib.hid (Below.refl w2.heap.size w2)
    clear hrow hb hks
    go_wp2_with fail
    go_region_held3 (fun w' => w'.cell? ⟨i, 0, none⟩ = some (.string k) ∧ w'.cell? ⟨i, 1, none⟩ = some (.string x) ∧ Below w2.heap.size w2 w')
      (first
        | exact ⟨k0, k1, HB0.out.drew⟩ | exact sees2 k0 k1 (below_two HB0.out.drew hb3))
      (first
        | (go_at_call 36; (with_reducible refine (clone_any k _ HK.out).mono ?_); rintro e w3 ⟨rfl, hb3⟩)
        | fail)
    have HB3 := Lib.hid (below_two HB.out (below_two HB0.out.drew hb3))
    go_wp2_with fail
    refine bodyPost_ret (v := .tuple #[.string k, .string x, .bool true]) (by simp [results, Try.results14, go_sem]) rfl ⟨rfl, HB3.out⟩

section
variable {w0 w w' : World} {a : Nat} {L : Mm.Row} {R : List (Value × Mm.Row)} {B B' : List (Nat × Obj)}
theorem floor_m (h : Mem w0 w a L R B) (key : ByteArray) {o : Option (ByteArray × Value)} (ho : Mm.floor L key = o) :
    Calls Try.prog 14 #[.pointer (some ⟨a, 0, none⟩), .string key] w fun e w' => e = .returned (floorV o) ∧ Mem w0 w' a L R B ∧ Below w.heap.size w w' := by
  have h' := h
  obtain ⟨p, h1, ⟨t, h2, rfl, h3⟩, h4⟩ := h'
  subst ho
  exact (floor_at (p := p) h1.head h2 h3 key).mono fun e w' hw => ⟨hw.1, h.same hw.2, hw.2⟩
theorem clear_m (h : Mem w0 w a L R B) : Calls Try.prog 19 #[.pointer (some ⟨a, 0, none⟩)] w fun e w' => e = .returned (.tuple #[]) ∧ Mem w0 w' a [] R B ∧ Kept w w' ∧ Only a w w' := by
  obtain ⟨p, h1, h2, h4⟩ := h
  refine (clear_at (p := p) h1.head).mono ?_
  rintro e w' ⟨rfl, rfl⟩
  have hk : Kept w (w.setCell ⟨a, 0, none⟩ (.pointer none)) := kept_box (T := 29) h1.head memT_not _
  exact ⟨rfl, ⟨_, Now.set (T := 29) h1 _, root_nil _, fun r hr => (h4 r hr).kept hk⟩, hk, Only.setCell a w 0 _⟩
/-- The twin is a table of its own: it becomes the one at hand; the elder one stands among the blocks. -/
theorem twin_m (h : Mem w0 w a L R B) : Calls Try.prog 20 #[.pointer (some ⟨a, 0, none⟩)] w fun e w' => ∃ b p, e = .returned (.pointer (some ⟨b, 0, none⟩)) ∧ Mem w0 w' a L ((p, L) :: R) ((b, memO p) :: B) ∧ Kept w w' := by
  obtain ⟨p, h1, h2, h4⟩ := h
  have h2' := h2
  obtain ⟨t, h5, -, -⟩ := h2'
  refine (twin_at (p := p) h1.head h5).mono ?_
  rintro e w' ⟨rfl, rfl⟩
  refine ⟨_, p, rfl, ⟨p, (h1.alloc _).swap, h2.kept (.alloc _ _), fun r hr => ?_⟩, .alloc _ _⟩
  rcases List.mem_cons.1 hr with rfl | hr
  · exact h2.kept (.alloc _ _)
  · exact (h4 r hr).kept (.alloc _ _)
end
end Go.Proofs.Ythioogncbhkaoaa.MS
