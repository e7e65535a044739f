/-
  A table's calls, values of type int: tree, floor, New, Len, Twin, Clear, Get, Floor, Set, Delete. Conditions: those in the theorems.
-/
import Derived.Test.YthioogncbhkaoaaMemTreeI
import Derived.Deep.LoopGhost
import Derived.Test.YthioogncbhkaoaaSumShelf
import Derived.Deep.RegionLaw
import Derived.Handy
namespace Go.Proofs.Ythioogncbhkaoaa.MI
open Go.RowKit

def memT : TypeId := 94
theorem memT_not : ¬ nodeT 94 := by unfold nodeT; decide
/-- Block a is a table whose root is p. -/
def Tab (w : World) (a : Nat) (p : Value) : Prop := w.heap[a]? = some (.cells #[p] 94 (0, 0))
/-- Of what lay, block a alone may have turned. -/
structure Only (a : Nat) (w w' : World) : Prop where
  os : w'.os = w.os
  tape : w'.tape = w.tape
  output : w'.output = w.output
  size : w.heap.size ≤ w'.heap.size
  block : ∀ k, k < w.heap.size → k ≠ a → w'.heap[k]? = w.heap[k]?
theorem Only.of_below {a : Nat} {w w' : World} (h : Below w.heap.size w w') : Only a w w' := ⟨h.os, h.tape, h.output, h.size, fun k hk _ => h.block k hk⟩
theorem Only.trans {a : Nat} {w w' w'' : World} (h : Only a w w') (k : Only a w' w'') : Only a w w'' :=
  ⟨k.os.trans h.os, k.tape.trans h.tape, k.output.trans h.output, Nat.le_trans h.size k.size, fun i hi hn => (k.block i (Nat.lt_of_lt_of_le hi h.size) hn).trans (h.block i hi hn)⟩
theorem Only.setCell (a : Nat) (w : World) (i : Nat) (v : Value) : Only a w (w.setCell ⟨a, i, none⟩ v) := ⟨rfl, rfl, rfl, by simp [World.setCell], fun k _ hn => Below.heap_setCell _ _ _ _ hn⟩
theorem Only.below {a n : Nat} {w w' : World} (h : Only a w w') (hn : n ≤ w.heap.size) (ha : n ≤ a) : Below n w w' := ⟨h.os, h.tape, h.output, h.size, fun k hk => h.block k (by omega) (by omega)⟩
theorem Only.kept {a : Nat} {w w' : World} (h : Only a w w') (hn : ¬ IsNode w a) : Kept w w' := ⟨h.size, fun k hk => h.block k hk.lt fun e => hn (e ▸ hk)⟩
theorem Tab.notNode {w : World} {a : Nat} {p : Value} (h : Tab w a p) : ¬ IsNode w a := not_node h memT_not
theorem Tab.lt {w : World} {a : Nat} {p : Value} (h : Tab w a p) : a < w.heap.size := (Array.getElem?_eq_some_iff.1 h).1

set_option maxHeartbeats 400000 in
theorem tree_none (w : World) : Calls Try.prog 49 #[.pointer none] w fun e w' => e = .returned (.pointer none) ∧ w = w' := by
  go_enter Try.func49, Try.ntmps49
  go_wp2_with fail
  go_ret
  exact ⟨rfl, rfl⟩
set_option maxHeartbeats 400000 in
theorem tree_at {w : World} {a : Nat} {p : Value} (h : Tab w a p) : Calls Try.prog 49 #[.pointer (some ⟨a, 0, none⟩)] w fun e w' => e = .returned p ∧ w = w' := by
  obtain ⟨c0, -⟩ := cells1 h
  clear h
  go_enter Try.func49, Try.ntmps49
  go_wp2_with fail
  go_ret
  exact ⟨rfl, rfl⟩
set_option maxHeartbeats 400000 in
theorem new_any (w : World) : Calls Try.prog 30 #[] w fun e w' => e = .returned (.pointer (some ⟨w.heap.size, 0, none⟩)) ∧ w' = w.alloc (.cells #[.pointer none] 94) := by
  go_enter Try.func30, Try.ntmps30
  go_wp2_with fail
  go_ret
  exact ⟨rfl, rfl⟩
set_option maxHeartbeats 400000 in
theorem len_at {w : World} {a : Nat} {p : Value} {t : Mm.Tr} (h : Tab w a p) (ht : At w t p) : Calls Try.prog 32 #[.pointer (some ⟨a, 0, none⟩)] w fun e w' => e = .returned (.int .i64 (t.flat.length : Nat)) ∧ w = w' := by
  rw [Mm.Tr.count_flat]
  have h1 := tree_at h
  have h2 := count_at ht
  clear h ht
  generalize t.count = n at *
  go_enter Try.func32, Try.ntmps32
  go_wp2_with fail
  refine h1.mono ?_
  rintro e w' ⟨rfl, rfl⟩
  go_wp2_with fail
  refine h2.mono ?_
  rintro e w' ⟨rfl, rfl⟩
  go_wp2_with fail
  go_ret
  exact ⟨rfl, rfl⟩
set_option maxHeartbeats 400000 in
theorem len_none (w : World) : Calls Try.prog 32 #[.pointer none] w fun e w' => e = .returned (.int .i64 0) ∧ w = w' := by
  have h2 := count_at (w := w) (t := .nil) (p := .pointer none) rfl
  go_enter Try.func32, Try.ntmps32
  go_wp2_with fail
  refine (tree_none w).mono ?_
  rintro e w' ⟨rfl, rfl⟩
  go_wp2_with fail
  refine h2.mono ?_
  rintro e w' ⟨rfl, rfl⟩
  go_wp2_with fail
  go_ret
  exact ⟨rfl, rfl⟩
/-- bv is what there is of best in memory. -/
def BestAt (w : World) (bv : Value) : Option (ByteArray × Value) → Prop
  | none => bv = .pointer none
  | some p => ∃ i, bv = .pointer (some ⟨i, 0, none⟩) ∧ Item w i p.1 p.2
def GivesBest (w : World) (best : Option (ByteArray × Value)) (e : Ending) (w' : World) : Prop := ∃ bv, e = .returned bv ∧ BestAt w' bv best ∧ Below w.heap.size w w'
theorem BestAt.kept {w w' : World} {bv : Value} {b : Option (ByteArray × Value)} (h : BestAt w bv b) (hk : Kept w w') : BestAt w' bv b := by
  cases b with
  | none => exact h
  | some p => obtain ⟨i, h1, h2⟩ := h; exact ⟨i, h1, h2.kept hk⟩
theorem BestAt.ptr {w : World} {bv : Value} {b : Option (ByteArray × Value)} (h : BestAt w bv b) : ∃ o, bv = .pointer o := by
  cases b with
  | none => exact ⟨none, h⟩
  | some p => obtain ⟨i, h1, h2⟩ := h; exact ⟨_, h1⟩

set_option maxRecDepth 100000 in
set_option maxHeartbeats 4000000 in
theorem floor_tree {w : World} {t : Mm.Tr} {p : Value} (h : At w t p) (hs : Mm.Sorted t.flat) (key : ByteArray) : Calls Try.prog 51 #[p, .string key] w (GivesBest w (Mm.floor t.flat key)) := by
  have hfl : t.floor key none = Mm.floor t.flat key := by
    rw [Mm.floor_flat t key none hs]; cases Mm.floor t.flat key <;> rfl
  rw [← hfl]
  obtain ⟨op, rfl⟩ := h.ptr
  have H := Lib.hid h
  clear h hs hfl
  go_enter Try.func51, Try.ntmps51
  go_wp2_with fail
  go_loopg [0, 5] t.count (fun g pv bv wr => ∃ (t2 : Mm.Tr) (best : Option (ByteArray × Value)), g = t2.count ∧ Hid (At wr t2 pv ∧ BestAt wr bv best ∧ t2.floor key best = t.floor key none ∧ Below w.heap.size w wr))
  case atStart => exact ⟨t, none, rfl, Lib.hid ⟨H.out, rfl, rfl, Below.refl _ _⟩⟩
  case round =>
    obtain ⟨t2, best, rfl, HA⟩ := hrel
    obtain ⟨hat, hbest, hf, hb⟩ := HA.out
    obtain ⟨ob, rfl⟩ := hbest.ptr
    have HBest := Lib.hid hbest
    have HF := Lib.hid hf
    have HB := Lib.hid hb
    clear hbest hf hb HA
    cases t2 with
    | nil =>
      obtain rfl : u0 = .pointer none := hat
      go_wp2_with fail
      go_ret
      exact ⟨_, rfl, by rw [← HF.out]; exact HBest.out, HB.out⟩
    | node l k v r =>
      obtain ⟨a, i, pl, pr, rfl, hrow, hi, hl, hr⟩ := hat
      obtain ⟨c0, c1, c2, -⟩ := cells4 hrow
      obtain ⟨ol, rfl⟩ := hl.ptr
      obtain ⟨orr, rfl⟩ := hr.ptr
      have hi0 := hi
      obtain ⟨-, x, -, hirow⟩ := hi0
      obtain ⟨k0, -, -⟩ := cells2 hirow
      have HI := Lib.hid hi
      have HL := Lib.hid hl
      have HR := Lib.hid hr
      clear hi hl hr hrow hirow
      by_cases hlt : Mm.lt key k = true
      · obtain ⟨d1, d2, d3, d4⟩ := lt_eqs.1 hlt
        have HG := Lib.hid (show l.floor key best = t.floor key none from by rw [← HF.out, Mm.Tr.floor, if_pos hlt])
        clear hlt
        go_wp2_with fail
        go_roundg l.count
        case measure => simp only [Mm.Tr.count]; omega
        case rel => exact ⟨l, best, rfl, Lib.hid ⟨HL.out, HBest.out, HG.out, HB.out⟩⟩
      · have d1 : (!(Op.bytesLess k.toList key.toList || k.toList == key.toList)) = false := by
          by_cases e : k = key
          · rw [e]; simp
          · rcases Mm.lt_total e with h' | h'
            · unfold Mm.lt at h'; rw [h']; rfl
            · exact absurd h' hlt
        have HG := Lib.hid (show r.floor key (some (k, v)) = t.floor key none from by rw [← HF.out, Mm.Tr.floor, if_neg hlt])
        clear hlt
        go_wp2_with fail
        go_quiet (fail)
        go_wp2_with fail
        go_roundg r.count
        case measure => simp only [Mm.Tr.count]; omega
        case rel => exact ⟨r, some (k, v), rfl, Lib.hid ⟨HR.out.kept (kept_drewN _ _), ⟨i, rfl, HI.out.kept (kept_drewN _ _)⟩, HG.out, HB.out.trans ((below_drewN _ _).mono HB.out.size)⟩⟩

set_option maxHeartbeats 2000000 in
theorem get_at {w : World} {a : Nat} {p : Value} {t : Mm.Tr} (h : Tab w a p) (ht : At w t p) (hs : Mm.Sorted t.flat) (key : ByteArray) : Calls Try.prog 33 #[.pointer (some ⟨a, 0, none⟩), .string key] w fun e w' =>
    e = .returned (.tuple #[(Mm.get t.flat key).getD (.int .i64 0), .bool (Mm.get t.flat key).isSome]) ∧ Below w.heap.size w w' := by
  have h1 := tree_at h
  have HF := Lib.hid (floor_tree ht hs key)
  obtain ⟨op, rfl⟩ := ht.ptr
  have hg := Mm.floor_get hs (k := key)
  clear h ht hs
  cases hfl : Mm.floor t.flat key with
  | none =>
    rw [hfl] at hg HF
    rw [hg]
    clear hg hfl
    simp only [Option.getD_none, Option.isSome_none]
    go_enter Try.func33, Try.ntmps33
    go_wp2_with fail
    refine h1.mono ?_
    rintro e w' ⟨rfl, rfl⟩
    go_wp2_with fail
    refine HF.out.mono ?_
    rintro e w' ⟨bv, rfl, rfl, hb⟩
    go_wp2_with fail
    go_ret2
    exact ⟨rfl, hb⟩
  | some q =>
    rw [hfl] at hg HF
    obtain ⟨k, v⟩ := q
    simp only at hg
    by_cases e : k = key
    · rw [if_pos e] at hg
      rw [hg]
      subst e
      clear hg hfl
      simp only [Option.getD_some, Option.isSome_some]
      go_enter Try.func33, Try.ntmps33
      go_wp2_with fail
      refine h1.mono ?_
      rintro e w' ⟨rfl, rfl⟩
      go_wp2_with fail
      refine HF.out.mono ?_
      rintro e w' ⟨bv, rfl, ⟨i, rfl, -, x, hx, hrow⟩, hb⟩
      obtain rfl : v = .int .i64 x := hx
      obtain ⟨k0, k1, -⟩ := cells2 hrow
      clear hrow
      go_wp2_with fail
      go_ret2
      exact ⟨rfl, hb⟩
    · rw [if_neg e] at hg
      rw [hg]
      have d1 : (k.toList == key.toList) = false := beq_eq_false_iff_ne.2 fun e' => e (Mm.toList_inj e')
      clear hg hfl e
      simp only [Option.getD_none, Option.isSome_none]
      go_enter Try.func33, Try.ntmps33
      go_wp2_with fail
      refine h1.mono ?_
      rintro e w' ⟨rfl, rfl⟩
      go_wp2_with fail
      refine HF.out.mono ?_
      rintro e w' ⟨bv, rfl, ⟨i, rfl, -, x, hx, hrow⟩, hb⟩
      obtain ⟨k0, k1, -⟩ := cells2 hrow
      clear hrow
      go_wp2_with fail
      go_ret2
      exact ⟨rfl, hb⟩
set_option maxHeartbeats 2000000 in
theorem get_nil (key : ByteArray) (w : World) : Calls Try.prog 33 #[.pointer none, .string key] w fun e w' => e = .returned (.tuple #[.int .i64 0, .bool false]) ∧ Below w.heap.size w w' := by
  have HF := Lib.hid (floor_tree (w := w) (t := .nil) (p := .pointer none) rfl List.Pairwise.nil key)
  go_enter Try.func33, Try.ntmps33
  go_wp2_with fail
  refine (tree_none w).mono ?_
  rintro e w' ⟨rfl, rfl⟩
  go_wp2_with fail
  refine HF.out.mono ?_
  rintro e w' ⟨bv, rfl, rfl, hb⟩
  go_wp2_with fail
  go_ret2
  exact ⟨rfl, hb⟩

/-- The answer is v, block a is a table of t, and of what lay nothing else has turned. -/
def Wrote (w : World) (a : Nat) (t : Mm.Tr) (v : Value) (e : Ending) (w' : World) : Prop := e = .returned v ∧ Only a w w' ∧ ∃ p, Tab w' a p ∧ At w' t p
theorem wrote_of {w w5 : World} {a : Nat} {t : Mm.Tr} {p0 p : Value} (h : Tab w a p0) (hb : Below w.heap.size w w5) (hp : At w5 t p) (v : Value) : Wrote w a t v (.returned v) (w5.setCell ⟨a, 0, none⟩ p) := by
  have h5 : Tab w5 a p0 := (hb.block _ h.lt).trans h
  refine ⟨rfl, (Only.of_below hb).trans (Only.setCell a w5 0 p), p, ?_, hp.kept (Kept.setCell h5.notNode)⟩
  have h6 := heap_setCell_same w5 a 0 _ _ p h5
  exact h6
set_option maxHeartbeats 400000 in
theorem set_nil (key : ByteArray) (x : Int) (w : World) : Calls Try.prog 31 #[.pointer none, .string key, .int .i64 x] w fun e w' => e = .returned (.bool false) ∧ w = w' := by
  go_enter Try.func31, Try.ntmps31
  go_wp2_with fail
  go_ret
  exact ⟨rfl, rfl⟩
theorem item_mk {w : World} {i : Nat} {k : ByteArray} (hk : k.size ≤ 281474976710656) (x : Int) (h : w.heap[i]? = some (.cells #[.string k, .int .i64 x] 98 (0, 0))) : Item w i k (.int .i64 x) := ⟨hk, x, rfl, h⟩
set_option maxHeartbeats 4000000 in
theorem set_at {w : World} {a : Nat} {p : Value} {t : Mm.Tr} (h : Tab w a p) (ht : At w t p) (hs : Mm.Sorted t.flat) (key : ByteArray) (hk : key.size ≤ 281474976710656) (hn : t.count ≤ 999999) (x : Int) :
    Calls Try.prog 31 #[.pointer (some ⟨a, 0, none⟩), .string key, .int .i64 x] w (Wrote w a (t.with key (.int .i64 x)) (.bool (!(Mm.get t.flat key).isSome))) := by
  have HG := Lib.hid (get_at h ht hs key)
  have HT := Lib.hid h
  obtain ⟨op, rfl⟩ := ht.ptr
  have HA := Lib.hid ht
  have HN := Lib.hid hn
  have HK := Lib.hid hk
  clear ht hs hn hk h
  generalize (Mm.get t.flat key).isSome = b at *
  generalize (Mm.get t.flat key).getD (.int .i64 0) = gv at *
  have hfin : ∀ w5 p5, Below w.heap.size w w5 → At w5 (t.with key (.int .i64 x)) p5 → Wrote w a (t.with key (.int .i64 x)) (.bool (!b)) (.returned (.bool (!b))) (w5.setCell ⟨a, 0, none⟩ p5) := fun w5 p5 hb hp => wrote_of HT.out hb hp _
  have HF := Lib.hid hfin
  have hblk : ∀ W, Below w.heap.size w W → W.cell? ⟨a, 0, none⟩ = some (.pointer op) ∧ W.frozen? ⟨a, 0, none⟩ = false := fun W hB => by
    obtain ⟨y0, y1⟩ := cells1 (show Tab W a _ from (hB.block _ HT.out.lt).trans HT.out)
    exact ⟨y0, y1 0⟩
  have HB := Lib.hid hblk
  clear hfin hblk
  go_enter Try.func31, Try.ntmps31
  go_wp2_with fail
  refine HG.out.mono ?_
  rintro e w2 ⟨rfl, hb2⟩
  obtain ⟨c0, f0⟩ := HB.out _ hb2
  have HD := Lib.hid hb2
  have HD0 := Lib.hid (below_two hb2 (Below.refl w2.heap.size w2).drew)
  clear hb2
  go_wp2_with fail
  go_region_law (first
    | (go_simp; go_at_call 36; (with_reducible refine (clone_any key _ HK.out).mono ?_); rintro e w3 ⟨rfl, hb3⟩; have HB3 := Lib.hid (below_two HD0.out hb3); clear hb3; have c3 := (HB.out _ HB3.out).1; have c4 := fun o => (HB.out (w3.alloc o) (below_two HB3.out (below_alloc w3 o))).1)
    | (go_simp; go_at_call 48; (with_reducible refine (with_all t _ key (.int .i64 x) _ _ (HA.out.below (below_two HB3.out (below_alloc w3 _))) (item_mk HK.out x (new_row w3 _)) HN.out).mono ?_); rintro e w5 ⟨p5, rfl, ha5, hb5⟩; obtain ⟨o5, rfl⟩ := ha5.ptr; have HA5 := Lib.hid ha5; have HB5 := Lib.hid (below_two (below_two HB3.out (below_alloc w3 _)) hb5); clear ha5 hb5; obtain ⟨c5, f5⟩ := HB.out _ HB5.out))
  all_goals
    go_wp2_with fail
    go_ret
    exact HF.out _ _ HB5.out HA5.out
end Go.Proofs.Ythioogncbhkaoaa.MI
