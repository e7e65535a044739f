/-
  A table's calls, values of pairs: tree, floor, New, Len, Twin, Clear, Get, Floor, Set, Delete. Conditions: those in the theorems.
-/
import Derived.Test.YthioogncbhkaoaaMemTreeP
import Derived.Deep.LoopGhost
import Derived.Test.YthioogncbhkaoaaSumShelf
import Derived.Deep.RegionLaw
import Derived.Handy
namespace Go.Proofs.Ythioogncbhkaoaa.MP
open Go.RowKit

def memT : TypeId := 84
theorem memT_not : ¬ nodeT 84 := by unfold nodeT; decide
/-- Block a is a table whose root is p. -/
def Tab (w : World) (a : Nat) (p : Value) : Prop := w.heap[a]? = some (.cells #[p] 84 (0, 0))
/-- Of what lay, block a alone may have turned. -/
structure Only (a : Nat) (w w' : World) : Prop where
  os : w'.os = w.os
  tape : w'.tape = w.tape
  output : w'.output = w.output
  size : w.heap.size ≤ w'.heap.size
  block : ∀ k, k < w.heap.size → k ≠ a → w'.heap[k]? = w.heap[k]?
theorem Only.of_below {a : Nat} {w w' : World} (h : Below w.heap.size w w') : Only a w w' := ⟨h.os, h.tape, h.output, h.size, fun k hk _ => h.block k hk⟩
theorem Only.trans {a : Nat} {w w' w'' : World} (h : Only a w w') (k : Only a w' w'') : Only a w w'' :=
  ⟨k.os.trans h.os, k.tape.trans h.tape, k.output.trans h.output, Nat.le_trans h.size k.size, fun i hi hn => (k.block i (Nat.lt_of_lt_of_le hi h.size) hn).trans (h.block i hi hn)⟩
theorem Only.setCell (a : Nat) (w : World) (i : Nat) (v : Value) : Only a w (w.setCell ⟨a, i, none⟩ v) := ⟨rfl, rfl, rfl, by simp [World.setCell], fun k _ hn => Below.heap_setCell _ _ _ _ hn⟩
theorem Only.below {a n : Nat} {w w' : World} (h : Only a w w') (hn : n ≤ w.heap.size) (ha : n ≤ a) : Below n w w' := ⟨h.os, h.tape, h.output, h.size, fun k hk => h.block k (by omega) (by omega)⟩
theorem Only.kept {a : Nat} {w w' : World} (h : Only a w w') (hn : ¬ IsNode w a) : Kept w w' := ⟨h.size, fun k hk => h.block k hk.lt fun e => hn (e ▸ hk)⟩
theorem Tab.notNode {w : World} {a : Nat} {p : Value} (h : Tab w a p) : ¬ IsNode w a := not_node h memT_not
theorem Tab.lt {w : World} {a : Nat} {p : Value} (h : Tab w a p) : a < w.heap.size := (Array.getElem?_eq_some_iff.1 h).1

set_option maxHeartbeats 400000 in
theorem tree_none (w : World) : Calls Try.prog 44 #[.pointer none] w fun e w' => e = .returned (.pointer none) ∧ w = w' := by
  go_enter Try.func44, Try.ntmps44
  go_wp2_with fail
  go_ret
  exact ⟨rfl, rfl⟩
set_option maxHeartbeats 400000 in
theorem tree_at {w : World} {a : Nat} {p : Value} (h : Tab w a p) : Calls Try.prog 44 #[.pointer (some ⟨a, 0, none⟩)] w fun e w' => e = .returned p ∧ w = w' := by
  obtain ⟨c0, -⟩ := cells1 h
  clear h
  go_enter Try.func44, Try.ntmps44
  go_wp2_with fail
  go_ret
  exact ⟨rfl, rfl⟩
set_option maxHeartbeats 400000 in
theorem new_any (w : World) : Calls Try.prog 23 #[] w fun e w' => e = .returned (.pointer (some ⟨w.heap.size, 0, none⟩)) ∧ w' = w.alloc (.cells #[.pointer none] 84) := by
  go_enter Try.func23, Try.ntmps23
  go_wp2_with fail
  go_ret
  exact ⟨rfl, rfl⟩
set_option maxHeartbeats 400000 in
theorem len_at {w : World} {a : Nat} {p : Value} {t : Mm.Tr} (h : Tab w a p) (ht : At w t p) : Calls Try.prog 28 #[.pointer (some ⟨a, 0, none⟩)] w fun e w' => e = .returned (.int .i64 (t.flat.length : Nat)) ∧ w = w' := by
  rw [Mm.Tr.count_flat]
  have h1 := tree_at h
  have h2 := count_at ht
  clear h ht
  generalize t.count = n at *
  go_enter Try.func28, Try.ntmps28
  go_wp2_with fail
  refine h1.mono ?_
  rintro e w' ⟨rfl, rfl⟩
  go_wp2_with fail
  refine h2.mono ?_
  rintro e w' ⟨rfl, rfl⟩
  go_wp2_with fail
  go_ret
  exact ⟨rfl, rfl⟩
set_option maxHeartbeats 400000 in
theorem len_none (w : World) : Calls Try.prog 28 #[.pointer none] w fun e w' => e = .returned (.int .i64 0) ∧ w = w' := by
  have h2 := count_at (w := w) (t := .nil) (p := .pointer none) rfl
  go_enter Try.func28, Try.ntmps28
  go_wp2_with fail
  refine (tree_none w).mono ?_
  rintro e w' ⟨rfl, rfl⟩
  go_wp2_with fail
  refine h2.mono ?_
  rintro e w' ⟨rfl, rfl⟩
  go_wp2_with fail
  go_ret
  exact ⟨rfl, rfl⟩
/-- bv is what there is of best in memory. -/
def BestAt (w : World) (bv : Value) : Option (ByteArray × Value) → Prop
  | none => bv = .pointer none
  | some p => ∃ i, bv = .pointer (some ⟨i, 0, none⟩) ∧ Item w i p.1 p.2
def GivesBest (w : World) (best : Option (ByteArray × Value)) (e : Ending) (w' : World) : Prop := ∃ bv, e = .returned bv ∧ BestAt w' bv best ∧ Below w.heap.size w w'
theorem BestAt.kept {w w' : World} {bv : Value} {b : Option (ByteArray × Value)} (h : BestAt w bv b) (hk : Kept w w') : BestAt w' bv b := by
  cases b with
  | none => exact h
  | some p => obtain ⟨i, h1, h2⟩ := h; exact ⟨i, h1, h2.kept hk⟩
theorem BestAt.ptr {w : World} {bv : Value} {b : Option (ByteArray × Value)} (h : BestAt w bv b) : ∃ o, bv = .pointer o := by
  cases b with
  | none => exact ⟨none, h⟩
  | some p => obtain ⟨i, h1, h2⟩ := h; exact ⟨_, h1⟩

set_option maxRecDepth 100000 in
set_option maxHeartbeats 4000000 in
theorem floor_tree {w : World} {t : Mm.Tr} {p : Value} (h : At w t p) (hs : Mm.Sorted t.flat) (key : ByteArray) : Calls Try.prog 45 #[p, .string key] w (GivesBest w (Mm.floor t.flat key)) := by
  have hfl : t.floor key none = Mm.floor t.flat key := by
    rw [Mm.floor_flat t key none hs]; cases Mm.floor t.flat key <;> rfl
  rw [← hfl]
  obtain ⟨op, rfl⟩ := h.ptr
  have H := Lib.hid h
  clear h hs hfl
  go_enter Try.func45, Try.ntmps45
  go_wp2_with fail
  go_loopg [0, 5] t.count (fun g pv bv wr => ∃ (t2 : Mm.Tr) (best : Option (ByteArray × Value)), g = t2.count ∧ Hid (At wr t2 pv ∧ BestAt wr bv best ∧ t2.floor key best = t.floor key none ∧ Below w.heap.size w wr))
  case atStart => exact ⟨t, none, rfl, Lib.hid ⟨H.out, rfl, rfl, Below.refl _ _⟩⟩
  case round =>
    obtain ⟨t2, best, rfl, HA⟩ := hrel
    obtain ⟨hat, hbest, hf, hb⟩ := HA.out
    obtain ⟨ob, rfl⟩ := hbest.ptr
    have HBest := Lib.hid hbest
    have HF := Lib.hid hf
    have HB := Lib.hid hb
    clear hbest hf hb HA
    cases t2 with
    | nil =>
      obtain rfl : u0 = .pointer none := hat
      go_wp2_with fail
      go_ret
      exact ⟨_, rfl, by rw [← HF.out]; exact HBest.out, HB.out⟩
    | node l k v r =>
      obtain ⟨a, i, pl, pr, rfl, hrow, hi, hl, hr⟩ := hat
      obtain ⟨c0, c1, c2, -⟩ := cells4 hrow
      obtain ⟨ol, rfl⟩ := hl.ptr
      obtain ⟨orr, rfl⟩ := hr.ptr
      have hi0 := hi
      obtain ⟨-, x, -, hirow⟩ := hi0
      obtain ⟨k0, -, -, -⟩ := cells3 hirow
      have HI := Lib.hid hi
      have HL := Lib.hid hl
      have HR := Lib.hid hr
      clear hi hl hr hrow hirow
      by_cases hlt : Mm.lt key k = true
      · obtain ⟨d1, d2, d3, d4⟩ := lt_eqs.1 hlt
        have HG := Lib.hid (show l.floor key best = t.floor key none from by rw [← HF.out, Mm.Tr.floor, if_pos hlt])
        clear hlt
        go_wp2_with fail
        go_roundg l.count
        case measure => simp only [Mm.Tr.count]; omega
        case rel => exact ⟨l, best, rfl, Lib.hid ⟨HL.out, HBest.out, HG.out, HB.out⟩⟩
      · have d1 : (!(Op.bytesLess k.toList key.toList || k.toList == key.toList)) = false := by
          by_cases e : k = key
          · rw [e]; simp
          · rcases Mm.lt_total e with h' | h'
            · unfold Mm.lt at h'; rw [h']; rfl
            · exact absurd h' hlt
        have HG := Lib.hid (show r.floor key (some (k, v)) = t.floor key none from by rw [← HF.out, Mm.Tr.floor, if_neg hlt])
        clear hlt
        go_wp2_with fail
        go_quiet (fail)
        go_wp2_with fail
        go_roundg r.count
        case measure => simp only [Mm.Tr.count]; omega
        case rel => exact ⟨r, some (k, v), rfl, Lib.hid ⟨HR.out.kept (kept_drewN _ _), ⟨i, rfl, HI.out.kept (kept_drewN _ _)⟩, HG.out, HB.out.trans ((below_drewN _ _).mono HB.out.size)⟩⟩

def pairO (n : Int) (p : Option Addr) (l c : Nat) : Obj := .cells #[.int .i64 n, .slice p l c] 58 (0, 0)
theorem results_get (tmps : Array Value) (w : World) (g : Nat) (n : Int) (p : Option Addr) (l c : Nat) (b : Bool) (hp : tmps.getD 4 undef = .pointer (some ⟨g, 0, none⟩)) (hb : tmps.getD 5 undef = .bool b) (hc : w.heap[g]? = some (pairO n p l c)) :
    (results Try.f26 tmps).run Try.prog w = .ok (.tuple #[.agg #[.int .i64 n, .slice p l c], .bool b]) w := by
  obtain ⟨r0, r1, -⟩ := cells2 hc
  have hp' : tmps[4]?.getD undef = .pointer (some ⟨g, 0, none⟩) := by simpa using hp
  have hb' : tmps[5]?.getD undef = .bool b := by simpa using hb
  simp [results, hp', hb', asAddr, loadVar, r0, r1, go_sem]
theorem pair_set {A : World} {g : Nat} {n : Int} {p : Option Addr} {l c : Nat} (h : A.heap[g]? = some (pairO n p l c)) (n' : Int) (p' : Option Addr) (l' c' : Nat) : ((A.setCell ⟨g, 0, none⟩ (.int .i64 n')).setCell ⟨g, 1, none⟩ (.slice p' l' c')).heap[g]? = some (pairO n' p' l' c') := by
  have h1 := heap_setCell_same A g 0 _ _ (.int .i64 n') h
  exact heap_setCell_same _ g 1 _ _ (.slice p' l' c') h1
theorem below_setP {w X : World} (hb : Below w.heap.size w X) {b : Nat} (h : w.heap.size ≤ b) (i : Nat) (v : Value) : Below w.heap.size w (X.setCell ⟨b, i, none⟩ v) :=
  ⟨hb.os, hb.tape, hb.output, by simpa [World.setCell] using hb.size, fun k hk => (Below.heap_setCell _ _ _ _ (show k ≠ b by omega)).trans (hb.block k hk)⟩
set_option maxRecDepth 100000 in
set_option maxHeartbeats 4000000 in
theorem get_at {w : World} {a : Nat} {p : Value} {t : Mm.Tr} (h : Tab w a p) (ht : At w t p) (hs : Mm.Sorted t.flat) (key : ByteArray) : Calls Try.prog 26 #[.pointer (some ⟨a, 0, none⟩), .string key] w fun e w' =>
    e = .returned (.tuple #[(Mm.get t.flat key).getD (.agg #[.int .i64 0, .slice none 0 0]), .bool (Mm.get t.flat key).isSome]) ∧ Below w.heap.size w w' := by
  have hb0 := below_alloc w (pairO 0 none 0 0)
  have h1 := tree_at ((hb0.block _ h.lt).trans h)
  have HF := Lib.hid (floor_tree (ht.below hb0) hs key)
  obtain ⟨op, rfl⟩ := ht.ptr
  have hg := Mm.floor_get hs (k := key)
  have hr0 := new_row w (pairO 0 none 0 0)
  obtain ⟨W, hW⟩ : ∃ W, w.alloc (pairO 0 none 0 0) = W := ⟨_, rfl⟩
  have hW' : w.alloc (.cells #[.int .i64 0, .slice none 0 0] 58) = W := hW
  obtain ⟨rb, hrb⟩ : ∃ rb, w.heap.size = rb := ⟨_, rfl⟩
  rw [hW] at hb0 h1 HF hr0
  rw [hrb] at hr0
  have HB0 := Lib.hid hb0
  have HR0 := Lib.hid hr0
  have HRB := Lib.hid hrb
  clear h ht hs hb0 hr0 hW
  cases hfl : Mm.floor t.flat key with
  | none =>
    rw [hfl] at hg HF
    rw [hg]
    clear hg hfl
    simp only [Option.getD_none, Option.isSome_none]
    go_enter Try.func26, Try.ntmps26
    go_wp2_with fail
    clear hW' hrb
    refine h1.mono ?_
    rintro e w' ⟨rfl, rfl⟩
    go_wp2_with fail
    refine HF.out.mono ?_
    rintro e w' ⟨bv, rfl, rfl, hb⟩
    have hr1 : w'.heap[rb]? = some (pairO 0 none 0 0) := (hb.block _ (Array.getElem?_eq_some_iff.1 HR0.out).1).trans HR0.out
    have hr2 : (w'.alloc (.cells #[.int .i64 0, .slice none 0 0] 58)).heap[rb]? = some (pairO 0 none 0 0) := (Below.heap_alloc _ _ _ (Array.getElem?_eq_some_iff.1 hr1).1).trans hr1
    obtain ⟨r0, r1, rf⟩ := cells2 hr2
    have rf0 := rf 0
    have rf1 := rf 1
    have HR2 := Lib.hid hr2
    have HB1 := Lib.hid (HB0.out.trans (hb.mono HB0.out.size))
    clear rf hr1 hr2 hb
    go_wp2_with fail
    have hge : w.heap.size ≤ rb := Nat.le_of_eq HRB.out
    refine bodyPost_ret (v := .tuple #[.agg #[.int .i64 0, .slice none 0 0], .bool false]) (results_get _ _ rb 0 none 0 0 false rfl rfl (pair_set HR2.out _ _ _ _)) rfl ⟨rfl, ?_⟩
    exact below_setP (below_setP (HB1.out.alloc HB1.out.size _) hge _ _) hge _ _
  | some q =>
    rw [hfl] at hg HF
    obtain ⟨k, v⟩ := q
    simp only at hg
    by_cases e : k = key
    · rw [if_pos e] at hg
      rw [hg]
      subst e
      clear hg hfl
      simp only [Option.getD_some, Option.isSome_some]
      go_enter Try.func26, Try.ntmps26
      go_wp2_with fail
      clear hW' hrb
      refine h1.mono ?_
      rintro e w' ⟨rfl, rfl⟩
      go_wp2_with fail
      refine HF.out.mono ?_
      rintro e w' ⟨bv, rfl, ⟨i, rfl, -, x, hx, hrow⟩, hb⟩
      obtain ⟨x1, x2, x3, x4⟩ := x
      obtain rfl : v = (.agg #[.int .i64 x1, .slice x2 x3 x4]) := hx
      obtain ⟨k0, k1, k2, -⟩ := cells3 hrow
      have hr1 : w'.heap[rb]? = some (pairO 0 none 0 0) := (hb.block _ (Array.getElem?_eq_some_iff.1 HR0.out).1).trans HR0.out
      obtain ⟨r0, r1, rf⟩ := cells2 hr1
      have rf0 := rf 0
      have rf1 := rf 1
      have HR2 := Lib.hid hr1
      have HB1 := Lib.hid (HB0.out.trans (hb.mono HB0.out.size))
      clear hrow rf hr1 hb
      go_wp2_with fail
      have hge : w.heap.size ≤ rb := Nat.le_of_eq HRB.out
      refine bodyPost_ret (v := .tuple #[.agg #[.int .i64 x1, .slice x2 x3 x4], .bool true]) (results_get _ _ rb x1 x2 x3 x4 true rfl rfl (pair_set HR2.out _ _ _ _)) rfl ⟨rfl, ?_⟩
      exact below_setP (below_setP HB1.out hge _ _) hge _ _
    · rw [if_neg e] at hg
      rw [hg]
      have d1 : (k.toList == key.toList) = false := beq_eq_false_iff_ne.2 fun e' => e (Mm.toList_inj e')
      clear hg hfl e
      simp only [Option.getD_none, Option.isSome_none]
      go_enter Try.func26, Try.ntmps26
      go_wp2_with fail
      clear hW' hrb
      refine h1.mono ?_
      rintro e w' ⟨rfl, rfl⟩
      go_wp2_with fail
      refine HF.out.mono ?_
      rintro e w' ⟨bv, rfl, ⟨i, rfl, -, x, hx, hrow⟩, hb⟩
      obtain ⟨k0, k1, k2, -⟩ := cells3 hrow
      clear hrow
      have hr1 : w'.heap[rb]? = some (pairO 0 none 0 0) := (hb.block _ (Array.getElem?_eq_some_iff.1 HR0.out).1).trans HR0.out
      have hr2 : (w'.alloc (.cells #[.int .i64 0, .slice none 0 0] 58)).heap[rb]? = some (pairO 0 none 0 0) := (Below.heap_alloc _ _ _ (Array.getElem?_eq_some_iff.1 hr1).1).trans hr1
      obtain ⟨r0, r1, rf⟩ := cells2 hr2
      have rf0 := rf 0
      have rf1 := rf 1
      have HR2 := Lib.hid hr2
      have HB1 := Lib.hid (HB0.out.trans (hb.mono HB0.out.size))
      clear rf hr1 hr2 hb
      go_wp2_with fail
      have hge : w.heap.size ≤ rb := Nat.le_of_eq HRB.out
      refine bodyPost_ret (v := .tuple #[.agg #[.int .i64 0, .slice none 0 0], .bool false]) (results_get _ _ rb 0 none 0 0 false rfl rfl (pair_set HR2.out _ _ _ _)) rfl ⟨rfl, ?_⟩
      exact below_setP (below_setP (HB1.out.alloc HB1.out.size _) hge _ _) hge _ _
set_option maxHeartbeats 2000000 in
theorem get_nil (key : ByteArray) (w : World) : Calls Try.prog 26 #[.pointer none, .string key] w fun e w' => e = .returned (.tuple #[.agg #[.int .i64 0, .slice none 0 0], .bool false]) ∧ Below w.heap.size w w' := by
  have hb0 := below_alloc w (pairO 0 none 0 0)
  have h1 := tree_none (w.alloc (pairO 0 none 0 0))
  have HF := Lib.hid (floor_tree (w := w.alloc (pairO 0 none 0 0)) (t := .nil) (p := .pointer none) rfl List.Pairwise.nil key)
  have hr0 := new_row w (pairO 0 none 0 0)
  obtain ⟨W, hW⟩ : ∃ W, w.alloc (pairO 0 none 0 0) = W := ⟨_, rfl⟩
  have hW' : w.alloc (.cells #[.int .i64 0, .slice none 0 0] 58) = W := hW
  obtain ⟨rb, hrb⟩ : ∃ rb, w.heap.size = rb := ⟨_, rfl⟩
  rw [hW] at hb0 h1 HF hr0
  rw [hrb] at hr0
  have HB0 := Lib.hid hb0
  have HR0 := Lib.hid hr0
  have HRB := Lib.hid hrb
  clear hb0 hr0 hW
  go_enter Try.func26, Try.ntmps26
  go_wp2_with fail
  clear hW' hrb
  refine h1.mono ?_
  rintro e w' ⟨rfl, rfl⟩
  go_wp2_with fail
  refine HF.out.mono ?_
  rintro e w' ⟨bv, rfl, rfl, hb⟩
  have hr1 : w'.heap[rb]? = some (pairO 0 none 0 0) := (hb.block _ (Array.getElem?_eq_some_iff.1 HR0.out).1).trans HR0.out
  have hr2 : (w'.alloc (.cells #[.int .i64 0, .slice none 0 0] 58)).heap[rb]? = some (pairO 0 none 0 0) := (Below.heap_alloc _ _ _ (Array.getElem?_eq_some_iff.1 hr1).1).trans hr1
  obtain ⟨r0, r1, rf⟩ := cells2 hr2
  have rf0 := rf 0
  have rf1 := rf 1
  have HR2 := Lib.hid hr2
  have HB1 := Lib.hid (HB0.out.trans (hb.mono HB0.out.size))
  clear rf hr1 hr2 hb
  go_wp2_with fail
  have hge : w.heap.size ≤ rb := Nat.le_of_eq HRB.out
  refine bodyPost_ret (v := .tuple #[.agg #[.int .i64 0, .slice none 0 0], .bool false]) (results_get _ _ rb 0 none 0 0 false rfl rfl (pair_set HR2.out _ _ _ _)) rfl ⟨rfl, ?_⟩
  exact below_setP (below_setP (HB1.out.alloc HB1.out.size _) hge _ _) hge _ _
/-- The answer is v, block a is a table of t, and of what lay nothing else has turned. -/
def Wrote (w : World) (a : Nat) (t : Mm.Tr) (v : Value) (e : Ending) (w' : World) : Prop := e = .returned v ∧ Only a w w' ∧ ∃ p, Tab w' a p ∧ At w' t p
theorem wrote_of {w w5 : World} {a : Nat} {t : Mm.Tr} {p0 p : Value} (h : Tab w a p0) (hb : Below w.heap.size w w5) (hp : At w5 t p) (v : Value) : Wrote w a t v (.returned v) (w5.setCell ⟨a, 0, none⟩ p) := by
  have h5 : Tab w5 a p0 := (hb.block _ h.lt).trans h
  refine ⟨rfl, (Only.of_below hb).trans (Only.setCell a w5 0 p), p, ?_, hp.kept (Kept.setCell h5.notNode)⟩
  have h6 := heap_setCell_same w5 a 0 _ _ p h5
  exact h6
set_option maxHeartbeats 400000 in
theorem set_nil (key : ByteArray) (x1 : Int) (x2 : Option Addr) (x3 x4 : Nat) (w : World) : Calls Try.prog 24 #[.pointer none, .string key, .agg #[.int .i64 x1, .slice x2 x3 x4]] w fun e w' => e = .returned (.bool false) ∧ Below w.heap.size w w' := by
  have hb0 := below_alloc w (pairO x1 x2 x3 x4)
  have hb1 : Below w.heap.size w (w.alloc (.cells #[.int .i64 x1, .slice x2 x3 x4] 58)) := hb0
  have HB := Lib.hid hb1
  clear hb0 hb1
  go_enter Try.func24, Try.ntmps24
  go_wp2_with fail
  go_ret
  exact ⟨rfl, HB.out⟩
theorem item_mk {w : World} {i : Nat} {k : ByteArray} (hk : k.size ≤ 281474976710656) (x : Int × Option Addr × Nat × Nat) (h : w.heap[i]? = some (.cells #[.string k, .int .i64 x.1, .slice x.2.1 x.2.2.1 x.2.2.2] 88 (0, 0))) : Item w i k (.agg #[.int .i64 x.1, .slice x.2.1 x.2.2.1 x.2.2.2]) := ⟨hk, x, rfl, h⟩
theorem flat_good {w : World} {t : Mm.Tr} {p : Value} (h1 : At w t p) : ∀ q ∈ t.flat, ∃ x : Int × Option Addr × Nat × Nat, q.2 = .agg #[.int .i64 x.1, .slice x.2.1 x.2.2.1 x.2.2.2] := by
  induction t generalizing p with
  | nil => intro q hq; cases hq
  | node l k v r ih1 ih2 =>
    obtain ⟨a, i, pl, pr, -, -, ⟨hks, x, hx, -⟩, hl, hr⟩ := h1
    intro q hq
    rcases List.mem_append.1 hq with hq | hq
    · exact ih1 hl q hq
    · rcases List.mem_cons.1 hq with rfl | hq
      · exact ⟨x, hx⟩
      · exact ih2 hr q hq
theorem got_agg {w : World} {t : Mm.Tr} {p : Value} (h : At w t p) (key : ByteArray) : ∃ g1 g2 g3 g4, (Mm.get t.flat key).getD (.agg #[.int .i64 0, .slice none 0 0]) = .agg #[.int .i64 g1, .slice g2 g3 g4] := by
  cases hg : Mm.get t.flat key with
  | none => exact ⟨0, none, 0, 0, rfl⟩
  | some v =>
    obtain ⟨x, hx⟩ := flat_good h _ (Mm.get_mem hg)
    exact ⟨x.1, x.2.1, x.2.2.1, x.2.2.2, hx⟩
set_option maxRecDepth 100000 in
set_option maxHeartbeats 8000000 in
theorem set_at {w : World} {a : Nat} {p : Value} {t : Mm.Tr} (h : Tab w a p) (ht : At w t p) (hs : Mm.Sorted t.flat) (key : ByteArray) (hk : key.size ≤ 281474976710656) (hn : t.count ≤ 999999) (x1 : Int) (x2 : Option Addr) (x3 x4 : Nat) :
    Calls Try.prog 24 #[.pointer (some ⟨a, 0, none⟩), .string key, .agg #[.int .i64 x1, .slice x2 x3 x4]] w (Wrote w a (t.with key (.agg #[.int .i64 x1, .slice x2 x3 x4])) (.bool (!(Mm.get t.flat key).isSome))) := by
  have hb0 := below_alloc w (pairO x1 x2 x3 x4)
  have hT1 : Tab (w.alloc (pairO x1 x2 x3 x4)) a p := (hb0.block _ h.lt).trans h
  have HG := Lib.hid (get_at hT1 (ht.below hb0) hs key)
  have hr0 := new_row w (pairO x1 x2 x3 x4)
  have hA1 := ht.below hb0
  obtain ⟨op, rfl⟩ := ht.ptr
  obtain ⟨W, hW⟩ : ∃ W, w.alloc (pairO x1 x2 x3 x4) = W := ⟨_, rfl⟩
  have hW' : w.alloc (.cells #[.int .i64 x1, .slice x2 x3 x4] 58) = W := hW
  obtain ⟨rb, hrb⟩ : ∃ rb, w.heap.size = rb := ⟨_, rfl⟩
  rw [hW] at hb0 hT1 HG hr0 hA1
  rw [hrb] at hr0
  have HT := Lib.hid hT1
  have HA := Lib.hid hA1
  have HN := Lib.hid hn
  have HK := Lib.hid hk
  have HB0 := Lib.hid hb0
  obtain ⟨g1, g2, g3, g4, hgv⟩ := got_agg HA.out key
  rw [hgv] at HG
  clear hgv
  generalize (Mm.get t.flat key).isSome = b at *
  have hfin : ∀ w5 p5, Below W.heap.size W w5 → At w5 (t.with key (.agg #[.int .i64 x1, .slice x2 x3 x4])) p5 → Wrote w a (t.with key (.agg #[.int .i64 x1, .slice x2 x3 x4])) (.bool (!b)) (.returned (.bool (!b))) (w5.setCell ⟨a, 0, none⟩ p5) := fun w5 p5 hb hp => wrote_of h (HB0.out.trans (hb.mono HB0.out.size)) hp _
  have HF := Lib.hid hfin
  have hblk : ∀ w1, Below W.heap.size W w1 → w1.cell? ⟨a, 0, none⟩ = some (.pointer op) ∧ w1.frozen? ⟨a, 0, none⟩ = false ∧ w1.cell? ⟨rb, 0, none⟩ = some (.int .i64 x1) ∧ w1.cell? ⟨rb, 1, none⟩ = some (.slice x2 x3 x4) := fun w1 hB => by
    obtain ⟨y0, y1⟩ := cells1 (show Tab w1 a _ from (hB.block _ HT.out.lt).trans HT.out)
    obtain ⟨z0, z1, -⟩ := cells2 (show w1.heap[rb]? = some (pairO x1 x2 x3 x4) from (hB.block _ (Array.getElem?_eq_some_iff.1 hr0).1).trans hr0)
    exact ⟨y0, y1 0, z0, z1⟩
  have HB := Lib.hid hblk
  clear hfin hblk hs hn hk h ht hT1 hA1 hb0 hr0 hW
  go_enter Try.func24, Try.ntmps24
  go_wp2_with fail
  clear hW' hrb
  refine HG.out.mono ?_
  rintro e w2 ⟨rfl, hb2⟩
  have hb3 : Below W.heap.size W (w2.alloc (.cells #[.int .i64 g1, .slice g2 g3 g4] 58)) := below_two hb2 (below_alloc w2 _)
  have HB3 := Lib.hid hb3
  clear hb2 hb3
  go_wp2_with fail
  have hb2 := HB3.out
  clear HB3
  generalize w2.alloc (.cells #[.int .i64 g1, .slice g2 g3 g4] 58) = w4 at hb2 ⊢
  obtain ⟨c0, f0, v0, v1⟩ := HB.out _ hb2
  have HD0 := Lib.hid (below_two hb2 (Below.refl w4.heap.size w4).drew)
  clear hb2
  go_region_law (first
    | (go_simp; go_at_call 36; (with_reducible refine (clone_any key _ HK.out).mono ?_); rintro e w3 ⟨rfl, hb3⟩; have HB3 := Lib.hid (below_two HD0.out hb3); clear hb3; obtain ⟨c3, -, v3, v4⟩ := HB.out _ HB3.out; have c4 := fun o => (HB.out (w3.alloc o) (below_two HB3.out (below_alloc w3 o))).1; have v5 := fun o => (HB.out (w3.alloc o) (below_two HB3.out (below_alloc w3 o))).2.2.1; have v6 := fun o => (HB.out (w3.alloc o) (below_two HB3.out (below_alloc w3 o))).2.2.2)
    | (go_simp; go_at_call 43; (with_reducible refine (with_all t _ key (.agg #[.int .i64 x1, .slice x2 x3 x4]) _ _ (HA.out.below (below_two HB3.out (below_alloc w3 _))) (item_mk HK.out (x1, x2, x3, x4) (new_row w3 _)) HN.out).mono ?_); rintro e w5 ⟨p5, rfl, ha5, hb5⟩; obtain ⟨o5, rfl⟩ := ha5.ptr; have HA5 := Lib.hid ha5; have HB5 := Lib.hid (below_two (below_two HB3.out (below_alloc w3 _)) hb5); clear ha5 hb5; obtain ⟨c5, f5, -, -⟩ := HB.out _ HB5.out))
  all_goals
    go_wp2_with fail
    go_ret
    exact HF.out _ _ HB5.out HA5.out
end Go.Proofs.Ythioogncbhkaoaa.MP
