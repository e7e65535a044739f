/-
  The document's answer for nets in memory: packets, ways that are cut. Walks over it: New, Waiting, is, Place. Conditions: those in the theorems.
-/
import Derived.Test.YtcfhfamdcdkgjaaNetAllList
namespace Nm
/-- Is a way among those of a list, either way about? -/
def isIn (l : List (Int × Int)) (x y : Int) : Bool := l.any fun p => (p.1 == x && p.2 == y) || (p.1 == y && p.2 == x)
def keep (l : List (Int × Int)) (x y : Int) : List (Int × Int) := l.filter fun p => !((p.1 == x && p.2 == y) || (p.1 == y && p.2 == x))
theorem same_way {p q x y : Int} : (((p == x && q == y) || (p == y && q == x)) = true) ↔ (min p q = min x y ∧ max p q = max x y) := by
  simp only [Bool.or_eq_true, Bool.and_eq_true, beq_iff_eq]
  omega
theorem isIn_iff {l : List (Int × Int)} {x y : Int} : isIn l x y = true ↔ ∃ p ∈ l, min p.1 p.2 = min x y ∧ max p.1 p.2 = max x y := by
  unfold isIn
  rw [List.any_eq_true]
  exact exists_congr fun p => and_congr_right fun _ => same_way
theorem isIn_keep (l : List (Int × Int)) (a b : Int) (on : Bool) (x y : Int) :
    isIn (keep l a b ++ (if on then [(a, b)] else [])) x y = if min x y = min a b ∧ max x y = max a b then on else isIn l x y := by
  rw [Bool.eq_iff_iff, isIn_iff]
  have hk : ∀ p : Int × Int, p ∈ keep l a b ↔ p ∈ l ∧ ¬ (min p.1 p.2 = min a b ∧ max p.1 p.2 = max a b) := fun p => by
    unfold keep
    rw [List.mem_filter, ← same_way]
    simp only [Bool.not_eq_true', Bool.not_eq_true]
  by_cases h : min x y = min a b ∧ max x y = max a b
  · rw [if_pos h]
    constructor
    · rintro ⟨p, hp, h1, h2⟩
      rcases List.mem_append.1 hp with hp | hp
      · exact absurd ⟨h1.trans h.1, h2.trans h.2⟩ ((hk p).1 hp).2
      · cases on with
        | true => rfl
        | false => simp at hp
    · rintro rfl
      exact ⟨(a, b), by simp, h.1.symm, h.2.symm⟩
  · rw [if_neg h, isIn_iff]
    constructor
    · rintro ⟨p, hp, h1, h2⟩
      rcases List.mem_append.1 hp with hp | hp
      · exact ⟨p, ((hk p).1 hp).1, h1, h2⟩
      · cases on with
        | true => simp at hp; subst hp; exact absurd ⟨h1.symm, h2.symm⟩ h
        | false => simp at hp
    · rintro ⟨p, hp, h1, h2⟩
      exact ⟨p, List.mem_append_left _ ((hk p).2 ⟨hp, fun e => h ⟨h1.symm.trans e.1, h2.symm.trans e.2⟩⟩), h1, h2⟩
theorem isIn_take {l : List (Int × Int)} {x y : Int} {k : Nat} (hk : k < l.length) (h : isIn (l.take k) x y = false) (hp : ((l[k].1 == x && l[k].2 == y) || (l[k].1 == y && l[k].2 == x)) = false) : isIn (l.take (k + 1)) x y = false := by
  rw [List.take_succ_eq_append_getElem hk]
  unfold isIn at *
  rw [List.any_append, h]
  simp only [List.any_cons, List.any_nil, Bool.or_false, Bool.false_or]
  exact hp
theorem isIn_at {l : List (Int × Int)} {x y : Int} {k : Nat} (hk : k < l.length) (hp : ((l[k].1 == x && l[k].2 == y) || (l[k].1 == y && l[k].2 == x)) = true) : isIn l x y = true := by
  unfold isIn
  rw [List.any_eq_true]
  exact ⟨_, List.getElem_mem hk, hp⟩
theorem keep_take {l : List (Int × Int)} {x y : Int} {k : Nat} (hk : k < l.length) : keep (l.take (k + 1)) x y = keep (l.take k) x y ++ (if ((l[k].1 == x && l[k].2 == y) || (l[k].1 == y && l[k].2 == x)) = true then [] else [l[k]]) := by
  rw [List.take_succ_eq_append_getElem hk]
  unfold keep
  rw [List.filter_append]
  congr 1
  cases h : ((l[k].1 == x && l[k].2 == y) || (l[k].1 == y && l[k].2 == x)) <;> simp [List.filter, h]
end Nm
namespace Go.Proofs.Ytcfhfamdcdkgjaa
open Go.RowKit Go.Maps

def wayCells (p : Int × Int) : List Value := [.int .i64 p.1, .int .i64 p.2]
def waysCells (l : List (Int × Int)) : List Value := l.flatMap wayCells
theorem waysCells_length (l : List (Int × Int)) : (waysCells l).length = l.length * 2 := by
  induction l with
  | nil => rfl
  | cons p r ih => simp only [waysCells, List.flatMap_cons, List.length_append, List.length_cons] at *; rw [ih]; simp [wayCells]; omega
theorem waysCells_append (l m : List (Int × Int)) : waysCells (l ++ m) = waysCells l ++ waysCells m := by unfold waysCells; rw [List.flatMap_append]
theorem waysCells_one (l : List (Int × Int)) : ∀ u ∈ waysCells l, u.oneCell' = true := by
  intro u hu
  unfold waysCells at hu
  rw [List.mem_flatMap] at hu
  obtain ⟨p, -, hu⟩ := hu
  simp [wayCells] at hu
  rcases hu with rfl | rfl <;> rfl
theorem waysCells_get {l : List (Int × Int)} {k : Nat} (hk : k < l.length) {j : Nat} (hj : j < 2) : (waysCells l)[k * 2 + j]? = (wayCells l[k])[j]? := by
  induction l generalizing k with
  | nil => exact absurd hk (Nat.not_lt_zero _)
  | cons p r ih =>
    unfold waysCells
    rw [List.flatMap_cons]
    cases k with
    | zero => rw [List.getElem?_append_left (by simp [wayCells]; omega)]; simp
    | succ k =>
      rw [List.getElem?_append_right (by simp [wayCells]; omega)]
      have := ih (k := k) (by simpa using hk)
      rw [show (k + 1) * 2 + j - (wayCells p).length = k * 2 + j by simp [wayCells]; omega]
      exact this

section
variable {T : TypeId} {n : Nat}
theorem row_ofG {w W : World} {v : Value} {m : Nat} {xs : List Value} (h : w.ownsRow 0 T n v m xs) (hk : ∀ k ∈ rowBlk v, W.heap[k]? = w.heap[k]?) : W.ownsRow 0 T n v m xs := by
  refine ⟨h.1, ?_⟩
  rcases h.2 with h1 | ⟨g, cap, cur, rfl, h2, h3, h4⟩
  · exact .inl h1
  · exact .inr ⟨g, cap, cur, rfl, h2, (hk g (by simp [rowBlk])).trans h3, h4⟩
theorem row_ltG {w : World} {v : Value} {m : Nat} {xs : List Value} (h : w.ownsRow 0 T n v m xs) : ∀ k ∈ rowBlk v, k < w.heap.size := by
  rcases h.2 with ⟨rfl, -⟩ | ⟨g, cap, cur, rfl, h2, h3, h4⟩
  · exact fun k hk => nomatch hk
  · intro k hk; simp [rowBlk] at hk; rw [hk]; exact (Array.getElem?_eq_some_iff.1 h3).1
theorem row_shapeG {w : World} {v : Value} {m : Nat} {xs : List Value} (h : w.ownsRow 0 T n v m xs) : ∃ p cap, v = .slice p m cap ∧ m ≤ cap ∧ cap ≤ maxLen := by
  rcases h.2 with ⟨rfl, rfl⟩ | ⟨g, cap, cur, rfl, h2, h3, h4, h5, -⟩
  · exact ⟨none, 0, rfl, Nat.le_refl _, Nat.zero_le _⟩
  · exact ⟨_, _, rfl, h4, h5⟩
theorem row_openG {w : World} {v : Value} {m : Nat} {xs : List Value} (h : w.ownsRow 0 T n v m xs) (hn : m ≠ 0) :
    ∃ g cap cur, v = .slice (some ⟨g, 0, none⟩) m cap ∧ w.heap[g]? = some (.cells cur T (0, 0)) ∧ m ≤ cap ∧ cap ≤ maxLen ∧ cur.size = cap * n ∧ cur.toList.take (m * n) = xs := by
  rcases h.2 with ⟨rfl, e⟩ | ⟨g, cap, cur, rfl, h2, h3, h4⟩
  · exact absurd e hn
  · exact ⟨g, cap, cur, rfl, h3, h4⟩
end

/-- The ways of a reference's net. -/
def WaysAt (w : World) (v : Value) (N : Nm.Net) : Prop := ∃ l : List (Int × Int), w.ownsRow 0 70 2 v l.length (waysCells l) ∧ (∀ x y, N.cut (min x y) (max x y) = Nm.isIn l x y) ∧ l.length ≤ N.cuts
structure RRep (w : World) (r : Nat) (N : Nm.Net) (rv cv : Value) : Prop where
  right : Nm.Right N
  cell : w.heap[r]? = some (.cells #[rv, cv] 61 (0, 0))
  row : w.ownsRow 0 23 3 rv N.row.length (rowCells N.row)
  ways : WaysAt w cv N
  ar : r ∉ rowBlk rv
  aw : r ∉ rowBlk cv
  rc : ∀ k ∈ rowBlk rv, k ∉ rowBlk cv
def RIn (S : Nat → Prop) (r : Nat) (rv cv : Value) : Prop := S r ∧ (∀ k ∈ rowBlk rv, S k) ∧ ∀ k ∈ rowBlk cv, S k
/-- Block r of w is the document's net that has N, within the blocks of S. -/
def RNet (w : World) (r : Nat) (N : Nm.Net) (S : Nat → Prop) : Prop := ∃ rv cv, RRep w r N rv cv ∧ RIn S r rv cv

theorem WaysAt.of {w W : World} {v : Value} {N : Nm.Net} (h : WaysAt w v N) (hk : ∀ k ∈ rowBlk v, W.heap[k]? = w.heap[k]?) : WaysAt W v N := by
  obtain ⟨l, h1, h2⟩ := h; exact ⟨l, row_ofG h1 hk, h2⟩
theorem WaysAt.lt {w : World} {v : Value} {N : Nm.Net} (h : WaysAt w v N) : ∀ k ∈ rowBlk v, k < w.heap.size := by
  obtain ⟨l, h1, -⟩ := h; exact row_ltG h1
theorem RRep.lt {w : World} {r : Nat} {N : Nm.Net} {rv cv : Value} (h : RRep w r N rv cv) : r < w.heap.size ∧ (∀ k ∈ rowBlk rv, k < w.heap.size) ∧ ∀ k ∈ rowBlk cv, k < w.heap.size :=
  ⟨(Array.getElem?_eq_some_iff.1 h.cell).1, row_lt h.row, h.ways.lt⟩
theorem RRep.same {w W : World} {r : Nat} {N : Nm.Net} {rv cv : Value} {S : Nat → Prop} (h : RRep w r N rv cv) (hw : RIn S r rv cv) (hk : ∀ k, S k → k < w.heap.size → W.heap[k]? = w.heap[k]?) : RRep W r N rv cv :=
  ⟨h.right, (hk _ hw.1 h.lt.1).trans h.cell, row_of h.row fun k hk' => hk k (hw.2.1 k hk') (h.lt.2.1 k hk'), h.ways.of fun k hk' => hk k (hw.2.2 k hk') (h.lt.2.2 k hk'), h.ar, h.aw, h.rc⟩
theorem RRep.heap {w W : World} {r : Nat} {N : Nm.Net} {rv cv : Value} (h : RRep w r N rv cv) (hk : ∀ k, k < w.heap.size → W.heap[k]? = w.heap[k]?) : RRep W r N rv cv :=
  h.same (S := fun _ => True) ⟨trivial, fun _ _ => trivial, fun _ _ => trivial⟩ fun _ _ hl => hk _ hl
theorem RRep.below {w W : World} {r : Nat} {N : Nm.Net} {rv cv : Value} (h : RRep w r N rv cv) (hb : Below w.heap.size w W) : RRep W r N rv cv := h.heap fun k hk => hb.block k hk
theorem RIn.mono {S S' : Nat → Prop} {r : Nat} {rv cv : Value} (h : RIn S r rv cv) (hs : ∀ k, S k → S' k) : RIn S' r rv cv := ⟨hs _ h.1, fun k hk => hs _ (h.2.1 k hk), fun k hk => hs _ (h.2.2 k hk)⟩
theorem RNet.mono {S S' : Nat → Prop} {w : World} {r : Nat} {N : Nm.Net} (h : RNet w r N S) (hs : ∀ k, S k → S' k) : RNet w r N S' := by
  obtain ⟨rv, cv, h1, h2⟩ := h; exact ⟨rv, cv, h1, h2.mono hs⟩
theorem RNet.below {S : Nat → Prop} {w W : World} {r : Nat} {N : Nm.Net} (h : RNet w r N S) (hb : Below w.heap.size w W) : RNet W r N S := by
  obtain ⟨rv, cv, h1, h2⟩ := h; exact ⟨rv, cv, h1.below hb, h2⟩
theorem RNet.kept {S : Nat → Prop} {w W : World} {r : Nat} {N : Nm.Net} (h : RNet w r N S) (hk : ∀ k, S k → W.heap[k]? = w.heap[k]?) : RNet W r N S := by
  obtain ⟨rv, cv, h1, h2⟩ := h; exact ⟨rv, cv, h1.same h2 fun k hs _ => hk k hs, h2⟩
theorem RNet.tight {S : Nat → Prop} {w : World} {r : Nat} {N : Nm.Net} (h : RNet w r N S) : RNet w r N fun k => S k ∧ k < w.heap.size := by
  obtain ⟨rv, cv, h1, h2⟩ := h
  exact ⟨rv, cv, h1, ⟨h2.1, h1.lt.1⟩, fun k hk => ⟨h2.2.1 k hk, h1.lt.2.1 k hk⟩, fun k hk => ⟨h2.2.2 k hk, h1.lt.2.2 k hk⟩⟩
theorem RNet.right {S : Nat → Prop} {w : World} {r : Nat} {N : Nm.Net} (h : RNet w r N S) : Nm.Right N := by
  obtain ⟨rv, cv, h1, h2⟩ := h; exact h1.right

set_option maxHeartbeats 400000 in
theorem refNew_any (w : World) : Calls Try.prog 20 #[] w fun e w' => e = .returned (.pointer (some ⟨w.heap.size, 0, none⟩)) ∧ RNet w' w.heap.size Nm.new (w.heap.size ≤ ·) ∧ Below w.heap.size w w' := by
  have hfin : RNet (w.alloc (.cells #[.slice none 0 0, .slice none 0 0] 61)) w.heap.size Nm.new (w.heap.size ≤ ·) ∧ Below w.heap.size w (w.alloc (.cells #[.slice none 0 0, .slice none 0 0] 61)) :=
    ⟨⟨.slice none 0 0, .slice none 0 0, ⟨Nm.Right.new, heap_alloc_new w _, World.ownsRow_nil _ _ _ _, ⟨[], World.ownsRow_nil _ _ _ _, fun _ _ => rfl, Nat.le_refl _⟩, (fun h => nomatch h), (fun h => nomatch h), fun _ h => nomatch h⟩, ⟨Nat.le_refl _, (fun _ h => nomatch h), fun _ h => nomatch h⟩⟩, (Below.refl _ w).alloc (Nat.le_refl _) _⟩
  have HF := Lib.hid hfin
  clear hfin
  go_enter Try.func20, Try.ntmps20
  go_wp2_with fail
  go_ret
  exact ⟨rfl, HF.out⟩
set_option maxHeartbeats 400000 in
theorem refWaiting_none (w : World) : Calls Try.prog 22 #[.pointer none] w fun e w' => e = .returned (.int .i64 0) ∧ w = w' := by
  go_enter Try.func22, Try.ntmps22
  go_wp2_with fail
  go_ret
  exact ⟨rfl, rfl⟩
set_option maxHeartbeats 400000 in
theorem refWaiting_rep {w : World} {r : Nat} {N : Nm.Net} {S : Nat → Prop} (h : RNet w r N S) :
    Calls Try.prog 22 #[.pointer (some ⟨r, 0, none⟩)] w fun e w' => e = .returned (.int .i64 (N.row.length : Nat)) ∧ w = w' := by
  obtain ⟨rv, cv, hR, -⟩ := h
  obtain ⟨c0, -, -⟩ := cells2 hR.cell
  obtain ⟨p, cap, rfl, -, -⟩ := row_shape hR.row
  clear hR
  generalize N.row.length = n at *
  go_enter Try.func22, Try.ntmps22
  go_wp2_with fail
  go_ret
  exact ⟨rfl, rfl⟩
set_option maxHeartbeats 1000000 in
theorem refPlace_any (i : Int) (n : Nat) (w : World) (hi : Nm.Wf i) (h0 : 0 < n) (hf : n ≤ 1024) :
    Calls Try.prog 35 #[.int .i64 i, .int .i64 (n : Nat)] w fun e w' => e = .returned (.int .i64 (Nm.place i n : Nat)) ∧ w = w' := by
  have hb := tmod_bounds i h0
  have hnz : ((n : Int) == 0) = false := by rw [beq_eq_false_iff_ne]; omega
  have h1 : (0 : Int) < (n : Int) := by omega
  have h1024 : (n : Int) ≤ 1024 := by omega
  unfold Nm.Wf at hi
  by_cases ht : i.tmod (n : Int) < 0
  · have HP := Lib.hid (place_neg h0 ht)
    clear hf
    go_enter Try.func35, Try.ntmps35
    go_wp2_with fail
    go_ret
    exact ⟨congrArg (fun z => Ending.returned (.int .i64 z)) HP.out, rfl⟩
  · have HP := Lib.hid (place_pos h0 ht)
    clear hf
    go_enter Try.func35, Try.ntmps35
    go_wp2_with fail
    go_ret
    exact ⟨congrArg (fun z => Ending.returned (.int .i64 z)) HP.out, rfl⟩

/-- The cells of a way of a row of them. -/
theorem ways_cells {w : World} {v : Value} {l : List (Int × Int)} (h : w.ownsRow 0 70 2 v l.length (waysCells l)) {k : Nat} (hk : k < l.length) :
    ∃ g cap, v = .slice (some ⟨g, 0, none⟩) l.length cap ∧ w.cell? ⟨g, k * 2, none⟩ = some (.int .i64 l[k].1) ∧ w.cell? ⟨g, k * 2 + 1, none⟩ = some (.int .i64 l[k].2) := by
  obtain ⟨g, cap, cur, rfl, hg, h1, h2, h3, h4⟩ := row_openG h (by omega)
  refine ⟨g, cap, rfl, ?_, ?_⟩
  · have := waysCells_get hk (j := 0) (by omega)
    rw [cell_of_row w g _ cur _ _ hg]
    rw [← h4, List.getElem?_take, if_pos (by omega)] at this
    simpa [wayCells] using this
  · have := waysCells_get hk (j := 1) (by omega)
    rw [cell_of_row w g _ cur _ _ hg]
    rw [← h4, List.getElem?_take, if_pos (by omega)] at this
    simpa [wayCells] using this

set_option maxRecDepth 100000 in
set_option maxHeartbeats 4000000 in
theorem refIs_rep {w : World} {r : Nat} {N : Nm.Net} {S : Nat → Prop} (h : RNet w r N S) (x y : Int) (hn : N.cuts ≤ 1000000) :
    Calls Try.prog 37 #[.pointer (some ⟨r, 0, none⟩), .int .i64 x, .int .i64 y] w fun e w' => e = .returned (.bool (N.cut (min x y) (max x y))) ∧ Below w.heap.size w w' := by
  obtain ⟨rv, cv, hR, -⟩ := h
  obtain ⟨l, hl, hcut, hlen⟩ := hR.ways
  rw [hcut]
  obtain ⟨p, cap, rfl, hnc, hcm⟩ := row_shapeG hl
  have hlk : l.length ≤ 1000000 := by omega
  have hcell : ∀ W, Below w.heap.size w W → W.cell? ⟨r, 1, none⟩ = some (.slice p l.length cap) := fun W hW => (cells2 (hR.below hW).cell).2.1
  have hways : ∀ W, Below w.heap.size w W → W.ownsRow 0 70 2 (.slice p l.length cap) l.length (waysCells l) := fun W hW => row_ofG hl fun k hk => hW.block k (row_ltG hl k hk)
  have HC := Lib.hid hcell
  have HW := Lib.hid hways
  clear hcell hways hl hcut hlen hR hcm
  go_enter Try.func37, Try.ntmps37
  go_wp2_with fail
  go_loopw [7] (fun iv wr => ∃ k : Nat, k ≤ l.length ∧ iv = .int .i64 (k : Nat) ∧ Hid (Nm.isIn (l.take k) x y = false ∧ Below w.heap.size w wr)) (fun iv _ => l.length - (intOf iv).toNat)
  case atStart => exact ⟨0, Nat.zero_le _, rfl, Lib.hid ⟨rfl, Below.refl _ _⟩⟩
  case round =>
    obtain ⟨k, hk, rfl, HN⟩ := hrel
    have c1 := HC.out wr HN.out.2
    by_cases hlt : k < l.length
    · have i1 : (k : Int) < (l.length : Int) := by omega
      have i2 : (0 : Int) ≤ (k : Int) := by omega
      have i3 : (l.length : Int) ≤ 1000000 := by omega
      obtain ⟨g, cap', e, g0, g1⟩ := ways_cells (HW.out wr HN.out.2) hlt
      cases e
      have hno := fun h => Nm.isIn_take hlt HN.out.1 h
      have hyes := fun h => Nm.isIn_at (x := x) (y := y) hlt h
      have hB := HN.out.2
      have HBA := Lib.hid (fun o => hB.alloc hB.size o)
      clear HN hB
      generalize l[k] = q at *
      obtain ⟨q1, q2⟩ := q
      simp only at *
      obtain ⟨W1, hW1⟩ : ∃ W1, wr.alloc (.cells #[.int .i64 q1, .int .i64 q2] 70) = W1 := ⟨_, rfl⟩
      obtain ⟨z, hz⟩ : ∃ z, wr.heap.size = z := ⟨_, rfl⟩
      obtain ⟨z0, z1, -⟩ := cells2 (show W1.heap[z]? = some (.cells #[.int .i64 q1, .int .i64 q2] 70 (0, 0)) from by rw [← hW1, ← hz]; exact heap_alloc_new wr _)
      have HB1 := Lib.hid (show Below w.heap.size w W1 from by rw [← hW1]; exact HBA.out _)
      clear HBA
      cases e1 : (q1 == x) <;> cases e2 : (q2 == y) <;> cases e3 : (q1 == y) <;> cases e4 : (q2 == x) <;> rw [e1, e2, e3, e4] at hno hyes <;> simp at hno hyes
      all_goals
        go_wp2_with fail
        first
          | (go_roundw
             case rel => exact ⟨k + 1, by omega, by go_num, Lib.hid ⟨hno, HB1.out⟩⟩
             case measure => simp [intOf]; omega)
          | (go_ret
             exact ⟨by rw [hyes]; rfl, HB1.out⟩)
    · obtain rfl : k = l.length := by omega
      have i0 : ¬ (l.length : Int) < (l.length : Int) := by omega
      have hno := HN.out.1
      rw [List.take_length] at hno
      have HQ := Lib.hid (And.intro hno HN.out.2)
      clear hno HN
      go_wp2_with fail
      go_ret
      exact ⟨by rw [HQ.out.1]; rfl, HQ.out.2⟩
end Go.Proofs.Ytcfhfamdcdkgjaa
