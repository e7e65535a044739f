/-
  Walks over package check: what its rules keep, the makers of iterators, rule 6. Conditions: those in the theorems.
-/
import Derived.Test.YtnkdhmoocomjfaaGreatDoorCkFinite
set_option linter.unusedSimpArgs false
set_option linter.unusedVariables false
namespace Go.Proofs.YtnkdhmoocomjfaaGreatDoor
open Go.RowKit
attribute [local go_sem] Oper.semAt_some

/-- What a rule tells: the place where it is broken, and by which error. -/
def Told (o : Option ByteArray) (code : Nat) (w : World) (e : Ending) (w' : World) : Prop := e = .returned (.tuple #[.string (o.getD ⟨#[]⟩), .int .i64 ((if o.isSome then code else 0 : Nat) : Int)]) ∧ Below w.heap.size w w'
def strO (x : ByteArray) : Obj := .cells #[.string x] 9 (0, 0)
def errO (e : Nat) : Obj := .cells #[.int .i64 (e : Nat)] 29 (0, 0)
/-- The makers of the iterators. -/
theorem methods_any {sv : Value} {s : Ip.Sch} {p1 p2 p3 : Option Addr} {c1 c2 c3 : Nat} (w : World) (hs : sv = .agg #[.string s.name, .slice p1 s.records.length c1, .slice p2 s.services.length c2, .slice p3 s.sagas.length c3]) :
    Calls Tryz.prog 127 #[sv] w fun e w' => e = .returned (.func (.func 171) #[] #[.pointer (some ⟨w.heap.size, 0, none⟩)]) ∧ w' = w.alloc (schO s p1 c1 p2 c2 p3 c3) := by
  subst hs
  go_enter Tryz.func127, Tryz.ntmps127
  go_wp2_with fail
  go_ret
  exact ⟨rfl, rfl⟩
theorem steps_any {sv : Value} {s : Ip.Sch} {p1 p2 p3 : Option Addr} {c1 c2 c3 : Nat} (w : World) (hs : sv = .agg #[.string s.name, .slice p1 s.records.length c1, .slice p2 s.services.length c2, .slice p3 s.sagas.length c3]) :
    Calls Tryz.prog 133 #[sv] w fun e w' => e = .returned (.func (.func 175) #[] #[.pointer (some ⟨w.heap.size, 0, none⟩)]) ∧ w' = w.alloc (schO s p1 c1 p2 c2 p3 c3) := by
  subst hs
  go_enter Tryz.func133, Tryz.ntmps133
  go_wp2_with fail
  go_ret
  exact ⟨rfl, rfl⟩
theorem declared_any {sv : Value} {s : Ip.Sch} {p1 p2 p3 : Option Addr} {c1 c2 c3 : Nat} (w : World) (hs : sv = .agg #[.string s.name, .slice p1 s.records.length c1, .slice p2 s.services.length c2, .slice p3 s.sagas.length c3]) :
    Calls Tryz.prog 123 #[sv] w fun e w' => e = .returned (.func (.func 164) #[] #[.pointer (some ⟨w.heap.size, 0, none⟩)]) ∧ w' = w.alloc (schO s p1 c1 p2 c2 p3 c3) := by
  subst hs
  go_enter Tryz.func123, Tryz.ntmps123
  go_wp2_with fail
  go_ret
  exact ⟨rfl, rfl⟩
/-- A rule's walk within a range: the iterator's blocks S lie from base on; the rule's own boxes, and the schema's world, lie as they lay. -/
structure RuleI (u w : World) (base : Nat) (B : List (Nat × Obj)) (S : Nat → Prop) (W : World) : Prop where
  set : ∀ k, S k → base ≤ k
  size : base ≤ W.heap.size
  low : w.heap.size ≤ base
  kp : Kp u W
  ku : u.heap.size ≤ base
  below : Below w.heap.size w W
  box : ∀ q ∈ B, W.heap[q.1]? = some q.2 ∧ q.1 < base
section
variable {u w W W' : World} {base : Nat} {B : List (Nat × Obj)} {S S' : Nat → Prop}
theorem RuleI.steps (h : RuleI u w base B S W) (st : StepsZ S S' W W') : RuleI u w base B S' W' := by
  have hk : ∀ k, k < base → W'.heap[k]? = W.heap[k]? := fun k hk => st.block k (Nat.lt_of_lt_of_le hk h.size) fun e => by have := h.set k e; omega
  refine ⟨fun k hk' => ?_, Nat.le_trans h.size st.size, h.low, ⟨Nat.le_trans h.kp.size st.size, fun k hk' => (hk k (Nat.lt_of_lt_of_le hk' h.ku)).trans (h.kp.block k hk')⟩, h.ku,
    ⟨st.os.trans h.below.os, st.tape.trans h.below.tape, st.output.trans h.below.output, Nat.le_trans h.below.size st.size, fun k hk' => (hk k (Nat.lt_of_lt_of_le hk' h.low)).trans (h.below.block k hk')⟩, fun q hq => ⟨(hk _ (h.box q hq).2).trans (h.box q hq).1, (h.box q hq).2⟩⟩
  rcases st.new k hk' with e | e
  · exact h.set k e
  · have := h.size; omega
theorem RuleI.call (h : RuleI u w base B S W) (hb : Below W.heap.size W W') : RuleI u w base B S W' := h.steps (.of_below hb)
theorem RuleI.at (h : RuleI u w base B S W) {b : Nat} {o : Obj} (hq : (b, o) ∈ B) : W.heap[b]? = some o := (h.box _ hq).1
/-- Both results are stored. -/
theorem RuleI.tell {r0 r1 : Nat} {x0 : ByteArray} {e0 : Nat} {C : List (Nat × Obj)} (h : RuleI u w base ((r0, strO x0) :: (r1, errO e0) :: C) S W) (hne : r0 ≠ r1) (hw : w.heap.size ≤ r0 ∧ w.heap.size ≤ r1) (hu : u.heap.size ≤ r0 ∧ u.heap.size ≤ r1) (x : ByteArray) (e : Nat) :
    RuleI u w base [(r0, strO x), (r1, errO e)] S ((W.setCell ⟨r0, 0, none⟩ (.string x)).setCell ⟨r1, 0, none⟩ (.int .i64 (e : Nat))) := by
  have h0 := h.at (b := r0) (o := strO x0) (by simp)
  have h1 := h.at (b := r1) (o := errO e0) (by simp)
  have l0 := (h.box (r0, strO x0) (by simp)).2
  have l1 := (h.box (r1, errO e0) (by simp)).2
  refine ⟨h.set, by simp [World.setCell]; exact h.size, h.low, ⟨by simp [World.setCell]; exact h.kp.size, fun k hk => ?_⟩, h.ku, (h.below.setCell (by exact hw.1) _).setCell (by exact hw.2) _, fun q hq => ?_⟩
  · exact ((Below.heap_setCell _ _ _ _ (by dsimp only; omega)).trans (Below.heap_setCell _ _ _ _ (by dsimp only; omega))).trans (h.kp.block k hk)
  · simp only [List.mem_cons, List.not_mem_nil, or_false] at hq
    rcases hq with rfl | rfl
    · exact ⟨(Below.heap_setCell _ _ _ _ (by dsimp only; omega)).trans (tk_set h0 _), l0⟩
    · exact ⟨tk_set ((Below.heap_setCell _ _ _ _ (by dsimp only; omega)).trans h1) _, l1⟩
theorem RuleI.less {C : List (Nat × Obj)} (h : RuleI u w base B S W) (hs : ∀ q ∈ C, q ∈ B) : RuleI u w base C S W := ⟨h.set, h.size, h.low, h.kp, h.ku, h.below, fun q hq => h.box q (hs q hq)⟩
/-- What the body leaves, the results stored. -/
theorem body_tell {b r0 r1 : Nat} {W1 : World} (hb : Below W.heap.size W W1) (h0 : u.heap.size ≤ r0 ∧ r0 ≠ b ∧ ¬ S r0) (h1 : u.heap.size ≤ r1 ∧ r1 ≠ b ∧ ¬ S r1) (x y : Value) :
    BodyZ (fun k => k < u.heap.size ∨ k = b) S W ((W1.setCell ⟨r0, 0, none⟩ x).setCell ⟨r1, 0, none⟩ y) := by
  refine ⟨by simp [World.setCell]; exact hb.size, fun k hk hc => ?_⟩
  have e0 : k ≠ r0 := fun e => by
    subst e
    rcases hc with (hc | hc) | hc
    · omega
    · exact h0.2.1 hc
    · exact h0.2.2 hc
  have e1 : k ≠ r1 := fun e => by
    subst e
    rcases hc with (hc | hc) | hc
    · omega
    · exact h1.2.1 hc
    · exact h1.2.2 hc
  exact ((Below.heap_setCell _ _ _ _ e1).trans (Below.heap_setCell _ _ _ _ e0)).trans (hb.block k hk)
end
/-- Up to the i-th the rule is kept. -/
def GoesI {α : Type} (g : α → Option ByteArray) (xs : List α) (u w : World) (base : Nat) (B : List (Nat × Obj)) (S : Nat → Prop) (i : Nat) (W : World) : Prop := RuleI u w base B S W ∧ ∀ j x, xs[j]? = some x → j < i → g x = none
/-- It is broken, and that is told. -/
def StopsI {α : Type} (g : α → Option ByteArray) (xs : List α) (code r0 r1 : Nat) (u w : World) (base : Nat) (c : Code) (S : Nat → Prop) (_i : Nat) (W : World) : Prop := c = .ret ∧ ∃ x, xs.findSome? g = some x ∧ RuleI u w base [(r0, strO x), (r1, errO code)] S W
section
variable {α : Type} {g : α → Option ByteArray} {xs : List α} {u w W W' : World} {base code r0 r1 i : Nat} {B : List (Nat × Obj)} {S S' : Nat → Prop} {c : Code}
theorem GoesI.steps (h : GoesI g xs u w base B S i W) (st : StepsZ S S' W W') : GoesI g xs u w base B S' i W' := ⟨h.1.steps st, h.2⟩
theorem StopsI.steps (h : StopsI g xs code r0 r1 u w base c S i W) (st : StepsZ S S' W W') : StopsI g xs code r0 r1 u w base c S' i W' := by
  obtain ⟨a, x, b, d⟩ := h; exact ⟨a, x, b, d.steps st⟩
theorem found_at (hk : ∀ j x, xs[j]? = some x → j < i → g x = none) {x : α} (hx : xs[i]? = some x) {y : ByteArray} (hg : g x = some y) : xs.findSome? g = some y := by
  obtain ⟨hi, rfl⟩ := List.getElem?_eq_some_iff.1 hx
  have e : xs = xs.take i ++ xs.drop i := (List.take_append_drop i xs).symm
  have h1 : (xs.take i).findSome? g = none := List.findSome?_eq_none_iff.2 fun z hz => by
    obtain ⟨j, hj⟩ := List.mem_iff_getElem?.1 hz
    rw [List.getElem?_take] at hj
    split at hj
    · exact hk j z hj (by assumption)
    · cases hj
  rw [e, List.findSome?_append, h1, Option.none_or]
  exact Ck.some_at hi hg
theorem found_none (hk : ∀ j x, xs[j]? = some x → j < xs.length → g x = none) : xs.findSome? g = none := List.findSome?_eq_none_iff.2 fun z hz => by
  obtain ⟨j, hj⟩ := List.mem_iff_getElem?.1 hz
  exact hk j z hj (List.getElem?_eq_some_iff.1 hj).1
theorem goes_next (hk : ∀ j x, xs[j]? = some x → j < i → g x = none) {x : α} (hx : xs[i]? = some x) (hg : g x = none) : ∀ j x, xs[j]? = some x → j < i + 1 → g x = none := fun j y hj hji => by
  by_cases e : j < i
  · exact hk j y hj e
  · obtain rfl : j = i := by omega
    rw [hx] at hj
    cases hj
    exact hg
end
theorem some_flat {α β γ : Type} {f : α → List β} {g : β → Option γ} : ∀ L : List α, (L.flatMap f).findSome? g = L.findSome? fun a => (f a).findSome? g
  | [] => rfl
  | x :: L => by rw [List.flatMap_cons, List.findSome?_append, List.findSome?_cons, some_flat L]; cases (f x).findSome? g <;> rfl
theorem mem_allM {s : Ip.Sch} {i : Nat} {x : Ip.Srv × Ip.Mth} (h : (allM s)[i]? = some x) : x.1 ∈ s.services ∧ x.2 ∈ x.1.methods := by
  have hm := List.mem_of_getElem? h
  unfold allM at hm
  obtain ⟨v, hv, hx⟩ := List.mem_flatMap.1 hm
  obtain ⟨m, hm9, rfl⟩ := List.mem_map.1 hx
  exact ⟨hv, hm9⟩
theorem mem_allS {s : Ip.Sch} {i : Nat} {x : Ip.Sga × Nat} (h : (allS s)[i]? = some x) : x.1 ∈ s.sagas ∧ x.2 < x.1.steps.length := by
  have hm := List.mem_of_getElem? h
  unfold allS at hm
  obtain ⟨v, hv, hx⟩ := List.mem_flatMap.1 hm
  obtain ⟨m, hm9, rfl⟩ := List.mem_map.1 hx
  exact ⟨hv, List.mem_range.1 hm9⟩
theorem rule_leaves {F : Fence} {n : Nat} {P : Program} {fn : Func} {tmps : Array Value} {R : Ending → World → Prop} {v : Value} {D : Nat} {W : World} (hK : W.heap[D]? = some (.deferred (some []))) (hres : (results fn tmps).run P (W.putObj D (.deferred none)) = .ok v (W.putObj D (.deferred none))) (hR : R (.returned v) (W.putObj D (.deferred none))) :
    LeavesInM F n P fn tmps R [{ target := .collected D, args := #[] }] .returning W :=
  ⟨by simp, .inl ⟨_, _, rfl, run_takeDeferred hK, ⟨v, hres, hR⟩⟩⟩
theorem RuleI.mark {u w W : World} {base D : Nat} {B : List (Nat × Obj)} {S : Nat → Prop} (h : RuleI u w base B S W) (hD : base ≤ D) (o : Obj) : Below w.heap.size w (W.putObj D o) ∧ ∀ q ∈ B, (W.putObj D o).heap[q.1]? = some q.2 :=
  ⟨below_putObjZ h.below (Nat.le_trans h.low hD) o, fun q hq => (World.putObj_heap_other (by have := (h.box q hq).2; omega)).trans (h.box q hq).1⟩
section
variable {α : Type} {g : α → Option ByteArray} {xs : List α} {u w A X : World} {e : Int} {base code r0 r1 i b : Nat} {B C : List (Nat × Obj)} {S : Nat → Prop} {x : α} {pl : ByteArray}
/-- The body goes on. -/
theorem GoesI.goOn (h : GoesI g xs u w base B S i A) (hx : xs[i]? = some x) (hg : g x = none) (hX : Below A.heap.size A X) : BodyZ (fun k => k < u.heap.size ∨ k = b) S A X ∧ GoesI g xs u w base B S (i + 1) X :=
  ⟨.of_below hX, h.1.call hX, goes_next h.2 hx hg⟩
/-- The body tells that the rule is broken. -/
theorem GoesI.stop (h : GoesI g xs u w base ((r0, strO ⟨#[]⟩) :: (r1, errO 0) :: C) S i A) (hx : xs[i]? = some x) (hg : g x = some pl) (hX : Below A.heap.size A X) (hne : r0 ≠ r1) (hw : w.heap.size ≤ r0 ∧ w.heap.size ≤ r1) (hu : u.heap.size ≤ w.heap.size) (hb : r0 ≠ b ∧ r1 ≠ b) (hc : (code : Int) = e) :
    BodyZ (fun k => k < u.heap.size ∨ k = b) S A ((X.setCell ⟨r0, 0, none⟩ (.string pl)).setCell ⟨r1, 0, none⟩ (.int .i64 e)) ∧ StopsI g xs code r0 r1 u w base .ret S (i + 1) ((X.setCell ⟨r0, 0, none⟩ (.string pl)).setCell ⟨r1, 0, none⟩ (.int .i64 e)) := by
  subst hc
  have l0 := (h.1.box (r0, strO ⟨#[]⟩) (by simp)).2
  have l1 := (h.1.box (r1, errO 0) (by simp)).2
  simp only at l0 l1
  refine ⟨body_tell hX ⟨by omega, hb.1, fun e => by have := h.1.set _ e; omega⟩ ⟨by omega, hb.2, fun e => by have := h.1.set _ e; omega⟩ _ _, rfl, pl, found_at h.2 hx hg, ?_⟩
  exact (h.1.call hX).tell hne hw ⟨by omega, by omega⟩ pl code
/-- The results' cells. -/
theorem GoesI.cells (h : GoesI g xs u w base ((r0, strO ⟨#[]⟩) :: (r1, errO 0) :: C) S i A) (hX : Below A.heap.size A X) : X.cell? ⟨r0, 0, none⟩ = some (.string ⟨#[]⟩) ∧ X.cell? ⟨r1, 0, none⟩ = some (.int .i64 ((0 : Nat) : Int)) ∧ X.frozen? ⟨r0, 0, none⟩ = false ∧ X.frozen? ⟨r1, 0, none⟩ = false := by
  have h0 := (h.1.call hX).at (b := r0) (o := strO ⟨#[]⟩) (by simp)
  have h1 := (h.1.call hX).at (b := r1) (o := errO 0) (by simp)
  exact ⟨cells1' h0, cells1' h1, frozen2 h0 0, frozen2 h1 0⟩
end
end Go.Proofs.YtnkdhmoocomjfaaGreatDoor
