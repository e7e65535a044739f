/-
  Plain facts on schemas of few and short parts. No program. Conditions: those in the theorems.
-/
import Derived.Test.YtiikccaaabcegaaGreatDoorCkFin
set_option linter.unusedSimpArgs false
set_option linter.unusedVariables false
namespace Ck
open Ip
def SmF (f : Fld) : Prop := f.name.size ≤ 200 ∧ f.type.length ≤ 40 ∧ ∀ x ∈ f.type, x.name.size ≤ 200
def SmR (r : Rcd) : Prop := r.name.size ≤ 200 ∧ r.fields.length ≤ 40 ∧ ∀ f ∈ r.fields, SmF f
def SmM (m : Mth) : Prop := m.name.size ≤ 200 ∧ m.arg.size ≤ 200 ∧ m.effect.size ≤ 200 ∧ m.undo.size ≤ 200
def SmV (v : Srv) : Prop := v.name.size ≤ 200 ∧ v.methods.length ≤ 40 ∧ ∀ m ∈ v.methods, SmM m
def SmP (p : Stp) : Prop := p.service.size ≤ 200 ∧ p.method.size ≤ 200
def SmG (g : Sga) : Prop := g.name.size ≤ 200 ∧ g.arg.size ≤ 200 ∧ g.steps.length ≤ 40 ∧ ∀ p ∈ g.steps, SmP p
/-- Few and short parts. -/
structure Small (s : Sch) : Prop where
  name : s.name.size ≤ 200
  nr : s.records.length ≤ 100
  ns : s.services.length ≤ 100
  ng : s.sagas.length ≤ 100
  r : ∀ r ∈ s.records, SmR r
  v : ∀ v ∈ s.services, SmV v
  g : ∀ g ∈ s.sagas, SmG g
/-! ### sorts, one beside the other -/
def eqSo (x y : So) : Bool := decide (x.kind = y.kind) && eqB x.name y.name
def sameL : List So → List So → Bool
  | [], [] => true
  | x :: l, y :: m => eqSo x y && sameL l m
  | _, _ => false
theorem sameL_len : ∀ {l m : List So}, l.length ≠ m.length → sameL l m = false
  | [], [], h => absurd rfl h
  | x :: l, [], _ => rfl
  | [], y :: m, _ => rfl
  | x :: l, y :: m, h => by
    show (eqSo x y && sameL l m) = false
    rw [sameL_len (l := l) (m := m) (fun e => h (by simp [e])), Bool.and_false]
theorem sameL_at {l m : List So} {k : Nat} (h1 : k < l.length) (h2 : k < m.length) : sameL (l.drop k) (m.drop k) = (eqSo l[k] m[k] && sameL (l.drop (k + 1)) (m.drop (k + 1))) := by
  rw [List.drop_eq_getElem_cons h1, List.drop_eq_getElem_cons h2]; rfl
theorem sameL_just (t : List So) (k : Nat) : sameL t [⟨k, ⟨#[]⟩⟩] = just t k := by
  match t with
  | [] => rfl
  | [x] => show (eqSo x ⟨k, ⟨#[]⟩⟩ && true) = _; rw [Bool.and_true]; rfl
  | x :: y :: l => show (eqSo x ⟨k, ⟨#[]⟩⟩ && false) = false; rw [Bool.and_false]
/-! ### a type's sorts -/
def headB (x : So) : Bool := (decide (x.kind = 5) || decide (x.kind = 6)) && empty x.name
def lastB (s : Sch) (x : So) : Bool := if x.kind = 7 then (find s x.name).isSome else decide (1 ≤ x.kind) && decide (x.kind ≤ 4) && empty x.name
theorem right_len {s : Sch} {t : List So} (h : t.length = 0 ∨ 12 < t.length) : right s t = false := by
  unfold right
  rcases h with h | h
  · rw [show decide (1 ≤ t.length) = false by rw [decide_eq_false_iff_not]; omega]; rfl
  · rw [show decide (t.length ≤ 12) = false by rw [decide_eq_false_iff_not]; omega]; simp
theorem right_is {s : Sch} {t : List So} (h0 : t.length ≠ 0) (h1 : t.length ≤ 12) : right s t = ((t.take (t.length - 1)).all headB && lastB s (t[t.length - 1]'(by omega))) := by
  unfold right heads lastOk
  rw [show decide (1 ≤ t.length) = true by rw [decide_eq_true_iff]; omega, show decide (t.length ≤ 12) = true by rw [decide_eq_true_iff]; omega, List.dropLast_eq_take, List.getLast?_eq_getElem?, List.getElem?_eq_getElem (by omega)]
  rfl
theorem right_n {s : Sch} {t : List So} {n : Nat} {x : So} (hn : t.length = n + 1) (h1 : n < 12) (hx : t[n]? = some x) : right s t = ((t.take n).all headB && lastB s x) := by
  rw [right_is (by omega) (by omega)]
  simp only [hn, Nat.add_sub_cancel]
  rw [show t[n] = x from (List.getElem_eq_iff _).2 hx]
theorem all_stop {α : Type} {p : α → Bool} {l : List α} {k n : Nat} {x : α} (hx : l[k]? = some x) (hn : k < n) (h : p x = false) : (l.take n).all p = false := by
  rw [List.all_eq_false]
  exact ⟨x, List.mem_iff_getElem?.2 ⟨k, by rw [List.getElem?_take, if_pos hn]; exact hx⟩, by rw [h]; decide⟩
theorem all_done {α : Type} {p : α → Bool} {l : List α} {n : Nat} (h : ∀ j x, l[j]? = some x → j < n → p x = true) : (l.take n).all p = true := by
  rw [List.all_eq_true]
  intro x hx
  obtain ⟨j, hj⟩ := List.mem_iff_getElem?.1 hx
  rw [List.getElem?_take] at hj
  split at hj
  · exact h j x hj (by assumption)
  · cases hj
end Ck
