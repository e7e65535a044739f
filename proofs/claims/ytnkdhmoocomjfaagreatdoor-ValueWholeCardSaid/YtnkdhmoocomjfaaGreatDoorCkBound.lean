/-
  Plain facts: the places that rules tell are short; the rules by their number. No program. Conditions: those in the theorems.
-/
import Derived.Test.YtnkdhmoocomjfaaGreatDoorCkMath
set_option linter.unusedSimpArgs false
set_option linter.unusedVariables false
namespace Ck
open Ip
/-- A place of few letters. -/
def Bd (o : Option ByteArray) : Prop := ∀ p, o = some p → p.size ≤ 1000
theorem Bd.none : Bd none := fun p h => by cases h
theorem Bd.some {p : ByteArray} (h : p.size ≤ 1000) : Bd (some p) := fun q e => by cases e; exact h
theorem Bd.or {a b : Option ByteArray} (ha : Bd a) (hb : Bd b) : Bd (a.or b) := fun p h => by
  cases a with
  | none => exact hb p (by simpa using h)
  | some x => exact ha p (by simpa using h)
theorem Bd.find {α : Type} {f : α → Option ByteArray} {l : List α} (h : ∀ x ∈ l, Bd (f x)) : Bd (l.findSome? f) := fun p hp => by
  obtain ⟨x, hx, e⟩ := List.exists_of_findSome?_eq_some hp
  exact h x hx p e
theorem Bd.ite {c : Prop} [Decidable c] {a b : Option ByteArray} (ha : Bd a) (hb : Bd b) : Bd (if c then a else b) := by split; exact ha; exact hb
theorem dot_size (a b : ByteArray) : (dot a b).size = a.size + 1 + b.size := by
  unfold dot
  rw [ByteArray.size_append, ByteArray.size_append]
  rfl
theorem Bd.dot {a b : ByteArray} (ha : a.size ≤ 200) (hb : b.size ≤ 200) : Bd (Option.some (Ck.dot a b)) := Bd.some (by rw [dot_size]; omega)
theorem num_size {k : Nat} (hk : k < 100) : (num k).size ≤ 200 := by
  have h : ∀ k, k < 100 → (num k).size ≤ 200 := by decide
  exact h k hk
theorem nm_bd {n : ByteArray} (h : n.size ≤ 200) : Bd (nm n) := by unfold nm; exact Bd.ite Bd.none (Bd.some (by omega))
theorem nil_bd : Bd (some ⟨#[]⟩) := Bd.some (Nat.zero_le _)
theorem zip_lt {g : Sga} {x : Stp × Nat} (hx : x ∈ g.steps.zipIdx) : x.2 < g.steps.length := by
  have := List.mem_zipIdx_iff_getElem?.1 hx
  exact (List.getElem?_eq_some_iff.1 this).1
section
variable {s : Sch} (h : Small s)
include h
theorem names_bd : Bd (names s) := by
  unfold names
  refine Bd.ite (Bd.or (Bd.find fun r hr => Bd.or (nm_bd (h.r r hr).1) (Bd.find fun f hf => nm_bd ((h.r r hr).2.2 f hf).1)) (Bd.or (Bd.find fun v hv => Bd.or (nm_bd (h.v v hv).1) (Bd.find fun m hm => nm_bd ((h.v v hv).2.2 m hm).1)) (Bd.find fun g hg => nm_bd (h.g g hg).1))) nil_bd
theorem counts_bd : Bd (counts s) := by
  unfold counts
  exact Bd.ite nil_bd (Bd.or (Bd.find fun r hr => Bd.ite (Bd.some (by have := (h.r r hr).1; omega)) Bd.none) (Bd.or (Bd.find fun v hv => Bd.ite (Bd.some (by have := (h.v v hv).1; omega)) Bd.none) (Bd.find fun g hg => Bd.ite (Bd.some (by have := (h.g g hg).1; omega)) Bd.none)))
theorem types_bd : Bd (types s) := by
  unfold types
  exact Bd.or (Bd.find fun r hr => Bd.find fun f hf => Bd.ite Bd.none (Bd.dot (h.r r hr).1 ((h.r r hr).2.2 f hf).1)) (Bd.find fun v hv => Bd.find fun m hm => Bd.ite Bd.none (Bd.dot (h.v v hv).1 ((h.v v hv).2.2 m hm).1))
theorem bottoms_bd : Bd (bottoms s) := Bd.find fun r hr => Bd.ite Bd.none (Bd.some (by have := (h.r r hr).1; omega))
theorem effects_bd : Bd (effects s) := Bd.find fun v hv => Bd.find fun m hm => Bd.ite Bd.none (Bd.dot (h.v v hv).1 ((h.v v hv).2.2 m hm).1)
theorem undos_bd : Bd (undos s) := Bd.find fun v hv => Bd.find fun m hm => Bd.ite Bd.none (Bd.dot (h.v v hv).1 ((h.v v hv).2.2 m hm).1)
theorem sagas_bd : Bd (sagas s) := Bd.find fun g hg => Bd.ite Bd.none (Bd.some (by have := (h.g g hg).1; omega))
theorem steps9_bd : Bd (steps9 s) := Bd.find fun g hg => Bd.find fun x hx => Bd.ite Bd.none (Bd.dot (h.g g hg).1 (num_size (by have := zip_lt hx; have := (h.g g hg).2.2.1; omega)))
theorem steps10_bd : Bd (steps10 s) := Bd.find fun g hg => Bd.find fun x hx => Bd.ite Bd.none (Bd.dot (h.g g hg).1 (num_size (by have := zip_lt hx; have := (h.g g hg).2.2.1; omega)))
theorem decl_small {d : ByteArray × List ByteArray} (hd : d ∈ decls s) : d.1.size ≤ 200 ∧ ∀ n ∈ d.2, n.size ≤ 200 := by
  unfold decls at hd
  simp only [List.mem_append, List.mem_map] at hd
  rcases hd with ⟨r, hr, rfl⟩ | ⟨v, hv, rfl⟩ | ⟨g, hg, rfl⟩
  · exact ⟨(h.r r hr).1, fun n hn => by obtain ⟨f, hf, rfl⟩ := List.mem_map.1 hn; exact ((h.r r hr).2.2 f hf).1⟩
  · exact ⟨(h.v v hv).1, fun n hn => by obtain ⟨f, hf, rfl⟩ := List.mem_map.1 hn; exact ((h.v v hv).2.2 f hf).1⟩
  · exact ⟨(h.g g hg).1, fun n hn => by cases hn⟩
end
theorem twice_mem : ∀ (l seen : List ByteArray) (p : ByteArray), twice seen l = some p → p ∈ l
  | [], _, p, h => by cases h
  | x :: l, seen, p, h => by
    rw [twice_cons] at h
    split at h
    · cases h; simp
    · exact List.mem_cons_of_mem _ (twice_mem l _ p h)
theorem doublesF_bd : ∀ (l : List (ByteArray × List ByteArray)) (seen : List ByteArray), (∀ d ∈ l, d.1.size ≤ 200 ∧ ∀ n ∈ d.2, n.size ≤ 200) → Bd (doublesF seen l)
  | [], _, _ => Bd.none
  | d :: l, seen, h => by
    rw [doublesF_cons]
    refine Bd.ite (Bd.some (by have := (h d (by simp)).1; omega)) ?_
    cases ht : twice [] d.2 with
    | some p => exact Bd.dot (h d (by simp)).1 ((h d (by simp)).2 p (twice_mem _ _ _ ht))
    | none => exact doublesF_bd l _ fun e he => h e (List.mem_cons_of_mem _ he)
theorem doubles_bd {s : Sch} (h : Small s) : Bd (doubles s) := doublesF_bd _ _ fun d hd => decl_small h hd
/-! ### the rules by their number -/
def ruleAt (s : Sch) : Nat → Option ByteArray
  | 0 => names s
  | 1 => counts s
  | 2 => doubles s
  | 3 => types s
  | 4 => bottoms s
  | 5 => effects s
  | 6 => undos s
  | 7 => sagas s
  | 8 => steps9 s
  | 9 => steps10 s
  | _ => none
def codeAt : Nat → Nat
  | 0 => 120
  | 1 => 135
  | 2 => 130
  | 3 => 131
  | 4 => 132
  | 5 => 134
  | 6 => 133
  | 7 => 240
  | 8 => 241
  | _ => 133
theorem check_is (s : Sch) : check s = (((List.range 10).findSome? fun k => (ruleAt s k).map fun p => (p, codeAt k))).getD (⟨#[]⟩, 0) := rfl
theorem check_at {s : Sch} {k : Nat} (hk : k < 10) (h : ∀ j, j < k → ruleAt s j = none) {p : ByteArray} (hp : ruleAt s k = some p) : check s = (p, codeAt k) := by
  rw [check_is]
  have e : (List.range 10).findSome? (fun k => (ruleAt s k).map fun p => (p, codeAt k)) = some (p, codeAt k) := by
    rw [List.findSome?_eq_some_iff]
    refine ⟨List.range k, k, (List.range' (k + 1) (9 - k)), ?_, by rw [hp]; rfl, fun j hj => by rw [h j (List.mem_range.1 hj)]; rfl⟩
    have hk2 : k = 0 ∨ k = 1 ∨ k = 2 ∨ k = 3 ∨ k = 4 ∨ k = 5 ∨ k = 6 ∨ k = 7 ∨ k = 8 ∨ k = 9 := by omega
    rcases hk2 with rfl | rfl | rfl | rfl | rfl | rfl | rfl | rfl | rfl | rfl <;> rfl
  rw [e]; rfl
theorem check_all {s : Sch} (h : ∀ j, j < 10 → ruleAt s j = none) : check s = (⟨#[]⟩, 0) := by
  rw [check_is]
  have e : (List.range 10).findSome? (fun k => (ruleAt s k).map fun p => (p, codeAt k)) = none := List.findSome?_eq_none_iff.2 fun j hj => by rw [h j (List.mem_range.1 hj)]; rfl
  rw [e]; rfl
theorem few_steps {s : Sch} (h : counts s = none) : ∀ g ∈ s.sagas, g.steps.length ≤ 8 := fun g hg => by
  unfold counts at h
  split at h
  · cases h
  · simp only [Option.or_eq_none_iff] at h
    have := none_mem h.2.2 hg
    by_cases hc : g.steps.length < 1 ∨ g.steps.length > 8
    · rw [if_pos hc] at this; cases this
    · omega
end Ck
