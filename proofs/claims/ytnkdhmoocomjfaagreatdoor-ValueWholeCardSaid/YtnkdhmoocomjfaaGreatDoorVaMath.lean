/-
  Plain facts on values of a schema's types: which parts a part has by its type, what is eaten of a row of parts by a row of types, how deep it goes; where a whole ends; what fits. No program. Conditions: those in the theorems.
  Plain facts: the types of a part's parts are right; how wrapping a type and a value turns what fits. No program. Conditions: those in the theorems.
-/
import Derived.Test.YtnkdhmoocomjfaaGreatDoorCkMath
set_option linter.unusedSimpArgs false
set_option linter.unusedVariables false
namespace Vl
open Ip
structure Nd where
  kind : Nat
  int : Int
  text : ByteArray
  kids : Int
/-- A part without parts, of a plain type; a list or an opt. -/
def plain (k : Nat) (n : Nd) : Bool := decide (n.kind = k) && decide (n.kids = 0) && (decide (n.int = 0) || decide (k = 3) || (decide (k = 2) && decide (n.int = 1))) && (Ck.empty n.text || decide (k = 4))
def wraps (k : Nat) (n : Nd) : Bool := decide (n.kind = k) && decide (n.int = 0) && decide (0 ≤ n.kids) && (decide (k ≠ 6) || decide (n.kids ≤ 1))
def wholeOf (q : Rcd) (n : Nd) : Option (List (List So)) :=
  if q.choice then (if n.kind = 8 ∧ n.kids = 1 ∧ 0 ≤ n.int then (q.fields[n.int.toNat]?).map (fun f => [f.type]) else none)
  else (if n.kind = 7 ∧ n.int = 0 ∧ n.kids = (q.fields.length : Int) then some (q.fields.map (·.type)) else none)
/-- The types of a part's parts, if it may be of a type. -/
def kidsOf (s : Sch) : List So → Nd → Option (List (List So))
  | [], _ => none
  | x :: r, n =>
    if x.kind ≤ 4 then (if plain x.kind n then some [] else none)
    else if Ck.empty n.text = false then none
    else if x.kind = 5 ∨ x.kind = 6 then (if wraps x.kind n then some (List.replicate n.kids.toNat r) else none)
    else (Ck.find s x.name).bind fun q => wholeOf q n
/-- What is left of a row of parts behind values of some types, each at its depth; and the depth of the deepest part. -/
def eatD (s : Sch) : List (List So × Nat) → List Nd → Option (List Nd × Nat)
  | [], v => some (v, 0)
  | _ :: _, [] => none
  | p :: st, n :: v => match kidsOf s p.1 n with
    | none => none
    | some ks => (eatD s (ks.map (fun t => (t, p.2 + 1)) ++ st) v).map fun q => (q.1, max p.2 q.2)
section
variable {s : Sch}
theorem eatD_nil (v : List Nd) : eatD s [] v = some (v, 0) := by cases v <;> rfl
theorem eatD_no (p : List So × Nat) (st : List (List So × Nat)) : eatD s (p :: st) [] = none := rfl
theorem eatD_cons (p : List So × Nat) (st : List (List So × Nat)) (n : Nd) (v : List Nd) : eatD s (p :: st) (n :: v) = match kidsOf s p.1 n with
    | none => none
    | some ks => (eatD s (ks.map (fun t => (t, p.2 + 1)) ++ st) v).map fun q => (q.1, max p.2 q.2) := rfl
theorem eatD_append : ∀ (v : List Nd) (a b : List (List So × Nat)), eatD s (a ++ b) v = (eatD s a v).bind fun p => (eatD s b p.1).map fun q => (q.1, max p.2 q.2)
  | v, [], b => by
    rw [List.nil_append, eatD_nil]
    show eatD s b v = (eatD s b v).map fun q => (q.1, max 0 q.2)
    cases eatD s b v with
    | none => rfl
    | some q => simp
  | [], p :: a, b => rfl
  | n :: v, p :: a, b => by
    rw [List.cons_append, eatD_cons, eatD_cons]
    cases kidsOf s p.1 n with
    | none => rfl
    | some ks =>
      show (eatD s (ks.map (fun t => (t, p.2 + 1)) ++ (a ++ b)) v).map _ = ((eatD s (ks.map (fun t => (t, p.2 + 1)) ++ a) v).map _).bind _
      rw [← List.append_assoc, eatD_append v]
      cases eatD s (ks.map (fun t => (t, p.2 + 1)) ++ a) v with
      | none => rfl
      | some q =>
        simp only [Option.bind_some, Option.map_some]
        cases eatD s b q.1 with
        | none => rfl
        | some y => simp [Nat.max_assoc]
def up (k : Nat) (a : List (List So × Nat)) : List (List So × Nat) := a.map fun p => (p.1, p.2 + k)
theorem eatD_up (k : Nat) : ∀ (v : List Nd) (a : List (List So × Nat)), eatD s (up k a) v = (eatD s a v).map fun q => (q.1, if a.isEmpty then 0 else q.2 + k)
  | v, [] => by rw [eatD_nil]; show eatD s [] v = _; rw [eatD_nil]; rfl
  | [], p :: a => rfl
  | n :: v, p :: a => by
    show eatD s ((p.1, p.2 + k) :: up k a) (n :: v) = _
    rw [eatD_cons, eatD_cons]
    cases kidsOf s p.1 n with
    | none => rfl
    | some ks =>
      show (eatD s (ks.map (fun t => (t, p.2 + k + 1)) ++ up k a) v).map _ = ((eatD s (ks.map (fun t => (t, p.2 + 1)) ++ a) v).map _).map _
      rw [show ks.map (fun t => (t, p.2 + k + 1)) ++ up k a = up k (ks.map (fun t => (t, p.2 + 1)) ++ a) by
        unfold up; rw [List.map_append, List.map_map]; congr 1; apply List.map_congr_left; intro t _; show (t, p.2 + k + 1) = (t, p.2 + 1 + k); rw [Nat.add_right_comm], eatD_up k v]
      cases he : eatD s (ks.map (fun t => (t, p.2 + 1)) ++ a) v with
      | none => rfl
      | some q =>
        simp only [Option.map_some, Option.some.injEq, Prod.mk.injEq, true_and, List.isEmpty_cons, Bool.false_eq_true, if_false]
        cases hl : ks.map (fun t => (t, p.2 + 1)) ++ a with
        | nil =>
          rw [hl, eatD_nil] at he
          cases he
          simp
        | cons y l => simp
def ones (ks : List (List So)) : List (List So × Nat) := ks.map fun t => (t, 1)
def of (s : Sch) (t : List So) (v : List Nd) : Option (List Nd × Nat) := eatD s [(t, 1)] v
theorem eatD_zero {v r : List Nd} {d : Nat} (h : eatD s [] v = some (r, d)) : d = 0 := by rw [eatD_nil] at h; cases h; rfl
theorem of_none {t : List So} {n : Nd} {v : List Nd} (h : kidsOf s t n = none) : of s t (n :: v) = none := by unfold of; rw [eatD_cons, h]
theorem of_end (t : List So) : of s t [] = none := rfl
theorem of_cons {t : List So} {n : Nd} {v : List Nd} {ks : List (List So)} (h : kidsOf s t n = some ks) : of s t (n :: v) = (eatD s (ones ks) v).map fun q => (q.1, q.2 + 1) := by
  unfold of
  rw [eatD_cons, h]
  show (eatD s (ks.map (fun t => (t, 1 + 1)) ++ []) v).map _ = _
  rw [List.append_nil, show ks.map (fun t => (t, 1 + 1)) = up 1 (ones ks) by unfold up ones; rw [List.map_map]; rfl, eatD_up]
  cases he : eatD s (ones ks) v with
  | none => rfl
  | some q =>
    simp only [Option.map_some, Option.some.injEq, Prod.mk.injEq, true_and]
    cases ks with
    | nil =>
      have h0 : q.2 = 0 := eatD_zero (r := q.1) (d := q.2) he
      show max 1 0 = q.2 + 1
      omega
    | cons y l =>
      show max 1 (q.2 + 1) = q.2 + 1
      omega
theorem ones_snoc (ks : List (List So)) (t : List So) (v : List Nd) : eatD s (ones (ks ++ [t])) v = (eatD s (ones ks) v).bind fun p => (of s t p.1).map fun q => (q.1, max p.2 q.2) := by
  unfold ones
  rw [List.map_append, eatD_append]
  rfl
theorem eatD_more : ∀ (v : List Nd) (a : List (List So × Nat)) {r : List Nd} {d : Nat} (x : List Nd), eatD s a v = some (r, d) → eatD s a (v ++ x) = some (r ++ x, d)
  | v, [], r, d, x, h => by
    rw [eatD_nil] at h ⊢
    cases h
    rfl
  | [], p :: a, r, d, x, h => by cases h
  | n :: v, p :: a, r, d, x, h => by
    rw [List.cons_append, eatD_cons]
    rw [eatD_cons] at h
    cases hk : kidsOf s p.1 n with
    | none => rw [hk] at h; cases h
    | some ks =>
      rw [hk] at h
      simp only at h ⊢
      cases he : eatD s (ks.map (fun t => (t, p.2 + 1)) ++ a) v with
      | none => rw [he] at h; cases h
      | some q =>
        rw [he] at h
        obtain ⟨q1, q2⟩ := q
        rw [eatD_more v _ x he]
        simp only [Option.map_some, Option.some.injEq, Prod.mk.injEq] at h ⊢
        exact ⟨by rw [← h.1], h.2⟩
end
/-! ### where a whole ends -/
def skip : Nat → List Nd → Option (List Nd)
  | 0, v => some v
  | _ + 1, [] => none
  | k + 1, n :: v => if n.kids < 0 then none else skip (k + n.kids.toNat) v
theorem skip_zero (v : List Nd) : skip 0 v = some v := by cases v <;> rfl
theorem skip_no (k : Nat) : skip (k + 1) [] = none := rfl
theorem skip_cons (k : Nat) (n : Nd) (v : List Nd) : skip (k + 1) (n :: v) = if n.kids < 0 then none else skip (k + n.kids.toNat) v := rfl
theorem skip_add : ∀ (v : List Nd) (a b : Nat), skip (a + b) v = (skip a v).bind (skip b)
  | v, 0, b => by rw [Nat.zero_add, skip_zero]; rfl
  | [], a + 1, b => by rw [Nat.add_right_comm]; rfl
  | n :: v, a + 1, b => by
    rw [Nat.add_right_comm, skip_cons, skip_cons]
    split
    · rfl
    · rw [Nat.add_right_comm, skip_add v]
theorem skip_part : ∀ (v : List Nd) (a : Nat) {r : List Nd}, skip a v = some r → ∃ x, v = x ++ r ∧ a ≤ x.length
  | v, 0, r, h => by rw [skip_zero] at h; cases h; exact ⟨[], rfl, Nat.le_refl _⟩
  | [], a + 1, r, h => by cases h
  | n :: v, a + 1, r, h => by
    rw [skip_cons] at h
    split at h
    · cases h
    · obtain ⟨x, rfl, hx⟩ := skip_part v _ h
      exact ⟨n :: x, rfl, by rw [List.length_cons]; omega⟩
theorem skip_len {v r : List Nd} {a : Nat} (h : skip a v = some r) : a + r.length ≤ v.length := by
  obtain ⟨x, rfl, hx⟩ := skip_part v a h
  rw [List.length_append]; omega
/-- What is left is what stands from some place on. -/
theorem skip_at {v r : List Nd} {a : Nat} (h : skip a v = some r) : r = v.drop (v.length - r.length) := by
  obtain ⟨x, rfl, hx⟩ := skip_part v a h
  rw [List.length_append, Nat.add_sub_cancel, List.drop_left]
theorem skip_few {v : List Nd} {a : Nat} (h : v.length < a) : skip a v = none := by
  cases hs : skip a v with
  | none => rfl
  | some r => have := skip_len hs; omega
/-- The place behind the whole at a place, -1 if there is none. -/
def endAt (v : List Nd) (i : Nat) : Int := match skip 1 (v.drop i) with
  | some r => ((v.length - r.length : Nat) : Int)
  | none => -1
def endOf (v : List Nd) (at_ : Int) : Int := if at_ < 0 then -1 else endAt v at_.toNat
theorem endAt_out {v : List Nd} {i : Nat} (h : v.length ≤ i) : endAt v i = -1 := by unfold endAt; rw [List.drop_of_length_le h]; rfl
theorem endOf_neg {v : List Nd} {i : Int} (h : i < 0) : endOf v i = -1 := by unfold endOf; rw [if_pos h]
theorem endOf_nat (v : List Nd) (i : Nat) : endOf v (i : Int) = endAt v i := by unfold endOf; rw [if_neg (by omega)]; rfl
theorem kidsOf_cons (s : Sch) (x : So) (r : List So) (n : Nd) : kidsOf s (x :: r) n = if x.kind ≤ 4 then (if plain x.kind n then some [] else none)
    else if Ck.empty n.text = false then none
    else if x.kind = 5 ∨ x.kind = 6 then (if wraps x.kind n then some (List.replicate n.kids.toNat r) else none)
    else (Ck.find s x.name).bind fun q => wholeOf q n := rfl
theorem whole_len {q : Rcd} {n : Nd} {ks : List (List So)} (h : wholeOf q n = some ks) : n.kids = (ks.length : Int) := by
  unfold wholeOf at h
  by_cases hc : q.choice = true
  · rw [if_pos hc] at h
    by_cases hp : n.kind = 8 ∧ n.kids = 1 ∧ 0 ≤ n.int
    · rw [if_pos hp] at h
      cases hg : q.fields[n.int.toNat]? with
      | none => rw [hg] at h; cases h
      | some f => rw [hg] at h; cases h; exact hp.2.1
    · rw [if_neg hp] at h; cases h
  · rw [if_neg hc] at h
    by_cases hp : n.kind = 7 ∧ n.int = 0 ∧ n.kids = (q.fields.length : Int)
    · rw [if_pos hp] at h
      cases h
      rw [List.length_map]; exact hp.2.2
    · rw [if_neg hp] at h; cases h
theorem kids_len {s : Sch} {t : List So} {n : Nd} {ks : List (List So)} (h : kidsOf s t n = some ks) : n.kids = (ks.length : Int) := by
  cases t with
  | nil => cases h
  | cons x r =>
    rw [kidsOf_cons] at h
    by_cases h4 : x.kind ≤ 4
    · rw [if_pos h4] at h
      by_cases hp : plain x.kind n = true
      · rw [if_pos hp] at h
        cases h
        unfold plain at hp
        simp only [Bool.and_eq_true, decide_eq_true_eq] at hp
        exact hp.1.1.2
      · rw [if_neg hp] at h; cases h
    · rw [if_neg h4] at h
      by_cases he : Ck.empty n.text = false
      · rw [if_pos he] at h; cases h
      · rw [if_neg he] at h
        by_cases h5 : x.kind = 5 ∨ x.kind = 6
        · rw [if_pos h5] at h
          by_cases hp : wraps x.kind n = true
          · rw [if_pos hp] at h
            cases h
            unfold wraps at hp
            simp only [Bool.and_eq_true, decide_eq_true_eq] at hp
            rw [List.length_replicate]
            have := hp.1.2
            omega
          · rw [if_neg hp] at h; cases h
        · rw [if_neg h5] at h
          cases hf : Ck.find s x.name with
          | none => rw [hf] at h; cases h
          | some q => rw [hf] at h; exact whole_len h
theorem eat_skip {s : Sch} : ∀ (v : List Nd) (a : List (List So × Nat)) {r : List Nd} {d : Nat}, eatD s a v = some (r, d) → skip a.length v = some r
  | v, [], r, d, h => by rw [eatD_nil] at h; cases h; exact skip_zero v
  | [], p :: a, r, d, h => by cases h
  | n :: v, p :: a, r, d, h => by
    rw [eatD_cons] at h
    cases hk : kidsOf s p.1 n with
    | none => rw [hk] at h; cases h
    | some ks =>
      rw [hk] at h
      simp only at h
      have hl := kids_len hk
      cases he : eatD s (ks.map (fun t => (t, p.2 + 1)) ++ a) v with
      | none => rw [he] at h; cases h
      | some q =>
        rw [he] at h
        obtain ⟨q1, q2⟩ := q
        simp only [Option.map_some, Option.some.injEq, Prod.mk.injEq] at h
        have := eat_skip v _ he
        rw [List.length_append, List.length_map] at this
        rw [List.length_cons, skip_cons, if_neg (by omega), show a.length + n.kids.toNat = ks.length + a.length by omega, this, h.1]
theorem eat_part {s : Sch} {v r : List Nd} {a : List (List So × Nat)} {d : Nat} (h : eatD s a v = some (r, d)) : ∃ x, v = x ++ r ∧ a.length ≤ x.length := skip_part v _ (eat_skip v a h)
theorem eat_len {s : Sch} {v r : List Nd} {a : List (List So × Nat)} {d : Nat} (h : eatD s a v = some (r, d)) : a.length + r.length ≤ v.length := skip_len (eat_skip v a h)
theorem eat_at {s : Sch} {v r : List Nd} {a : List (List So × Nat)} {d : Nat} (h : eatD s a v = some (r, d)) : r = v.drop (v.length - r.length) := skip_at (eat_skip v a h)
/-! ### what fits -/
def size (v : List Nd) : Nat := (v.map fun n => 1 + n.text.size).sum
def fit (s : Sch) (t : List So) (v : List Nd) : Nat := match of s t v with
  | some ([], d) => if 12 < d then 151 else if 4096 < size v then 3 else 0
  | _ => 150
def types (s : Sch) (t : List So) : Nat := if (Ck.check s).2 = 0 then (if Ck.right s t then 0 else 131) else (Ck.check s).2
def fits (s : Sch) (t : List So) (v : List Nd) : Nat := if types s t = 0 then fit s t v else types s t
end Vl
set_option linter.unusedSimpArgs false
set_option linter.unusedVariables false
namespace Vl
open Ip
theorem right_cons2 {s : Sch} {x y : So} {l : List So} (h : Ck.right s (x :: y :: l) = true) : (x.kind = 5 ∨ x.kind = 6) ∧ Ck.empty x.name = true ∧ Ck.right s (y :: l) = true := by
  unfold Ck.right Ck.heads at h ⊢
  simp only [Bool.and_eq_true, decide_eq_true_eq, List.dropLast_cons_cons, List.all_cons, Bool.or_eq_true, List.length_cons] at h ⊢
  obtain ⟨⟨⟨h1, h2⟩, ⟨h3, h4⟩, h5⟩, h6⟩ := h
  refine ⟨h3, h4, ⟨⟨by omega, by omega⟩, h5⟩, ?_⟩
  unfold Ck.lastOk at h6 ⊢
  rw [List.getLast?_cons_cons] at h6
  exact h6
theorem right_one {s : Sch} {x : So} (h : Ck.right s [x] = true) : (x.kind = 7 ∧ ∃ r, Ck.find s x.name = some r) ∨ (1 ≤ x.kind ∧ x.kind ≤ 4) := by
  unfold Ck.right Ck.lastOk at h
  simp only [Bool.and_eq_true, List.getLast?_singleton] at h
  have h2 := h.2
  by_cases h7 : x.kind = 7
  · rw [if_pos h7] at h2
    exact .inl ⟨h7, Option.isSome_iff_exists.1 h2⟩
  · rw [if_neg h7] at h2
    simp only [Bool.and_eq_true, decide_eq_true_eq] at h2
    exact .inr h2.1
theorem right_nil {s : Sch} : Ck.right s [] = false := rfl
theorem right_head {s : Sch} {x : So} {l : List So} (h : Ck.right s (x :: l) = true) : 1 ≤ x.kind ∧ x.kind ≤ 7 ∧ (x.kind = 7 → ∃ r, Ck.find s x.name = some r) ∧ (x.kind = 5 ∨ x.kind = 6 → l ≠ [] ∧ Ck.right s l = true) := by
  cases l with
  | nil =>
    rcases right_one h with ⟨h7, hr⟩ | ⟨h1, h2⟩
    · exact ⟨by omega, by omega, fun _ => hr, fun h => by omega⟩
    · exact ⟨h1, by omega, fun h => by omega, fun h => by omega⟩
  | cons y l =>
    obtain ⟨h1, -, h3⟩ := right_cons2 h
    exact ⟨by omega, by omega, fun h => by omega, fun _ => ⟨by simp, h3⟩⟩
/-- All fields' types are right. -/
def TyOk (s : Sch) : Prop := ∀ r ∈ s.records, ∀ f ∈ r.fields, Ck.right s f.type = true
theorem ok_types {s : Sch} (h : Ck.Ok s) : TyOk s := fun r hr f hf => by
  have h1 := h (131, Ck.types) (by simp [Ck.rules])
  simp only [Ck.types, Option.or_eq_none_iff] at h1
  have h2 := Ck.none_mem (Ck.none_mem h1.1 hr) hf
  cases hb : Ck.right s f.type with
  | true => rfl
  | false => rw [hb] at h2; simp at h2
theorem kids_right {s : Sch} (ho : TyOk s) {t : List So} {n : Nd} {ks : List (List So)} (h : Ck.right s t = true) (hk : kidsOf s t n = some ks) : ∀ k ∈ ks, Ck.right s k = true := by
  cases t with
  | nil => cases hk
  | cons x l =>
    obtain ⟨h1, h2, h3, h4⟩ := right_head h
    rw [kidsOf_cons] at hk
    by_cases k4 : x.kind ≤ 4
    · rw [if_pos k4] at hk
      by_cases hp : plain x.kind n = true
      · rw [if_pos hp] at hk; cases hk; exact fun k hk => nomatch hk
      · rw [if_neg hp] at hk; cases hk
    · rw [if_neg k4] at hk
      by_cases he : Ck.empty n.text = false
      · rw [if_pos he] at hk; cases hk
      · rw [if_neg he] at hk
        by_cases h5 : x.kind = 5 ∨ x.kind = 6
        · rw [if_pos h5] at hk
          by_cases hp : wraps x.kind n = true
          · rw [if_pos hp] at hk
            cases hk
            intro k hk
            rw [(List.mem_replicate.1 hk).2]
            exact (h4 h5).2
          · rw [if_neg hp] at hk; cases hk
        · rw [if_neg h5] at hk
          cases hf : Ck.find s x.name with
          | none => rw [hf] at hk; cases hk
          | some q =>
            rw [hf] at hk
            have hq := (Ck.find_name hf).1
            have hw : wholeOf q n = some ks := hk
            unfold wholeOf at hw
            by_cases hc : q.choice = true
            · rw [if_pos hc] at hw
              by_cases hp : n.kind = 8 ∧ n.kids = 1 ∧ 0 ≤ n.int
              · rw [if_pos hp] at hw
                cases hg : q.fields[n.int.toNat]? with
                | none => rw [hg] at hw; cases hw
                | some f =>
                  rw [hg] at hw; cases hw
                  intro k hk
                  rw [List.mem_singleton.1 hk]
                  exact ho q hq f (List.mem_of_getElem? hg)
              · rw [if_neg hp] at hw; cases hw
            · rw [if_neg hc] at hw
              by_cases hp : n.kind = 7 ∧ n.int = 0 ∧ n.kids = (q.fields.length : Int)
              · rw [if_pos hp] at hw; cases hw
                intro k hk
                obtain ⟨f, hf, rfl⟩ := List.mem_map.1 hk
                exact ho q hq f hf
              · rw [if_neg hp] at hw; cases hw
end Vl
