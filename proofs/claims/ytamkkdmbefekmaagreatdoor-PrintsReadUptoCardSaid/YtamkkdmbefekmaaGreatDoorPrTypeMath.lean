/-
  Plain facts on types that could be read: what is read as a type is one; a type's text is read as that type. No program. Conditions: those in the theorems.
-/
import Derived.Test.YtamkkdmbefekmaaGreatDoorPrBackMath
import Derived.Test.YtamkkdmbefekmaaGreatDoorCkOrder
set_option linter.unusedSimpArgs false
set_option linter.unusedVariables false
namespace Pp
open Ip
open Tk (Token)
def soB (x : So) : Bool := (decide (1 ≤ x.kind) && decide (x.kind ≤ 6) && eqB x.name ⟨#[]⟩) || (decide (x.kind = 7) && Tk.name x.name)
theorem soB_iff {x : So} : soB x = true ↔ SoOk x := by
  unfold soB SoOk
  simp only [Bool.or_eq_true, Bool.and_eq_true, decide_eq_true_eq, eqB_iff]
  constructor
  · rintro (⟨⟨h1, h2⟩, h3⟩ | h)
    · exact .inl ⟨h1, h2, h3⟩
    · exact .inr h
  · rintro (⟨h1, h2, h3⟩ | h)
    · exact .inl ⟨⟨h1, h2⟩, h3⟩
    · exact .inr h
def tyB : List So → Bool
  | [] => false
  | [x] => soB x && !x.goes
  | x :: t => soB x && x.goes && tyB t
theorem tyB_iff : ∀ {t : List So}, tyB t = true ↔ TyOk t
  | [] => by simp [tyB, TyOk]
  | [x] => by
    show (soB x && !x.goes) = true ↔ SoOk x ∧ x.goes = false
    rw [Bool.and_eq_true, soB_iff]; simp
  | x :: y :: t => by
    show (soB x && x.goes && tyB (y :: t)) = true ↔ SoOk x ∧ x.goes = true ∧ TyOk (y :: t)
    rw [Bool.and_eq_true, Bool.and_eq_true, soB_iff, tyB_iff]
    exact and_assoc
theorem meant_le (s : ByteArray) : meant s ≤ 6 := by
  unfold meant
  repeat' split
  all_goals decide
theorem sort_ok {r : R} (h : (sort r).2.stuck = false) : SoOk (sort r).1 := by
  have hr := nice_sort.unstuck h
  obtain ⟨l, st⟩ := r
  simp only at hr
  subst hr
  unfold sort Ip.bind take ret at *
  cases l with
  | nil => simp at h
  | cons t l =>
    simp only [Bool.false_eq_true, if_false] at h ⊢
    by_cases hf : (decide (meant t.text ≠ 0) || Tk.name t.text) = true
    · rw [if_pos hf]
      by_cases hm : meant t.text = 0
      · rw [if_pos hm]
        refine .inr ⟨rfl, ?_⟩
        rw [hm] at hf
        simpa using hf
      · rw [if_neg hm]
        exact .inl ⟨Nat.one_le_iff_ne_zero.2 hm, meant_le _, rfl⟩
    · rw [if_neg hf] at h; cases h
theorem sorts_ok : ∀ (n : Nat) (r : R), r.left.length ≤ n → (sorts r).2.stuck = false → TyOk (sorts r).1
  | n, r, hn, h => by
    rw [sorts_eq] at h ⊢
    cases hg : (sort r).1.goes with
    | false =>
      simp only [hg, Bool.false_eq_true, if_false] at h ⊢
      exact ⟨sort_ok h, hg⟩
    | true =>
      simp only [hg, if_true] at h ⊢
      have h1 := nice_sorts.unstuck h
      have hr := nice_sort.unstuck h1
      have hlt : (sort r).2.left.length < r.left.length := by
        rcases takes_sort r hr with k | k
        · rw [h1] at k; cases k
        · exact k
      cases n with
      | zero => omega
      | succ n =>
        have ih := sorts_ok n (sort r).2 (by omega) h
        have hne : ∃ y t, (sorts (sort r).2).1 = y :: t := by
          rw [sorts_eq]
          split
          · exact ⟨_, _, rfl⟩
          · exact ⟨_, _, rfl⟩
        obtain ⟨y, t, e⟩ := hne
        rw [e] at ih ⊢
        exact ⟨sort_ok h1, hg, ih⟩
theorem type_reads {l : List UInt8} (h : (type l).2.2 = 0) : TyOk (type l).1 := by
  unfold type at h ⊢
  cases hl : Tk.all 0 l with
  | no a e =>
    rw [whole_no _ _ hl] at h
    exact absurd h (Tk.all_err hl)
  | ok ts =>
    rw [whole_ok _ _ hl] at h ⊢
    cases hf : (sorts ⟨ts, false⟩).2.left with
    | cons t r => rw [hf] at h; cases h
    | nil =>
      rw [hf] at h
      simp only at h ⊢
      cases hs : (sorts ⟨ts, false⟩).2.stuck with
      | true => rw [hs] at h; cases h
      | false =>
        simp only [Bool.false_eq_true, if_false]
        exact sorts_ok _ _ (Nat.le_refl _) hs
theorem sameL_iff : ∀ {l m : List So}, Ck.sameL l m = true ↔ l = m
  | [], [] => by simp [Ck.sameL]
  | x :: l, [] => by simp [Ck.sameL]
  | [], y :: m => by simp [Ck.sameL]
  | x :: l, y :: m => by
    show (Ck.eqSo x y && Ck.sameL l m) = true ↔ _
    rw [Bool.and_eq_true, sameL_iff]
    unfold Ck.eqSo
    rw [Bool.and_eq_true, decide_eq_true_eq, eqB_iff]
    obtain ⟨a, b⟩ := x
    obtain ⟨c, d⟩ := y
    simp
theorem so_in {x : So} (h : SoOk x) : x.kind < 256 ∧ x.name.size ≤ 32 := by
  rcases h with ⟨h1, h2, h3⟩ | ⟨h1, h2⟩
  · rw [h3]; exact ⟨by omega, by decide⟩
  · unfold Tk.name at h2
    simp only [Bool.and_eq_true, decide_eq_true_eq] at h2
    exact ⟨by omega, by omega⟩
/-- A type's part of the text, of a type that could be read. -/
def typeOf (t : List So) : ByteArray := if 12 < t.length then ⟨#[]⟩ else if tyB t then Tk.bs (sortsL t) else ⟨#[]⟩
theorem typeOf_yes {t : List So} (h : ¬ 12 < t.length) (k0 : (type (sortsL t)).2.2 = 0) (k1 : Ck.sameL (type (sortsL t)).1 t = true) : typeOf t = Tk.bs (sortsL t) := by
  have h1 := type_reads k0
  rw [sameL_iff.1 k1] at h1
  unfold typeOf
  rw [if_neg h, if_pos (tyB_iff.2 h1)]
theorem typeOf_no {t : List So} (h : ¬ 12 < t.length) (k : (type (sortsL t)).2.2 ≠ 0 ∨ Ck.sameL (type (sortsL t)).1 t = false) : typeOf t = ⟨#[]⟩ := by
  unfold typeOf
  rw [if_neg h, if_neg]
  intro hb
  have := type_ok (tyB_iff.1 hb)
  rw [this] at k
  rcases k with k | k
  · exact k rfl
  · rw [sameL_iff.2 rfl] at k; cases k
theorem sortsL_cost {t : List So} (h : ∀ x ∈ t, x.name.size ≤ 200) : cost (t.flatMap soT) ≤ t.length * 201 := cost_flat soT fun x hx => by
  show cost [soW x] ≤ 201
  rw [cost_cons, cost_nil]
  have : (soW x).size ≤ 200 := by
    unfold soW
    split
    · exact h x hx
    · unfold kw
      repeat' split
      all_goals decide
  omega
end Pp
