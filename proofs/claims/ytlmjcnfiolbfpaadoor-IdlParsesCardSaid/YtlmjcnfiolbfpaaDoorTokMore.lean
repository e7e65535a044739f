/-
  Plain facts on all tokens of a text. No program. Conditions: those in the theorems.
-/
import Derived.Test.YtlmjcnfiolbfpaaDoorTokMath
set_option linter.unusedSimpArgs false
set_option linter.unusedVariables false
namespace Tk
theorem number_le (l : List UInt8) : number l ≤ l.length := run_le _ _
theorem number_pos {l : List UInt8} : 0 < number l → l ≠ [] := fun h e => by rw [e] at h; simp [number, run] at h
/-- What a token takes. -/
theorem first_len {l : List UInt8} {k n v : Nat} (h : first l = .tok k n v) : 1 ≤ n ∧ n ≤ l.length := by
  unfold first at h
  split at h
  · split at h
    · cases h
    · cases h; exact ⟨by assumption, word_le l⟩
  · split at h
    · have hl : (l.take (number l)).length = number l := by rw [List.length_take, Nat.min_eq_left (number_le l)]
      unfold numbered at h
      rw [hl] at h
      split at h
      · cases h
      · split at h
        · cases h
        · cases h; exact ⟨by assumption, run_le _ _⟩
    · split at h
      · cases h; exact ⟨by assumption, sign_le l⟩
      · cases h
theorem skip_zero_cases (l : List UInt8) : skip (l.drop (skip l)) = 0 := skip_skip l
theorem allF_more : ∀ (f g a : Nat) (l : List UInt8), l.length < f → l.length < g → allF f a l = allF g a l
  | 0, _, _, _, h, _ => absurd h (Nat.not_lt_zero _)
  | _, 0, _, _, _, h => absurd h (Nat.not_lt_zero _)
  | f + 1, g + 1, a, l, hf, hg => by
    unfold allF
    by_cases he : l.drop (skip l) = []
    · rw [if_pos he, if_pos he]
    · rw [if_neg he, if_neg he]
      cases hx : first (l.drop (skip l)) with
      | no e => rfl
      | tok k n v =>
        have hn := first_len hx
        show Out.pre _ (allF f _ _) = Out.pre _ (allF g _ _)
        rw [allF_more f g]
        · rw [List.length_drop, List.length_drop] at *; omega
        · rw [List.length_drop, List.length_drop] at *; omega
theorem all_eq (a : Nat) (l : List UInt8) : all a l = (if l.drop (skip l) = [] then .ok [] else
    match first (l.drop (skip l)) with
    | .no e => .no (a + skip l) e
    | .tok k n v => Out.pre [⟨k, bs ((l.drop (skip l)).take n), v, (a + skip l : Nat)⟩] (all (a + skip l + n) ((l.drop (skip l)).drop n))) := by
  show allF (l.length + 1) a l = _
  conv => lhs; unfold allF
  by_cases he : l.drop (skip l) = []
  · rw [if_pos he, if_pos he]
  · rw [if_neg he, if_neg he]
    cases hx : first (l.drop (skip l)) with
    | no e => rfl
    | tok k n v =>
      have hn := first_len hx
      show Out.pre _ (allF l.length _ _) = Out.pre _ (allF _ _ _)
      rw [allF_more l.length]
      · rw [List.length_drop, List.length_drop] at *; omega
      · omega
theorem all_skip (a : Nat) (l : List UInt8) : all a l = all (a + skip l) (l.drop (skip l)) := by
  rw [all_eq a l, all_eq (a + skip l) (l.drop (skip l)), skip_skip, List.drop_zero, Nat.add_zero]
theorem all_nil (a : Nat) : all a [] = .ok [] := rfl
theorem all_no {a e : Nat} {l : List UInt8} (hs : skip l = 0) (hne : l ≠ []) (h : first l = .no e) : all a l = .no a e := by
  rw [all_eq, hs, List.drop_zero, if_neg hne, h]; rfl
theorem all_tok {a k n v : Nat} {l : List UInt8} (hs : skip l = 0) (hne : l ≠ []) (h : first l = .tok k n v) : all a l = Out.pre [⟨k, bs (l.take n), v, (a : Nat)⟩] (all (a + n) (l.drop n)) := by
  rw [all_eq, hs, List.drop_zero, if_neg hne, h, Nat.add_zero]
/-- The answer's parts. -/
def Out.toks : Out → List Token
  | .no .. => []
  | .ok ts => ts
def Out.at_ : Out → Nat
  | .no a _ => a
  | .ok _ => 0
def Out.err : Out → Nat
  | .no _ e => e
  | .ok _ => 0
theorem first_err {l : List UInt8} {e : Nat} (h : first l = .no e) : e = 3 ∨ e = 110 := by
  unfold first at h
  split at h
  · split at h
    · cases h; exact .inl rfl
    · cases h
  · split at h
    · unfold numbered at h
      split at h
      · cases h; exact .inl rfl
      · split at h
        · cases h; exact .inr rfl
        · cases h
    · split at h
      · cases h
      · cases h; exact .inr rfl
end Tk
