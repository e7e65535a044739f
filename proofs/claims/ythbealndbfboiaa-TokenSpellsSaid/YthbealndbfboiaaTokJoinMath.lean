/-
  Plain facts on texts behind one another: their tokens. No program. Conditions: those in the theorems.
-/
import Derived.Test.YthbealndbfboiaaTokBackMath
set_option linter.unusedSimpArgs false
set_option linter.unusedVariables false
namespace Tk
theorem skipM_append {r : List UInt8} : ∀ (m : Bool) (l : List UInt8), (skipM m l < l.length → skipM m (l ++ 10 :: r) = skipM m l) ∧ (skipM m l = l.length → skipM m (l ++ 10 :: r) = l.length + 1 + skip r)
  | true, [] => ⟨fun h => absurd h (Nat.not_lt_zero _), fun _ => by
      show skipM true (10 :: r) = _
      rw [skipM_t, if_pos (by decide)]; show skip r + 1 = _; simp; omega⟩
  | false, [] => ⟨fun h => absurd h (Nat.not_lt_zero _), fun _ => by
      show skipM false (10 :: r) = _
      rw [skipM_f, if_pos (by decide)]; show skip r + 1 = _; simp; omega⟩
  | true, c :: t => by
    rw [List.cons_append, skipM_t, skipM_t]
    by_cases hc : c.toNat = 10
    · rw [if_pos hc, if_pos hc]
      have ih := skipM_append (r := r) false t
      exact ⟨fun h => by rw [ih.1 (by simpa using h)], fun h => by rw [ih.2 (by simpa using h)]; simp; omega⟩
    · rw [if_neg hc, if_neg hc]
      have ih := skipM_append (r := r) true t
      exact ⟨fun h => by rw [ih.1 (by simpa using h)], fun h => by rw [ih.2 (by simpa using h)]; simp; omega⟩
  | false, c :: t => by
    have ht : two 47 47 (c :: t ++ 10 :: r) = two 47 47 (c :: t) := two_append (by decide) (by simp)
    rw [List.cons_append] at ht
    rw [List.cons_append, skipM_f, skipM_f, ht]
    by_cases hb : blank c = true
    · rw [if_pos hb, if_pos hb]
      have ih := skipM_append (r := r) false t
      exact ⟨fun h => by rw [ih.1 (by simpa using h)], fun h => by rw [ih.2 (by simpa using h)]; simp; omega⟩
    · rw [if_neg hb, if_neg hb]
      by_cases h2 : two 47 47 (c :: t) = true
      · rw [if_pos h2, if_pos h2]
        have ih := skipM_append (r := r) true t
        exact ⟨fun h => by rw [ih.1 (by simpa using h)], fun h => by rw [ih.2 (by simpa using h)]; simp; omega⟩
      · rw [if_neg h2, if_neg h2]
        exact ⟨fun _ => rfl, fun h => by simp at h⟩
/-- What a text of which another one stands behind, on a new line, is read as. -/
def joined (p : Nat) (o : Out) (n : Nat) (r : List UInt8) : Out := match o with
  | .no a e => .no a e
  | .ok ts => Out.pre ts (all (p + n + 1) r)
theorem joined_pre (ts : List Token) (p n : Nat) (r : List UInt8) (o : Out) : joined p (Out.pre ts o) n r = Out.pre ts (joined p o n r) := by
  cases o with
  | no a e => rfl
  | ok us => show Out.pre (ts ++ us) _ = Out.pre ts (Out.pre us _); rw [pre_pre]
theorem joined_at {p q n m : Nat} (h : p + n = q + m) (o : Out) (r : List UInt8) : joined p o n r = joined q o m r := by
  unfold joined; rw [h]
theorem all_join (r : List UInt8) : ∀ (m p : Nat) (l : List UInt8), l.length ≤ m → all p (l ++ 10 :: r) = joined p (all p l) l.length r
  | m, p, l, hm => by
    obtain ⟨s1, s2⟩ := skipM_append (r := r) false l
    have hle := skip_le l
    by_cases hend : skip l = l.length
    · have he : all p l = .ok [] := by rw [all_eq, if_pos (by rw [hend, List.drop_length])]
      rw [he]
      show _ = Out.pre [] (all (p + l.length + 1) r)
      have hsk : skip (l ++ 10 :: r) = l.length + 1 + skip r := s2 hend
      have hdr : (l ++ 10 :: r).drop (l.length + 1 + skip r) = r.drop (skip r) := by
        rw [show l.length + 1 + skip r = l.length + (1 + skip r) by omega, ← List.drop_drop, List.drop_left, show 1 + skip r = skip r + 1 by omega, List.drop_succ_cons]
      rw [pre_nil, all_skip p, hsk, hdr, all_skip (p + l.length + 1) r]
      congr 1; omega
    · have hlt : skip l < l.length := by omega
      have hsk : skip (l ++ 10 :: r) = skip l := s1 hlt
      have hne : l.drop (skip l) ≠ [] := fun e => by have := congrArg List.length e; rw [List.length_drop] at this; simp at this; omega
      have hdr : (l ++ 10 :: r).drop (skip l) = l.drop (skip l) ++ 10 :: r := List.drop_append_of_le_length hle
      have hff : first (l.drop (skip l) ++ 10 :: r) = first (l.drop (skip l)) := first_append (by decide) (by decide) hne
      rw [all_eq p (l ++ 10 :: r), all_eq p l, hsk, hdr, if_neg (by simp), if_neg hne, hff]
      cases hf : first (l.drop (skip l)) with
      | no e => rfl
      | tok k n v =>
        have hn := first_len hf
        have hn2 := hn
        rw [List.length_drop] at hn2
        simp only
        rw [List.take_append_of_le_length hn.2, List.drop_append_of_le_length hn.2]
        cases m with
        | zero => omega
        | succ m =>
          rw [all_join r m (p + skip l + n) ((l.drop (skip l)).drop n) (by rw [List.length_drop, List.length_drop]; omega), joined_pre]
          congr 1
          exact joined_at (by rw [List.length_drop, List.length_drop]; omega) _ _
def shiftT (q : Nat) (t : Token) : Token := { t with pos := t.pos + (q : Nat) }
def Out.shift (q : Nat) : Out → Out
  | .no a e => .no (a + q) e
  | .ok ts => .ok (ts.map (shiftT q))
theorem shift_pre (q : Nat) (ts : List Token) (o : Out) : Out.shift q (Out.pre ts o) = Out.pre (ts.map (shiftT q)) (Out.shift q o) := by
  cases o with
  | no a e => rfl
  | ok us => show Out.ok _ = Out.ok _; rw [List.map_append]
theorem all_shift (q : Nat) : ∀ (m p : Nat) (l : List UInt8), l.length ≤ m → all (p + q) l = Out.shift q (all p l)
  | m, p, l, hm => by
    rw [all_eq (p + q) l, all_eq p l]
    by_cases he : l.drop (skip l) = []
    · rw [if_pos he, if_pos he]; rfl
    · rw [if_neg he, if_neg he]
      cases hf : first (l.drop (skip l)) with
      | no e => show Out.no _ _ = Out.no _ _; congr 1; omega
      | tok k n v =>
        have hn := first_len hf
        rw [List.length_drop] at hn
        simp only
        cases m with
        | zero => omega
        | succ m =>
          rw [shift_pre, ← all_shift q m (p + skip l + n) _ (by rw [List.length_drop, List.length_drop]; omega), show p + q + skip l + n = p + skip l + n + q by omega]
          congr 1
          show [_] = [_]
          unfold shiftT
          simp only [List.cons.injEq, Token.mk.injEq, and_true, true_and]
          omega
/-- A text put behind another one, on a new line. -/
theorem all_two (l r : List UInt8) : all 0 (l ++ 10 :: r) = match all 0 l with
    | .no a e => .no a e
    | .ok ts => Out.pre ts (Out.shift (l.length + 1) (all 0 r)) := by
  rw [all_join r l.length 0 l (Nat.le_refl _)]
  cases all 0 l with
  | no a e => rfl
  | ok ts =>
    show Out.pre ts (all (0 + l.length + 1) r) = Out.pre ts (Out.shift (l.length + 1) (all 0 r))
    rw [show 0 + l.length + 1 = 0 + (l.length + 1) by omega, all_shift (l.length + 1) r.length 0 r (Nat.le_refl _)]
end Tk
