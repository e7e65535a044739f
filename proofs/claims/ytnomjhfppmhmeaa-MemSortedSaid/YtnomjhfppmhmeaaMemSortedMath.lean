/-
  Plain facts on tables that are set in turn: the last one set stands; set backward, each key once, it is the same table. No condition.
-/
import Derived.Test.YtnomjhfppmhmeaaMemMath
namespace Mm
open Go (Value)

/-- The pairs' places, set one behind the other. -/
def fwd (ks : List ByteArray) (n : Nat) : Row := (List.range n).foldl (fun L i => put L (ks.getD i ⟨#[]⟩) (.int .i64 (i : Int))) []
theorem fwd_succ (ks : List ByteArray) (n : Nat) : fwd ks (n + 1) = put (fwd ks n) (ks.getD n ⟨#[]⟩) (.int .i64 (n : Int)) := by
  unfold fwd; rw [List.range_succ, List.foldl_append]; rfl
theorem fwd_sorted (ks : List ByteArray) (n : Nat) : Sorted (fwd ks n) := by
  induction n with
  | zero => exact List.Pairwise.nil
  | succ n ih => rw [fwd_succ]; exact ih.put _ _
/-- What a key has: the last place below n where it stands. -/
theorem fwd_get (ks : List ByteArray) (n : Nat) (k : ByteArray) : (∃ i, i < n ∧ ks.getD i ⟨#[]⟩ = k ∧ (∀ j, i < j → j < n → ks.getD j ⟨#[]⟩ ≠ k) ∧ get (fwd ks n) k = some (.int .i64 (i : Int))) ∨ ((∀ i, i < n → ks.getD i ⟨#[]⟩ ≠ k) ∧ get (fwd ks n) k = none) := by
  induction n with
  | zero => exact .inr ⟨fun i h => by omega, rfl⟩
  | succ n ih =>
    rw [fwd_succ, get_put (fwd_sorted ks n)]
    by_cases e : k = ks.getD n ⟨#[]⟩
    · rw [if_pos e]
      exact .inl ⟨n, by omega, e.symm, fun j h1 h2 => by omega, rfl⟩
    · rw [if_neg e]
      rcases ih with ⟨i, h1, h2, h3, h4⟩ | ⟨h1, h2⟩
      · refine .inl ⟨i, by omega, h2, fun j hj hj2 => ?_, h4⟩
        by_cases ej : j = n
        · rw [ej]; exact Ne.symm e
        · exact h3 j hj (by omega)
      · refine .inr ⟨fun i hi => ?_, h2⟩
        by_cases ei : i = n
        · rw [ei]; exact Ne.symm e
        · exact h1 i (by omega)
/-- Set backward from n - 1 down to m, each key once. -/
def bwd (ks : List ByteArray) (n : Nat) : Nat → Row
  | 0 => []
  | d + 1 => if (get (bwd ks n d) (ks.getD (n - 1 - d) ⟨#[]⟩)).isSome then bwd ks n d else put (bwd ks n d) (ks.getD (n - 1 - d) ⟨#[]⟩) (.int .i64 ((n - 1 - d : Nat) : Int))
theorem bwd_sorted (ks : List ByteArray) (n : Nat) (d : Nat) : Sorted (bwd ks n d) := by
  induction d with
  | zero => exact List.Pairwise.nil
  | succ d ih => unfold bwd; split; exact ih; exact ih.put _ _
theorem bwd_get (ks : List ByteArray) (n d : Nat) (hd : d ≤ n) (k : ByteArray) : (∃ i, n - d ≤ i ∧ i < n ∧ ks.getD i ⟨#[]⟩ = k ∧ (∀ j, i < j → j < n → ks.getD j ⟨#[]⟩ ≠ k) ∧ get (bwd ks n d) k = some (.int .i64 (i : Int))) ∨ ((∀ i, n - d ≤ i → i < n → ks.getD i ⟨#[]⟩ ≠ k) ∧ get (bwd ks n d) k = none) := by
  induction d with
  | zero => exact .inr ⟨fun i h h2 => by omega, rfl⟩
  | succ d ih =>
    have ih := ih (by omega)
    have hs := bwd_sorted ks n d
    unfold bwd
    by_cases e : k = ks.getD (n - 1 - d) ⟨#[]⟩
    · rcases ih with ⟨i, h1, h2, h3, h4, h5⟩ | ⟨h1, h2⟩
      · rw [if_pos (by rw [← e, h5]; rfl)]
        exact .inl ⟨i, by omega, h2, h3, h4, h5⟩
      · rw [if_neg (by rw [← e, h2]; simp), get_put hs, if_pos e]
        exact .inl ⟨n - 1 - d, by omega, by omega, e.symm, fun j h3 h4 => h1 j (by omega) h4, rfl⟩
    · have hg : get (if (get (bwd ks n d) (ks.getD (n - 1 - d) ⟨#[]⟩)).isSome then bwd ks n d else put (bwd ks n d) (ks.getD (n - 1 - d) ⟨#[]⟩) (.int .i64 ((n - 1 - d : Nat) : Int))) k = get (bwd ks n d) k := by
        split
        · rfl
        · rw [get_put hs, if_neg e]
      rw [hg]
      rcases ih with ⟨i, h1, h2, h3, h4, h5⟩ | ⟨h1, h2⟩
      · exact .inl ⟨i, by omega, h2, h3, h4, h5⟩
      · refine .inr ⟨fun i hi hi2 => ?_, h2⟩
        by_cases ei : i = n - 1 - d
        · rw [ei]; exact Ne.symm e
        · exact h1 i (by omega) hi2
/-- Either way about it is the same table. -/
theorem bwd_fwd (ks : List ByteArray) (n : Nat) : bwd ks n n = fwd ks n := by
  refine (bwd_sorted ks n n).ext (fwd_sorted ks n) fun k => ?_
  rcases bwd_get ks n n (Nat.le_refl _) k with ⟨i, -, h2, h3, h4, h5⟩ | ⟨h1, h2⟩
  · rcases fwd_get ks n k with ⟨j, g1, g2, g3, g4⟩ | ⟨g1, -⟩
    · have : i = j := by
        rcases Nat.lt_trichotomy i j with h | h | h
        · exact absurd g2 (h4 j h g1)
        · exact h
        · exact absurd h3 (g3 i h h2)
      rw [h5, g4, this]
    · exact absurd h3 (g1 i h2)
  · rcases fwd_get ks n k with ⟨j, g1, g2, -, -⟩ | ⟨-, g2⟩
    · exact absurd g2 (h1 j (by omega) g1)
    · rw [h2, g2]
/-- What stands in it was set: its value is a place where its key stands. -/
theorem fwd_mem {ks : List ByteArray} {n : Nat} {q : ByteArray × Value} (h : q ∈ fwd ks n) : ∃ i, i < n ∧ ks.getD i ⟨#[]⟩ = q.1 ∧ q.2 = .int .i64 (i : Int) := by
  have hg := (fwd_sorted ks n).get (k := q.1) (v := q.2) h
  rcases fwd_get ks n q.1 with ⟨i, h1, h2, -, h4⟩ | ⟨-, h2⟩
  · rw [hg] at h4
    exact ⟨i, h1, h2, by injection h4⟩
  · rw [hg] at h2; cases h2
theorem fwd_len (ks : List ByteArray) (n : Nat) : (fwd ks n).length ≤ n := by
  induction n with
  | zero => exact Nat.le_refl _
  | succ n ih =>
    rw [fwd_succ]
    have := length_put_le (fwd ks n) (ks.getD n ⟨#[]⟩) (.int .i64 (n : Int)); omega
theorem bwd_len (ks : List ByteArray) (n : Nat) (d : Nat) : (bwd ks n d).length ≤ d := by
  induction d with
  | zero => exact Nat.le_refl _
  | succ d ih =>
    unfold bwd
    split
    · omega
    · have := length_put_le (bwd ks n d) (ks.getD (n - 1 - d) ⟨#[]⟩) (.int .i64 ((n - 1 - d : Nat) : Int)); omega
theorem bwd_succ (ks : List ByteArray) (n d : Nat) {k : Nat} (h : n - 1 - d = k) : bwd ks n (d + 1) = if (get (bwd ks n d) (ks.getD k ⟨#[]⟩)).isSome then bwd ks n d else put (bwd ks n d) (ks.getD k ⟨#[]⟩) (.int .i64 (k : Int)) := by
  subst h; rfl
theorem split_len (L : Row) (k : ByteArray) : (below L k).length + (from_ L k).length = L.length := length_filter_split fun p => lt p.1 k
theorem floor_is {L : Row} (hs : Sorted L) (k : ByteArray) : (floor L k).isSome = (decide (0 < (below L k).length) || (get L k).isSome) := by
  cases e : floor L k with
  | none =>
    have h := floor_none e
    have h1 : below L k = [] := List.filter_eq_nil_iff.2 fun q hq => by rw [lt_asymm (h q hq)]; simp
    have h2 : get L k = none := get_none.2 fun q hq => Ne.symm (lt_ne (h q hq))
    rw [h1, h2]; rfl
  | some p =>
    obtain ⟨h1, h2, -⟩ := floor_some hs e
    by_cases he : p.1 = k
    · rw [← he, hs.get (v := p.2) h1]; simp
    · have h3 : lt p.1 k = true := by
        rcases lt_total he with h | h
        · exact h
        · rw [h2] at h; cases h
      have h4 : 0 < (below L k).length := List.length_pos_of_mem (List.mem_filter.2 ⟨h1, h3⟩)
      simp [h4]
theorem floor_from {L : Row} (hs : Sorted L) {k : ByteArray} {p : ByteArray × Value} (e : floor L k = some p) (he : ¬ p.1 = k) : lt p.1 k = true ∧ (from_ L p.1).length = (from_ L k).length + 1 := by
  obtain ⟨h1, h2, h3⟩ := floor_some hs e
  have h4 : lt p.1 k = true := by
    rcases lt_total he with h | h
    · exact h
    · rw [h2] at h; cases h
  refine ⟨h4, ?_⟩
  obtain ⟨A, B, rfl⟩ := List.append_of_mem h1
  obtain ⟨-, -, q1, q2, -⟩ := sorted_mid.1 hs
  have e1 : from_ (A ++ p :: B) p.1 = p :: B := by
    unfold from_
    rw [List.filter_append, List.filter_eq_nil_iff.2 (fun q hq => by rw [q1 q hq]; simp), List.filter_cons_of_pos (by rw [lt_irrefl]; rfl), List.filter_eq_self.2 (fun q hq => by rw [lt_asymm (q2 q hq)]; rfl)]; rfl
  have e2 : from_ (A ++ p :: B) k = B := by
    unfold from_
    rw [List.filter_append, List.filter_eq_nil_iff.2 (fun q hq => by rw [lt_trans (q1 q hq) h4]; simp), List.filter_cons_of_neg (by rw [h4]; simp), List.filter_eq_self.2 (fun q hq => ?_)]; rfl
    have : lt k q.1 = true := by
      cases e' : lt k q.1 with
      | true => rfl
      | false => have := h3 q (List.mem_append_right _ (List.mem_cons_of_mem _ hq)) e'; rw [q2 q hq] at this; cases this
    rw [lt_asymm this]; rfl
  rw [e1, e2]; rfl
/-- The first n keys, read by number. -/
theorem keyD {ks : List ByteArray} {i : Nat} (h : i < ks.length) : ks.getD i ⟨#[]⟩ = ks[i] := by
  rw [List.getD_eq_getElem?_getD, List.getElem?_eq_getElem h]; rfl
end Mm
