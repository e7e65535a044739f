/-
  Plain facts on a list that is the net's row in another order: what NetTrue asks of the document's answer. No condition.
-/
import Derived.Test.YtcfhfamdcdkgjaaNetLaw
namespace Nm
theorem cons_erase : ∀ (l : List Pk) (i : Nat) (h : i < l.length), (l[i] :: l.eraseIdx i).Perm l
  | x :: r, 0, _ => List.Perm.refl _
  | x :: r, i + 1, h => (List.Perm.swap x _ _).trans ((cons_erase r i (by simpa using h)).cons x)
theorem perm_come {L R : List Pk} (h : L.Perm R) {m : Nat} (hm : m < L.length) {q : Nat} (hq : q < R.length) (e : L[m] = R[q]) : (L.eraseIdx m).Perm (R.eraseIdx q) := by
  have h1 := cons_erase L m hm
  have h2 := cons_erase R q hq
  have h3 := (h1.trans h).trans h2.symm
  rw [e] at h3
  exact (List.perm_cons _).1 h3
theorem first_of {L : List Pk} {p : Pk} (h : p ∈ L) : ∃ (m : Nat) (hm : m < L.length), L[m] = p ∧ ∀ j (hj : j < L.length), j < m → L[j] ≠ p := by
  have hm : L.findIdx (fun x => x.same p) < L.length := List.findIdx_lt_length_of_exists ⟨p, h, same_self p⟩
  refine ⟨_, hm, same_iff.1 (List.findIdx_getElem (w := hm)), fun j hj hlt e => ?_⟩
  have := List.not_of_lt_findIdx hlt
  rw [e, same_self] at this
  simp at this
theorem send_cases {N : Net} (p : Pk) (hl : N.row.length < 1024) : (8192 < p.d.size ∧ send N p = (false, N)) ∨ (p.d.size ≤ 8192 ∧ send N p = (true, N)) ∨ (p.d.size ≤ 8192 ∧ send N p = (true, { N with row := N.row ++ [p] })) := by
  unfold send
  by_cases h : 8192 < p.d.size
  · exact .inl ⟨h, by rw [if_pos h]⟩
  · rw [if_neg h, if_neg (by omega)]
    cases hc : N.isCut p with
    | true => exact .inr (.inl ⟨by omega, by simp⟩)
    | false => exact .inr (.inr ⟨by omega, by simp⟩)
theorem come_cases {N : Net} (i : Int) (h : N.row ≠ []) : come N i = (zero, false, drop N i) ∨ come N i = (at_ N i, true, drop N i) := by
  unfold come
  rw [if_neg h]
  cases hc : N.isCut (at_ N i) with
  | true => exact .inl (by simp)
  | false => exact .inr (by simp)
theorem come_empty {N : Net} (i : Int) (h : N.row = []) : come N i = (zero, false, N) ∧ dup N i = (false, N) := by
  unfold come dup
  rw [if_pos h, if_pos h]; exact ⟨rfl, rfl⟩
theorem dup_full {N : Net} (i : Int) (h : N.row ≠ []) (hl : N.row.length < 1024) : dup N i = (true, { N with row := N.row ++ [at_ N i] }) := by
  unfold dup
  rw [if_neg h, if_neg (by omega)]
theorem at_mem {N : Net} (i : Int) (h : N.row ≠ []) : at_ N i ∈ N.row := by rw [at_eq i h]; exact List.getElem_mem _
end Nm
