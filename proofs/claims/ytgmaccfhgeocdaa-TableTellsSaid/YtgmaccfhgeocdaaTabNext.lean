/-
  The key next to a key (the key with a nought behind it): nothing lies between them. Pure. No condition but those in the theorems.
-/
import Derived.Test.YtgmaccfhgeocdaaTabSpoilt
namespace Go.Proofs.Ytgmaccfhgeocdaa
open Go.RowKit Go.Shelf Tb

theorem less_next : ∀ s m : List UInt8, Op.bytesLess s m = true → Op.bytesLess m (s ++ [0]) = true → False
  | [], [], h, _ => by simp [Op.bytesLess] at h
  | [], c :: m, _, k => by
    simp only [List.nil_append, Op.bytesLess, Bool.or_eq_true, decide_eq_true_eq, Bool.and_eq_true, Bool.and_false, Bool.false_eq_true, or_false, UInt8.lt_iff_toNat_lt] at k
    exact absurd k (by simp)
  | a :: s, [], h, _ => by simp [Op.bytesLess] at h
  | a :: s, c :: m, h, k => by
    simp only [List.cons_append, Op.bytesLess, Bool.or_eq_true, decide_eq_true_eq, Bool.and_eq_true, beq_iff_eq, UInt8.lt_iff_toNat_lt] at h k
    rcases h with h | ⟨h, h2⟩
    · rcases k with k | ⟨k, -⟩
      · omega
      · rw [k] at h; omega
    · subst h
      rcases k with k | ⟨-, k2⟩
      · omega
      · exact less_next s m h2 k2
theorem less_nought : ∀ s : List UInt8, Op.bytesLess s (s ++ [0]) = true
  | [] => rfl
  | a :: s => by simp [Op.bytesLess, less_nought s]
theorem next_list (a : ByteArray) : (a ++ (⟨#[0]⟩ : ByteArray)).toList = a.toList ++ [0] := by
  rw [Go.ByteArray.toList_eq, Go.ByteArray.toList_eq, ByteArray.data_append, Array.toList_append]
theorem next_none {a m : ByteArray} (h : Mm.lt a m = true) : Mm.lt m (a ++ ⟨#[0]⟩) = false := by
  cases hk : Mm.lt m (a ++ ⟨#[0]⟩) with
  | false => rfl
  | true =>
    unfold Mm.lt at h hk
    rw [next_list] at hk
    exact (less_next _ _ h hk).elim
theorem next_gt (a : ByteArray) : Mm.lt a (a ++ ⟨#[0]⟩) = true := by
  unfold Mm.lt; rw [next_list]; exact less_nought _
theorem beside_next {l : List En} (h : Right l) {i : Nat} (hi : i < l.length) (hg : (getE l (l[i].key ++ ⟨#[0]⟩)).isSome = true) : ∃ h1 : i + 1 < l.length, l[i + 1].key = l[i].key ++ ⟨#[0]⟩ := by
  obtain ⟨e, he, hk⟩ := (getE_is h _).1 hg
  obtain ⟨j, hj, rfl⟩ := List.mem_iff_getElem.1 he
  have hij : i < j := by
    apply Nat.lt_of_not_le
    intro hji
    rcases Nat.lt_or_eq_of_le hji with hlt | rfl
    · have h1 := h.le hi hlt
      rw [hk] at h1
      have h2 := Mm.lt_asymm h1
      rw [next_gt] at h2; cases h2
    · have h1 := next_gt l[j].key
      rw [← hk, Mm.lt_irrefl] at h1; cases h1
  have h1 : i + 1 < l.length := by omega
  refine ⟨h1, ?_⟩
  rcases Nat.lt_or_eq_of_le hij with hlt | rfl
  · have h2 := h.le h1 (show i < i + 1 by omega)
    have h3 := h.le hj hlt
    rw [hk] at h3
    have h4 := next_none h2
    rw [h4] at h3; cases h3
  · exact hk
end Go.Proofs.Ytgmaccfhgeocdaa
