/-
  Plain facts on a file that is renamed: what DiskRenames asks of the document's answer. No condition.
-/
import Derived.Test.YtgcjjpmcphpcjaaDiskLawMath
namespace Dm
theorem put_self {l : List (List UInt8 × File)} (hs : Sorted l) {n : List UInt8} {f : File} (hg : get l n = some f) : put (del l n) n f = l :=
  Sorted.ext ((hs.del n).put n f) hs fun m => by
    by_cases e : m = n
    · subst e; rw [get_put_same, hg]
    · rw [get_put_other e, get_del_other e]
theorem used_moved {l : List (List UInt8 × File)} (hs : Sorted l) {a b : List UInt8} (hab : a ≠ b) {f : File} (hg : get l a = some f) : used (put (del l a) b f) + (match get l b with | none => 0 | some g => g.data.length) = used l := by
  unfold put
  rw [used_ins]
  have h1 := used_del hs hg
  have h2 : get (del l a) b = get l b := get_del_other (Ne.symm hab) l
  cases hb : get l b with
  | none => rw [hb] at h2; rw [del_none h2]; simp only; omega
  | some g => rw [hb] at h2; have h3 := used_del (hs.del a) h2; simp only; omega
theorem put_back {l : List (List UInt8 × File)} (hs : Sorted l) {a b : List UInt8} (hab : a ≠ b) {f : File} (hg : get l a = some f) (hb : get l b = none) : put (del (put (del l a) b f) b) a f = l :=
  Sorted.ext (((((hs.del a).put b f)).del b).put a f) hs fun m => by
    by_cases e : m = a
    · subst e; rw [get_put_same, hg]
    · rw [get_put_other e]
      by_cases e2 : m = b
      · subst e2; rw [get_del_same, hb]
      · rw [get_del_other e2, get_put_other e2, get_del_other e]
/-- What a rename does to a calm disk. -/
theorem renames {d : Disk} (h : Calm d) (i j : Nat) :
    (read d (fourL i) = ([], 4) ∧ rename d (fourL i) (fourL j) = (4, d)) ∨
    ∃ f : File, read d (fourL i) = (f.data, 0) ∧ ((fourL i = fourL j ∧ rename d (fourL i) (fourL j) = (0, d)) ∨ (fourL i ≠ fourL j ∧ ∃ d', rename d (fourL i) (fourL j) = (0, d') ∧ read d' (fourL j) = (f.data, 0) ∧ read d' (fourL i) = ([], 4) ∧
      (∀ n, fourL n ≠ fourL i → fourL n ≠ fourL j → read d' (fourL n) = read d (fourL n)) ∧
      ((∃ g : List UInt8, read d (fourL j) = (g, 0) ∧ used d'.files + g.length = used d.files) ∨ (read d (fourL j) = ([], 4) ∧ used d'.files = used d.files ∧ rename d' (fourL j) (fourL i) = (0, d))))) := by
  rcases rename_cases h (fourL i) j with ⟨e, hg⟩ | ⟨f, hg, e⟩
  · refine .inl ⟨?_, e⟩
    unfold read; rw [h.up, hg]; rfl
  · refine .inr ⟨f, by unfold read; rw [h.up, hg]; rfl, ?_⟩
    by_cases hab : fourL i = fourL j
    · refine .inl ⟨hab, ?_⟩
      rw [e, ← hab, put_self h.right.sorted hg]
    · refine .inr ⟨hab, _, e, ?_, ?_, fun n h1 h2 => ?_, ?_⟩
      · unfold read; simp only [h.up, get_put_same]; rfl
      · unfold read; simp only [h.up, get_put_other hab, get_del_same]; rfl
      · unfold read; simp only [h.up, get_put_other h2, get_del_other h1]
      · have hu := used_moved h.right.sorted hab hg
        cases hb : get d.files (fourL j) with
        | some g =>
          rw [hb] at hu
          exact .inl ⟨g.data, by unfold read; rw [h.up, hb]; rfl, hu⟩
        | none =>
          rw [hb] at hu
          refine .inr ⟨by unfold read; rw [h.up, hb]; rfl, by simpa using hu, ?_⟩
          have hr : Calm { d with files := put (del d.files (fourL i)) (fourL j) f } := by
            have := h.right.rename (fourL i) (fourL j)
            rw [e] at this
            refine h.files this fun p hp => ?_
            rcases mem_put.1 hp with rfl | ⟨hp, _⟩
            · exact ⟨_, rfl⟩
            · exact h.fours p (mem_del.1 hp).1
          rcases rename_cases hr (fourL j) i with ⟨e2, hg2⟩ | ⟨f2, hg2, e2⟩
          · rw [get_put_same] at hg2; cases hg2
          · rw [get_put_same] at hg2; cases hg2
            rw [e2]
            simp only [put_back h.right.sorted hab hg hb]
end Dm
