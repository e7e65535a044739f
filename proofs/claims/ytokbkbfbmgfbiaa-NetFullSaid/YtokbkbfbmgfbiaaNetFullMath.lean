/-
  Plain facts on a net that is filled: what NetFull asks of the document's answer. No condition.
-/
import Derived.Test.YtokbkbfbmgfbiaaNetMath
namespace Nm
structure Filled (N : Net) (k : Nat) (f t : Int) : Prop where
  right : Right N
  len : N.row.length = k
  cut : ∀ x y, N.cut x y = false
  all : ∀ p ∈ N.row, p.f = f ∧ p.t = t
  cuts : N.cuts = 0
def empty (f t : Int) : Pk := ⟨f, t, ⟨#[]⟩⟩
theorem Filled.add {N : Net} {k : Nat} {f t : Int} (h : Filled N k f t) {p : Pk} (hp : p.Ok) (hf : p.f = f ∧ p.t = t) (hk : k < 1024) : Filled { N with row := N.row ++ [p] } (k + 1) f t :=
  ⟨h.right.add hp (by rw [h.len]; omega), by simp [h.len], h.cut, fun q hq => by
    rcases List.mem_append.1 hq with hq | hq
    · exact h.all q hq
    · rw [List.mem_singleton.1 hq]; exact hf, h.cuts⟩
theorem filled_send {N : Net} {k : Nat} {f t : Int} (h : Filled N k f t) {p : Pk} (hp : p.Ok) (hf : p.f = f ∧ p.t = t) (hk : k < 1024) : ∃ N', send N p = (true, N') ∧ Filled N' (k + 1) f t := by
  refine ⟨_, ?_, h.add hp hf hk⟩
  unfold send Net.isCut
  rw [if_neg (by have := hp.d; omega), if_neg (by rw [h.len]; omega), h.cut]
  rfl
theorem ne_of {N : Net} {k : Nat} {f t : Int} (h : Filled N k f t) (hk : 0 < k) : N.row ≠ [] := fun e => by have := h.len; rw [e] at this; simp at this; omega
theorem Filled.at_ {N : Net} {k : Nat} {f t : Int} (h : Filled N k f t) (i : Int) (hk : 0 < k) : (at_ N i).f = f ∧ (at_ N i).t = t := by
  rw [at_eq i (ne_of h hk)]; exact h.all _ (List.getElem_mem _)
theorem filled_dup {N : Net} {k : Nat} {f t : Int} (h : Filled N k f t) (i : Int) (h0 : 0 < k) (hk : k < 1024) : ∃ N', dup N i = (true, N') ∧ Filled N' (k + 1) f t := by
  refine ⟨_, ?_, h.add (h.right.at_ i (ne_of h h0)) (h.at_ i h0) hk⟩
  unfold dup
  rw [if_neg (ne_of h h0), if_neg (by rw [h.len]; omega)]
theorem filled_new (f t : Int) : Filled new 0 f t := ⟨Right.new, rfl, fun _ _ => rfl, (fun _ h => nomatch h), rfl⟩
theorem full_after {N : Net} {f t : Int} (h : Filled N 1024 f t) (i : Int) : send N (empty f t) = (false, N) ∧ dup N i = (false, N) ∧ send (cutTo N t f true) (empty f t) = (false, cutTo N t f true) ∧
    come (cutTo N t f true) i = (zero, false, drop (cutTo N t f true) i) ∧ (drop (cutTo N t f true) i).row.length = 1023 ∧ send (drop (cutTo N t f true) i) (empty f t) = (true, drop (cutTo N t f true) i) := by
  have hne := ne_of h (by omega)
  have e0 : ¬ 8192 < (empty f t).d.size := by show ¬ 8192 < 0; omega
  have hc : ∀ p : Pk, p.f = f → p.t = t → (cutTo N t f true).isCut p = true := fun p hf ht => by
    unfold Net.isCut cutTo
    rw [hf, ht]
    simp only
    rw [if_pos ⟨by omega, by omega⟩]
  have hl := length_drop (N := cutTo N t f true) i hne
  have hlen : (cutTo N t f true).row.length = 1024 := h.len
  have hat := h.at_ i (by omega)
  refine ⟨?_, ?_, ?_, ?_, by omega, ?_⟩
  · unfold send; rw [if_neg e0, if_pos (by rw [h.len]; omega)]
  · unfold dup; rw [if_neg hne, if_pos (by rw [h.len]; omega)]
  · unfold send; rw [if_neg e0, if_pos (by rw [hlen]; omega)]
  · unfold come; rw [if_neg (show (cutTo N t f true).row ≠ [] from hne), hc (Nm.at_ (cutTo N t f true) i) hat.1 hat.2, if_pos rfl]
  · unfold send; rw [if_neg e0, if_neg (by omega), show (drop (cutTo N t f true) i).isCut (empty f t) = (cutTo N t f true).isCut (empty f t) from rfl, hc _ rfl rfl, if_pos rfl]
end Nm
