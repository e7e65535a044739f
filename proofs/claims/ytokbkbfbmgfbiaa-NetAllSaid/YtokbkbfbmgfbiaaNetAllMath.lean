/-
  Plain facts on a net no way of which is cut, and on numbers that are asked for: what NetAll asks of the document's answer. No condition.
-/
import Derived.Test.YtokbkbfbmgfbiaaNetRowMath
import Derived.Test.YtokbkbfbmgfbiaaNetWalkA
namespace Nm
/-- No way is cut. -/
def Free (c : Int → Int → Bool) : Prop := ∀ x y, c x y = false
theorem cut_back {c : Int → Int → Bool} (h : Free c) (l : List Pk) (q : Nat) (x y : Int) : ∃ c', Free c' ∧ cutTo (cutTo ⟨l, c, q⟩ x y true) y x false = ⟨l, c', q + 2⟩ := by
  refine ⟨_, ?_, rfl⟩
  intro p r
  show (if p = min y x ∧ r = max y x then false else if p = min x y ∧ r = max x y then true else c p r) = false
  rw [Int.min_comm, Int.max_comm]
  split
  · rfl
  · exact h p r
theorem first_free {c : Int → Int → Bool} (h : Free c) (q : Nat) {l : List Pk} {k : Nat} (hk : k < l.length) : come ⟨l.drop k, c, q⟩ 0 = (l[k], true, ⟨l.drop (k + 1), c, q⟩) :=
  come_open (N := ⟨l.drop k, c, q⟩) (p := l[k]) (by show l.drop k = _; rw [List.drop_eq_getElem_cons hk]) (h _ _)
theorem come_free {c : Int → Int → Bool} (h : Free c) (q : Nat) {l : List Pk} (i : Int) (hl : 0 < l.length) : come ⟨l, c, q⟩ i = (l[place i l.length]'(place_lt i hl), true, ⟨l.eraseIdx (place i l.length), c, q⟩) := by
  have e1 : at_ ⟨l, c, q⟩ i = l[place i l.length]'(place_lt i hl) := by
    show l.getD (place i l.length) zero = _
    rw [List.getD_eq_getElem?_getD, List.getElem?_eq_getElem (place_lt i hl)]; rfl
  unfold come
  rw [if_neg (by show ¬ l = []; intro e; rw [e] at hl; cases hl), if_neg (by show ¬ c _ _ = true; rw [h]; simp), e1]
  rfl
end Nm
namespace Go.Proofs.Ytokbkbfbmgfbiaa
theorem place_round {i : Int} {n : Nat} (h : 0 < n) (hn : n ≤ 1000000) : IntKind.i64.wrap (i.tmod (n : Int) + (n : Int)) = i.tmod (n : Int) + (n : Int) ∧ (i.tmod (n : Int) + (n : Int)).tmod (n : Int) = (Nm.place i n : Nat) := by
  have hb := tmod_bounds i h
  have hp := Nm.place_lt i h
  refine ⟨IntWalk.i64_in _ (by omega), ?_⟩
  by_cases hi : i.tmod (n : Int) < 0
  · rw [place_neg h hi]
    exact Int.tmod_eq_of_lt (by omega) (by omega)
  · rw [place_pos h hi, Int.tmod_eq_emod_of_nonneg (by omega), Int.add_emod_right]
    exact Int.emod_eq_of_lt (by omega) (by omega)
end Go.Proofs.Ytokbkbfbmgfbiaa
