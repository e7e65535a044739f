/-
  Plain facts on packets that come in the order in which they were sent: what NetRow asks of the document's answer. No condition.
-/
import Derived.Test.YtcfhfamdcdkgjaaNetWaysMath
namespace Nm
/-- Those packets that a net takes. -/
def fit (p : Pk) : Bool := decide (p.d.size ≤ 8192)
def fits (l : List Pk) : List Pk := l.filter fit
theorem fits_len (l : List Pk) : (fits l).length ≤ l.length := List.length_filter_le _ _
theorem fits_ok {l : List Pk} {p : Pk} (h : p ∈ fits l) : p ∈ l ∧ p.d.size ≤ 8192 := by
  unfold fits fit at h; rw [List.mem_filter] at h; simpa using h
theorem fits_yes {l : List Pk} {k : Nat} (hk : k < l.length) (h : l[k].d.size ≤ 8192) : fits (l.take (k + 1)) = fits (l.take k) ++ [l[k]] := by
  unfold fits; rw [List.take_succ_eq_append_getElem hk, List.filter_append]
  congr 1
  rw [List.filter_cons_of_pos (by unfold fit; simpa using h)]; rfl
theorem fits_no {l : List Pk} {k : Nat} (hk : k < l.length) (h : ¬ l[k].d.size ≤ 8192) : fits (l.take (k + 1)) = fits (l.take k) := by
  unfold fits; rw [List.take_succ_eq_append_getElem hk, List.filter_append]
  rw [List.filter_cons_of_neg (by unfold fit; simpa using h)]; simp
theorem nets_long {l : List Pk} {p : Pk} (hp : 8192 < p.d.size) : send (nets l) p = (false, nets l) := by unfold send; rw [if_pos hp]
theorem place_last {n : Nat} (h : 0 < n) : place (-1) n = n - 1 := by
  unfold place
  have h1 : (-1 : Int) % (n : Int) = (n : Int) - 1 := by
    have e : (-1 : Int) = ((n : Int) - 1) + (n : Int) * (-1) := by omega
    rw [e, Int.add_mul_emod_self_left]
    exact Int.emod_eq_of_lt (by omega) (by omega)
  rw [h1]; omega
theorem at_get {N : Net} {i : Int} {k : Nat} (hk : k < N.row.length) (hp : place i N.row.length = k) : at_ N i = N.row[k] := by
  unfold at_; rw [hp, List.getD_eq_getElem?_getD, List.getElem?_eq_getElem hk]; rfl
/-- Asked for by 0 the first one comes. -/
theorem nets_first {l : List Pk} {k : Nat} (hk : k < l.length) : come (nets (l.drop k)) 0 = (l[k], true, nets (l.drop (k + 1))) :=
  come_open (p := l[k]) (by show l.drop k = _; rw [List.drop_eq_getElem_cons hk]) rfl
/-- Asked for by -1 the last one comes. -/
theorem nets_last {l : List Pk} {k : Nat} (hk : k < l.length) : come (nets (l.take (l.length - k))) (-1) = (l[l.length - 1 - k], true, nets (l.take (l.length - (k + 1)))) := by
  have hl : (l.take (l.length - k)).length = l.length - k := by rw [List.length_take]; omega
  have hp : place (-1) (nets (l.take (l.length - k))).row.length = l.length - 1 - k := by
    show place (-1) (l.take (l.length - k)).length = _
    rw [hl, place_last (by omega)]; omega
  have e1 : at_ (nets (l.take (l.length - k))) (-1) = l[l.length - 1 - k] := by
    rw [at_get (by show _ < (l.take (l.length - k)).length; omega) hp]
    show (l.take (l.length - k))[l.length - 1 - k] = _
    rw [List.getElem_take]
  have e2 : drop (nets (l.take (l.length - k))) (-1) = nets (l.take (l.length - (k + 1))) := by
    unfold drop
    rw [hp]
    unfold nets
    congr 1
    show (l.take (l.length - k)).eraseIdx (l.length - 1 - k) = _
    rw [List.eraseIdx_eq_take_drop_succ, List.drop_of_length_le (by omega), List.append_nil, List.take_take]
    congr 1; omega
  have hne : (nets (l.take (l.length - k))).row ≠ [] := fun e => by
    have : (l.take (l.length - k)).length = 0 := by rw [show l.take (l.length - k) = [] from e]; rfl
    omega
  unfold come
  rw [if_neg hne, e1, e2]
  rfl
theorem nets_none : come (nets []) 0 = (zero, false, nets []) ∧ lose (nets []) 0 = (false, nets []) ∧ dup (nets []) 0 = (false, nets []) := ⟨rfl, rfl, rfl⟩
end Nm
