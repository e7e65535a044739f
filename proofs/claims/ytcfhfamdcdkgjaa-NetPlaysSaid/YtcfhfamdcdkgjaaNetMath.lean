/-
  Plain facts on a net as a document's answer: packets in a row, ways that are cut; what each call makes of them. No condition.
-/
import GoSem.ClaimWide
namespace Nm
structure Pk where
  f : Int
  t : Int
  d : ByteArray
structure Net where
  row : List Pk
  cut : Int → Int → Bool
  cuts : Nat
def zero : Pk := ⟨0, 0, ⟨#[]⟩⟩
def new : Net := ⟨[], fun _ _ => false, 0⟩
def Net.isCut (N : Net) (p : Pk) : Bool := N.cut (min p.f p.t) (max p.f p.t)
def place (i : Int) (n : Nat) : Nat := (i % (n : Int)).toNat
def send (N : Net) (p : Pk) : Bool × Net :=
  if 8192 < p.d.size then (false, N) else if 1024 ≤ N.row.length then (false, N) else if N.isCut p then (true, N) else (true, { N with row := N.row ++ [p] })
/-- The packet number i of those on their way. -/
def at_ (N : Net) (i : Int) : Pk := N.row.getD (place i N.row.length) zero
def drop (N : Net) (i : Int) : Net := { N with row := N.row.eraseIdx (place i N.row.length) }
def take (N : Net) (i : Int) : Pk × Bool × Net := if N.row = [] then (zero, false, N) else (at_ N i, true, drop N i)
def come (N : Net) (i : Int) : Pk × Bool × Net :=
  if N.row = [] then (zero, false, N) else if N.isCut (at_ N i) then (zero, false, drop N i) else (at_ N i, true, drop N i)
def lose (N : Net) (i : Int) : Bool × Net := if N.row = [] then (false, N) else (true, drop N i)
def dup (N : Net) (i : Int) : Bool × Net := if N.row = [] then (false, N) else if 1024 ≤ N.row.length then (false, N) else (true, { N with row := N.row ++ [at_ N i] })
def cutTo (N : Net) (a b : Int) (on : Bool) : Net := { N with cut := fun x y => if x = min a b ∧ y = max a b then on else N.cut x y, cuts := N.cuts + 1 }

def Wf (n : Int) : Prop := -9223372036854775808 ≤ n ∧ n ≤ 9223372036854775807
structure Pk.Ok (p : Pk) : Prop where
  f : Wf p.f
  t : Wf p.t
  d : p.d.size ≤ 8192
structure Right (N : Net) : Prop where
  few : N.row.length ≤ 1024
  ok : ∀ p ∈ N.row, p.Ok

theorem place_lt {n : Nat} (i : Int) (h : 0 < n) : place i n < n := by
  unfold place
  have h1 := Int.emod_lt_of_pos i (show (0 : Int) < (n : Int) by omega)
  have h2 := Int.emod_nonneg i (show (n : Int) ≠ 0 by omega)
  omega
theorem zero_ok : zero.Ok := ⟨⟨by decide, by decide⟩, ⟨by decide, by decide⟩, by decide⟩
theorem pos_of_ne {N : Net} (h : N.row ≠ []) : 0 < N.row.length := List.length_pos_iff.2 h
theorem at_eq {N : Net} (i : Int) (h : N.row ≠ []) : at_ N i = N.row[place i N.row.length]'(place_lt i (pos_of_ne h)) := by
  unfold at_; rw [List.getD_eq_getElem?_getD, List.getElem?_eq_getElem (place_lt i (pos_of_ne h))]; rfl
theorem Right.new : Right new := ⟨Nat.zero_le _, fun _ h => nomatch h⟩
theorem Right.at_ {N : Net} (h : Right N) (i : Int) (hn : N.row ≠ []) : (at_ N i).Ok := by
  rw [at_eq i hn]; exact h.ok _ (List.getElem_mem _)
theorem Right.drop {N : Net} (h : Right N) (i : Int) : Right (drop N i) :=
  ⟨Nat.le_trans (List.length_eraseIdx_le _ _) h.few, fun p hp => h.ok p (List.mem_of_mem_eraseIdx hp)⟩
theorem Right.add {N : Net} (h : Right N) {p : Pk} (hp : p.Ok) (hl : ¬ 1024 ≤ N.row.length) : Right { N with row := N.row ++ [p] } :=
  ⟨by simp; omega, fun q hq => by
    rcases List.mem_append.1 hq with hq | hq
    · exact h.ok q hq
    · rw [List.mem_singleton.1 hq]; exact hp⟩
theorem Right.send {N : Net} (h : Right N) {p : Pk} (hf : Wf p.f) (ht : Wf p.t) : Right (send N p).2 := by
  unfold Nm.send
  split; · exact h
  split; · exact h
  split; · exact h
  rename_i h1 h2 h3
  exact h.add ⟨hf, ht, by omega⟩ h2
theorem Right.come {N : Net} (h : Right N) (i : Int) : Right (come N i).2.2 := by
  unfold Nm.come
  split; · exact h
  split <;> exact h.drop i
theorem Right.lose {N : Net} (h : Right N) (i : Int) : Right (lose N i).2 := by
  unfold Nm.lose
  split
  · exact h
  · exact h.drop i
theorem Right.dup {N : Net} (h : Right N) (i : Int) : Right (dup N i).2 := by
  unfold Nm.dup
  split; · exact h
  split; · exact h
  rename_i h1 h2
  exact h.add (h.at_ i h1) h2
theorem Right.cutTo {N : Net} (h : Right N) (a b : Int) (on : Bool) : Right (cutTo N a b on) := ⟨h.few, h.ok⟩
theorem length_drop {N : Net} (i : Int) (h : N.row ≠ []) : (drop N i).row.length + 1 = N.row.length := by
  unfold drop
  have h1 := place_lt i (pos_of_ne h)
  have h2 := pos_of_ne h
  simp only [List.length_eraseIdx, if_pos h1]
  omega
end Nm
