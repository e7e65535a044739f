/-
  Plain facts on the frames that a text begins with: the places behind them, one after the other. No program, no walk.
-/
import Derived.Test.YtkaanffclpbiiaaSumFrames
namespace Go.Proofs.Ytkaanffclpbiiaa.Sm

/-- The places behind the frames that stand one behind the other from a place on. -/
inductive Chain (l : List UInt8) : Nat → List Nat → Prop
  | stop {a : Nat} (h : behindAt l a = none) : Chain l a []
  | go {a e : Nat} {es : List Nat} (h : behindAt l a = some e) (r : Chain l e es) : Chain l a (e :: es)

theorem chain_ex (l : List UInt8) : ∀ (n a : Nat), l.length - a ≤ n → ∃ es, Chain l a es
  | 0, a, h => by
    refine ⟨[], .stop ?_⟩
    unfold behindAt
    rw [if_neg (by omega)]
  | n + 1, a, h => by
    cases hb : behindAt l a with
    | none => exact ⟨[], .stop hb⟩
    | some e =>
      have := behindAt_le hb
      obtain ⟨es, hes⟩ := chain_ex l n e (by omega)
      exact ⟨e :: es, .go hb hes⟩

/-- Where the next frame would have to stand, i of them over. -/
def at_ (a : Nat) (es : List Nat) (i : Nat) : Nat := (a :: es).getD i 0
theorem at_zero (a : Nat) (es : List Nat) : at_ a es 0 = a := rfl
theorem at_succ (a : Nat) (es : List Nat) (i : Nat) (hi : i < es.length) : at_ a es (i + 1) = es[i] := by
  unfold at_
  rw [List.getD_cons_succ, List.getD_eq_getElem?_getD, List.getElem?_eq_getElem hi]; rfl

theorem Chain.step {l : List UInt8} {a : Nat} {es : List Nat} (h : Chain l a es) : ∀ i (hi : i < es.length), behindAt l (at_ a es i) = some es[i] := by
  induction h with
  | stop _ => intro i hi; simp at hi
  | @go a e es hb r ih =>
    intro i hi
    cases i with
    | zero => exact hb
    | succ i =>
      have hi' : i < es.length := by simpa using hi
      have h2 := ih i hi'
      have e1 : at_ a (e :: es) (i + 1) = at_ e es i := by unfold at_; rw [List.getD_cons_succ]
      rw [e1, h2]; rfl
theorem Chain.done {l : List UInt8} {a : Nat} {es : List Nat} (h : Chain l a es) : behindAt l (at_ a es es.length) = none := by
  induction h with
  | stop hb => exact hb
  | @go a e es hb r ih =>
    have e1 : at_ a (e :: es) ((e :: es).length) = at_ e es es.length := by unfold at_; rw [List.length_cons, List.getD_cons_succ]
    rw [e1]; exact ih
theorem Chain.unique {l : List UInt8} {a : Nat} {es fs : List Nat} (h : Chain l a es) : Chain l a fs → es = fs := by
  induction h generalizing fs with
  | stop hb => intro k; cases k with
    | stop _ => rfl
    | go h2 _ => rw [hb] at h2; cases h2
  | go hb r ih => intro k; cases k with
    | stop h2 => rw [hb] at h2; cases h2
    | go h2 r2 => rw [hb] at h2; cases h2; rw [ih r2]
theorem Chain.le {l : List UInt8} {a : Nat} {es : List Nat} (h : Chain l a es) (ha : a ≤ l.length) : ∀ i, i ≤ es.length → at_ a es i ≤ l.length := by
  intro i hi
  cases i with
  | zero => exact ha
  | succ i => rw [at_succ a es i (by omega)]; exact (behindAt_le (h.step i (by omega))).2.1

/-- The frames' bodies. -/
def bodiesOf (l : List UInt8) : Nat → List Nat → List ByteArray
  | _, [] => []
  | a, e :: es => ⟨(bodyAt l a e).toArray⟩ :: bodiesOf l e es
theorem bodiesOf_len (l : List UInt8) : ∀ (es : List Nat) (a : Nat), (bodiesOf l a es).length = es.length
  | [], _ => rfl
  | e :: es, a => by show (_ :: bodiesOf l e es).length = _; rw [List.length_cons, bodiesOf_len l es e, List.length_cons]
theorem bodiesOf_at (l : List UInt8) : ∀ (es : List Nat) (a i : Nat) (hi : i < es.length) (h : i < (bodiesOf l a es).length), (bodiesOf l a es)[i] = ⟨(bodyAt l (at_ a es i) es[i]).toArray⟩
  | e :: es, a, 0, _, _ => rfl
  | e :: es, a, i + 1, hi, h => by
    have hi' : i < es.length := by simpa using hi
    have h2 := bodiesOf_at l es e i hi' (by rw [bodiesOf_len]; exact hi')
    have e1 : at_ a (e :: es) (i + 1) = at_ e es i := by unfold at_; rw [List.getD_cons_succ]
    rw [e1]; exact h2
end Go.Proofs.Ytkaanffclpbiiaa.Sm
