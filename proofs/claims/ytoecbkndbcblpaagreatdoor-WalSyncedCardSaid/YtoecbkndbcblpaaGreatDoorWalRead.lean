/-
  Walks over package wal: read. Conditions: those in the theorems.
-/
import Derived.Test.YtoecbkndbcblpaaGreatDoorWalReadNone
import Derived.Test.YtoecbkndbcblpaaGreatDoorWalPlain
namespace Wm
/-- Bodies, numbered. -/
def numbered : Nat → List (List UInt8) → List (Nat × List UInt8)
  | _, [] => []
  | n, b :: r => (n, b) :: numbered (n + 1) r
theorem numbered_snoc (b : List UInt8) : ∀ (l : List (List UInt8)) (n : Nat), numbered n (l ++ [b]) = numbered n l ++ [(n + l.length, b)]
  | [], n => rfl
  | c :: r, n => by
    show (n, c) :: numbered (n + 1) (r ++ [b]) = (n, c) :: (numbered (n + 1) r) ++ [(n + (r.length + 1), b)]
    rw [numbered_snoc b r (n + 1), show n + 1 + r.length = n + (r.length + 1) by omega]; rfl
theorem numbered_length : ∀ (l : List (List UInt8)) (n : Nat), (numbered n l).length = l.length
  | [], _ => rfl
  | c :: r, n => by show (numbered (n + 1) r).length + 1 = r.length + 1; rw [numbered_length r (n + 1)]
end Wm
namespace Go.Proofs.YtoecbkndbcblpaaGreatDoor
open Go.RowKit Go.Maps Go.Sort Go.Shelf

/-- The file that read makes of one of the log's. -/
def Wm.readF (log : ByteArray) (n : Nat) (s : ByteArray) : Wm.F := ⟨Wm.nameOf log n, s.size, ⟨#[]⟩, ⟨(Wm.frames s.data.toList).2.toArray⟩⟩
def Wm.took (W : Wm.W) (n : Nat) (s : ByteArray) (j : Nat) : Wm.W := { Wm.follow { W with last := n - 1 } (Wm.readF W.log n s) with last := n - 1 + j }
section
variable {w0 w w' : World} {a b : Nat} {D D' : Dm.Disk} {B X : List (Nat × Obj)} {W W' : Wm.W} {v : Value} {Rr : List (Nat × Obj)}
theorem WalIn.perm {B' : List (Nat × Obj)} (h : WalIn w0 w a D b W B) (hp : B'.Perm B) : WalIn w0 w a D b W B' := by
  obtain ⟨v, R, h1, h2⟩ := h; exact ⟨v, R, h1.perm ((hp.append_left R).cons _), h2⟩
theorem WalIn.texts {l : List (List UInt8)} (h : WalIn w0 w a D b W B) (ho : w'.ownsRow w.heap.size 9 1 v l.length (l.map encStr)) (hb : Below w.heap.size w w') : ∃ S, WalIn w0 w' a D b W (S ++ B) ∧ TextsIs v S l := by
  obtain ⟨v', R, h1, h2⟩ := h
  obtain ⟨S, h3, h4⟩ := h1.texts ho hb
  exact ⟨S, ⟨v', R, h3.perm (perm_mid _ R S B), h2⟩, h4⟩
theorem WalIn.push {l : List (Nat × List UInt8)} (h : WalIn w0 w a D b W (Rr ++ X)) (hr : RecIs v Rr l) (n : Nat) (s : ByteArray) {z : Nat} {W1 : World} (hb : Below w.heap.size w W1) (hz : W1.heap[z]? = some (.cells #[natV n, .string s] 35 (0, 0))) (hl : l.length ≤ 1000000) (ty : TypeId) :
    ∃ (p : Option Addr) (cv : Nat) (W2 : World) (R' : List (Nat × Obj)), (Builtin.append_ #[25, 25] ty #[v, .slice (some ⟨z, 0, none⟩) 1 1]).run Tryz.prog W1 = .ok (.slice p (l.length + 1) cv) W2 ∧ WalIn w0 W2 a D b W (R' ++ X) ∧ RecIs (.slice p (l.length + 1) cv) R' (l ++ [(n, s.data.toList)]) := by
  obtain ⟨v', R, h1, h2⟩ := h
  have h3 := h1.perm (perm_mid (b, fobj a W.f (walRest W v') 43) R Rr X).symm
  obtain ⟨p, cv, W2, R', hrun, h4, h5⟩ := RecIs.push (C := (b, fobj a W.f (walRest W v') 43) :: (R ++ X)) h3 hr n s hb hz hl ty
  exact ⟨p, cv, W2, R', hrun, ⟨v', R, h4.perm (perm_mid _ R R' X), h2⟩, h5⟩
end
end Go.Proofs.YtoecbkndbcblpaaGreatDoor
