/-
  A plain fact on rows of pairs. No condition.
-/
import Derived.Test.YthioogncbhkaoaaMemRefMath
import Derived.WalkKit
namespace Go.Proofs.Ythioogncbhkaoaa
theorem row_get (L : List (ByteArray × ByteArray)) (i : Nat) (h : i < (Rf.row L).length) (h' : i < L.length) : (Rf.row L)[i] = (L[i].1, Value.string L[i].2) := List.getElem_map (l := L) (fun x : ByteArray × ByteArray => (x.1, Value.string x.2))
end Go.Proofs.Ythioogncbhkaoaa
