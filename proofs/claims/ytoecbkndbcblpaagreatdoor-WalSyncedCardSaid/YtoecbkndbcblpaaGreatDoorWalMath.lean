/-
  Plain facts on a log as its program has it: a file of it, its numbers; what each call makes of the disk and of these. No condition.
-/
import Derived.Test.YtoecbkndbcblpaaGreatDoorDiskMath
import Derived.Test.YtoecbkndbcblpaaGreatDoorWalShelf
namespace Wm
open Dm (Disk)
/-- A file of a log: its name, how many bytes it has, those that may be cut, the beginning of a frame that it ends with. -/
structure F where
  name : ByteArray
  size : Nat
  tail : ByteArray
  torn : ByteArray
/-- A log. -/
structure W where
  f : F
  log : ByteArray
  firsts : List Nat
  last : Nat
  dead : Bool
def fresh (n : ByteArray) : F := ⟨n, 0, ⟨#[]⟩, ⟨#[]⟩⟩
def create (D : Disk) (n : ByteArray) : F × Nat × Disk := match Dm.create D n.data.toList with
  | (0, D') => (fresh n, 0, D')
  | (e, D') => (fresh ⟨#[]⟩, e, D')
def write (D : Disk) (f : F) (fr : ByteArray) : Nat × Disk × F := match Dm.append D f.name.data.toList fr.data.toList with
  | (0, D') => (0, D', { f with size := f.size + fr.size, tail := f.tail ++ fr })
  | (e, D') => (e, D', f)
def sync (D : Disk) (f : F) : Nat × Disk × F := match Dm.sync D f.name.data.toList with
  | (0, D') => (0, D', { f with tail := ⟨#[]⟩ })
  | (e, D') => (e, D', f)
def suffix (s t : List UInt8) : Bool := t.isSuffixOf s
def stands (D : Disk) (f : F) : Bool := match Dm.read D f.name.data.toList with
  | (s, e) => e == 0 && s.length == f.size && suffix s ((f.torn ++ f.tail).data.toList)
/-- The name of the file whose first record has a number. -/
def nameOf (log : ByteArray) (n : Nat) : ByteArray := log ++ ⟨(Go.Lib.repeatL [48] (19 - (Go.Lib.decDigits n).length)).toArray⟩ ++ ⟨(Go.Lib.decDigits n).toArray⟩
end Wm
