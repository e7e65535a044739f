/-
  Walks over package disk: Room. Conditions: those in the theorems.
-/
import Derived.Test.YtbhjpkejdkfenaaGreatDoorWalBox
set_option linter.unusedSimpArgs false
set_option linter.unusedVariables false
namespace Go.Proofs.YtbhjpkejdkfenaaGreatDoor
open Go.RowKit Go.Maps Go.Shelf

set_option maxRecDepth 100000 in
theorem Room_disk {w : World} {a : Nat} {D : Dm.Disk} {S : Nat → Prop} (h : Disk w a D S) (n : Int) (hn : n ≤ 9223372036854775807) :
    Calls Tryz.prog 30 #[.pointer (some ⟨a, 0, none⟩), .int .i64 n] w fun e w' => e = .returned (.tuple #[]) ∧ Disk w' a (Dm.roomTo D n) S ∧ Turned S w w' := by
  obtain ⟨m, T, hR, hS⟩ := h
  obtain ⟨c0, c1, c2, c3, c4, fz⟩ := cells5 hR.cell
  have f2 := fz 2
  have f3 := fz 3
  have hD : Disk ((w.setCell ⟨a, 2, none⟩ (.bool (decide (0 ≤ n)))).setCell ⟨a, 3, none⟩ (.int .i64 (max n 0))) a (Dm.roomTo D n) S := by
    refine ⟨m, T, hR.keep (fun k _ hk => (set_other _ _ _ _ _ hk).trans (set_other _ _ _ _ _ hk)) ?_ rfl (hR.right.roomTo hn), hS⟩
    rw [set1 (set1 hR.cell _)]
    have : max n 0 = (n.toNat : Int) := by omega
    rw [this]; rfl
  have HD := Lib.hid hD
  have HT := Lib.hid ((turned_setCell (S := S) w ⟨a, 2, none⟩ (.bool (decide (0 ≤ n))) hS.1).trans (turned_setCell (S := S) _ ⟨a, 3, none⟩ (.int .i64 (max n 0)) hS.1) fun _ e => .inl e)
  clear hD hR hS fz
  go_enter Tryz.func30, Tryz.ntmps30
  go_wp2
  go_returns
  exact ⟨rfl, HD.out, HT.out⟩
theorem Room_nil (n : Int) (w : World) : Calls Tryz.prog 30 #[.pointer none, .int .i64 n] w fun e w' => e = .returned (.tuple #[]) ∧ w = w' := by
  go_enter Tryz.func30, Tryz.ntmps30
  go_wp2
  go_returns
  exact ⟨rfl, rfl⟩
end Go.Proofs.YtbhjpkejdkfenaaGreatDoor
