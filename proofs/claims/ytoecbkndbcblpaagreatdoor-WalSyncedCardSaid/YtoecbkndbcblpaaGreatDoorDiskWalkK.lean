/-
  Walks over package disk: New, Fuse, Down, names. Conditions: those in the theorems.
-/
import Derived.Test.YtoecbkndbcblpaaGreatDoorDiskWalkJ
import Derived.Test.YtoecbkndbcblpaaGreatDoorDiskShelf
import Derived.TacticsIn
import Derived.CallsIn
namespace Go.Proofs.YtoecbkndbcblpaaGreatDoor
open Go.RowKit Go.Maps Go.Shelf

set_option maxRecDepth 100000 in
theorem New_disk (w : World) : Calls Tryz.prog 7 #[] w fun e w' => ∃ a, e = .returned (.pointer (some ⟨a, 0, none⟩)) ∧ Disk w' a Dm.new (w.heap.size ≤ ·) ∧ Below w.heap.size w w' := by
  have hmm := @run_makeMap Tryz.prog
  have hD : Disk ((w.alloc (.map #[] 0)).alloc (.cells #[.bool false, .int .i64 0, .bool false, .int .i64 0, .map (some w.heap.size)] 63)) (w.heap.size + 1) Dm.new (w.heap.size ≤ ·) := by
    obtain ⟨hp, hq⟩ := two_new w (.map #[] 0) (.cells #[.bool false, .int .i64 0, .bool false, .int .i64 0, .map (some w.heap.size)] 63)
    refine ⟨w.heap.size, [], ⟨Dm.Right.new, rfl, hq, ?_, (fun _ hp => nomatch hp), ⟨by omega, (fun _ hp => nomatch hp), (fun _ hp => nomatch hp), (fun _ hp => nomatch hp)⟩⟩, ⟨by show w.heap.size ≤ w.heap.size + 1; omega, Nat.le_refl _, (fun _ hp => nomatch hp)⟩⟩
    exact ownsMap_of (World.ownsMap_made w Tryz.prog 9 ptrR) (Below.heap_alloc _ _ _ (by simp))
  have HD := Lib.hid hD
  clear hD
  go_enter Tryz.func7, Tryz.ntmps7
  go_wp2
  go_ret
  exact ⟨w.heap.size + 1, rfl, HD.out, ((Below.refl _ w).alloc (Nat.le_refl _) _).alloc (by simp) _⟩

set_option maxRecDepth 100000 in
theorem Fuse_disk {w : World} {a : Nat} {D : Dm.Disk} {S : Nat → Prop} (h : Disk w a D S) (n : Int) (hn : n ≤ 9223372036854775807) :
    Calls Tryz.prog 19 #[.pointer (some ⟨a, 0, none⟩), .int .i64 n] w fun e w' => e = .returned (.tuple #[]) ∧ Disk w' a (Dm.fuseTo D n) S ∧ Turned S w w' := by
  obtain ⟨m, T, hR, hS⟩ := h
  obtain ⟨c0, c1, c2, c3, c4, fz⟩ := cells5 hR.cell
  have f1 := fz 1
  have hD : Disk (w.setCell ⟨a, 1, none⟩ (.int .i64 (max n 0))) a (Dm.fuseTo D n) S := by
    refine ⟨m, T, hR.keep (fun k _ hk => set_other _ _ _ _ _ hk) ?_ rfl (hR.right.fuseTo hn), hS⟩
    rw [set1 hR.cell]
    have : max n 0 = (n.toNat : Int) := by omega
    rw [this]; rfl
  have HD := Lib.hid hD
  have HT := Lib.hid (turned_setCell (S := S) w ⟨a, 1, none⟩ (.int .i64 (max n 0)) hS.1)
  clear hD hR hS fz
  go_enter Tryz.func19, Tryz.ntmps19
  go_wp2
  go_returns
  exact ⟨rfl, HD.out, HT.out⟩
theorem Fuse_nil (n : Int) (w : World) : Calls Tryz.prog 19 #[.pointer none, .int .i64 n] w fun e w' => e = .returned (.tuple #[]) ∧ w = w' := by
  go_enter Tryz.func19, Tryz.ntmps19
  go_wp2
  go_returns
  exact ⟨rfl, rfl⟩

theorem Down_disk {w : World} {a : Nat} {D : Dm.Disk} {S : Nat → Prop} (h : Disk w a D S) :
    Calls Tryz.prog 18 #[.pointer (some ⟨a, 0, none⟩)] w fun e w' => e = .returned (.bool D.down) ∧ w = w' := by
  obtain ⟨m, T, hR, hS⟩ := h
  obtain ⟨c0, -, -, -, -, -⟩ := cells5 hR.cell
  clear hR hS
  go_enter Tryz.func18, Tryz.ntmps18
  go_wp2
  go_ret
  exact ⟨rfl, rfl⟩
theorem Down_nil (w : World) : Calls Tryz.prog 18 #[.pointer none] w fun e w' => e = .returned (.bool true) ∧ w = w' := by
  go_enter Tryz.func18, Tryz.ntmps18
  go_wp2
  go_ret
  exact ⟨rfl, rfl⟩
theorem Read_disk {w : World} {a : Nat} {D : Dm.Disk} {S : Nat → Prop} (h : Disk w a D S) (s : ByteArray) (hm : s.size ≤ maxLen) :
    Calls Tryz.prog 24 #[.pointer (some ⟨a, 0, none⟩), .string s] w fun e w' => e = .returned (.tuple #[.string ⟨(Dm.read D s.data.toList).1.toArray⟩, .int .i64 ((Dm.read D s.data.toList).2 : Nat)]) ∧ w = w' := by
  obtain ⟨m, T, hR, -⟩ := h; exact Read_rep hR s hm
theorem Used_disk {w : World} {a : Nat} {D : Dm.Disk} {S : Nat → Prop} (h : Disk w a D S) :
    Calls Tryz.prog 47 #[.pointer (some ⟨a, 0, none⟩)] w fun e w' => e = .returned (.int .i64 (Dm.used D.files : Nat)) ∧ Below w.heap.size w w' := by
  obtain ⟨m, T, hR, -⟩ := h; exact Used_rep hR
end Go.Proofs.YtoecbkndbcblpaaGreatDoor
