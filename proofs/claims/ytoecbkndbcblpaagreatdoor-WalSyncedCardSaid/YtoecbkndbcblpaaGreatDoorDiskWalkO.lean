/-
  Walks over package disk: Crash, Start. Conditions: those in the theorems.
-/
import Derived.Test.YtoecbkndbcblpaaGreatDoorDiskWalkN
namespace Go.Proofs.YtoecbkndbcblpaaGreatDoor
open Go.RowKit Go.Maps Go.Sort Go.Shelf

theorem Disk.tight {w : World} {a : Nat} {D : Dm.Disk} {S : Nat → Prop} (h : Disk w a D S) : Disk w a D fun k => S k ∧ k < w.heap.size := by
  obtain ⟨m, T, h1, h2⟩ := h
  exact ⟨m, T, h1, ⟨⟨h2.1, h1.lt.1⟩, ⟨h2.2.1, h1.lt.2.1⟩, fun p hp k hk => ⟨h2.2.2 p hp k hk, h1.lt.2.2 p hp k hk⟩⟩⟩
theorem Ints.mono {W : World} {S S' : Nat → Prop} {p : Option Addr} {ks : List Int} (h : Ints W S p ks) (hs : ∀ k, S' k → S k) : Ints W S' p ks := fun i hi => by
  obtain ⟨A, h1, h2, h3, h4⟩ := h i hi
  exact ⟨A, h1, fun e => h2 (hs _ e), h3, h4⟩
theorem cut_disk {w : World} {a : Nat} {D : Dm.Disk} {S : Nat → Prop} (h : Disk w a D S) (p : Option Addr) (cap : Nat) (ks : List Int) (hcap : ks.length ≤ cap) (hk : Ints w S p ks) :
    Calls Tryz.prog 35 #[.pointer (some ⟨a, 0, none⟩), .slice p ks.length cap] w fun e w' => e = .returned (.tuple #[]) ∧ Disk w' a { D with files := Dm.cut ks D.files } S ∧ Turned S w w' :=
  (cut_disk0 h.tight (fun _ h => h.2) p cap ks hcap (hk.mono fun _ h => h.1)).mono fun _ _ ⟨he, hd, ht⟩ => ⟨he, hd.mono fun _ h => h.1, ht.mono fun _ h => h.1⟩

theorem Crash_nil (v : Value) (w : World) : Calls Tryz.prog 13 #[.pointer none, v] w fun e w' => e = .returned (.tuple #[]) ∧ w = w' := by
  go_enter Tryz.func13, Tryz.ntmps13
  go_wp2
  go_returns
  exact ⟨rfl, rfl⟩
theorem Start_nil (w : World) : Calls Tryz.prog 14 #[.pointer none] w fun e w' => e = .returned (.tuple #[]) ∧ w = w' := by
  go_enter Tryz.func14, Tryz.ntmps14
  go_wp2
  go_returns
  exact ⟨rfl, rfl⟩

set_option maxRecDepth 100000 in
theorem Crash_disk {w : World} {a : Nat} {D : Dm.Disk} {S : Nat → Prop} (h : Disk w a D S) (p : Option Addr) (cap : Nat) (ks : List Int) (hcap : ks.length ≤ cap) (hk : Ints w S p ks) :
    Calls Tryz.prog 13 #[.pointer (some ⟨a, 0, none⟩), .slice p ks.length cap] w fun e w' => e = .returned (.tuple #[]) ∧ Disk w' a (Dm.crash D ks) S ∧ Turned S w w' := by
  obtain ⟨m, T, hR, hS⟩ := h
  obtain ⟨c0, c1, -, -, -, fz⟩ := cells5 hR.cell
  have f0 := fz 0
  have f1 := fz 1
  have ht : Turned S w ((w.setCell ⟨a, 0, none⟩ (.bool true)).setCell ⟨a, 1, none⟩ (.int .i64 0)) := (turned_setCell (S := S) w _ _ hS.1).trans (turned_setCell (S := S) _ _ _ hS.1) fun _ e => .inl e
  have hD : Disk ((w.setCell ⟨a, 0, none⟩ (.bool true)).setCell ⟨a, 1, none⟩ (.int .i64 0)) a { D with down := true, fuse := 0 } S := by
    refine ⟨m, T, hR.keep (fun k _ hk => (set_other _ _ _ _ _ hk).trans (set_other _ _ _ _ _ hk)) ?_ rfl ⟨hR.right.sorted, hR.right.names, hR.right.few, hR.right.short, by simp, hR.right.room⟩, hS⟩
    rw [set1 (set1 hR.cell _)]; rfl
  have hc := cut_disk hD p cap ks hcap (hk.turned ht fun _ _ h => h)
  have HC := Lib.hid hc
  have HT := Lib.hid ht
  clear hR hS fz hD hc ht hk hcap
  go_enter Tryz.func13, Tryz.ntmps13
  go_wp2_with fail
  refine HC.out.mono ?_
  rintro e w2 ⟨rfl, hd, ht⟩
  have H1 := Lib.hid hd
  have H2 := Lib.hid ht
  clear hd ht
  go_wp2
  go_returns
  exact ⟨rfl, H1.out, HT.out.trans H2.out fun _ e => .inl e⟩

set_option maxRecDepth 100000 in
theorem Start_disk {w : World} {a : Nat} {D : Dm.Disk} {S : Nat → Prop} (h : Disk w a D S) :
    Calls Tryz.prog 14 #[.pointer (some ⟨a, 0, none⟩)] w fun e w' => e = .returned (.tuple #[]) ∧ Disk w' a (Dm.start D) S ∧ Turned S w w' := by
  have hc := cut_disk h none 0 [] (Nat.le_refl _) (fun i hi => nomatch hi)
  have HH := Lib.hid h
  obtain ⟨m, T, hR, hS⟩ := h
  obtain ⟨c0, -, -, -, -, -⟩ := cells5 hR.cell
  cases hd : D.down with
  | false =>
    rw [hd] at c0
    have hv : Dm.start D = D := by unfold Dm.start; rw [hd]; rfl
    rw [hv]
    clear hR hS hc hd hv
    go_enter Tryz.func14, Tryz.ntmps14
    go_wp2
    go_returns
    exact ⟨rfl, HH.out, Turned.refl _ _⟩
  | true =>
    rw [hd] at c0
    have hv : Dm.start D = { D with down := false, files := Dm.cut [] D.files } := by unfold Dm.start; rw [hd]; rfl
    rw [hv]
    have HC := Lib.hid hc
    clear hR hS hc hd hv
    go_enter Tryz.func14, Tryz.ntmps14
    go_wp2_with fail
    refine HC.out.mono ?_
    rintro e w2 ⟨rfl, ⟨m2, T2, hR2, hS2⟩, ht⟩
    obtain ⟨d0, -, -, -, -, fz⟩ := cells5 hR2.cell
    have f0 := fz 0
    have hD : Disk (w2.setCell ⟨a, 0, none⟩ (.bool false)) a { D with down := false, files := Dm.cut [] D.files } S := by
      refine ⟨m2, T2, hR2.keep (fun k _ hk => set_other _ _ _ _ _ hk) ?_ rfl ⟨hR2.right.sorted, hR2.right.names, hR2.right.few, hR2.right.short, hR2.right.fuse, hR2.right.room⟩, hS2⟩
      rw [set1 hR2.cell]; rfl
    have H1 := Lib.hid hD
    have H2 := Lib.hid (ht.trans (turned_setCell (S := S) w2 ⟨a, 0, none⟩ (.bool false) hS2.1) fun _ e => .inl e)
    clear hR2 hS2 hD ht fz
    go_wp2
    go_returns
    exact ⟨rfl, H1.out, H2.out⟩
end Go.Proofs.YtoecbkndbcblpaaGreatDoor
