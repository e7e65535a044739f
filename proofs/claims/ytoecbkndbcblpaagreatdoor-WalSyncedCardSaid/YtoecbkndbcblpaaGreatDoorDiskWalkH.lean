/-
  Walks over package disk: Sync, Remove, Rename, Append. Conditions: those in the theorems.
-/
import Derived.Test.YtoecbkndbcblpaaGreatDoorDiskWalkG
namespace Go.Proofs.YtoecbkndbcblpaaGreatDoor
open Go.RowKit Go.Maps

/-- A change, whichever way the fuse has it. -/
theorem change_disk {S : Nat → Prop} {w0 w : World} {a m : Nat} {D : Dm.Disk} {T : List (List UInt8 × Ent)} (h : Rep w a m D T) (hW : Within S a m T) (h0 : Turned S w0 w) {g1 g2 : Nat} {cb1 cb2 : Array Value}
    (eg1 : ∀ args w, (callFunc g1 args).run Tryz.prog w = .ok (.enter g1 args) w) (eg2 : ∀ args w, (callFunc g2 args).run Tryz.prog w = .ok (.enter g2 args) w) (whole torn : List (List UInt8 × Dm.File) → List (List UInt8 × Dm.File))
    (h1 : ∀ W D1, Rep W a m D1 T → D1.files = D.files → Turned (· = a) w W → Calls Tryz.prog g1 cb1 W fun e w' => e = .returned (.tuple #[]) ∧ ∃ T', Rep w' a m { D1 with files := whole D1.files } T' ∧ Within (Grow S w0) a m T' ∧ Turned (Grow S w0) W w')
    (h2 : ∀ W D1, Rep W a m D1 T → D1.files = D.files → Turned (· = a) w W → Calls Tryz.prog g2 cb2 W fun e w' => e = .returned (.tuple #[]) ∧ ∃ T', Rep w' a m { D1 with files := torn D1.files } T' ∧ Within (Grow S w0) a m T' ∧ Turned (Grow S w0) W w') :
    Calls Tryz.prog 42 #[.pointer (some ⟨a, 0, none⟩), .func (.func g1) #[] cb1, .func (.func g2) #[] cb2] w fun e w' =>
      e = .returned (.int .i64 ((Dm.change D whole torn).1 : Nat)) ∧ Disk w' a (Dm.change D whole torn).2 (Grow S w0) ∧ Turned S w0 w' := by
  have fin : ∀ W w', Turned (· = a) w W → Turned (Grow S w0) W w' → Turned S w0 w' := fun W w' ht ht' => (h0.trans ht fun i e => .inl (e ▸ hW.1)).trans ht' fun i e => e
  by_cases hf : D.fuse = 1
  · have hv : Dm.change D whole torn = (7, { D with down := true, fuse := 0, files := torn D.files }) := by unfold Dm.change; rw [if_pos hf]
    rw [hv]
    exact change_goes h hf eg2 _ (fun w' => Disk w' a { D with down := true, fuse := 0, files := torn D.files } (Grow S w0) ∧ Turned S w0 w') fun W hR hT => (h2 W _ hR rfl hT).mono fun e w' ⟨he, T', hR', hW', hT'⟩ => ⟨he, ⟨m, T', hR', hW'⟩, fin W w' hT hT'⟩
  · have hv : Dm.change D whole torn = (0, { D with fuse := D.fuse - 1, files := whole D.files }) := by unfold Dm.change; rw [if_neg hf]
    rw [hv]
    exact change_on h hf eg1 _ (fun w' => Disk w' a { D with fuse := D.fuse - 1, files := whole D.files } (Grow S w0) ∧ Turned S w0 w') fun W hR hT => (h1 W _ hR rfl hT).mono fun e w' ⟨he, T', hR', hW', hT'⟩ => ⟨he, ⟨m, T', hR', hW'⟩, fin W w' hT hT'⟩
theorem nothing_disk {S : Nat → Prop} {w0 : World} {a m : Nat} {T : List (List UInt8 × Ent)} (hW : Within S a m T) (W : World) (D1 : Dm.Disk) (hR : Rep W a m D1 T) :
    Calls Tryz.prog 45 #[] W fun e w' => e = .returned (.tuple #[]) ∧ ∃ T', Rep w' a m { D1 with files := id D1.files } T' ∧ Within (Grow S w0) a m T' ∧ Turned (Grow S w0) W w' :=
  (nothing_any W).mono fun e w' ⟨he, hw⟩ => ⟨he, T, by rw [← hw]; exact ⟨hR, hW.mono grow_old, Turned.refl _ _⟩⟩

theorem Rep.alloc {w : World} {a m : Nat} {D : Dm.Disk} {T : List (List UInt8 × Ent)} (h : Rep w a m D T) (o : Obj) : Rep (w.alloc o) a m D T := h.heap fun k hk => Below.heap_alloc _ _ _ hk
theorem Disk.alloc {S : Nat → Prop} {w : World} {a : Nat} {D : Dm.Disk} (h : Disk w a D S) (o : Obj) : Disk (w.alloc o) a D S := by
  obtain ⟨m, T, h1, h2⟩ := h; exact ⟨m, T, h1.alloc o, h2⟩

set_option maxRecDepth 100000 in
set_option maxHeartbeats 2000000 in
theorem Sync_disk {w : World} {a : Nat} {D : Dm.Disk} {S : Nat → Prop} (h : Disk w a D S) (s : ByteArray) (hm : s.size ≤ maxLen) :
    Calls Tryz.prog 55 #[.pointer (some ⟨a, 0, none⟩), .string s] w fun e w' =>
      e = .returned (.int .i64 ((Dm.sync D s.data.toList).1 : Nat)) ∧ Disk w' a (Dm.sync D s.data.toList).2 (Grow S w) ∧ Turned S w w' := by
  obtain ⟨m, T, hR, hS⟩ := h
  have hsame : ∀ o, Disk (w.alloc o) a D (Grow S w) ∧ Turned S w (w.alloc o) := fun o => ⟨⟨m, T, hR.alloc o, hS.mono grow_old⟩, turned_alloc w o⟩
  have hgt := hR.get s.data.toList
  have hrt := hR.right
  cases hd : D.down with
  | true =>
    have hv : Dm.sync D s.data.toList = (7, D) := by unfold Dm.sync; rw [hd]; rfl
    rw [hv]
    have hf := find_down hR hd s
    have HS := Lib.hid hsame
    clear hR hsame hgt hrt hd hv
    go_enter Tryz.func55, Tryz.ntmps55
    go_wp2_with fail
    refine hf.mono ?_
    rintro e w1 ⟨rfl, rfl⟩
    go_wp2
    go_ret
    exact ⟨rfl, HS.out _⟩
  | false =>
    have hf := find_on hR hd s hm
    cases hg : Dm.get T s.data.toList with
    | none =>
      have hv : Dm.sync D s.data.toList = (4, D) := by unfold Dm.sync; rw [hd, hgt, hg]; rfl
      rw [hv]
      rw [hg] at hf
      have HS := Lib.hid hsame
      clear hR hsame hgt hrt hd hv hg
      go_enter Tryz.func55, Tryz.ntmps55
      go_wp2_with fail
      refine hf.mono ?_
      rintro e w1 ⟨rfl, rfl⟩
      go_wp2
      go_ret
      exact ⟨rfl, HS.out _⟩
    | some x =>
      have hv : Dm.sync D s.data.toList = Dm.change D (Dm.syncs s.data.toList) id := by unfold Dm.sync; rw [hd, hgt, hg]; rfl
      rw [hv]
      rw [hg] at hf
      have hlt := hR.lt
      have hmx := mem_get hg
      have hnew : w.heap.size ∉ entBlks x := fun e => by have := hlt.2.2 _ hmx _ e; omega
      have hch := change_disk (w0 := w) (hR.alloc (.cells #[.pointer (some ⟨x.blk, 0, none⟩)] 69)) hS (turned_alloc w _) (g1 := 85) (cb1 := #[.pointer (some ⟨w.heap.size, 0, none⟩)]) (g2 := 45) (cb2 := #[])
        (enters_of Tryz.func85 (by kernel_rfl) rfl) (enters_of Tryz.func45 (by kernel_rfl) rfl) (Dm.syncs s.data.toList) id
        (fun W D1 hRW hfs hTW => (sync1_rep hRW s.data.toList x hg w.heap.size ((hTW.block _ (by simp) (by omega)).trans (heap_alloc_new w _)) hnew
            (hRW.right.upd (f := x.file) (by rw [hRW.get, hg]; rfl) _ (by have := hrt.get (n := s.data.toList) (f := x.file) (by rw [hgt, hg]; rfl); simp; omega) D1.down D1.fuse hRW.right.fuse)).mono fun e w' ⟨he, hR', hT'⟩ =>
          ⟨he, _, hR', (hS.mono grow_old).upd fun k hk => grow_old _ (hS.2.2 _ hmx k (by simp [entBlks, hk])), hT'.mono fun k hk => grow_old _ (hS.2.2 _ hmx k hk)⟩)
        (fun W D1 hRW _ _ => nothing_disk hS W D1 hRW)
      have HC := Lib.hid hch
      clear hR hsame hgt hrt hd hv hg hch hlt hmx hnew hS
      go_enter Tryz.func55, Tryz.ntmps55
      go_wp2_with fail
      refine hf.mono ?_
      rintro e w1 ⟨rfl, rfl⟩
      go_wp2_with fail
      refine HC.out.mono ?_
      rintro e w1 ⟨rfl, hq⟩
      have HQ := Lib.hid hq
      clear hq
      go_wp2
      go_ret
      exact ⟨rfl, HQ.out⟩
end Go.Proofs.YtoecbkndbcblpaaGreatDoor
