/-
  Walks over package disk: Read, change. Conditions: those in the theorems.
-/
import Derived.Test.YtoecbkndbcblpaaGreatDoorDiskWalkB
namespace Go.Proofs.YtoecbkndbcblpaaGreatDoor
open Go.RowKit Go.Maps
theorem Read_nil (s : ByteArray) (w : World) :
    Calls Tryz.prog 24 #[.pointer none, .string s] w fun e w' => e = .returned (.tuple #[.string ⟨#[]⟩, .int .i64 2]) ∧ w = w' := by
  go_enter Tryz.func24, Tryz.ntmps24
  go_wp2_with fail
  refine (find_nil s _).mono ?_
  rintro e w1 ⟨rfl, rfl⟩
  go_wp2
  go_ret2
  exact ⟨rfl, rfl⟩
theorem Read_rep {w : World} {a m : Nat} {D : Dm.Disk} {T : List (List UInt8 × Ent)} (h : Rep w a m D T) (s : ByteArray) (hm : s.size ≤ maxLen) :
    Calls Tryz.prog 24 #[.pointer (some ⟨a, 0, none⟩), .string s] w fun e w' => e = .returned (.tuple #[.string ⟨(Dm.read D s.data.toList).1.toArray⟩, .int .i64 ((Dm.read D s.data.toList).2 : Nat)]) ∧ w = w' := by
  cases hd : D.down with
  | true =>
    have hf := find_down h hd s
    have hv : Dm.read D s.data.toList = ([], 7) := by unfold Dm.read; rw [hd]; rfl
    rw [hv]
    clear hd hv h
    go_enter Tryz.func24, Tryz.ntmps24
    go_wp2_with fail
    refine hf.mono ?_
    rintro e w1 ⟨rfl, rfl⟩
    go_wp2
    go_ret2
    exact ⟨rfl, rfl⟩
  | false =>
    have hf := find_on h hd s hm
    have hg := h.get s.data.toList
    cases hq : Dm.get T s.data.toList with
    | none =>
      have hv : Dm.read D s.data.toList = ([], 4) := by unfold Dm.read; rw [hd, hg, hq]; rfl
      rw [hv]
      rw [hq] at hf
      clear hd hv h hg hq
      go_enter Tryz.func24, Tryz.ntmps24
      go_wp2_with fail
      refine hf.mono ?_
      rintro e w1 ⟨rfl, rfl⟩
      go_wp2
      go_ret2
      exact ⟨rfl, rfl⟩
    | some x =>
      have hv : Dm.read D s.data.toList = (x.file.data, 0) := by unfold Dm.read; rw [hd, hg, hq]; rfl
      rw [hv]
      rw [hq] at hf
      have he := h.ents _ (Dm.get_mem hq)
      clear hd hv h hg hq
      obtain ⟨b, row, data, synced⟩ := x
      obtain ⟨p, cap, hr, -⟩ := he.shape
      simp only at hr
      subst hr
      obtain ⟨c0, -, -⟩ := cells2 he.1
      have hcv := text_of_row he.2
      clear he
      simp only at c0 hcv hf ⊢
      go_enter Tryz.func24, Tryz.ntmps24
      go_wp2_with fail
      refine hf.mono ?_
      rintro e w1 ⟨rfl, rfl⟩
      go_wp2
      go_ret2
      exact ⟨rfl, rfl⟩

theorem set1 {w : World} {a i : Nat} {cs : Array Value} {T : TypeId} (h : w.heap[a]? = some (.cells cs T (0, 0))) (v : Value) : (w.setCell ⟨a, i, none⟩ v).heap[a]? = some (.cells (cs.setIfInBounds i v) T (0, 0)) := heap_setCell_same w a i cs T v h
theorem set_other (w : World) (a i k : Nat) (v : Value) (h : k ≠ a) : (w.setCell ⟨a, i, none⟩ v).heap[k]? = w.heap[k]? := Below.heap_setCell _ _ _ _ h

/-- A change that the fuse does not stop. -/
theorem change_on {w : World} {a m : Nat} {D : Dm.Disk} {T : List (List UInt8 × Ent)} (h : Rep w a m D T) (hd : D.fuse ≠ 1) {g : Nat} {cb : Array Value} (eg : ∀ args w, (callFunc g args).run Tryz.prog w = .ok (.enter g args) w) (tv : Value) (Q : World → Prop)
    (hc : ∀ W, Rep W a m { D with fuse := D.fuse - 1 } T → Turned (· = a) w W → Calls Tryz.prog g cb W fun e w' => e = .returned (.tuple #[]) ∧ Q w') :
    Calls Tryz.prog 42 #[.pointer (some ⟨a, 0, none⟩), .func (.func g) #[] cb, tv] w fun e w' => e = .returned (.int .i64 0) ∧ Q w' := by
  obtain ⟨c0, c1, c2, c3, c4, fz⟩ := cells5 h.cell
  have fz1 := fz 1
  have d1 : ((D.fuse : Int) == 1) = false := by rw [beq_eq_false_iff_ne]; omega
  have i0 : (0 : Int) ≤ (D.fuse : Int) := by omega
  have i1 := h.right.fuse
  have hR : Rep (w.setCell ⟨a, 1, none⟩ (.int .i64 (max ((D.fuse : Int) - 1) 0))) a m { D with fuse := D.fuse - 1 } T := by
    refine h.keep (fun k _ hk => set_other _ _ _ _ _ hk) ?_ rfl ⟨h.right.sorted, h.right.names, h.right.few, h.right.short, by simp; omega, h.right.room⟩
    rw [set1 h.cell]
    have : max ((D.fuse : Int) - 1) 0 = ((D.fuse - 1 : Nat) : Int) := by omega
    rw [this]; rfl
  have HC := Lib.hid (hc _ hR (turned_setCell _ _ _ rfl))
  clear h hc hd fz hR
  go_enter Tryz.func42, Tryz.ntmps42
  go_wp2_with fail
  refine HC.out.mono ?_
  rintro e w1 ⟨rfl, hq⟩
  have HQ := Lib.hid hq
  clear hq
  go_wp2_with fail
  go_ret
  exact ⟨rfl, HQ.out⟩

/-- The change in which the power goes. -/
theorem change_goes {w : World} {a m : Nat} {D : Dm.Disk} {T : List (List UInt8 × Ent)} (h : Rep w a m D T) (hd : D.fuse = 1) {g : Nat} {cb : Array Value} (eg : ∀ args w, (callFunc g args).run Tryz.prog w = .ok (.enter g args) w) (wv : Value) (Q : World → Prop)
    (hc : ∀ W, Rep W a m { D with down := true, fuse := 0 } T → Turned (· = a) w W → Calls Tryz.prog g cb W fun e w' => e = .returned (.tuple #[]) ∧ Q w') :
    Calls Tryz.prog 42 #[.pointer (some ⟨a, 0, none⟩), wv, .func (.func g) #[] cb] w fun e w' => e = .returned (.int .i64 7) ∧ Q w' := by
  obtain ⟨c0, c1, c2, c3, c4, fz⟩ := cells5 h.cell
  have fz1 := fz 1
  have fz0 := fz 0
  have hR : Rep ((w.setCell ⟨a, 1, none⟩ (.int .i64 0)).setCell ⟨a, 0, none⟩ (.bool true)) a m { D with down := true, fuse := 0 } T := by
    refine h.keep (fun k _ hk => (set_other _ _ _ _ _ hk).trans (set_other _ _ _ _ _ hk)) ?_ rfl ⟨h.right.sorted, h.right.names, h.right.few, h.right.short, by simp, h.right.room⟩
    rw [set1 (set1 h.cell _)]; rfl
  have HC := Lib.hid (hc _ hR (Turned.trans (S := (· = a)) (S' := (· = a)) (turned_setCell (S := (· = a)) _ _ _ rfl) (turned_setCell (S := (· = a)) _ _ _ rfl) (fun _ e => .inl e)))
  rw [hd] at c1
  clear h hc hd fz hR
  go_enter Tryz.func42, Tryz.ntmps42
  go_wp2_with fail
  refine HC.out.mono ?_
  rintro e w1 ⟨rfl, hq⟩
  have HQ := Lib.hid hq
  clear hq
  go_wp2_with fail
  go_ret
  exact ⟨rfl, HQ.out⟩
end Go.Proofs.YtoecbkndbcblpaaGreatDoor
