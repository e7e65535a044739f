/-
  Disks of a manifest beside a file of another name: what sweep, settle, keep, a crash make of them. Plain facts, no walk. Conditions: those in the theorems.
-/
import Derived.Test.YtbhjpkejdkfenaaGreatDoorManOne
set_option linter.unusedSimpArgs false
set_option linter.unusedVariables false
namespace Go.Proofs.YtbhjpkejdkfenaaGreatDoor
open Go.RowKit Go.Shelf
open Mf (File State Edit)
/-- The name "other". -/
def otherN : ByteArray := ⟨#[111, 116, 104, 101, 114]⟩
def otherL : List UInt8 := otherN.data.toList
/-- A disk: main (synced), if there is one; the spare file, if there is one; and an empty file of another name. -/
def kd (dn : Bool) (fu : Nat) (m : Option (List UInt8)) (x : Option Dm.File) : Dm.Disk :=
  ⟨dn, fu, false, 0, (match m with | none => [] | some d => [(mainL, ⟨d, d.length⟩)]) ++ ((match x with | none => [] | some f => [(spareL, f)]) ++ [(otherL, ⟨[], 0⟩)])⟩
theorem k_mo : (mainL = otherL) = False := eq_false (by decide)
theorem k_om : (otherL = mainL) = False := eq_false (by decide)
theorem k_so : (spareL = otherL) = False := eq_false (by decide)
theorem k_os : (otherL = spareL) = False := eq_false (by decide)
theorem b_mo : bytesBefore mainL otherL = true := by decide
theorem b_so : bytesBefore spareL otherL = true := by decide
theorem n_m : Dm.isName mainL = true := by decide
theorem n_s : Dm.isName spareL = true := by decide
theorem n_o : Dm.isName otherL = true := by decide
theorem kd_new : Dm.create Dm.new otherL = (0, kd false 0 none none) := by
  simp [Dm.create, Dm.new, n_o, Dm.get, Dm.change, Dm.put, Dm.del, Dm.ins, kd]
theorem kd_fuse (m : Option (List UInt8)) (n : Int) : Dm.fuseTo (kd false 0 m none) n = kd false n.toNat m none := rfl
theorem kd_read (fu : Nat) (m : Option (List UInt8)) (x : Option Dm.File) : Dm.read (kd false fu m x) mainL = match m with | none => ([], 4) | some d => (d, 0) := by
  cases m <;> cases x <;> simp [Dm.read, kd, Dm.get, k_om, spare_ne, main_ne]
theorem kd_read_other (fu : Nat) (m : Option (List UInt8)) (x : Option Dm.File) : Dm.read (kd false fu m x) otherL = ([], 0) := by
  cases m <;> cases x <;> simp [Dm.read, kd, Dm.get, k_mo, k_so]
theorem kd_tame (dn : Bool) (fu : Nat) (m : Option (List UInt8)) (x : Option Dm.File) : ∀ k ∈ Dm.keys (kd dn fu m x).files, Tame k := by
  intro k hk
  have ho : Lib.hasPrefix otherL oursL = false := by decide
  cases m <;> cases x <;> simp [Dm.keys, kd] at hk
  · subst hk; exact .inl ho
  · rcases hk with rfl | rfl
    · exact .inr (.inr rfl)
    · exact .inl ho
  · rcases hk with rfl | rfl
    · exact .inr (.inl rfl)
    · exact .inl ho
  · rcases hk with rfl | rfl | rfl
    · exact .inr (.inl rfl)
    · exact .inr (.inr rfl)
    · exact .inl ho
theorem kd_few (dn : Bool) (fu : Nat) (m : Option (List UInt8)) (x : Option Dm.File) : (Dm.keys (kd dn fu m x).files).length ≤ 3 := by
  cases m <;> cases x <;> simp [Dm.keys, kd]
theorem kd_lost (fu : Nat) (m : Option (List UInt8)) (x : Option Dm.File) (t : ByteArray) (h : t.data.toList = m.getD []) : lostC (kd false fu m x) t = false := by
  have e : (⟨t.data.toList.toArray⟩ : ByteArray) = t := by apply ByteArray.ext; simp
  unfold lostC
  rw [kd_read]
  cases m with
  | none => simp at h; simp; rw [← e, h]
  | some d => simp at h; simp; rw [← e, h]
/-- A spare file goes, where the power stays. -/
theorem kd_sweep (m : Option (List UInt8)) (x : Option Dm.File) : sweepC (kd false 0 m x) = (0, kd false 0 m none) := by
  cases m <;> cases x <;> simp [sweepC, Dm.remove, kd, Dm.get, Dm.change, Dm.del, k_os, k_so, main_ne, spare_ne]
theorem kd_sweep_none (fu : Nat) (m : Option (List UInt8)) : sweepC (kd false fu m none) = (0, kd false fu m none) := by
  cases m <;> simp [sweepC, Dm.remove, kd, Dm.get, k_os, main_ne]
theorem kd_sweep_down (fu : Nat) (m : Option (List UInt8)) (x : Option Dm.File) : sweepC (kd true fu m x) = (7, kd true fu m x) := by
  simp [sweepC, Dm.remove, kd]
theorem kd_settle (m : Option (List UInt8)) (x : Option Dm.File) : settleC (kd false 0 m x) = (0, kd false 0 m none) := by
  unfold settleC
  rw [kd_sweep]
  cases m <;> simp [Dm.sync, kd, Dm.get, Dm.change, Dm.syncs, Dm.upd, k_om, k_mo]
/-- The power goes and comes back: main stays; a spare file is there or isn't, as before. -/
theorem kd_again (dn : Bool) (fu : Nat) (m : Option (List UInt8)) (x : Option Dm.File) (keep : List Int) : ∃ x', Dm.start (Dm.crash (kd dn fu m x) keep) = kd false 0 m x' := by
  cases m <;> cases x with
  | none => exact ⟨none, by simp [Dm.start, Dm.crash, kd, Dm.cut, Dm.cutOne]⟩
  | some f =>
    obtain ⟨f1, k1, e1⟩ : ∃ f1 k1, Dm.cutOne keep f = (f1, k1) := ⟨_, _, rfl⟩
    obtain ⟨f2, k2, e2⟩ : ∃ f2 k2, Dm.cutOne [] f1 = (f2, k2) := ⟨_, _, rfl⟩
    refine ⟨some f2, ?_⟩
    simp [Dm.start, Dm.crash, kd, Dm.cut, Dm.cutOne] at e1 e2 ⊢
    simp [e1, e2]
/-! ### keep, wherever the power goes -/
theorem kd_create (fu : Nat) (m : Option (List UInt8)) : Dm.create (kd false fu m none) spareL = if fu = 1 then (7, kd true 0 m none) else (0, kd false (fu - 1) m (some ⟨[], 0⟩)) := by
  by_cases hf : fu = 1 <;> cases m <;>
    simp [Dm.create, kd, n_s, Dm.get, Dm.change, Dm.put, Dm.del, Dm.ins, main_ne, spare_ne, k_mo, k_om, k_so, k_os, before_main, before_spare, b_so, b_mo, hf]
theorem kd_append (fu : Nat) (m : Option (List UInt8)) {tx : List UInt8} (h : tx.length ≤ 1048576) : Dm.append (kd false fu m (some ⟨[], 0⟩)) spareL tx = if fu = 1 then (7, kd true 0 m (some ⟨tx, 0⟩)) else (0, kd false (fu - 1) m (some ⟨tx, 0⟩)) := by
  have e : (1048576 < tx.length) = False := eq_false (by omega)
  by_cases hf : fu = 1 <;> cases m <;>
    simp [Dm.append, kd, Dm.get, Dm.change, Dm.adds, Dm.upd, e, main_ne, spare_ne, k_mo, k_om, k_so, k_os, hf]
theorem kd_sync (fu : Nat) (m : Option (List UInt8)) (tx : List UInt8) : Dm.sync (kd false fu m (some ⟨tx, 0⟩)) spareL = if fu = 1 then (7, kd true 0 m (some ⟨tx, 0⟩)) else (0, kd false (fu - 1) m (some ⟨tx, tx.length⟩)) := by
  by_cases hf : fu = 1 <;> cases m <;>
    simp [Dm.sync, kd, Dm.get, Dm.change, Dm.syncs, Dm.upd, main_ne, spare_ne, k_mo, k_om, k_so, k_os, hf]
theorem kd_move (fu : Nat) (m : Option (List UInt8)) (tx : List UInt8) : Dm.rename (kd false fu m (some ⟨tx, tx.length⟩)) spareL mainL = if fu = 1 then (7, kd true 0 m (some ⟨tx, tx.length⟩)) else (0, kd false (fu - 1) (some tx) none) := by
  by_cases hf : fu = 1 <;> cases m <;>
    simp [Dm.rename, kd, Dm.get, n_m, Dm.change, Dm.put, Dm.del, Dm.ins, main_ne, spare_ne, k_mo, k_om, k_so, k_os, before_main, before_spare, b_so, b_mo, hf]
theorem kd_ends (fu : Nat) (m : Option (List UInt8)) (x : Option Dm.File) : keepE (kd true fu m x) 7 = (7, kd true fu m x) := by
  unfold keepE
  rw [kd_sweep_down]
  simp
theorem keepW_one {D D1 D2 : Dm.Disk} {tx : List UInt8} {c1 c2 : Nat} {z1 z2 : Bool} (h : KeepW D tx c1 D1 z1) (g : KeepW D tx c2 D2 z2) : c2 = c1 ∧ D2 = D1 ∧ z2 = z1 := by
  have a := keepC_way h
  rw [keepC_way g] at a
  simp only [Prod.mk.injEq] at a
  exact a
/-- What keep makes of it: all of it, or, where the power goes, nothing but a spare file. -/
theorem kd_keep {fu : Nat} {m : Option (List UInt8)} {tx : List UInt8} {c : Nat} {D' : Dm.Disk} {z : Bool} (hl : tx.length ≤ 1048576) (h : KeepW (kd false fu m none) tx c D' z) :
    (c = 0 ∧ z = true ∧ ∃ fu', D' = kd false fu' (some tx) none ∧ (fu = 0 → fu' = 0)) ∨ (c = 7 ∧ z = false ∧ fu ≠ 0 ∧ ∃ x, D' = kd true 0 m x) := by
  have h0 := kd_sweep_none fu m
  have h1 := kd_create fu m
  by_cases e1 : fu = 1
  · rw [if_pos e1] at h1
    obtain ⟨rfl, rfl, rfl⟩ := keepW_one (.noMake h0 h1 (by decide)) h
    exact .inr ⟨rfl, rfl, by omega, _, rfl⟩
  rw [if_neg e1] at h1
  have h2 := kd_append (fu - 1) m hl
  by_cases e2 : fu - 1 = 1
  · rw [if_pos e2] at h2
    obtain ⟨rfl, rfl, rfl⟩ := keepW_one (.noAppend h0 h1 h2 (by decide)) h
    rw [kd_ends]
    exact .inr ⟨rfl, rfl, by omega, some ⟨tx, 0⟩, rfl⟩
  rw [if_neg e2] at h2
  have h3 := kd_sync (fu - 1 - 1) m tx
  by_cases e3 : fu - 1 - 1 = 1
  · rw [if_pos e3] at h3
    obtain ⟨rfl, rfl, rfl⟩ := keepW_one (.noSync h0 h1 h2 h3 (by decide)) h
    rw [kd_ends]
    exact .inr ⟨rfl, rfl, by omega, some ⟨tx, 0⟩, rfl⟩
  rw [if_neg e3] at h3
  have h4 := kd_move (fu - 1 - 1 - 1) m tx
  by_cases e4 : fu - 1 - 1 - 1 = 1
  · rw [if_pos e4] at h4
    obtain ⟨rfl, rfl, rfl⟩ := keepW_one (.noMove h0 h1 h2 h3 h4 (by decide)) h
    rw [kd_ends]
    exact .inr ⟨rfl, rfl, by omega, some ⟨tx, tx.length⟩, rfl⟩
  rw [if_neg e4] at h4
  obtain ⟨rfl, rfl, rfl⟩ := keepW_one (.all h0 h1 h2 h3 h4) h
  exact .inl ⟨rfl, rfl, _, rfl, by omega⟩
end Go.Proofs.YtbhjpkejdkfenaaGreatDoor
