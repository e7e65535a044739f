/-
  Walks over package manifest: a manifest beside its disk: made, sweep, settle, lost. Conditions: those in the theorems.
-/
import Derived.Test.YtbhjpkejdkfenaaGreatDoorManReadS
import Derived.Test.YtbhjpkejdkfenaaGreatDoorWalBox
import Derived.Test.YtbhjpkejdkfenaaGreatDoorDiskRoom
set_option linter.unusedSimpArgs false
set_option linter.unusedVariables false
namespace Go.Proofs.YtbhjpkejdkfenaaGreatDoor
open Go.RowKit Go.Shelf
open Mf (File State)

def mainN : ByteArray := ⟨#[109, 97, 110, 105, 102, 101, 115, 116, 46, 109, 97, 105, 110]⟩
def spareN : ByteArray := ⟨#[109, 97, 110, 105, 102, 101, 115, 116, 46, 110, 101, 119]⟩
def mainL : List UInt8 := mainN.data.toList
def spareL : List UInt8 := spareN.data.toList
/-- A manifest's block: its disk at a, what its file has, whether it is dead. -/
def manO (a : Nat) (t : ByteArray) (dead : Bool) : Obj := .cells #[.pointer (some ⟨a, 0, none⟩), .string t, .bool dead] 50 (0, 0)
theorem man_cells {W : World} {b a : Nat} {t : ByteArray} {d : Bool} (h : W.heap[b]? = some (manO a t d)) : W.cell? ⟨b, 0, none⟩ = some (.pointer (some ⟨a, 0, none⟩)) ∧ W.cell? ⟨b, 1, none⟩ = some (.string t) ∧ W.cell? ⟨b, 2, none⟩ = some (.bool d) ∧ ∀ i, W.frozen? ⟨b, i, none⟩ = false := by
  unfold manO at h
  refine ⟨?_, ?_, ?_, fun i => frozen_of_row W b i _ _ h⟩ <;> rw [cell_of_row W b _ _ _ _ h] <;> rfl
section
variable {w0 w : World} {a b : Nat} {D D' : Dm.Disk} {B : List (Nat × Obj)} {t : ByteArray} {dead : Bool}
theorem Bx.man (h : Bx w0 w a D ((b, manO a t dead) :: B)) : w.heap[b]? = some (manO a t dead) := h.box _ List.mem_cons_self
set_option maxHeartbeats 1000000 in
theorem made_b (h : w.heap[b]? = some (manO a t dead)) : Calls Tryz.prog 52 #[.pointer (some ⟨b, 0, none⟩)] w fun e w' => e = .returned (.bool true) ∧ w' = w := by
  obtain ⟨c0, c1, c2, -⟩ := man_cells h
  clear h
  go_enter Tryz.func52, Tryz.ntmps52
  go_wp2_with fail
  go_ret
  exact ⟨rfl, rfl⟩
/-- sweep: the spare file goes, if there is one. -/
def sweepC (D : Dm.Disk) : Nat × Dm.Disk := (if (Dm.remove D spareL).1 = 4 then 0 else (Dm.remove D spareL).1, (Dm.remove D spareL).2)
set_option maxHeartbeats 1000000 in
theorem sweep_b (h : Bx w0 w a D ((b, manO a t dead) :: B)) {c : Nat} (e : sweepC D = (c, D')) :
    Calls Tryz.prog 79 #[.pointer (some ⟨b, 0, none⟩)] w fun e w' => e = .returned (.int .i64 (c : Nat)) ∧ Bx w0 w' a D' ((b, manO a t dead) :: B) := by
  obtain ⟨c0, -, -, -⟩ := man_cells h.man
  obtain ⟨c1, D1, hr⟩ : ∃ c1 D1, Dm.remove D spareL = (c1, D1) := ⟨_, _, rfl⟩
  unfold sweepC at e
  rw [hr] at e
  simp only [Prod.mk.injEq] at e
  obtain ⟨e1, rfl⟩ := e
  have HR := Lib.hid (remove_b h spareN (by decide) hr)
  have HE := Lib.hid e1
  have i0 : (0 : Int) ≤ (c1 : Int) := by omega
  clear h hr e1
  unfold spareN at HR
  go_enter Tryz.func79, Tryz.ntmps79
  go_wp2_with fail
  refine HR.out.mono ?_
  rintro e w2 ⟨rfl, h2⟩
  have H2 := Lib.hid h2
  clear h2
  by_cases h4 : c1 = 4
  · have e4 : ((c1 : Int) != 4) = false := by rw [h4]; rfl
    have HC : Hid (c = 0) := Lib.hid (by rw [← HE.out, if_pos h4])
    clear h4
    go_wp2_with fail
    go_ret
    exact ⟨by rw [HC.out]; rfl, H2.out⟩
  · have e4 : ((c1 : Int) != 4) = true := by rw [bne_iff_ne]; omega
    have HC : Hid (c = c1) := Lib.hid (by rw [← HE.out, if_neg h4])
    clear h4
    go_wp2_with fail
    go_ret
    exact ⟨by rw [HC.out]; rfl, H2.out⟩
/-- settle: sweep; what was read stays. -/
def settleC (D : Dm.Disk) : Nat × Dm.Disk :=
  if (sweepC D).1 ≠ 0 then sweepC D else (if (Dm.sync (sweepC D).2 mainL).1 = 4 then 0 else (Dm.sync (sweepC D).2 mainL).1, (Dm.sync (sweepC D).2 mainL).2)
set_option maxHeartbeats 2000000 in
theorem settle_b (h : Bx w0 w a D ((b, manO a t dead) :: B)) {c : Nat} (e : settleC D = (c, D')) :
    Calls Tryz.prog 50 #[.pointer (some ⟨b, 0, none⟩)] w fun e w' => e = .returned (.int .i64 (c : Nat)) ∧ Bx w0 w' a D' ((b, manO a t dead) :: B) := by
  obtain ⟨c1, D1, hs⟩ : ∃ c1 D1, sweepC D = (c1, D1) := ⟨_, _, rfl⟩
  unfold settleC at e
  rw [hs] at e
  have HS := Lib.hid (sweep_b h hs)
  have HE := Lib.hid e
  have i0 : (0 : Int) ≤ (c1 : Int) := by omega
  clear h hs e
  go_enter Tryz.func50, Tryz.ntmps50
  go_wp2_with fail
  refine HS.out.mono ?_
  rintro e w2 ⟨rfl, h2⟩
  have H2 := Lib.hid h2
  by_cases h0 : c1 = 0
  · subst h0
    obtain ⟨c0, -, -, -⟩ := man_cells h2.man
    obtain ⟨c3, D3, hr⟩ : ∃ c3 D3, Dm.sync D1 mainL = (c3, D3) := ⟨_, _, rfl⟩
    have he := HE.out
    simp only [ne_eq, not_true_eq_false, if_false, hr, Prod.mk.injEq] at he
    obtain ⟨e1, rfl⟩ := he
    have HR := Lib.hid (sync_b h2 mainN (by decide) hr)
    have HF := Lib.hid e1
    have i1 : (0 : Int) ≤ (c3 : Int) := by omega
    unfold mainN at HR
    clear h2 hr e1
    go_wp2_with fail
    refine HR.out.mono ?_
    rintro e w3 ⟨rfl, h3⟩
    have H3 := Lib.hid h3
    clear h3
    by_cases h4 : c3 = 4
    · have e4 : ((c3 : Int) != 4) = false := by rw [h4]; rfl
      have HC : Hid (c = 0) := Lib.hid (by rw [← HF.out, if_pos h4])
      clear h4
      go_wp2_with fail
      go_ret
      exact ⟨by rw [HC.out]; rfl, H3.out⟩
    · have e4 : ((c3 : Int) != 4) = true := by rw [bne_iff_ne]; omega
      have HC : Hid (c = c3) := Lib.hid (by rw [← HF.out, if_neg h4])
      clear h4
      go_wp2_with fail
      go_ret
      exact ⟨by rw [HC.out]; rfl, H3.out⟩
  · have e0 : ((c1 : Int) != 0) = true := by rw [bne_iff_ne]; omega
    have he := HE.out
    simp only [ne_eq, h0, not_false_eq_true, if_true, Prod.mk.injEq] at he
    obtain ⟨rfl, rfl⟩ := he
    clear h0 h2
    go_wp2_with fail
    go_ret
    exact ⟨rfl, H2.out⟩
/-- lost: the file is another one than the manifest left. -/
def lostC (D : Dm.Disk) (t : ByteArray) : Bool := decide ((Dm.read D mainL).2 ≠ 7 ∧ (⟨(Dm.read D mainL).1.toArray⟩ : ByteArray) ≠ t)
theorem lst_bytes (l : List UInt8) : (⟨l.toArray⟩ : ByteArray).toList = l := by rw [ByteArray.toList_eq]
set_option maxHeartbeats 2000000 in
theorem lost_b (h : Bx w0 w a D ((b, manO a t dead) :: B)) (ht : t.size ≤ maxLen) :
    Calls Tryz.prog 53 #[.pointer (some ⟨b, 0, none⟩)] w fun e w' => e = .returned (.bool (lostC D t)) ∧ w' = w := by
  obtain ⟨c0, c1, -, -⟩ := man_cells h.man
  obtain ⟨l, c, hr⟩ : ∃ l c, Dm.read D mainL = (l, c) := ⟨_, _, rfl⟩
  have HR := Lib.hid (read_b h mainN (by decide) hr)
  obtain ⟨r, hq⟩ : ∃ r, r = lostC D t := ⟨_, rfl⟩
  rw [← hq]
  unfold lostC at hq
  rw [hr] at hq
  have HQ := Lib.hid hq
  have i0 : (0 : Int) ≤ (c : Int) := by omega
  unfold mainN at HR
  clear h hr hq
  go_enter Tryz.func53, Tryz.ntmps53
  go_wp2_with fail
  refine HR.out.mono ?_
  rintro e w2 ⟨rfl, rfl⟩
  by_cases h7 : c = 7
  · have e7 : ((c : Int) != 7) = false := by rw [h7]; rfl
    have HC : Hid (r = false) := Lib.hid (by rw [HQ.out, decide_eq_false]; exact fun h => h.1 h7)
    clear h7
    go_wp2_with fail
    go_ret
    exact ⟨by rw [HC.out]; rfl, rfl⟩
  · have e7 : ((c : Int) != 7) = true := by rw [bne_iff_ne]; omega
    by_cases hx : (⟨l.toArray⟩ : ByteArray) = t
    · have HC : Hid (r = false) := Lib.hid (by rw [HQ.out, decide_eq_false]; exact fun h => h.2 hx)
      have ex : (!(l == t.toList)) = false := by rw [← hx, lst_bytes, beq_self_eq_true]; rfl
      clear h7 hx
      go_wp2_with fail
      go_ret
      exact ⟨by rw [HC.out]; rfl, rfl⟩
    · have HC : Hid (r = true) := Lib.hid (by rw [HQ.out, decide_eq_true]; exact ⟨h7, hx⟩)
      have ex : (!(l == t.toList)) = true := by
        rw [Bool.not_eq_true', beq_eq_false_iff_ne]
        exact fun q => hx (Mm.toList_inj (by rw [lst_bytes, q]))
      clear h7 hx
      go_wp2_with fail
      go_ret
      exact ⟨by rw [HC.out]; rfl, rfl⟩
end
end Go.Proofs.YtbhjpkejdkfenaaGreatDoor
