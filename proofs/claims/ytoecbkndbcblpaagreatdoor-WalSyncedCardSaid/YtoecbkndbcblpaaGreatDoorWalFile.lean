/-
  Walks over package wal: create, write, sync, full, stands. Conditions: those in the theorems.
-/
import Derived.Test.YtoecbkndbcblpaaGreatDoorWalBox
import Derived.Test.YtoecbkndbcblpaaGreatDoorWalMath
import Derived.Deep.RegionWith
namespace Go.Proofs.YtoecbkndbcblpaaGreatDoor
open Go.RowKit Go.Maps Go.Sort Go.Shelf

def fcells (a : Nat) (f : Wm.F) : List Value := [.pointer (some ⟨a, 0, none⟩), .string f.name, .int .i64 (f.size : Nat), .string f.tail, .string f.torn]
/-- A file of a log in a block, ahead of what else stands there. -/
def fobj (a : Nat) (f : Wm.F) (rest : List Value) (T : TypeId) : Obj := .cells (fcells a f ++ rest).toArray T (0, 0)
theorem fobj_cells {W : World} {b a : Nat} {f : Wm.F} {rest : List Value} {T : TypeId} (h : W.heap[b]? = some (fobj a f rest T)) :
    W.cell? ⟨b, 0, none⟩ = some (.pointer (some ⟨a, 0, none⟩)) ∧ W.cell? ⟨b, 1, none⟩ = some (.string f.name) ∧ W.cell? ⟨b, 2, none⟩ = some (.int .i64 (f.size : Nat)) ∧ W.cell? ⟨b, 3, none⟩ = some (.string f.tail) ∧ W.cell? ⟨b, 4, none⟩ = some (.string f.torn) ∧ ∀ i, W.frozen? ⟨b, i, none⟩ = false := by
  refine ⟨?_, ?_, ?_, ?_, ?_, fun i => ?_⟩
  all_goals first
    | (rw [cell_of_row W b _ _ _ _ h]; simp [fcells]; done)
    | (exact frozen_of_row W b i _ _ h)
def fileV (p : Option Addr) (f : Wm.F) : Value := .agg #[.pointer p, .string f.name, .int .i64 (f.size : Nat), .string f.tail, .string f.torn]
section
variable {w0 w : World} {a b : Nat} {D D' : Dm.Disk} {B : List (Nat × Obj)} {f : Wm.F} {rest : List Value} {T : TypeId}
theorem fobj_size (n : Nat) : fobj a { f with size := n } rest T = .cells ((fcells a f ++ rest).toArray.setIfInBounds 2 (.int .i64 (n : Nat))) T (0, 0) := by simp [fobj, fcells]
theorem fobj_tail (t : ByteArray) : fobj a { f with tail := t } rest T = .cells ((fcells a f ++ rest).toArray.setIfInBounds 3 (.string t)) T (0, 0) := by simp [fobj, fcells]
theorem Bx.fsize (h : Bx w0 w a D ((b, fobj a f rest T) :: B)) (n : Nat) : Bx w0 (w.setCell ⟨b, 2, none⟩ (.int .i64 (n : Nat))) a D ((b, fobj a { f with size := n } rest T) :: B) := by
  rw [fobj_size]; exact Bx.set h 2 _
theorem Bx.ftail (h : Bx w0 w a D ((b, fobj a f rest T) :: B)) (t : ByteArray) : Bx w0 (w.setCell ⟨b, 3, none⟩ (.string t)) a D ((b, fobj a { f with tail := t } rest T) :: B) := by
  rw [fobj_tail]; exact Bx.set h 3 _
theorem Bx.five {cs : Array Value} (h : Bx w0 w a D ((b, .cells cs T (0, 0)) :: B)) (v0 v1 v2 v3 v4 : Value) :
    Bx w0 (((((w.setCell ⟨b, 0, none⟩ v0).setCell ⟨b, 1, none⟩ v1).setCell ⟨b, 2, none⟩ v2).setCell ⟨b, 3, none⟩ v3).setCell ⟨b, 4, none⟩ v4) a D B :=
  (((((h.set 0 v0).set 1 v1).set 2 v2).set 3 v3).set 4 v4).sub (List.sublist_cons_self _ _)

set_option maxRecDepth 100000 in
set_option maxHeartbeats 1000000 in
theorem create_w (h : Bx w0 w a D B) (n : ByteArray) (hn : n.size ≤ maxLen) {c : Nat} (e : Dm.create D n.data.toList = (c, D')) :
    Calls Tryz.prog 58 #[.pointer (some ⟨a, 0, none⟩), .string n] w fun e w' => e = .returned (.tuple #[if c = 0 then fileV (some ⟨a, 0, none⟩) (Wm.fresh n) else fileV none (Wm.fresh ⟨#[]⟩), .int .i64 (c : Nat)]) ∧ Bx w0 w' a D' B := by
  obtain ⟨W1, hW1⟩ : ∃ W1, w.alloc (.cells #[.pointer none, .string ⟨#[]⟩, .int .i64 0, .string ⟨#[]⟩, .string ⟨#[]⟩] 40) = W1 := ⟨_, rfl⟩
  obtain ⟨z, hz⟩ : ∃ z, w.heap.size = z := ⟨_, rfl⟩
  have h1 : Bx w0 W1 a D ((z, .cells #[.pointer none, .string ⟨#[]⟩, .int .i64 0, .string ⟨#[]⟩, .string ⟨#[]⟩] 40 (0, 0)) :: B) := by rw [← hW1, ← hz]; exact h.alloc _
  have H1 := Lib.hid h1
  clear h h1
  unfold fileV Wm.fresh
  by_cases hc : c = 0
  · subst hc
    rw [if_pos rfl]
    go_enter Tryz.func58, Tryz.ntmps58
    go_wp2_with fail
    refine (create_b H1.out n hn e).mono ?_
    rintro e w2 ⟨rfl, h2⟩
    obtain ⟨x0, x1, x2, x3, x4, xf⟩ := cells5 (h2.box _ List.mem_cons_self)
    have f0 := xf 0
    have f1 := xf 1
    have f2 := xf 2
    have f3 := xf 3
    have f4 := xf 4
    have H2 := Lib.hid h2
    clear h2 xf
    go_wp2_with fail
    refine bodyPost_ret (v := .tuple #[.agg #[.pointer (some ⟨a, 0, none⟩), .string n, .int .i64 0, .string ⟨#[]⟩, .string ⟨#[]⟩], .int .i64 0]) (by simp [results, Tryz.results58, go_sem, *]) rfl ⟨rfl, ?_⟩
    exact H2.out.five _ _ _ _ _
  · rw [if_neg hc]
    have d0 : ((c : Int) == 0) = false := by rw [beq_eq_false_iff_ne]; omega
    clear hc
    go_enter Tryz.func58, Tryz.ntmps58
    go_wp2_with fail
    refine (create_b H1.out n hn e).mono ?_
    rintro e w2 ⟨rfl, h2⟩
    obtain ⟨x0, x1, x2, x3, x4, xf⟩ := cells5 (h2.box _ List.mem_cons_self)
    have f0 := xf 0
    have f1 := xf 1
    have f2 := xf 2
    have f3 := xf 3
    have f4 := xf 4
    have H2 := Lib.hid h2
    clear h2 xf
    go_wp2_with fail
    refine bodyPost_ret (v := .tuple #[.agg #[.pointer none, .string ⟨#[]⟩, .int .i64 0, .string ⟨#[]⟩, .string ⟨#[]⟩], .int .i64 (c : Nat)]) (by simp [results, Tryz.results58, go_sem, *]) rfl ⟨rfl, ?_⟩
    exact H2.out.five _ _ _ _ _

set_option maxRecDepth 100000 in
set_option maxHeartbeats 1000000 in
theorem sync_w (h : Bx w0 w a D ((b, fobj a f rest T) :: B)) (hn : f.name.size ≤ maxLen) {c : Nat} {f' : Wm.F} (e : Wm.sync D f = (c, D', f')) :
    Calls Tryz.prog 34 #[.pointer (some ⟨b, 0, none⟩)] w fun e w' => e = .returned (.int .i64 (c : Nat)) ∧ Bx w0 w' a D' ((b, fobj a f' rest T) :: B) := by
  obtain ⟨x0, x1, x2, x3, x4, -⟩ := fobj_cells (h.box _ List.mem_cons_self)
  obtain ⟨⟨c1, D1⟩, hs⟩ : ∃ y, Dm.sync D f.name.data.toList = y := ⟨_, rfl⟩
  unfold Wm.sync at e
  rw [hs] at e
  have HS := Lib.hid hs
  have H := Lib.hid h.drew
  clear h hs
  match c1, e with
  | 0, e =>
    obtain ⟨rfl, e2⟩ := Prod.mk.inj e
    obtain ⟨rfl, rfl⟩ := Prod.mk.inj e2
    clear e e2
    go_enter Tryz.func34, Tryz.ntmps34
    go_wp2_with fail
    go_region_with (go_at_call 55; refine (sync_b H.out f.name hn HS.out).mono ?_; rintro e w2 ⟨rfl, h2⟩)
    all_goals
      have H2 := Lib.hid (h2.ftail ⟨#[]⟩)
      obtain ⟨y0, y1, y2, y3, y4, yf⟩ := fobj_cells (h2.box _ List.mem_cons_self)
      have f3 := yf 3
      clear h2 yf
      go_wp2_with fail
      go_ret
      exact ⟨rfl, H2.out⟩
  | c1 + 1, e =>
    obtain ⟨rfl, e2⟩ := Prod.mk.inj e
    obtain ⟨rfl, rfl⟩ := Prod.mk.inj e2
    clear e e2
    have d0 : (((c1 + 1 : Nat) : Int) == 0) = false := by rw [beq_eq_false_iff_ne]; omega
    obtain ⟨c, hc⟩ : ∃ c, c1 + 1 = c := ⟨_, rfl⟩
    rw [hc] at HS d0 ⊢
    go_enter Tryz.func34, Tryz.ntmps34
    go_wp2_with fail
    go_region_with (go_at_call 55; refine (sync_b H.out f.name hn HS.out).mono ?_; rintro e w2 ⟨rfl, h2⟩)
    all_goals
      have H2 := Lib.hid h2
      clear h2
      go_wp2_with fail
      go_ret
      exact ⟨rfl, H2.out⟩
end
end Go.Proofs.YtoecbkndbcblpaaGreatDoor
