/-
  Walks over package wal: follow, what stands in a log's object turned. Conditions: those in the theorems.
-/
import Derived.Test.YtoecbkndbcblpaaGreatDoorWalFollow
namespace Go.Proofs.YtoecbkndbcblpaaGreatDoor
open Go.RowKit Go.Maps Go.Sort Go.Shelf

theorem step_append_run {P : Program} {ops : Array Oper} {o : Oper} {a : Act} {w : World} {K : Act → World → Prop} {Q : Exit → Act → World → Prop} {E : Prop}
    (hg : o.guard = none) (s x : Operand) (t tn : TypeId) (ho : o.op = .call { callee := .builtin .append, args := #[s, x], argTypes := #[t, tn] }) (vs vx : Value) (hs : a.eval s = vs) (hx : a.eval x = vx)
    (v' : Value) (w' : World) (hr : (Builtin.append_ #[t, tn] o.type #[vs, vx]).run P w = .ok v' w') (hK : K (a.put o.dst v') w') :
    if Region.wanted o (yielded ops a.tmps) = true then Oper.wp P o a w K Q else E := by
  have hw : Region.wanted o (yielded ops a.tmps) = true := by simp [Region.wanted, hg]
  rw [if_pos hw]
  exact Lib.wp_append_run w s x t tn ho vs vx hs hx v' w' hr hK
section
variable {w0 w w' : World} {a b : Nat} {D D' : Dm.Disk} {B B0 : List (Nat × Obj)} {W : Wm.W} {v : Value} {R : List (Nat × Obj)} {f f' : Wm.F} {rest : List Value} {T : TypeId}
theorem Bx.file (h : Bx w0 w a D ((b, fobj a f rest T) :: B)) (f' : Wm.F) :
    Bx w0 (((((w.setCell ⟨b, 0, none⟩ (.pointer (some ⟨a, 0, none⟩))).setCell ⟨b, 1, none⟩ (.string f'.name)).setCell ⟨b, 2, none⟩ (.int .i64 (f'.size : Nat))).setCell ⟨b, 3, none⟩ (.string f'.tail)).setCell ⟨b, 4, none⟩ (.string f'.torn)) a D ((b, fobj a f' rest T) :: B) := by
  have h5 := ((((h.set 0 (.pointer (some ⟨a, 0, none⟩))).set 1 (.string f'.name)).set 2 (.int .i64 (f'.size : Nat))).set 3 (.string f'.tail)).set 4 (.string f'.torn)
  have e : fobj a f' rest T = .cells ((((((fcells a f ++ rest).toArray.setIfInBounds 0 (.pointer (some ⟨a, 0, none⟩))).setIfInBounds 1 (.string f'.name)).setIfInBounds 2 (.int .i64 (f'.size : Nat))).setIfInBounds 3 (.string f'.tail)).setIfInBounds 4 (.string f'.torn)) T (0, 0) := by simp [fobj, fcells]
  rw [e]; exact h5
theorem Bx.row (h : Bx w0 w a D ((b, fobj a f (walRest W v) T) :: B)) (v' : Value) : Bx w0 (w.setCell ⟨b, 6, none⟩ v') a D ((b, fobj a f (walRest W v') T) :: B) := by
  have e : fobj a f (walRest W v') T = .cells ((fcells a f ++ walRest W v).toArray.setIfInBounds 6 v') T (0, 0) := by simp [fobj, fcells, walRest]
  rw [e]; exact h.set 6 v'
theorem Bx.last (h : Bx w0 w a D ((b, fobj a f (walRest W v) T) :: B)) (n : Nat) : Bx w0 (w.setCell ⟨b, 7, none⟩ (.int .i64 (n : Nat))) a D ((b, fobj a f (walRest { W with last := n } v) T) :: B) := by
  have e : fobj a f (walRest { W with last := n } v) T = .cells ((fcells a f ++ walRest W v).toArray.setIfInBounds 7 (.int .i64 (n : Nat))) T (0, 0) := by simp [fobj, fcells, walRest, natV]
  rw [e]; exact h.set 7 _
theorem Bx.dead (h : Bx w0 w a D ((b, fobj a f (walRest W v) T) :: B)) (d : Bool) : Bx w0 (w.setCell ⟨b, 8, none⟩ (.bool d)) a D ((b, fobj a f (walRest { W with dead := d } v) T) :: B) := by
  have e : fobj a f (walRest { W with dead := d } v) T = .cells ((fcells a f ++ walRest W v).toArray.setIfInBounds 8 (.bool d)) T (0, 0) := by simp [fobj, fcells, walRest]
  rw [e]; exact h.set 8 _
/-- What follow makes of a log. -/
def Wm.follow (W : Wm.W) (f : Wm.F) : Wm.W := { W with f := f, firsts := W.firsts ++ [W.last + 1] }

set_option maxRecDepth 100000 in
set_option maxHeartbeats 2000000 in
theorem follow_w (h : WalIn w0 w a D b W B) (f' : Wm.F) (hl : W.firsts.length ≤ 1000) (hlast : W.last ≤ 1000000) :
    Calls Tryz.prog 54 #[.pointer (some ⟨b, 0, none⟩), fileV (some ⟨a, 0, none⟩) f'] w fun e w' => e = .returned (.tuple #[]) ∧ WalIn w0 w' a D b (Wm.follow W f') B := by
  obtain ⟨v, R, h1, h2⟩ := h
  obtain ⟨W1, hW1⟩ : ∃ W1, w.alloc (.cells #[.pointer (some ⟨a, 0, none⟩), .string f'.name, .int .i64 (f'.size : Nat), .string f'.tail, .string f'.torn] 40) = W1 := ⟨_, rfl⟩
  obtain ⟨z, hz⟩ : ∃ z, w.heap.size = z := ⟨_, rfl⟩
  have h3 : Bx w0 W1 a D ((z, .cells #[.pointer (some ⟨a, 0, none⟩), .string f'.name, .int .i64 (f'.size : Nat), .string f'.tail, .string f'.torn] 40 (0, 0)) :: (b, fobj a W.f (walRest W v) 43) :: (R ++ B)) := by rw [← hW1, ← hz]; exact h1.alloc _
  obtain ⟨z0, z1, z2, z3, z4, -⟩ := cells5 (h3.box _ List.mem_cons_self)
  simp only at z0 z1 z2 z3 z4
  have h4 := h3.sub (List.sublist_cons_self _ _)
  obtain ⟨x0, x1, x2, x3, x4, xf⟩ := fobj_cells (h4.box _ List.mem_cons_self)
  have g0 := xf 0
  have g1 := xf 1
  have g2 := xf 2
  have g3 := xf 3
  have g4 := xf 4
  have h5 := h4.file f'
  obtain ⟨W2, hW2⟩ : ∃ W2, ((((W1.setCell ⟨b, 0, none⟩ (.pointer (some ⟨a, 0, none⟩))).setCell ⟨b, 1, none⟩ (.string f'.name)).setCell ⟨b, 2, none⟩ (.int .i64 (f'.size : Nat))).setCell ⟨b, 3, none⟩ (.string f'.tail)).setCell ⟨b, 4, none⟩ (.string f'.torn) = W2 := ⟨_, rfl⟩
  rw [hW2] at h5
  have h6 : Bx w0 W2 a D (R ++ (b, fobj a f' (walRest W v) 43) :: B) := h5.perm List.perm_middle
  have hbel : Below W2.heap.size W2 (W2.alloc (.cells #[natV (W.last + 1)] 3)).drew := ((Below.refl _ W2).alloc (Nat.le_refl _) _).drew
  obtain ⟨p, cv, W3, R', hrun, h7, h8⟩ := RowIs.push (C := (b, fobj a f' (walRest W v) 43) :: B) h6 h2 (W.last + 1) hbel (z := W2.heap.size) (heap_alloc_new W2 _) (by omega) 41
  have hle : (W.firsts ++ [W.last + 1]).length = W.firsts.length + 1 := by simp
  rw [hle] at hrun h8
  have h9 : Bx w0 W3 a D ((b, fobj a f' (walRest W v) 43) :: (R' ++ B)) := h7.perm (List.perm_middle).symm
  obtain ⟨-, y6, -, -⟩ := wobj_cells (W := { W with f := f' }) (h9.box _ List.mem_cons_self)
  have yf := (fobj_cells (h9.box _ List.mem_cons_self)).2.2.2.2.2 6
  have hfin := h9.row (.slice p (W.firsts.length + 1) cv)
  have HF := Lib.hid (show WalIn w0 _ a D b (Wm.follow W f') B from ⟨_, R', hfin, h8⟩)
  have c6 : ∀ o, (W2.alloc o).cell? ⟨b, 6, none⟩ = some v := fun o => (wobj_cells (W := { W with f := f' }) ((h5.same ((Below.refl _ W2).alloc (Nat.le_refl _) o)).box _ List.mem_cons_self)).2.1
  have c7 : ∀ o, (W2.alloc o).cell? ⟨b, 7, none⟩ = some (.int .i64 (W.last : Nat)) := fun o => (wobj_cells (W := { W with f := f' }) ((h5.same ((Below.refl _ W2).alloc (Nat.le_refl _) o)).box _ List.mem_cons_self)).2.2.1
  obtain ⟨-, d6, d7, -⟩ := wobj_cells (W := { W with f := f' }) (h5.box _ List.mem_cons_self)
  obtain ⟨p0, cap0, rfl, -, -⟩ := h2.shape
  unfold natV at hrun
  have k1 : ((W.last + 1 : Nat) : Int) = (W.last : Int) + 1 := by omega
  have k2 : IntKind.i64.wrap ((W.last : Int) + 1) = (W.last : Int) + 1 := IntWalk.i64_in _ (by omega)
  rw [k1] at hrun
  clear h1 h2 h3 h4 h5 h6 h7 h8 h9 hfin hbel xf k1 hle
  unfold fileV
  go_enter Tryz.func54, Tryz.ntmps54
  go_wp2_with fail
  try rw [hW2]
  go_region_law (refine step_append_run rfl (.tmp 12) (.tmp 18) 41 41 rfl _ _ (by simp [Act.eval, Act.put]) (by simp [Act.eval, Act.put]) _ _ hrun ?_)
  all_goals
    go_wp2_with fail
    go_returns
    exact ⟨rfl, HF.out⟩
end
end Go.Proofs.YtoecbkndbcblpaaGreatDoor
