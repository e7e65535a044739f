/-
  Walks over package wal: put where the file isn't full, Append. Conditions: those in the theorems.
-/
import Derived.Test.YtoecbkndbcblpaaGreatDoorWalDo2
import Derived.Test.YtoecbkndbcblpaaGreatDoorSumWalkD
namespace Wm
/-- A body's frame. -/
def frame (s : ByteArray) : ByteArray := ⟨(Go.Proofs.YtoecbkndbcblpaaGreatDoor.Sm.frame s.data.toList).toArray⟩
end Wm
namespace Go.Proofs.YtoecbkndbcblpaaGreatDoor
open Go.RowKit Go.Maps Go.Sort Go.Shelf

section
variable {w0 w w' : World} {a b : Nat} {D D' : Dm.Disk} {B : List (Nat × Obj)} {W W' : Wm.W}
theorem frame_size (s : ByteArray) (hs : s.size ≤ 65536) : (Wm.frame s).size ≤ 1048576 := by
  unfold Wm.frame
  rw [size_of_list]
  unfold Sm.frame
  simp only [List.length_append, Sm.four_len]
  rw [size_list]
  omega
theorem ffull_wi (h : WalIn w0 w a D b W B) :
    Calls Tryz.prog 64 #[.pointer (some ⟨b, 0, none⟩)] w fun e w' => e = .returned (.bool (decide (16384 ≤ W.f.size))) ∧ w = w' := by
  obtain ⟨v, R, h1, h2⟩ := h; exact full_w h1
set_option maxHeartbeats 1000000 in
theorem put_w (h : WalIn w0 w a D b W B) (hf : FOk W.f) (ht : W.f.torn = ⟨#[]⟩) (hs : W.f.size < 16384) (fr : ByteArray) (hr : fr.size ≤ 1048576) {c : Nat} {f' : Wm.F} (e : Wm.write D W.f fr = (c, D', f')) :
    Calls Tryz.prog 32 #[.pointer (some ⟨b, 0, none⟩), .string fr] w fun e w' => e = .returned (.int .i64 (c : Nat)) ∧ WalIn w0 w' a D' b { W with f := f' } B := by
  obtain ⟨-, -, -, -, x4, -⟩ := h.cells
  rw [ht] at x4
  have hfull := ffull_wi h
  rw [decide_eq_false (by omega)] at hfull
  have hwr := fwrite_wi h hf fr hr e
  clear h hf ht hs hr
  go_enter Tryz.func32, Tryz.ntmps32
  go_wp2_with fail
  refine hfull.mono ?_
  rintro e w2 ⟨rfl, rfl⟩
  go_wp2_with fail
  refine hwr.mono ?_
  rintro e w3 ⟨rfl, h3⟩
  have H3 := Lib.hid h3
  clear h3
  go_wp2_with fail
  go_ret
  exact ⟨rfl, H3.out⟩
set_option maxHeartbeats 1000000 in
theorem AppendC_w {Q : World → Prop} {c : Nat} {z y : Nat} {fr : ByteArray} (z0 : w.cell? ⟨z, 0, none⟩ = some (.pointer (some ⟨b, 0, none⟩))) (y0 : w.cell? ⟨y, 0, none⟩ = some (.string fr))
    (hp : Calls Tryz.prog 32 #[.pointer (some ⟨b, 0, none⟩), .string fr] w fun e w' => e = .returned (.int .i64 (c : Nat)) ∧ Q w') :
    Calls Tryz.prog 31 #[.pointer (some ⟨z, 0, none⟩), .pointer (some ⟨y, 0, none⟩)] w fun e w' => e = .returned (.int .i64 (c : Nat)) ∧ Q w' := by
  go_enter Tryz.func31, Tryz.ntmps31
  go_wp2_with fail
  refine hp.mono ?_
  rintro e w2 ⟨rfl, h2⟩
  have H2 := Lib.hid h2
  clear h2
  go_wp2_with fail
  go_ret
  exact ⟨rfl, H2.out⟩

def boxP (b : Nat) : Obj := .cells #[.pointer (some ⟨b, 0, none⟩)] 24 (0, 0)
def boxS (s : ByteArray) : Obj := .cells #[.string s] 9 (0, 0)
set_option maxRecDepth 100000 in
set_option maxHeartbeats 2000000 in
theorem Append_not (h : WalIn w0 w a D b W B) (hok : Wm.Ok W) (hf : FOk W.f) (ha : Wm.alive D W = false) (s : ByteArray) (hs : s.size ≤ 65536) :
    Calls Tryz.prog 11 #[.pointer (some ⟨b, 0, none⟩), .string s] w fun e w' => e = .returned (.tuple #[.int .i64 0, .int .i64 7]) ∧ WalIn w0 w' a D b { W with dead := true } B := by
  obtain ⟨W1, hW1⟩ : ∃ W1, w.alloc (.cells #[.pointer (some ⟨b, 0, none⟩)] 24) = W1 := ⟨_, rfl⟩
  obtain ⟨z, hz⟩ : ∃ z, w.heap.size = z := ⟨_, rfl⟩
  have h1 : WalIn w0 W1 a D b W ((z, boxP b) :: B) := by rw [← hW1, ← hz]; exact h.alloc _
  have z0 : W1.cell? ⟨z, 0, none⟩ = some (.pointer (some ⟨b, 0, none⟩)) := by rw [cell_of_row W1 z _ _ _ _ (h1.box _ List.mem_cons_self)]; rfl
  have hm := made_w h1
  have hfr := Frame_short s W1 (by omega)
  have H1 := Lib.hid h1
  have hsz := frame_size s hs
  change Calls _ _ _ _ (fun e w' => e = .returned (.tuple #[.string (Wm.frame s), .int .i64 0]) ∧ _) at hfr
  generalize Wm.frame s = fr at *
  clear h h1
  go_enter Tryz.func11, Tryz.ntmps11
  go_wp2_with fail
  refine hm.mono ?_
  rintro e w2 ⟨rfl, rfl⟩
  go_wp2_with fail
  refine hfr.mono ?_
  rintro e w2 ⟨rfl, hb2⟩
  obtain ⟨W2, hW2⟩ : ∃ W2, w2.alloc (.cells #[.string fr] 9) = W2 := ⟨_, rfl⟩
  obtain ⟨y, hy⟩ : ∃ y, w2.heap.size = y := ⟨_, rfl⟩
  have h3 : WalIn w0 W2 a D b W ((y, boxS fr) :: (z, boxP b) :: B) := by rw [← hW2, ← hy]; exact (H1.out.same hb2).alloc _
  have z1 : W2.cell? ⟨z, 0, none⟩ = some (.pointer (some ⟨b, 0, none⟩)) := by rw [cell_of_row W2 z _ _ _ _ (h3.box _ (List.mem_cons_of_mem _ List.mem_cons_self))]; rfl
  have hd := fun fv => do_not h3 hok hf ha fv
  clear h3 hb2 z0 hm hfr
  go_wp2_with fail
  refine (hd _).mono ?_
  rintro e w4 ⟨rfl, h4⟩
  have H4 := Lib.hid (h4.sub ((List.sublist_cons_self _ _).trans (List.sublist_cons_self _ _)))
  clear h4
  go_wp2_with fail
  go_ret2
  exact ⟨rfl, H4.out⟩
set_option maxRecDepth 100000 in
set_option maxHeartbeats 2000000 in
/-- Append where put answers OK. -/
theorem Append_yes (h : WalIn w0 w a D b W B) (hok : Wm.Ok W) (hf : FOk W.f) (ha : Wm.alive D W = true) (s : ByteArray) (hs : s.size ≤ 65536) (hW' : W'.last ≤ 1000000)
    (hput : ∀ w1 B', WalIn w0 w1 a D b W B' → Calls Tryz.prog 32 #[.pointer (some ⟨b, 0, none⟩), .string (Wm.frame s)] w1 fun e w' => e = .returned (.int .i64 0) ∧ WalIn w0 w' a D' b W' B') :
    Calls Tryz.prog 11 #[.pointer (some ⟨b, 0, none⟩), .string s] w fun e w' => e = .returned (.tuple #[.int .i64 (W'.last + 1 : Nat), .int .i64 0]) ∧ WalIn w0 w' a D' b { W' with last := W'.last + 1, dead := false } B := by
  obtain ⟨W1, hW1⟩ : ∃ W1, w.alloc (.cells #[.pointer (some ⟨b, 0, none⟩)] 24) = W1 := ⟨_, rfl⟩
  obtain ⟨z, hz⟩ : ∃ z, w.heap.size = z := ⟨_, rfl⟩
  have h1 : WalIn w0 W1 a D b W ((z, boxP b) :: B) := by rw [← hW1, ← hz]; exact h.alloc _
  have z0 : W1.cell? ⟨z, 0, none⟩ = some (.pointer (some ⟨b, 0, none⟩)) := by rw [cell_of_row W1 z _ _ _ _ (h1.box _ List.mem_cons_self)]; rfl
  have hm := made_w h1
  have hfr := Frame_short s W1 (by omega)
  have H1 := Lib.hid h1
  have HP := Lib.hid hput
  change Calls _ _ _ _ (fun e w' => e = .returned (.tuple #[.string (Wm.frame s), .int .i64 0]) ∧ _) at hfr
  generalize Wm.frame s = fr at *
  clear h h1 hput
  go_enter Tryz.func11, Tryz.ntmps11
  go_wp2_with fail
  refine hm.mono ?_
  rintro e w2 ⟨rfl, rfl⟩
  go_wp2_with fail
  refine hfr.mono ?_
  rintro e w2 ⟨rfl, hb2⟩
  obtain ⟨W2, hW2⟩ : ∃ W2, w2.alloc (.cells #[.string fr] 9) = W2 := ⟨_, rfl⟩
  obtain ⟨y, hy⟩ : ∃ y, w2.heap.size = y := ⟨_, rfl⟩
  have h3 : WalIn w0 W2 a D b W ((y, boxS fr) :: (z, boxP b) :: B) := by rw [← hW2, ← hy]; exact (H1.out.same hb2).alloc _
  have z1 : W2.cell? ⟨z, 0, none⟩ = some (.pointer (some ⟨b, 0, none⟩)) := by rw [cell_of_row W2 z _ _ _ _ (h3.box _ (List.mem_cons_of_mem _ List.mem_cons_self))]; rfl
  have hd := do_yes h3 hok hf ha (enters_of Tryz.func31 (by kernel_rfl) rfl) (cb := #[.pointer (some ⟨z, 0, none⟩), .pointer (some ⟨y, 0, none⟩)]) (W' := W') (c := 0)
    (fun w1 hw1 => AppendC_w (by rw [cell_of_row w1 z _ _ _ _ (hw1.box _ (List.mem_cons_of_mem _ List.mem_cons_self))]; rfl) (by rw [cell_of_row w1 y _ _ _ _ (hw1.box _ List.mem_cons_self)]; rfl) (HP.out w1 _ hw1))
  clear h3 hb2 z0 hm hfr HP
  go_wp2_with fail
  refine hd.mono ?_
  rintro e w4 ⟨rfl, h4⟩
  obtain ⟨-, -, x7, -, -, xf⟩ := h4.cells
  have f7 := xf 7
  have z2 : w4.cell? ⟨z, 0, none⟩ = some (.pointer (some ⟨b, 0, none⟩)) := by rw [cell_of_row w4 z _ _ _ _ (h4.box _ (List.mem_cons_of_mem _ List.mem_cons_self))]; rfl
  have h5 := h4.lastTo (W'.last + 1)
  have z3 : (w4.setCell ⟨b, 7, none⟩ (.int .i64 (W'.last + 1 : Nat))).cell? ⟨z, 0, none⟩ = some (.pointer (some ⟨b, 0, none⟩)) := by rw [cell_of_row _ z _ _ _ _ (h5.box _ (List.mem_cons_of_mem _ List.mem_cons_self))]; rfl
  have x8 := h5.cells.2.2.1
  have H5 := Lib.hid (h5.sub ((List.sublist_cons_self _ _).trans (List.sublist_cons_self _ _)))
  have k1 : ((W'.last + 1 : Nat) : Int) = (W'.last : Int) + 1 := by omega
  have k2 : IntKind.i64.wrap ((W'.last : Int) + 1) = (W'.last : Int) + 1 := IntWalk.i64_in _ (by omega)
  simp only at x8 x7
  rw [k1] at z3 x8 H5
  clear h4 h5 xf k1 hd z1
  go_wp2_with fail
  go_ret2
  exact ⟨rfl, H5.out⟩
end
end Go.Proofs.YtoecbkndbcblpaaGreatDoor
