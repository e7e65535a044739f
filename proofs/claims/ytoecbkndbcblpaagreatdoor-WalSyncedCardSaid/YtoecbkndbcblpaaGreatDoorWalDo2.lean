/-
  Walks over package wal: do; Sync; Drop of a dead one. Conditions: those in the theorems.
-/
import Derived.Test.YtoecbkndbcblpaaGreatDoorWalDo
namespace Go.Proofs.YtoecbkndbcblpaaGreatDoor
open Go.RowKit Go.Maps Go.Sort Go.Shelf

section
variable {w0 w w' : World} {a b : Nat} {D D' : Dm.Disk} {B : List (Nat × Obj)} {W W' : Wm.W}
theorem WalIn.died (h : WalIn w0 w a D b W B) (d : Bool) : WalIn w0 (w.setCell ⟨b, 8, none⟩ (.bool d)) a D b { W with dead := d } B := by
  obtain ⟨v, R, h1, h2⟩ := h; exact ⟨v, R, h1.dead d, h2⟩
theorem WalIn.lastTo (h : WalIn w0 w a D b W B) (n : Nat) : WalIn w0 (w.setCell ⟨b, 7, none⟩ (.int .i64 (n : Nat))) a D b { W with last := n } B := by
  obtain ⟨v, R, h1, h2⟩ := h; exact ⟨v, R, h1.last n, h2⟩
theorem WalIn.alloc (h : WalIn w0 w a D b W B) (o : Obj) : WalIn w0 (w.alloc o) a D b W ((w.heap.size, o) :: B) := by
  obtain ⟨v, R, h1, h2⟩ := h
  exact ⟨v, R, (h1.alloc o).perm (by
    have e : (b, fobj a W.f (walRest W v) 43) :: (R ++ (w.heap.size, o) :: B) = ((b, fobj a W.f (walRest W v) 43) :: R) ++ (w.heap.size, o) :: B := rfl
    rw [e]
    exact List.perm_middle), h2⟩
theorem WalIn.sub {B' : List (Nat × Obj)} (h : WalIn w0 w a D b W B) (hs : B'.Sublist B) : WalIn w0 w a D b W B' := by
  obtain ⟨v, R, h1, h2⟩ := h; exact ⟨v, R, h1.sub ((List.Sublist.append (List.Sublist.refl R) hs).cons_cons _), h2⟩
theorem WalIn.box (h : WalIn w0 w a D b W B) : ∀ p ∈ B, w.heap[p.1]? = some p.2 := by
  obtain ⟨v, R, h1, h2⟩ := h; exact fun p hp => h1.box p (List.mem_cons_of_mem _ (List.mem_append_right _ hp))
theorem fsync_wi (h : WalIn w0 w a D b W B) (hn : W.f.name.size ≤ maxLen) {c : Nat} {f' : Wm.F} (e : Wm.sync D W.f = (c, D', f')) :
    Calls Tryz.prog 34 #[.pointer (some ⟨b, 0, none⟩)] w fun e w' => e = .returned (.int .i64 (c : Nat)) ∧ WalIn w0 w' a D' b { W with f := f' } B := by
  obtain ⟨v, R, h1, h2⟩ := h
  exact (sync_w h1 hn e).mono fun _ _ ⟨he, hd⟩ => ⟨he, v, R, hd, h2⟩
theorem fwrite_wi (h : WalIn w0 w a D b W B) (hf : FOk W.f) (fr : ByteArray) (hr : fr.size ≤ 1048576) {c : Nat} {f' : Wm.F} (e : Wm.write D W.f fr = (c, D', f')) :
    Calls Tryz.prog 65 #[.pointer (some ⟨b, 0, none⟩), .string fr] w fun e w' => e = .returned (.int .i64 (c : Nat)) ∧ WalIn w0 w' a D' b { W with f := f' } B := by
  obtain ⟨v, R, h1, h2⟩ := h
  exact (write_w h1 hf fr hr e).mono fun _ _ ⟨he, hd⟩ => ⟨he, v, R, hd, h2⟩

set_option maxHeartbeats 1000000 in
theorem do_not (h : WalIn w0 w a D b W B) (hok : Wm.Ok W) (hf : FOk W.f) (ha : Wm.alive D W = false) (fv : Value) :
    Calls Tryz.prog 30 #[.pointer (some ⟨b, 0, none⟩), fv] w fun e w' => e = .returned (.int .i64 7) ∧ WalIn w0 w' a D b { W with dead := true } B := by
  have hm := made_w h
  have hal := alive_w h hok hf
  rw [ha] at hal
  clear h hok hf ha
  go_enter Tryz.func30, Tryz.ntmps30
  go_wp2_with fail
  refine hm.mono ?_
  rintro e w2 ⟨rfl, rfl⟩
  go_wp2_with fail
  refine hal.mono ?_
  rintro e w3 ⟨rfl, h3⟩
  obtain ⟨-, -, -, x8, -, xf⟩ := h3.cells
  have f8 := xf 8
  have H3 := Lib.hid (h3.died true)
  clear h3 xf
  go_wp2_with fail
  go_ret
  exact ⟨rfl, H3.out⟩
set_option maxHeartbeats 1000000 in
theorem do_yes (h : WalIn w0 w a D b W B) (hok : Wm.Ok W) (hf : FOk W.f) (ha : Wm.alive D W = true) {g : Nat} {cb : Array Value} (eg : ∀ args w, (callFunc g args).run Tryz.prog w = .ok (.enter g args) w) {c : Nat}
    (hc : ∀ w1, WalIn w0 w1 a D b W B → Calls Tryz.prog g cb w1 fun e w' => e = .returned (.int .i64 (c : Nat)) ∧ WalIn w0 w' a D' b W' B) :
    Calls Tryz.prog 30 #[.pointer (some ⟨b, 0, none⟩), .func (.func g) #[] cb] w fun e w' => e = .returned (.int .i64 (c : Nat)) ∧ WalIn w0 w' a D' b { W' with dead := decide (c = 7) } B := by
  have hm := made_w h
  have hal := alive_w h hok hf
  rw [ha] at hal
  have HC := Lib.hid hc
  have d7 : ((c : Int) == 7) = decide (c = 7) := by rw [Bool.eq_iff_iff]; simp only [beq_iff_eq, decide_eq_true_eq]; omega
  generalize decide (c = 7) = dd at *
  clear h hok hf ha hc
  go_enter Tryz.func30, Tryz.ntmps30
  go_wp2_with fail
  refine hm.mono ?_
  rintro e w2 ⟨rfl, rfl⟩
  go_wp2_with fail
  refine hal.mono ?_
  rintro e w3 ⟨rfl, h3⟩
  have H3 := Lib.hid h3
  clear h3
  go_wp2_with fail
  refine (HC.out _ H3.out).mono ?_
  rintro e w4 ⟨rfl, h4⟩
  obtain ⟨-, -, -, x8, -, xf⟩ := h4.cells
  have f8 := xf 8
  have H4 := Lib.hid (h4.died dd)
  clear h4 xf
  go_wp2_with fail
  go_ret
  exact ⟨rfl, H4.out⟩

set_option maxHeartbeats 1000000 in
theorem Sync_not (h : WalIn w0 w a D b W B) (hok : Wm.Ok W) (hf : FOk W.f) (ha : Wm.alive D W = false) :
    Calls Tryz.prog 12 #[.pointer (some ⟨b, 0, none⟩)] w fun e w' => e = .returned (.int .i64 7) ∧ WalIn w0 w' a D b { W with dead := true } B := by
  obtain ⟨W1, hW1⟩ : ∃ W1, w.alloc (.cells #[.pointer (some ⟨b, 0, none⟩)] 24) = W1 := ⟨_, rfl⟩
  obtain ⟨z, hz⟩ : ∃ z, w.heap.size = z := ⟨_, rfl⟩
  have h1 : WalIn w0 W1 a D b W ((z, .cells #[.pointer (some ⟨b, 0, none⟩)] 24 (0, 0)) :: B) := by rw [← hW1, ← hz]; exact h.alloc _
  have z0 : W1.cell? ⟨z, 0, none⟩ = some (.pointer (some ⟨b, 0, none⟩)) := by rw [cell_of_row W1 z _ _ _ _ (h1.box _ List.mem_cons_self)]; rfl
  have hd := fun fv => do_not h1 hok hf ha fv
  clear h h1 hok hf ha
  go_enter Tryz.func12, Tryz.ntmps12
  go_wp2_with fail
  refine (hd _).mono ?_
  rintro e w2 ⟨rfl, h2⟩
  have H2 := Lib.hid (h2.sub (List.sublist_cons_self _ _))
  clear h2
  go_wp2_with fail
  go_ret
  exact ⟨rfl, H2.out⟩
set_option maxHeartbeats 1000000 in
theorem Drop_not (h : WalIn w0 w a D b W B) (hok : Wm.Ok W) (hf : FOk W.f) (ha : Wm.alive D W = false) (n : Int) :
    Calls Tryz.prog 15 #[.pointer (some ⟨b, 0, none⟩), .int .i64 n] w fun e w' => e = .returned (.int .i64 7) ∧ WalIn w0 w' a D b { W with dead := true } B := by
  obtain ⟨W1, hW1⟩ : ∃ W1, w.alloc (.cells #[.pointer (some ⟨b, 0, none⟩)] 24) = W1 := ⟨_, rfl⟩
  obtain ⟨z, hz⟩ : ∃ z, w.heap.size = z := ⟨_, rfl⟩
  have h1 : WalIn w0 W1 a D b W ((z, .cells #[.pointer (some ⟨b, 0, none⟩)] 24 (0, 0)) :: B) := by rw [← hW1, ← hz]; exact h.alloc _
  obtain ⟨W2, hW2⟩ : ∃ W2, W1.alloc (.cells #[.int .i64 n] 3) = W2 := ⟨_, rfl⟩
  obtain ⟨y, hy⟩ : ∃ y, W1.heap.size = y := ⟨_, rfl⟩
  have h2 : WalIn w0 W2 a D b W ((y, .cells #[.int .i64 n] 3 (0, 0)) :: (z, .cells #[.pointer (some ⟨b, 0, none⟩)] 24 (0, 0)) :: B) := by rw [← hW2, ← hy]; exact h1.alloc _
  have z0 : W2.cell? ⟨z, 0, none⟩ = some (.pointer (some ⟨b, 0, none⟩)) := by rw [cell_of_row W2 z _ _ _ _ (h2.box _ (List.mem_cons_of_mem _ List.mem_cons_self))]; rfl
  have hd := fun fv => do_not h2 hok hf ha fv
  clear h h1 h2 hok hf ha
  go_enter Tryz.func15, Tryz.ntmps15
  go_wp2_with fail
  refine (hd _).mono ?_
  rintro e w2 ⟨rfl, h2⟩
  have H2 := Lib.hid (h2.sub ((List.sublist_cons_self _ _).trans (List.sublist_cons_self _ _)))
  clear h2
  go_wp2_with fail
  go_ret
  exact ⟨rfl, H2.out⟩
set_option maxHeartbeats 1000000 in
theorem SyncC_w (h : WalIn w0 w a D b W B) (hn : W.f.name.size ≤ maxLen) {z : Nat} (hz : (z, .cells #[.pointer (some ⟨b, 0, none⟩)] 24 (0, 0)) ∈ B) {c : Nat} {f' : Wm.F} (e : Wm.sync D W.f = (c, D', f')) :
    Calls Tryz.prog 33 #[.pointer (some ⟨z, 0, none⟩)] w fun e w' => e = .returned (.int .i64 (c : Nat)) ∧ WalIn w0 w' a D' b { W with f := f' } B := by
  have z0 : w.cell? ⟨z, 0, none⟩ = some (.pointer (some ⟨b, 0, none⟩)) := by rw [cell_of_row w z _ _ _ _ (h.box _ hz)]; rfl
  have hs := fsync_wi h hn e
  clear h hz
  go_enter Tryz.func33, Tryz.ntmps33
  go_wp2_with fail
  refine hs.mono ?_
  rintro e w2 ⟨rfl, h2⟩
  have H2 := Lib.hid h2
  clear h2
  go_wp2_with fail
  go_ret
  exact ⟨rfl, H2.out⟩
set_option maxHeartbeats 1000000 in
theorem Sync_yes (h : WalIn w0 w a D b W B) (hok : Wm.Ok W) (hf : FOk W.f) (ha : Wm.alive D W = true) {c : Nat} {f' : Wm.F} (e : Wm.sync D W.f = (c, D', f')) :
    Calls Tryz.prog 12 #[.pointer (some ⟨b, 0, none⟩)] w fun e w' => e = .returned (.int .i64 (c : Nat)) ∧ WalIn w0 w' a D' b { W with f := f', dead := decide (c = 7) } B := by
  obtain ⟨W1, hW1⟩ : ∃ W1, w.alloc (.cells #[.pointer (some ⟨b, 0, none⟩)] 24) = W1 := ⟨_, rfl⟩
  obtain ⟨z, hz⟩ : ∃ z, w.heap.size = z := ⟨_, rfl⟩
  have h1 : WalIn w0 W1 a D b W ((z, .cells #[.pointer (some ⟨b, 0, none⟩)] 24 (0, 0)) :: B) := by rw [← hW1, ← hz]; exact h.alloc _
  have z0 : W1.cell? ⟨z, 0, none⟩ = some (.pointer (some ⟨b, 0, none⟩)) := by rw [cell_of_row W1 z _ _ _ _ (h1.box _ List.mem_cons_self)]; rfl
  have hn : W.f.name.size ≤ maxLen := by have := hf.name; unfold maxLen; omega
  have hd := do_yes h1 hok hf ha (enters_of Tryz.func33 (by kernel_rfl) rfl) (cb := #[.pointer (some ⟨z, 0, none⟩)]) (W' := { W with f := f' }) (fun w1 hw1 => SyncC_w hw1 hn List.mem_cons_self e)
  clear h h1 hok hf ha
  go_enter Tryz.func12, Tryz.ntmps12
  go_wp2_with fail
  refine hd.mono ?_
  rintro e w2 ⟨rfl, h2⟩
  have H2 := Lib.hid (h2.sub (List.sublist_cons_self _ _))
  clear h2
  go_wp2_with fail
  go_ret
  exact ⟨rfl, H2.out⟩
end
end Go.Proofs.YtoecbkndbcblpaaGreatDoor
