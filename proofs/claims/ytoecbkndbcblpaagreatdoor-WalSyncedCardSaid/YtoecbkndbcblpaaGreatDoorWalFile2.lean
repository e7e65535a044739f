/-
  Walks over package wal: write, full, stands. Conditions: those in the theorems.
-/
import Derived.Test.YtoecbkndbcblpaaGreatDoorWalFile
import Derived.Deep.QuietTactic
import Derived.BigQuiet
namespace Go.Proofs.YtoecbkndbcblpaaGreatDoor
open Go.RowKit Go.Maps Go.Sort Go.Shelf

section
variable {w0 w : World} {a b : Nat} {D D' : Dm.Disk} {B : List (Nat × Obj)} {f : Wm.F} {rest : List Value} {T : TypeId}
/-- What is so of a file of a log: sizes that fit. -/
structure FOk (f : Wm.F) : Prop where
  name : f.name.size ≤ 32
  size : f.size ≤ 1048576
  tail : f.tail.size ≤ 1048576
  torn : f.torn.size ≤ 1048576

set_option maxRecDepth 100000 in
set_option maxHeartbeats 1000000 in
theorem write_w (h : Bx w0 w a D ((b, fobj a f rest T) :: B)) (hf : FOk f) (fr : ByteArray) (hr : fr.size ≤ 1048576) {c : Nat} {f' : Wm.F} (e : Wm.write D f fr = (c, D', f')) :
    Calls Tryz.prog 65 #[.pointer (some ⟨b, 0, none⟩), .string fr] w fun e w' => e = .returned (.int .i64 (c : Nat)) ∧ Bx w0 w' a D' ((b, fobj a f' rest T) :: B) := by
  obtain ⟨x0, x1, x2, x3, x4, -⟩ := fobj_cells (h.box _ List.mem_cons_self)
  have hn : f.name.size ≤ maxLen := by have := hf.name; unfold maxLen; omega
  have hrm : fr.size ≤ maxLen := by unfold maxLen; omega
  have hs1 := hf.size
  have ht1 := hf.tail
  obtain ⟨⟨c1, D1⟩, hs⟩ : ∃ y, Dm.append D f.name.data.toList fr.data.toList = y := ⟨_, rfl⟩
  unfold Wm.write at e
  rw [hs] at e
  have HS := Lib.hid hs
  have H := Lib.hid h.drew
  clear h hs hf
  match c1, e with
  | 0, e =>
    obtain ⟨rfl, e2⟩ := Prod.mk.inj e
    obtain ⟨rfl, rfl⟩ := Prod.mk.inj e2
    clear e e2
    go_enter Tryz.func65, Tryz.ntmps65
    go_wp2_with fail
    go_region_with (go_at_call 22; refine (append_b H.out f.name fr hn hrm HS.out).mono ?_; rintro e w2 ⟨rfl, h2⟩)
    all_goals
      have h3 := h2.fsize (f.size + fr.size)
      have H3 := Lib.hid (h3.ftail (f.tail ++ fr))
      obtain ⟨y0, y1, y2, y3, y4, yf⟩ := fobj_cells (h2.box _ List.mem_cons_self)
      obtain ⟨z0, z1, z2, z3, z4, zf⟩ := fobj_cells (h3.box _ List.mem_cons_self)
      have f2 := yf 2
      have f3 := zf 3
      have k1 : ((f.size + fr.size : Nat) : Int) = (f.size : Int) + (fr.size : Int) := by omega
      have k2 : IntKind.i64.wrap ((f.size : Int) + (fr.size : Int)) = (f.size : Int) + (fr.size : Int) := IntWalk.i64_in _ (by omega)
      rw [k1] at z0 z1 z2 z3 z4 f3 H3
      simp only at z3
      clear h2 h3 yf zf k1
      go_wp2_with fail
      go_ret
      exact ⟨rfl, H3.out⟩
  | c1 + 1, e =>
    obtain ⟨rfl, e2⟩ := Prod.mk.inj e
    obtain ⟨rfl, rfl⟩ := Prod.mk.inj e2
    clear e e2
    have d0 : (((c1 + 1 : Nat) : Int) == 0) = false := by rw [beq_eq_false_iff_ne]; omega
    obtain ⟨c, hc⟩ : ∃ c, c1 + 1 = c := ⟨_, rfl⟩
    rw [hc] at HS d0 ⊢
    go_enter Tryz.func65, Tryz.ntmps65
    go_wp2_with fail
    go_region_with (go_at_call 22; refine (append_b H.out f.name fr hn hrm HS.out).mono ?_; rintro e w2 ⟨rfl, h2⟩)
    all_goals
      have H2 := Lib.hid h2
      clear h2
      go_wp2_with fail
      go_ret
      exact ⟨rfl, H2.out⟩

set_option maxHeartbeats 1000000 in
theorem full_w (h : Bx w0 w a D ((b, fobj a f rest T) :: B)) :
    Calls Tryz.prog 64 #[.pointer (some ⟨b, 0, none⟩)] w fun e w' => e = .returned (.bool (decide (16384 ≤ f.size))) ∧ w = w' := by
  obtain ⟨x0, x1, x2, x3, x4, -⟩ := fobj_cells (h.box _ List.mem_cons_self)
  have e : decide (16384 ≤ f.size) = decide ((16384 : Int) ≤ (f.size : Int)) := by rw [Bool.eq_iff_iff]; simp only [decide_eq_true_eq]; omega
  rw [e]
  clear h e
  go_enter Tryz.func64, Tryz.ntmps64
  go_wp2_with fail
  go_ret
  exact ⟨rfl, rfl⟩

/-- Read, told with a text. -/
theorem read_s (h : Bx w0 w a D B) (n : ByteArray) (hn : n.size ≤ maxLen) {s : ByteArray} {c : Nat} (e : Dm.read D n.data.toList = (s.data.toList, c)) :
    Calls Tryz.prog 24 #[.pointer (some ⟨a, 0, none⟩), .string n] w fun e w' => e = .returned (.tuple #[.string s, .int .i64 (c : Nat)]) ∧ w = w' := by
  have := read_b h n hn e
  rwa [show (⟨s.data.toList.toArray⟩ : ByteArray) = s by simp] at this
theorem Dm.read_size {D : Dm.Disk} (h : Dm.Right D) {n l : List UInt8} {c : Nat} (e : Dm.read D n = (l, c)) : l.length ≤ 1048576 := by
  unfold Dm.read at e
  split at e
  · cases e; simp
  · split at e
    · cases e; simp
    · rename_i f hf
      cases e
      exact (h.short _ (Dm.get_mem hf)).2
theorem text_of (l : List UInt8) : ∃ s : ByteArray, s.data.toList = l := ⟨⟨l.toArray⟩, by simp⟩
theorem size_list (s : ByteArray) : s.data.toList.length = s.size := by rw [Array.length_toList]; rfl

set_option maxRecDepth 100000 in
set_option maxHeartbeats 2000000 in
theorem stands_w (h : Bx w0 w a D ((b, fobj a f rest T) :: B)) (hf : FOk f) :
    Calls Tryz.prog 90 #[.pointer (some ⟨b, 0, none⟩)] w fun e w' => e = .returned (.bool (Wm.stands D f)) ∧ Below w.heap.size w w' := by
  obtain ⟨x0, x1, x2, x3, x4, -⟩ := fobj_cells (h.box _ List.mem_cons_self)
  have hn : f.name.size ≤ maxLen := by have := hf.name; unfold maxLen; omega
  obtain ⟨⟨l, c⟩, hr⟩ : ∃ y, Dm.read D f.name.data.toList = y := ⟨_, rfl⟩
  have hlen := Dm.read_size h.right hr
  obtain ⟨s, rfl⟩ := text_of l
  rw [size_list] at hlen
  have hs1 := hf.size
  have ht1 := hf.tail
  have ht2 := hf.torn
  have hv : Wm.stands D f = (c == 0 && s.size == f.size && Wm.suffix s.data.toList ((f.torn ++ f.tail).data.toList)) := by unfold Wm.stands; rw [hr]; simp only [size_list]
  rw [hv]
  have hread := read_s h f.name hn hr
  have HR := Lib.hid (fun W (hW : Below w.heap.size w W) => read_s (h.same hW) f.name hn hr)
  have hsuf := fun W => wl_strings_HasSuffix s (f.torn ++ f.tail) W (by omega)
  have hw1 : ((c : Int) == 0) = (c == 0) := by rw [Bool.eq_iff_iff]; simp only [beq_iff_eq]; omega
  have hw2 : ((s.size : Int) == (f.size : Int)) = (s.size == f.size) := by rw [Bool.eq_iff_iff]; simp only [beq_iff_eq]; omega
  clear h hf hr hv hn
  generalize hb1 : (c == 0) = b1 at *
  generalize hb2 : (s.size == f.size) = b2 at *
  have hsu : ∀ W, Calls Tryz.prog 113 #[.string s, .string (f.torn ++ f.tail)] W fun e w' => e = .returned (.bool (Wm.suffix s.data.toList ((f.torn ++ f.tail).data.toList))) ∧ w' = W := hsuf
  clear hsuf
  generalize Wm.suffix s.data.toList ((f.torn ++ f.tail).data.toList) = b3 at *
  clear hb1 hb2
  cases b1 <;> cases b2
  all_goals
    go_enter Tryz.func90, Tryz.ntmps90
    go_wp2_with fail
    go_quiet ((go_at_call 24; exact Calls.quiet_of_same ((HR.out _ (by first | exact Below.refl _ _ | exact below_drewN (Below.refl _ _) _)).mono fun _ _ ⟨q1, q2⟩ => ⟨q1, q2.symm⟩)))
    have hb2 : Below w.heap.size w (w.drewN nq) := below_drewN (Below.refl _ _) _
    have y2 : (w.drewN nq).cell? ⟨b, 2, none⟩ = some (.int .i64 (f.size : Nat)) := x2
    have y3 : (w.drewN nq).cell? ⟨b, 3, none⟩ = some (.string f.tail) := x3
    have y4 : (w.drewN nq).cell? ⟨b, 4, none⟩ = some (.string f.torn) := x4
    have HB2 := Lib.hid hb2
    clear hb2 x0 x1 x2 x3 x4
    generalize w.drewN nq = w2 at *
    go_wp2_with fail
    go_quiet ((go_at_call 113; exact Calls.quiet_of_same (hsu _)))
    go_wp2_with fail
    go_ret
    refine ⟨by simp, below_drewN HB2.out _⟩
end
end Go.Proofs.YtoecbkndbcblpaaGreatDoor
