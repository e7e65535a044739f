/-
  Walks over package wal: begin, put where the file is full. Conditions: those in the theorems.
-/
import Derived.Test.YtoecbkndbcblpaaGreatDoorWalSettle
import Derived.Test.YtoecbkndbcblpaaGreatDoorWalAppend
namespace Go.Proofs.YtoecbkndbcblpaaGreatDoor
open Go.RowKit Go.Maps Go.Sort Go.Shelf

section
variable {w0 w w' : World} {a b : Nat} {D D' : Dm.Disk} {B : List (Nat × Obj)} {W W' : Wm.W}
theorem WalIn.five_ {z : Nat} {v0 v1 v2 v3 v4 u0 u1 u2 u3 u4 : Value} {T : TypeId} (h : WalIn w0 w a D b W ((z, .cells #[v0, v1, v2, v3, v4] T (0, 0)) :: B)) : WalIn w0 (((((w.setCell ⟨z, 0, none⟩ u0).setCell ⟨z, 1, none⟩ u1).setCell ⟨z, 2, none⟩ u2).setCell ⟨z, 3, none⟩ u3).setCell ⟨z, 4, none⟩ u4) a D b W B := h.five u0 u1 u2 u3 u4

set_option maxRecDepth 100000 in
set_option maxHeartbeats 4000000 in
theorem begin_w (h : WalIn w0 w a D b W B) (hf : FOk W.f) (hlog : W.log.size ≤ 13) (hlast : W.last ≤ 98) {D1 : Dm.Disk} {f1 : Wm.F} (e1 : Wm.sync D W.f = (0, D1, f1)) (e2 : Dm.create D1 (Wm.nameOf W.log (W.last + 1)).data.toList = (0, D')) :
    Calls Tryz.prog 66 #[.pointer (some ⟨b, 0, none⟩)] w fun e w' => e = .returned (.tuple #[.agg #[.pointer (some ⟨a, 0, none⟩), .string (Wm.nameOf W.log (W.last + 1)), .int .i64 0, .string ⟨#[]⟩, .string ⟨#[]⟩], .int .i64 0]) ∧ WalIn w0 w' a D' b { W with f := f1 } B := by
  obtain ⟨W1, hW1⟩ : ∃ W1, w.alloc (.cells #[.pointer none, .string ⟨#[]⟩, .int .i64 0, .string ⟨#[]⟩, .string ⟨#[]⟩] 40) = W1 := ⟨_, rfl⟩
  obtain ⟨z, hz⟩ : ∃ z, w.heap.size = z := ⟨_, rfl⟩
  have h1 : WalIn w0 W1 a D b W ((z, .cells #[.pointer none, .string ⟨#[]⟩, .int .i64 0, .string ⟨#[]⟩, .string ⟨#[]⟩] 40 (0, 0)) :: B) := by rw [← hW1, ← hz]; exact h.alloc _
  have hn : W.f.name.size ≤ maxLen := by have := hf.name; unfold maxLen; omega
  have hsy := fsync_wi h1 hn e1
  have hsz : (Wm.nameOf W.log (W.last + 1)).size ≤ maxLen := by have := nameOf_size W.log (W.last + 1) (by omega); unfold maxLen; omega
  have hname := fun w1 B1 (h1 : WalIn w0 w1 a D1 b { W with f := f1 } B1) => nameOf_wi h1 hlog (W.last + 1) (by omega)
  have hcr : ∀ w1 B1, WalIn w0 w1 a D1 b { W with f := f1 } B1 → Calls Tryz.prog 58 #[.pointer (some ⟨a, 0, none⟩), .string (Wm.nameOf W.log (W.last + 1))] w1 fun e w' => e = .returned (.tuple #[.agg #[.pointer (some ⟨a, 0, none⟩), .string (Wm.nameOf W.log (W.last + 1)), .int .i64 0, .string ⟨#[]⟩, .string ⟨#[]⟩], .int .i64 0]) ∧ WalIn w0 w' a D' b { W with f := f1 } B1 := fun w1 B1 h1 => by
    have h := create_wi h1 _ hsz e2
    rw [if_pos rfl] at h
    exact h
  have k1 : ((W.last + 1 : Nat) : Int) = (W.last : Int) + 1 := by omega
  have k2 : IntKind.i64.wrap ((W.last : Int) + 1) = (W.last : Int) + 1 := IntWalk.i64_in _ (by omega)
  simp only at hname
  rw [k1] at hname
  have HN := Lib.hid hname
  have HC := Lib.hid hcr
  clear h h1 hf hname hcr hsz e1 e2 k1 hn
  generalize Wm.nameOf W.log (W.last + 1) = nm at *
  go_enter Tryz.func66, Tryz.ntmps66
  go_wp2_with fail
  refine hsy.mono ?_
  rintro e w2 ⟨rfl, h2⟩
  have H2 := Lib.hid h2
  obtain ⟨y0, y5, y7, -⟩ := h2.cells
  simp only at y7
  have H2d := Lib.hid h2.drewI
  have HD2 := Lib.hid (Below.refl w2.heap.size w2).drew
  clear h2 hsy
  go_wp2_with fail
  go_region_law (first
    | (go_simp; go_at_call 56; refine (HN.out _ _ H2d.out).mono ?_; rintro e w4 ⟨rfl, hb4⟩; have HB4 := Lib.hid (HD2.out.trans (hb4.mono HD2.out.size)); have H4 := Lib.hid (H2.out.same HB4.out); have z0 := H4.out.cells.1; clear hb4)
    | (go_simp; go_at_call 58; refine (HC.out _ _ H4.out).mono ?_; rintro e w5 ⟨rfl, h5⟩; obtain ⟨q0, q1, q2, q3, q4, qf⟩ := cells5 (h5.box _ List.mem_cons_self); have qf0 := qf 0; have qf1 := qf 1; have qf2 := qf 2; have qf3 := qf 3; have qf4 := qf 4; have H5 := Lib.hid h5; clear h5 qf))
  all_goals
    go_wp2_with fail
    refine bodyPost_ret (v := .tuple #[.agg #[.pointer (some ⟨a, 0, none⟩), .string nm, .int .i64 0, .string ⟨#[]⟩, .string ⟨#[]⟩], .int .i64 0]) (by simp [results, Tryz.results66, go_sem, *]) rfl ⟨rfl, ?_⟩
    exact H5.out.five_
/-- A file's name is the log's, and nineteen digits. -/
theorem name_fits (log : ByteArray) (n : Nat) (hl : log.size ≤ 13) (hn : n < 100) : (Wm.nameOf log n).size ≤ 32 := by
  have hd := digits_len n hn
  have e1 : ([48] : List UInt8).length = 1 := rfl
  unfold Wm.nameOf
  rw [ByteArray.size_append, ByteArray.size_append, size_of_list (Go.Lib.repeatL _ _), size_of_list (Go.Lib.decDigits n), Go.Lib.repeatL_length, e1]
  omega
theorem box_first {z : Nat} {o : Obj} {v : Value} {R : List (Nat × Obj)} (h : Bx w0 w a D ((b, fobj a W.f (walRest W v) 43) :: (R ++ (z, o) :: B))) : Bx w0 w a D ((z, o) :: ((b, fobj a W.f (walRest W v) 43) :: (R ++ B))) :=
  h.perm (by
    have e : (b, fobj a W.f (walRest W v) 43) :: (R ++ (z, o) :: B) = ((b, fobj a W.f (walRest W v) 43) :: R) ++ (z, o) :: B := rfl
    rw [e]
    exact (List.perm_middle (l₁ := (b, fobj a W.f (walRest W v) 43) :: R)).symm)
theorem box_back {z : Nat} {o : Obj} {v : Value} {R : List (Nat × Obj)} (h : Bx w0 w a D ((z, o) :: ((b, fobj a W.f (walRest W v) 43) :: (R ++ B)))) : Bx w0 w a D ((b, fobj a W.f (walRest W v) 43) :: (R ++ (z, o) :: B)) :=
  h.perm (by
    have e : (b, fobj a W.f (walRest W v) 43) :: (R ++ (z, o) :: B) = ((b, fobj a W.f (walRest W v) 43) :: R) ++ (z, o) :: B := rfl
    rw [e]
    exact List.perm_middle (l₁ := (b, fobj a W.f (walRest W v) 43) :: R))
theorem fwrite_box {z : Nat} {f f' : Wm.F} {T : TypeId} (h : WalIn w0 w a D b W ((z, fobj a f [] T) :: B)) (hf : FOk f) (fr : ByteArray) (hr : fr.size ≤ 1048576) {c : Nat} (e : Wm.write D f fr = (c, D', f')) :
    Calls Tryz.prog 65 #[.pointer (some ⟨z, 0, none⟩), .string fr] w fun e w' => e = .returned (.int .i64 (c : Nat)) ∧ WalIn w0 w' a D' b W ((z, fobj a f' [] T) :: B) := by
  obtain ⟨v, R, h1, h2⟩ := h
  exact (write_w (box_first h1) hf fr hr e).mono fun _ _ ⟨he, hd⟩ => ⟨he, v, R, box_back hd, h2⟩

set_option maxRecDepth 100000 in
set_option maxHeartbeats 4000000 in
theorem put_full (h : WalIn w0 w a D b W B) (hok : Wm.Ok W) (hf : FOk W.f) (ht : W.f.torn = ⟨#[]⟩) (hs : 16384 ≤ W.f.size) (fr : ByteArray) (hr : fr.size ≤ 1048576) {D1 D2 : Dm.Disk} {f1 f' : Wm.F} (e1 : Wm.sync D W.f = (0, D1, f1)) (e2 : Dm.create D1 (Wm.nameOf W.log (W.last + 1)).data.toList = (0, D2))
    (e3 : Wm.write D2 (Wm.fresh (Wm.nameOf W.log (W.last + 1))) fr = (0, D', f')) :
    Calls Tryz.prog 32 #[.pointer (some ⟨b, 0, none⟩), .string fr] w fun e w' => e = .returned (.int .i64 0) ∧ WalIn w0 w' a D' b (Wm.follow { W with f := f1 } f') B := by
  obtain ⟨-, -, -, -, x4, -⟩ := h.cells
  rw [ht] at x4
  have hfull := ffull_wi h
  rw [decide_eq_true hs] at hfull
  have hbg := begin_w h hf hok.log hok.last e1 e2
  have hnm : (Wm.nameOf W.log (W.last + 1)).size ≤ 32 := name_fits W.log (W.last + 1) hok.log (by have := hok.last; omega)
  have hfw := fun w1 z (h1 : WalIn w0 w1 a D2 b { W with f := f1 } ((z, fobj a (Wm.fresh (Wm.nameOf W.log (W.last + 1))) [] 40) :: B)) => fwrite_box h1 ⟨hnm, Nat.zero_le _, Nat.zero_le _, Nat.zero_le _⟩ fr hr e3
  have hfo := fun w1 B1 (h1 : WalIn w0 w1 a D' b { W with f := f1 } B1) => follow_w h1 f' (by have := hok.few; simp only; omega) (by have := hok.last; simp only; omega)
  unfold fileV at hfo
  have HF := Lib.hid hfo
  have HW := Lib.hid hfw
  clear h hok hf ht hs hr e1 e2 e3 hfw hfo hnm
  have hfr : ∀ nm : ByteArray, fobj a (Wm.fresh nm) [] 40 = .cells #[.pointer (some ⟨a, 0, none⟩), .string nm, .int .i64 0, .string ⟨#[]⟩, .string ⟨#[]⟩] 40 (0, 0) := fun nm => by simp [fobj, fcells, Wm.fresh]
  generalize Wm.nameOf W.log (W.last + 1) = nm at *
  have hfr := hfr nm
  go_enter Tryz.func32, Tryz.ntmps32
  go_wp2_with fail
  refine hfull.mono ?_
  rintro e w2 ⟨rfl, rfl⟩
  go_wp2_with fail
  refine hbg.mono ?_
  rintro e w3 ⟨rfl, h3⟩
  have H4 := Lib.hid (show WalIn w0 (w3.alloc (.cells #[.pointer (some ⟨a, 0, none⟩), .string nm, .int .i64 0, .string ⟨#[]⟩, .string ⟨#[]⟩] 40)) a D2 b { W with f := f1 } ((w3.heap.size, fobj a (Wm.fresh nm) [] 40) :: B) from by rw [hfr]; exact h3.alloc _)
  clear h3 hbg hfull hfr
  go_wp2_with fail
  refine (HW.out _ _ H4.out).mono ?_
  rintro e w5 ⟨rfl, h5⟩
  obtain ⟨q0, q1, q2, q3, q4, -⟩ := fobj_cells (h5.box _ List.mem_cons_self)
  have H5 := Lib.hid (h5.sub (List.sublist_cons_self _ _))
  clear h5
  go_wp2_with fail
  refine (HF.out _ _ H5.out).mono ?_
  rintro e w6 ⟨rfl, h6⟩
  have H6 := Lib.hid h6
  clear h6
  go_wp2_with fail
  go_ret
  exact ⟨rfl, H6.out⟩
end
end Go.Proofs.YtoecbkndbcblpaaGreatDoor
