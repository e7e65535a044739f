/-
  Walks over package wal: settle. Conditions: those in the theorems.
-/
import Derived.Test.YtoecbkndbcblpaaGreatDoorWalDo2
import Derived.Deep.LoopGhost
namespace Wm
open Dm (Disk)
/-- The files of these numbers are synced, one by one, up to an error. -/
def syncAll (log : ByteArray) : List Nat → Disk → Nat × Disk
  | [], D => (0, D)
  | n :: r, D => match Dm.sync D (nameOf log n).data.toList with
    | (0, D') => syncAll log r D'
    | (e + 1, D') => (e + 1, D')
theorem syncAll_ok {log : ByteArray} {n : Nat} {r : List Nat} {D D' : Disk} (h : Dm.sync D (nameOf log n).data.toList = (0, D')) : syncAll log (n :: r) D = syncAll log r D' := by
  show (match Dm.sync D (nameOf log n).data.toList with | (0, D') => _ | (e + 1, D') => _) = _
  rw [h]
end Wm
namespace Go.Proofs.YtoecbkndbcblpaaGreatDoor
open Go.RowKit Go.Maps Go.Sort Go.Shelf

section
variable {w0 w w' : World} {a b : Nat} {D D' : Dm.Disk} {B : List (Nat × Obj)} {W W' : Wm.W}
theorem WalIn.five {z : Nat} {cs : Array Value} {T : TypeId} (h : WalIn w0 w a D b W ((z, .cells cs T (0, 0)) :: B)) (v0 v1 v2 v3 v4 : Value) :
    WalIn w0 (((((w.setCell ⟨z, 0, none⟩ v0).setCell ⟨z, 1, none⟩ v1).setCell ⟨z, 2, none⟩ v2).setCell ⟨z, 3, none⟩ v3).setCell ⟨z, 4, none⟩ v4) a D b W B := by
  obtain ⟨v, R, h1, h2⟩ := h
  have h3 := h1.perm (B' := (z, .cells cs T (0, 0)) :: ((b, fobj a W.f (walRest W v) 43) :: (R ++ B))) (by
    have e : (b, fobj a W.f (walRest W v) 43) :: (R ++ (z, Obj.cells cs T (0, 0)) :: B) = ((b, fobj a W.f (walRest W v) 43) :: R) ++ (z, Obj.cells cs T (0, 0)) :: B := rfl
    rw [e]
    exact (List.perm_middle (l₁ := (b, fobj a W.f (walRest W v) 43) :: R)).symm)
  exact ⟨v, R, h3.five v0 v1 v2 v3 v4, h2⟩
set_option maxRecDepth 100000 in
set_option maxHeartbeats 4000000 in
/-- settle of a log without files: one is made. -/
theorem settle_none (h : WalIn w0 w a D b W B) (hlog : W.log.size ≤ 13) (hlast : W.last ≤ 98) (hn : W.firsts = []) {D1 : Dm.Disk} (hs : Wm.sweep D W.log = (0, D1)) (hc : Dm.create D1 (Wm.nameOf W.log (W.last + 1)).data.toList = (0, D')) :
    Calls Tryz.prog 27 #[.pointer (some ⟨b, 0, none⟩)] w fun e w' => e = .returned (.int .i64 0) ∧ WalIn w0 w' a D' b (Wm.follow W (Wm.fresh (Wm.nameOf W.log (W.last + 1)))) B := by
  have hx6 : ∀ w1 D1, WalIn w0 w1 a D1 b W B → ∃ p cap, w1.cell? ⟨b, 6, none⟩ = some (.slice p 0 cap) := fun w1 D1 h1 => by
    obtain ⟨v, R, g1, g2⟩ := h1
    obtain ⟨-, x6, -⟩ := wobj_cells (g1.box _ List.mem_cons_self)
    obtain ⟨p, cap, rfl, -⟩ := g2.shape
    rw [hn] at x6
    exact ⟨p, cap, x6⟩
  obtain ⟨p0, cap0, x6⟩ := hx6 _ _ h
  have hsw := sweep_w h hlog hs
  have hname := fun w1 B1 (h1 : WalIn w0 w1 a D1 b W B1) => nameOf_wi h1 hlog (W.last + 1) (by omega)
  have hsz : (Wm.nameOf W.log (W.last + 1)).size ≤ maxLen := by have := nameOf_size W.log (W.last + 1) (by omega); unfold maxLen; omega
  have hcr : ∀ w1 B1, WalIn w0 w1 a D1 b W B1 → Calls Tryz.prog 58 #[.pointer (some ⟨a, 0, none⟩), .string (Wm.nameOf W.log (W.last + 1))] w1 fun e w' => e = .returned (.tuple #[.agg #[.pointer (some ⟨a, 0, none⟩), .string (Wm.nameOf W.log (W.last + 1)), .int .i64 0, .string ⟨#[]⟩, .string ⟨#[]⟩], .int .i64 0]) ∧ WalIn w0 w' a D' b W B1 := fun w1 B1 h1 => by
    have h := create_wi h1 _ hsz hc
    rw [if_pos rfl] at h
    exact h
  have hfo : ∀ w1, WalIn w0 w1 a D' b W B → Calls Tryz.prog 54 #[.pointer (some ⟨b, 0, none⟩), .agg #[.pointer (some ⟨a, 0, none⟩), .string (Wm.nameOf W.log (W.last + 1)), .int .i64 0, .string ⟨#[]⟩, .string ⟨#[]⟩]] w1 fun e w' => e = .returned (.tuple #[]) ∧ WalIn w0 w' a D' b (Wm.follow W (Wm.fresh (Wm.nameOf W.log (W.last + 1)))) B :=
    fun w1 h1 => follow_w h1 (Wm.fresh (Wm.nameOf W.log (W.last + 1))) (by rw [hn]; simp) (by omega)
  have k1 : ((W.last + 1 : Nat) : Int) = (W.last : Int) + 1 := by omega
  have k2 : IntKind.i64.wrap ((W.last : Int) + 1) = (W.last : Int) + 1 := IntWalk.i64_in _ (by omega)
  rw [k1] at hname
  have HX6 := Lib.hid hx6
  have HN := Lib.hid hname
  have HC := Lib.hid hcr
  have HF := Lib.hid hfo
  have H := Lib.hid h
  clear h hx6 hname hcr hfo hs hc hsz k1
  generalize Wm.nameOf W.log (W.last + 1) = nm at *
  go_enter Tryz.func27, Tryz.ntmps27
  go_wp2_with fail
  go_loopg [14] 1 (fun g iv wr => g = 1 ∧ iv = .int .i64 0 ∧ wr = w)
  case atStart => exact ⟨rfl, rfl, rfl⟩
  case round =>
    obtain ⟨rfl, rfl, rfl⟩ := hrel
    go_wp2_with fail
    refine hsw.mono ?_
    rintro e w2 ⟨rfl, h2⟩
    have H2 := Lib.hid h2
    obtain ⟨p1, cap1, y6⟩ := HX6.out _ _ h2
    obtain ⟨y0, y5, y7, -⟩ := h2.cells
    have H2d := Lib.hid h2.drewI
    have y0w : ∀ W', Below w2.heap.size w2 W' → W'.cell? ⟨b, 0, none⟩ = some (.pointer (some ⟨a, 0, none⟩)) := fun W' hW => (h2.same hW).cells.1
    have Y0 := Lib.hid y0w
    have HD2 := Lib.hid (Below.refl w2.heap.size w2).drew
    clear h2 hsw x6 y0w
    go_wp2_with fail
    have H2b := Lib.hid (fun o => (H2.out.alloc o).drewI)
    have y0a : ∀ o, (w2.alloc o).cell? ⟨b, 0, none⟩ = some (.pointer (some ⟨a, 0, none⟩)) := fun o => (H2.out.alloc o).cells.1
    have y7a : ∀ o, (w2.alloc o).cell? ⟨b, 7, none⟩ = some (.int .i64 (W.last : Nat)) := fun o => (H2.out.alloc o).cells.2.2.1
    go_region_law (first
      | (go_simp; go_at_call 56; refine (HN.out _ _ H2d.out).mono ?_; rintro e w4 ⟨rfl, hb4⟩; have HB4 := Lib.hid (HD2.out.trans (hb4.mono HD2.out.size)); have H4 := Lib.hid (H2.out.same HB4.out); have z0 := Y0.out _ HB4.out; have z0a := fun o => Y0.out (w4.alloc o) (HB4.out.alloc HB4.out.size o); clear hb4)
      | (go_simp; go_at_call 56; refine (HN.out _ _ (H2b.out _)).mono ?_; rintro e w4 ⟨rfl, hb4⟩; have H4b := Lib.hid ((H2b.out _).same hb4); have z0 := H4b.out.cells.1; clear hb4)
      | (go_simp; go_at_call 58; refine (HC.out _ _ H4.out).mono ?_; rintro e w5 ⟨rfl, h5⟩; have H5 := Lib.hid h5; clear h5)
      | (go_simp; go_at_call 58; refine (HC.out _ _ (H4.out.alloc _)).mono ?_; rintro e w5 ⟨rfl, h5⟩; obtain ⟨q0, q1, q2, q3, q4, qf⟩ := cells5 (h5.box _ List.mem_cons_self); have qf0 := qf 0; have qf1 := qf 1; have qf2 := qf 2; have qf3 := qf 3; have qf4 := qf 4; have H5 := Lib.hid h5; clear h5 qf)
      | (go_simp; go_at_call 58; refine (HC.out _ _ H4b.out).mono ?_; rintro e w5 ⟨rfl, h5⟩; obtain ⟨q0, q1, q2, q3, q4, qf⟩ := cells5 (h5.box _ List.mem_cons_self); have qf0 := qf 0; have qf1 := qf 1; have qf2 := qf 2; have qf3 := qf 3; have qf4 := qf 4; have H5 := Lib.hid h5; clear h5 qf))
    all_goals
      go_wp2_with fail
      first
        | (have _ := q0; refine (HF.out _ (H5.out.five _ _ _ _ _)).mono ?_)
        | refine (HF.out _ ((H5.out.alloc _).sub (List.sublist_cons_self _ _))).mono ?_
      rintro e w6 ⟨rfl, h6⟩
      have H6 := Lib.hid h6
      clear h6
      go_wp2_with fail
      go_ret
      exact ⟨rfl, H6.out⟩
end
end Go.Proofs.YtoecbkndbcblpaaGreatDoor
