/-
  Walks over package wal: settle of a log that has files. Conditions: those in the theorems.
-/
import Derived.Test.YtoecbkndbcblpaaGreatDoorWalSettle
namespace Wm
theorem syncAll_step {log : ByteArray} {n : Nat} {r : List Nat} {D D1 : Dm.Disk} (h : syncAll log (n :: r) D = (0, D1)) : ∃ D', Dm.sync D (nameOf log n).data.toList = (0, D') ∧ syncAll log r D' = (0, D1) := by
  obtain ⟨⟨c, D'⟩, hc⟩ : ∃ y, Dm.sync D (nameOf log n).data.toList = y := ⟨_, rfl⟩
  have e : syncAll log (n :: r) D = (match Dm.sync D (nameOf log n).data.toList with | (0, D') => syncAll log r D' | (e + 1, D') => (e + 1, D')) := rfl
  rw [e, hc] at h
  match c, hc, h with
  | 0, hc, h => exact ⟨D', hc, h⟩
  | c + 1, hc, h => cases h
end Wm
namespace Go.Proofs.YtoecbkndbcblpaaGreatDoor
open Go.RowKit Go.Maps Go.Sort Go.Shelf

section
variable {w0 w w' : World} {a b : Nat} {D D' : Dm.Disk} {B : List (Nat × Obj)} {W W' : Wm.W}
set_option maxRecDepth 100000 in
set_option maxHeartbeats 4000000 in
theorem settle_some (h : WalIn w0 w a D b W B) (hok : Wm.Ok W) (hsm : ∀ n ∈ W.firsts, n < 100) {D1 : Dm.Disk} {c : Nat} (hs : Wm.syncAll W.log W.firsts D = (0, D1)) (hw : Wm.sweep D1 W.log = (c, D')) :
    Calls Tryz.prog 27 #[.pointer (some ⟨b, 0, none⟩)] w fun e w' => e = .returned (.int .i64 (c : Nat)) ∧ WalIn w0 w' a D' b W B := by
  obtain ⟨v, R, h1, h2⟩ := h
  have hlog := hok.log
  have hpos : 0 < W.firsts.length := List.length_pos_iff.2 hok.some
  have hfew := hok.few
  have hx : ∀ w1 D1, Bx w0 w1 a D1 ((b, fobj a W.f (walRest W v) 43) :: (R ++ B)) → w1.cell? ⟨b, 0, none⟩ = some (.pointer (some ⟨a, 0, none⟩)) ∧ w1.cell? ⟨b, 5, none⟩ = some (.string W.log) ∧ w1.cell? ⟨b, 6, none⟩ = some v := fun w1 D1 g =>
    ⟨(fobj_cells (g.box _ List.mem_cons_self)).1, (wobj_cells (g.box _ List.mem_cons_self)).1, (wobj_cells (g.box _ List.mem_cons_self)).2.1⟩
  have hat : ∀ w1 D1, Bx w0 w1 a D1 ((b, fobj a W.f (walRest W v) 43) :: (R ++ B)) → ∀ i (hi : i < W.firsts.length), ∃ g cap, v = .slice (some ⟨g, 0, none⟩) W.firsts.length cap ∧ W.firsts.length ≤ cap ∧ w1.cell? ⟨g, i, none⟩ = some (natV W.firsts[i]) := fun w1 D1 g i hi =>
    h2.at (w := w1) (fun p hp => g.box p (List.mem_cons_of_mem _ (List.mem_append_left _ hp))) hi
  have hsw := fun w1 (g : Bx w0 w1 a D1 ((b, fobj a W.f (walRest W v) 43) :: (R ++ B))) => sweep_w ⟨v, R, g, h2⟩ hlog hw
  obtain ⟨p0, cap0, rfl, hlc, -⟩ := h2.shape
  obtain ⟨x0, x5, x6⟩ := hx _ _ h1
  have H1 := Lib.hid h1
  have HX := Lib.hid hx
  have HA := Lib.hid hat
  have HW := Lib.hid hsw
  have HS := Lib.hid hs
  clear h1 h2 hx hat hsw hs hw
  go_enter Tryz.func27, Tryz.ntmps27
  go_wp2_with fail
  go_loopg [14] W.firsts.length (fun g iv wr => ∃ (k : Nat) (Dk : Dm.Disk), g = W.firsts.length - k ∧ k ≤ W.firsts.length ∧ iv = .int .i64 (k : Nat) ∧ Hid (Bx w0 wr a Dk ((b, fobj a W.f (walRest W (.slice p0 W.firsts.length cap0)) 43) :: (R ++ B)) ∧ Wm.syncAll W.log (W.firsts.drop k) Dk = (0, D1)))
  case atStart => exact ⟨0, D, rfl, Nat.zero_le _, rfl, Lib.hid ⟨H1.out, HS.out⟩⟩
  case round =>
    obtain ⟨k, Dk, rfl, hk, rfl, HH⟩ := hrel
    clear x0 x5 x6 H1 HS
    obtain ⟨y0, y5, y6⟩ := HX.out _ _ HH.out.1
    by_cases hlt : k < W.firsts.length
    · have i1 : (k : Int) < (W.firsts.length : Int) := by omega
      have i2 : (0 : Int) ≤ (k : Int) := by omega
      obtain ⟨g, cap, ev, hc, z⟩ := HA.out _ _ HH.out.1 k hlt
      cases ev
      have hn1 := hsm _ (List.getElem_mem hlt)
      have hst := HH.out.2
      rw [List.drop_eq_getElem_cons hlt] at hst
      obtain ⟨D2, hd1, hd2⟩ := Wm.syncAll_step hst
      generalize W.firsts[k] = n at *
      unfold natV at z
      have hsz : (Wm.nameOf W.log n).size ≤ maxLen := by have := nameOf_size W.log n hn1; unfold maxLen; omega
      have hname := fun w1 (g : Bx w0 w1 a Dk ((b, fobj a W.f (walRest W (.slice (some ⟨g, 0, none⟩) W.firsts.length cap0)) 43) :: (R ++ B))) => nameOf_any b W.log n w1 hn1 (by omega) (HX.out _ _ g).2.1 fun W' hW => (HX.out _ _ (g.same hW)).2.1
      have hsy := fun w1 (g : Bx w0 w1 a Dk ((b, fobj a W.f (walRest W (.slice (some ⟨g, 0, none⟩) W.firsts.length cap0)) 43) :: (R ++ B))) => sync_b g (Wm.nameOf W.log n) hsz hd1
      have HN := Lib.hid hname
      have HY := Lib.hid hsy
      have HD2 := Lib.hid hd2
      have H3 := Lib.hid HH.out.1
      have H3d := Lib.hid HH.out.1.drew
      have HDR := Lib.hid (Below.refl wr.heap.size wr).drew
      generalize Wm.nameOf W.log n = nm at *
      clear hst hd1 hd2 hsz hname hsy HH
      go_wp2_with fail
      go_region_law (first
        | (go_simp; go_at_call 56; refine (HN.out _ H3d.out).mono ?_; rintro e w4 ⟨rfl, hb4⟩; have H4 := Lib.hid (H3.out.same (HDR.out.trans (hb4.mono HDR.out.size))); have z0 := (HX.out _ _ H4.out).1; clear hb4)
        | (go_simp; go_at_call 55; refine (HY.out _ H4.out).mono ?_; rintro e w5 ⟨rfl, h5⟩; have H5 := Lib.hid h5; clear h5))
      all_goals
        go_wp2_with fail
        go_roundg (W.firsts.length - (k + 1))
        case measure => omega
        case rel => exact ⟨k + 1, D2, rfl, by omega, by go_num, Lib.hid ⟨H5.out, HD2.out⟩⟩
    · obtain rfl : k = W.firsts.length := by omega
      have i1 : ¬ (W.firsts.length : Int) < (W.firsts.length : Int) := by omega
      have hfin := HH.out.2
      rw [List.drop_length] at hfin
      obtain rfl : Dk = D1 := (Prod.mk.inj hfin).2
      have hsw := HW.out _ HH.out.1
      have hp : (0 : Int) < (W.firsts.length : Int) := by omega
      clear hfin HH HA HW
      go_wp2_with fail
      refine hsw.mono ?_
      rintro e w2 ⟨rfl, h2⟩
      have H2 := Lib.hid h2
      obtain ⟨q, cq, hq⟩ : ∃ q cq, w2.cell? ⟨b, 6, none⟩ = some (.slice q W.firsts.length cq) := by
        obtain ⟨v, R, g1, g2⟩ := h2
        obtain ⟨-, x6, -⟩ := wobj_cells (g1.box _ List.mem_cons_self)
        obtain ⟨p, cap, rfl, -⟩ := g2.shape
        exact ⟨p, cap, x6⟩
      clear h2 hsw
      cases c with
      | zero =>
        go_wp2_with fail
        go_ret
        exact ⟨rfl, H2.out⟩
      | succ c =>
        have d0 : (((c + 1 : Nat) : Int) == 0) = false := by rw [beq_eq_false_iff_ne]; omega
        obtain ⟨e, he⟩ : ∃ e, c + 1 = e := ⟨_, rfl⟩
        rw [he] at d0 ⊢
        go_wp2_with fail
        go_ret
        exact ⟨by subst he; rfl, H2.out⟩
end
end Go.Proofs.YtoecbkndbcblpaaGreatDoor
