/-
  Walks over package manifest: State of what is kept, keep. Conditions: those in the theorems.
-/
import Derived.Test.YtbhjpkejdkfenaaGreatDoorManDisk
set_option linter.unusedSimpArgs false
set_option linter.unusedVariables false
namespace Go.Proofs.YtbhjpkejdkfenaaGreatDoor
open Go.RowKit Go.Shelf
open Mf (File State)

/-- The text of a file main that keeps a state; none keeps that of a new manifest. -/
def Keeps (t : ByteArray) (s : State) : Prop := Mf.Right s ∧ (t = textS s ∨ (t = ⟨#[]⟩ ∧ s = ⟨1, 0, []⟩))
theorem keeps_size {t : ByteArray} {s : State} (h : Keeps t s) : t.size ≤ maxLen := by
  rcases h.2 with rfl | ⟨rfl, -⟩
  · have := textS_size h.1
    unfold maxLen; omega
  · exact Nat.zero_le _
theorem keeps_read {t : ByteArray} {nx lg : Int} {l : List File} (h : Keeps t ⟨nx, lg, l⟩) (w : World) :
    Calls Tryz.prog 56 #[.string t] w fun e w' => ∃ v, e = .returned (.agg #[.int .i64 nx, .int .i64 lg, v]) ∧ OwnFis w' w.heap.size v l ∧ Below w.heap.size w w' := by
  rcases h.2 with rfl | ⟨rfl, e⟩
  · exact read_any w h.1
  · cases e
    refine (read_empty w).mono ?_
    rintro e w' ⟨rfl, hb⟩
    exact ⟨.slice none 0 0, rfl, OwnFis.nil _ _, hb⟩
section
variable {w0 w : World} {a b : Nat} {D D' : Dm.Disk} {B : List (Nat × Obj)} {t : ByteArray} {dead : Bool}
theorem state_res {W : World} {tmps : Array Value} {b : Nat} {nx lg : Int} {p : Option Addr} {n cap : Nat} (h2 : tmps[2]? = some (.pointer (some ⟨b, 0, none⟩))) (h : W.heap[b]? = some (stO nx lg p n cap)) :
    (results Tryz.f18 tmps).run Tryz.prog W = .ok (stV nx lg p n cap) W := by
  obtain ⟨c0, c1, c2⟩ := st_cells h
  unfold stV
  simp [results, Tryz.results18, h2, go_sem, c0, c1, c2]
set_option maxHeartbeats 1000000 in
theorem State_b (h : w.heap[b]? = some (manO a t dead)) {nx lg : Int} {l : List File} (hk : Keeps t ⟨nx, lg, l⟩) :
    Calls Tryz.prog 18 #[.pointer (some ⟨b, 0, none⟩)] w fun e w' => ∃ v, e = .returned (.agg #[.int .i64 nx, .int .i64 lg, v]) ∧ OwnFis w' w.heap.size v l ∧ Below w.heap.size w w' := by
  obtain ⟨W0, hW0⟩ : ∃ W0, W0 = w.alloc (.cells #[.int .i64 0, .int .i64 0, .slice none 0 0] 24) := ⟨_, rfl⟩
  have hb0 : Below w.heap.size w W0 := by rw [hW0]; exact mbelow_alloc _ _
  have h' := (hb0.block _ (Array.getElem?_eq_some_iff.1 h).1).trans h
  obtain ⟨-, c1, -, -⟩ := man_cells h'
  have HRS : Hid (W0.heap[w.heap.size]? = some (stO 0 0 none 0 0)) := Lib.hid (by rw [hW0]; exact heap_alloc_new _ _)
  have HM := Lib.hid (made_b h')
  have HR := Lib.hid (keeps_read hk W0)
  have H0 := Lib.hid hb0
  clear h hk h' hb0
  go_enter Tryz.func18, Tryz.ntmps18
  go_wp2_with fail
  rw [← hW0]
  clear hW0
  refine HM.out.mono ?_
  rintro e w1 ⟨rfl, rfl⟩
  go_wp2_with fail
  refine HR.out.mono ?_
  rintro e w2 ⟨v, rfl, ho, hb⟩
  obtain ⟨pv, cv, rfl, -, -⟩ := ho.shape
  have hrs : w2.heap[w.heap.size]? = some (stO 0 0 none 0 0) := (hb.block _ (Array.getElem?_eq_some_iff.1 HRS.out).1).trans HRS.out
  obtain ⟨d0, d1, d2⟩ := st_cells hrs
  have f0 := st_frozen hrs 0
  have f1 := st_frozen hrs 1
  have f2 := st_frozen hrs 2
  have K4 := Lib.hid (st_set (nx' := nx) (lg' := lg) (p' := pv) (n' := l.length) (cap' := cv) hrs)
  have HE := Lib.hid (And.intro ho hb)
  clear ho hb hrs HM c1
  go_wp2_with fail
  refine bodyPost_ret (state_res rfl K4.out) rfl ?_
  refine ⟨_, rfl, (HE.out.1.stays fun j _ hj => ?_).mono H0.out.size, st_below (H0.out.trans (HE.out.2.mono H0.out.size)) (Nat.le_refl _)⟩
  have hne : j ≠ w.heap.size := by have := (HE.out.1.lt j hj).1; have := (Array.getElem?_eq_some_iff.1 HRS.out).1; omega
  exact (Below.heap_setCell _ _ _ _ hne).trans ((Below.heap_setCell _ _ _ _ hne).trans (Below.heap_setCell _ _ _ _ hne))
/-- keep's last part: the spare file is there; what became of the disk's answer c. -/
def keepE (D : Dm.Disk) (c : Nat) : Nat × Dm.Disk := if (sweepC D).1 ≠ 0 then sweepC D else (c, (sweepC D).2)
def keepC (D : Dm.Disk) (tx : List UInt8) : Nat × Dm.Disk × Bool :=
  if (sweepC D).1 ≠ 0 then ((sweepC D).1, (sweepC D).2, false)
  else if (Dm.create (sweepC D).2 spareL).1 ≠ 0 then ((Dm.create (sweepC D).2 spareL).1, (Dm.create (sweepC D).2 spareL).2, false)
  else if (Dm.append (Dm.create (sweepC D).2 spareL).2 spareL tx).1 ≠ 0 then
    ((keepE (Dm.append (Dm.create (sweepC D).2 spareL).2 spareL tx).2 (Dm.append (Dm.create (sweepC D).2 spareL).2 spareL tx).1).1, (keepE (Dm.append (Dm.create (sweepC D).2 spareL).2 spareL tx).2 (Dm.append (Dm.create (sweepC D).2 spareL).2 spareL tx).1).2, false)
  else if (Dm.sync (Dm.append (Dm.create (sweepC D).2 spareL).2 spareL tx).2 spareL).1 ≠ 0 then
    ((keepE (Dm.sync (Dm.append (Dm.create (sweepC D).2 spareL).2 spareL tx).2 spareL).2 (Dm.sync (Dm.append (Dm.create (sweepC D).2 spareL).2 spareL tx).2 spareL).1).1, (keepE (Dm.sync (Dm.append (Dm.create (sweepC D).2 spareL).2 spareL tx).2 spareL).2 (Dm.sync (Dm.append (Dm.create (sweepC D).2 spareL).2 spareL tx).2 spareL).1).2, false)
  else if (Dm.rename (Dm.sync (Dm.append (Dm.create (sweepC D).2 spareL).2 spareL tx).2 spareL).2 spareL mainL).1 ≠ 0 then
    ((keepE (Dm.rename (Dm.sync (Dm.append (Dm.create (sweepC D).2 spareL).2 spareL tx).2 spareL).2 spareL mainL).2 (Dm.rename (Dm.sync (Dm.append (Dm.create (sweepC D).2 spareL).2 spareL tx).2 spareL).2 spareL mainL).1).1, (keepE (Dm.rename (Dm.sync (Dm.append (Dm.create (sweepC D).2 spareL).2 spareL tx).2 spareL).2 spareL mainL).2 (Dm.rename (Dm.sync (Dm.append (Dm.create (sweepC D).2 spareL).2 spareL tx).2 spareL).2 spareL mainL).1).2, false)
  else (0, (Dm.rename (Dm.sync (Dm.append (Dm.create (sweepC D).2 spareL).2 spareL tx).2 spareL).2 spareL mainL).2, true)
/-- What keep is, told by its way. -/
inductive KeepW (D : Dm.Disk) (tx : List UInt8) : Nat → Dm.Disk → Bool → Prop
  | noSweep {c D1} : sweepC D = (c, D1) → c ≠ 0 → KeepW D tx c D1 false
  | noMake {c D1 D2} : sweepC D = (0, D1) → Dm.create D1 spareL = (c, D2) → c ≠ 0 → KeepW D tx c D2 false
  | noAppend {c D1 D2 D3} : sweepC D = (0, D1) → Dm.create D1 spareL = (0, D2) → Dm.append D2 spareL tx = (c, D3) → c ≠ 0 → KeepW D tx (keepE D3 c).1 (keepE D3 c).2 false
  | noSync {c D1 D2 D3 D4} : sweepC D = (0, D1) → Dm.create D1 spareL = (0, D2) → Dm.append D2 spareL tx = (0, D3) → Dm.sync D3 spareL = (c, D4) → c ≠ 0 → KeepW D tx (keepE D4 c).1 (keepE D4 c).2 false
  | noMove {c D1 D2 D3 D4 D5} : sweepC D = (0, D1) → Dm.create D1 spareL = (0, D2) → Dm.append D2 spareL tx = (0, D3) → Dm.sync D3 spareL = (0, D4) → Dm.rename D4 spareL mainL = (c, D5) → c ≠ 0 → KeepW D tx (keepE D5 c).1 (keepE D5 c).2 false
  | all {D1 D2 D3 D4 D5} : sweepC D = (0, D1) → Dm.create D1 spareL = (0, D2) → Dm.append D2 spareL tx = (0, D3) → Dm.sync D3 spareL = (0, D4) → Dm.rename D4 spareL mainL = (0, D5) → KeepW D tx 0 D5 true
theorem keepC_way {D : Dm.Disk} {tx : List UInt8} {c : Nat} {D' : Dm.Disk} {z : Bool} (h : KeepW D tx c D' z) : keepC D tx = (c, D', z) := by
  unfold keepC
  cases h with
  | noSweep h1 n => rw [h1]; simp [n]
  | noMake h1 h2 n => rw [h1]; simp [h2, n]
  | noAppend h1 h2 h3 n => rw [h1]; simp [h2, h3, n]
  | noSync h1 h2 h3 h4 n => rw [h1]; simp [h2, h3, h4, n]
  | noMove h1 h2 h3 h4 h5 n => rw [h1]; simp [h2, h3, h4, h5, n]
  | all h1 h2 h3 h4 h5 => rw [h1]; simp [h2, h3, h4, h5]
theorem man_set {x : ByteArray} (h : Bx w0 w a D ((b, manO a t dead) :: B)) : Bx w0 (w.setCell ⟨b, 1, none⟩ (.string x)) a D ((b, manO a x dead) :: B) := by
  unfold manO at h ⊢
  exact h.set 1 (.string x)
set_option maxRecDepth 100000 in
set_option maxHeartbeats 8000000 in
theorem keep_b (tx : ByteArray) (h : Bx w0 w a D ((b, manO a t dead) :: B)) (ht : tx.size ≤ maxLen) :
    Calls Tryz.prog 54 #[.pointer (some ⟨b, 0, none⟩), .string tx] w fun e w' => ∃ c D' z, e = .returned (.int .i64 (c : Nat)) ∧ KeepW D tx.data.toList c D' z ∧ Bx w0 w' a D' ((b, manO a (if z then tx else t) dead) :: B) := by
  obtain ⟨c1, D1, e1⟩ : ∃ c1 D1, sweepC D = (c1, D1) := ⟨_, _, rfl⟩
  have HS := Lib.hid (sweep_b h e1)
  have hE : ∀ (W : World) (D3 : Dm.Disk) (c : Nat), Bx w0 W a D3 ((b, manO a t dead) :: B) → Calls Tryz.prog 79 #[.pointer (some ⟨b, 0, none⟩)] W fun e w' => ∃ g : Nat, e = .returned (.int .i64 (g : Nat)) ∧ (g ≠ 0 → keepE D3 c = (g, (sweepC D3).2)) ∧ (g = 0 → keepE D3 c = (c, (sweepC D3).2)) ∧ Bx w0 w' a (sweepC D3).2 ((b, manO a t dead) :: B) := by
    intro W D3 c h3
    refine (sweep_b h3 (c := (sweepC D3).1) (D' := (sweepC D3).2) rfl).mono ?_
    rintro e w' ⟨rfl, h4⟩
    refine ⟨_, rfl, fun hg => ?_, fun hg => ?_, h4⟩
    · unfold keepE; rw [if_pos hg]
    · unfold keepE; rw [if_neg (fun k => k hg)]
  have HE := Lib.hid hE
  have E1 := Lib.hid e1
  have i1 : (0 : Int) ≤ (c1 : Int) := by omega
  have HT := Lib.hid ht
  clear h e1 hE ht
  go_enter Tryz.func54, Tryz.ntmps54
  go_wp2_with fail
  refine HS.out.mono ?_
  rintro e w1 ⟨rfl, h1⟩
  have H1 := Lib.hid h1
  clear HS
  by_cases n1 : c1 = 0
  case neg =>
    have g1 : ((c1 : Int) != 0) = true := by rw [bne_iff_ne]; omega
    have N1 := Lib.hid n1
    clear n1 h1
    go_wp2_with fail
    go_ret
    exact ⟨c1, D1, false, rfl, .noSweep E1.out N1.out, H1.out⟩
  subst n1
  obtain ⟨x0, -, -, -⟩ := man_cells h1.man
  obtain ⟨c2, D2, e2⟩ : ∃ c2 D2, Dm.create D1 spareL = (c2, D2) := ⟨_, _, rfl⟩
  have HC := Lib.hid (create_b h1 spareN (by decide) e2)
  have E2 := Lib.hid e2
  have i2 : (0 : Int) ≤ (c2 : Int) := by omega
  unfold spareN at HC
  clear h1 e2 i1
  go_wp2_with fail
  refine HC.out.mono ?_
  rintro e w2 ⟨rfl, h2⟩
  have H2 := Lib.hid h2
  clear HC x0
  by_cases n2 : c2 = 0
  case neg =>
    have g2 : ((c2 : Int) != 0) = true := by rw [bne_iff_ne]; omega
    have N2 := Lib.hid n2
    clear n2 h2
    go_wp2_with fail
    go_ret
    exact ⟨c2, D2, false, rfl, .noMake E1.out E2.out N2.out, H2.out⟩
  subst n2
  obtain ⟨x0, -, -, -⟩ := man_cells h2.man
  obtain ⟨c3, D3, e3⟩ : ∃ c3 D3, Dm.append D2 spareL tx.data.toList = (c3, D3) := ⟨_, _, rfl⟩
  have HC := Lib.hid (append_b h2 spareN tx (by decide) HT.out e3)
  have E3 := Lib.hid e3
  have i3 : (0 : Int) ≤ (c3 : Int) := by omega
  unfold spareN at HC
  clear h2 e3 i2
  go_wp2_with fail
  refine HC.out.mono ?_
  rintro e w3 ⟨rfl, h3⟩
  have H3 := Lib.hid h3
  clear HC x0
  by_cases n3 : c3 = 0
  case neg =>
    have g3 : ((c3 : Int) == 0) = false := by rw [beq_eq_false_iff_ne]; omega
    have N3 := Lib.hid n3
    clear n3 h3
    go_wp2_with fail
    refine (HE.out _ _ c3 H3.out).mono ?_
    rintro e w4 ⟨g, rfl, hp, hz, h4⟩
    have H4 := Lib.hid (And.intro hp (And.intro hz h4))
    have i4 : (0 : Int) ≤ (g : Int) := by omega
    clear hp hz h4
    by_cases n4 : g = 0
    · subst n4
      have HQ := Lib.hid (H4.out.2.1 rfl)
      have HB := Lib.hid H4.out.2.2
      clear H4
      go_wp2_with fail
      go_ret
      have hq := HQ.out
      have hk := KeepW.noAppend E1.out E2.out E3.out N3.out
      rw [hq] at hk
      exact ⟨c3, _, false, rfl, hk, HB.out⟩
    · have g4 : ((g : Int) != 0) = true := by rw [bne_iff_ne]; omega
      have N4 := Lib.hid n4
      clear n4
      go_wp2_with fail
      go_ret
      have hq := H4.out.1 N4.out
      have hk := KeepW.noAppend E1.out E2.out E3.out N3.out
      rw [hq] at hk
      exact ⟨g, _, false, rfl, hk, H4.out.2.2⟩
  subst n3
  obtain ⟨x0, -, -, -⟩ := man_cells h3.man
  obtain ⟨c4, D4, e4⟩ : ∃ c4 D4, Dm.sync D3 spareL = (c4, D4) := ⟨_, _, rfl⟩
  have HC := Lib.hid (sync_b h3 spareN (by decide) e4)
  have E4 := Lib.hid e4
  have i4 : (0 : Int) ≤ (c4 : Int) := by omega
  unfold spareN at HC
  clear h3 e4 i3
  go_wp2_with fail
  refine HC.out.mono ?_
  rintro e w4 ⟨rfl, h4⟩
  have H4 := Lib.hid h4
  clear HC x0
  by_cases n4 : c4 = 0
  case neg =>
    have g4 : ((c4 : Int) == 0) = false := by rw [beq_eq_false_iff_ne]; omega
    have N4 := Lib.hid n4
    clear n4 h4
    go_wp2_with fail
    refine (HE.out _ _ c4 H4.out).mono ?_
    rintro e w5 ⟨g, rfl, hp, hz, h5⟩
    have H5 := Lib.hid (And.intro hp (And.intro hz h5))
    have i5 : (0 : Int) ≤ (g : Int) := by omega
    clear hp hz h5
    by_cases n5 : g = 0
    · subst n5
      have HQ := Lib.hid (H5.out.2.1 rfl)
      have HB := Lib.hid H5.out.2.2
      clear H5
      go_wp2_with fail
      go_ret
      have hq := HQ.out
      have hk := KeepW.noSync E1.out E2.out E3.out E4.out N4.out
      rw [hq] at hk
      exact ⟨c4, _, false, rfl, hk, HB.out⟩
    · have g5 : ((g : Int) != 0) = true := by rw [bne_iff_ne]; omega
      have N5 := Lib.hid n5
      clear n5
      go_wp2_with fail
      go_ret
      have hq := H5.out.1 N5.out
      have hk := KeepW.noSync E1.out E2.out E3.out E4.out N4.out
      rw [hq] at hk
      exact ⟨g, _, false, rfl, hk, H5.out.2.2⟩
  subst n4
  obtain ⟨x0, -, -, -⟩ := man_cells h4.man
  obtain ⟨c5, D5, e5⟩ : ∃ c5 D5, Dm.rename D4 spareL mainL = (c5, D5) := ⟨_, _, rfl⟩
  have HC := Lib.hid (rename_b h4 spareN mainN (by decide) (by decide) e5)
  have E5 := Lib.hid e5
  have i5 : (0 : Int) ≤ (c5 : Int) := by omega
  unfold spareN mainN at HC
  clear h4 e5 i4
  go_wp2_with fail
  refine HC.out.mono ?_
  rintro e w5 ⟨rfl, h5⟩
  have H5 := Lib.hid h5
  clear HC x0
  by_cases n5 : c5 = 0
  case neg =>
    have g5 : ((c5 : Int) == 0) = false := by rw [beq_eq_false_iff_ne]; omega
    have N5 := Lib.hid n5
    clear n5 h5
    go_wp2_with fail
    refine (HE.out _ _ c5 H5.out).mono ?_
    rintro e w6 ⟨g, rfl, hp, hz, h6⟩
    have H6 := Lib.hid (And.intro hp (And.intro hz h6))
    have i6 : (0 : Int) ≤ (g : Int) := by omega
    clear hp hz h6
    by_cases n6 : g = 0
    · subst n6
      have HQ := Lib.hid (H6.out.2.1 rfl)
      have HB := Lib.hid H6.out.2.2
      clear H6
      go_wp2_with fail
      go_ret
      have hq := HQ.out
      have hk := KeepW.noMove E1.out E2.out E3.out E4.out E5.out N5.out
      rw [hq] at hk
      exact ⟨c5, _, false, rfl, hk, HB.out⟩
    · have g6 : ((g : Int) != 0) = true := by rw [bne_iff_ne]; omega
      have N6 := Lib.hid n6
      clear n6
      go_wp2_with fail
      go_ret
      have hq := H6.out.1 N6.out
      have hk := KeepW.noMove E1.out E2.out E3.out E4.out E5.out N5.out
      rw [hq] at hk
      exact ⟨g, _, false, rfl, hk, H6.out.2.2⟩
  subst n5
  obtain ⟨-, x1, -, x3⟩ := man_cells h5.man
  have x4 := x3 1
  clear h5 i5
  go_wp2_with fail
  go_ret
  exact ⟨0, D5, true, rfl, .all E1.out E2.out E3.out E4.out E5.out, man_set H5.out⟩
end
end Go.Proofs.YtbhjpkejdkfenaaGreatDoor
