/-
  Walks over package manifest: with, own. Conditions: those in the theorems.
-/
import Derived.Test.YtbhjpkejdkfenaaGreatDoorManSort
import Derived.Deep.RegionHeld3
namespace Go.Proofs.YtbhjpkejdkfenaaGreatDoor
open Go.RowKit Go.Shelf Go.Sort
open Mf (File)

theorem FilesAt.eq {w : World} {p : Option Addr} {l : List File} (h : FilesAt w p l) {m : List File} (e : m = l) : FilesAt w p m := by rw [e]; exact h
/-- What with answers. -/
def Joined (l m : List File) (w : World) (e : Ending) (w' : World) : Prop :=
  (Mf.Twice (l ++ m) → e = .returned (.tuple #[.slice none 0 0, .bool false]) ∧ Below w.heap.size w w') ∧
  (¬ Mf.Twice (l ++ m) → ∃ v x, e = .returned (.tuple #[v, .bool true]) ∧ x.Perm (l ++ m) ∧ Mf.Upward x ∧ OwnFis w' w.heap.size v x ∧ Below w.heap.size w w')
theorem twice_step {x : List File} (hu : Mf.Upward x) : (∃ i, ∃ h : i < x.length, 0 < i ∧ (x[i - 1]'(by omega)).n = x[i].n) ↔ Mf.Twice x := by
  unfold Mf.Upward at hu
  rw [List.pairwise_iff_getElem] at hu
  unfold Mf.Twice
  constructor
  · rintro ⟨i, hi, h0, he⟩ hnd
    unfold List.Nodup at hnd
    rw [List.pairwise_map, List.pairwise_iff_getElem] at hnd
    exact hnd (i - 1) i (by omega) hi (by omega) he
  · intro h
    refine Classical.byContradiction fun hn => h ?_
    unfold List.Nodup
    rw [List.pairwise_map, List.pairwise_iff_getElem]
    intro i j hi hj hij he
    refine hn ⟨i + 1, by omega, by omega, ?_⟩
    have h1 := hu i (i + 1) hi (by omega) (by omega)
    have h2 : x[i + 1].n ≤ x[j].n := by
      rcases Nat.lt_or_ge (i + 1) j with h | h
      · exact hu (i + 1) j (by omega) hj h
      · obtain rfl : j = i + 1 := by omega
        exact Int.le_refl _
    have h3 : i + 1 - 1 = i := by omega
    simp only [h3]
    omega
/-- Up to a place no table has the number of the one ahead of it. -/
def NoTwice (x : List File) (k : Nat) : Prop := ∀ i, ∀ h : i < x.length, i < k → 0 < i → (x[i - 1]'(by omega)).n ≠ x[i].n
set_option maxRecDepth 100000 in
set_option maxHeartbeats 8000000 in
theorem with_any {w : World} {p q : Option Addr} {cl cm : Nat} {l m : List File} (hl : FilesAt w p l) (hm : FilesAt w q m) (hs : l.length + m.length ≤ 1000000) :
    Calls Tryz.prog 38 #[.slice p l.length cl, .slice q m.length cm] w (Joined l m w) := by
  have hb0 := mbelow_alloc w (.cells #[.slice p l.length cl, .slice q m.length cm] 22)
  have hc := ConcatF_any (heap_alloc_new w (.cells #[.slice p l.length cl, .slice q m.length cm] 22)) (hl.below hb0) (hm.below hb0) hs
  have HC := Lib.hid hc
  have HB0 := Lib.hid hb0
  have HIN : Hid (∀ f ∈ l ++ m, FiIn f) := Lib.hid fun f hf => (List.mem_append.1 hf).elim (hl.ok f) (hm.ok f)
  have HS := Lib.hid hs
  clear hc hb0 hl hm hs
  go_enter Tryz.func38, Tryz.ntmps38
  go_wp2_with fail
  refine HC.out.mono ?_
  rintro e w1 ⟨v, rfl, ho, hb1⟩
  have HB1 := Lib.hid (HB0.out.trans (hb1.mono HB0.out.size))
  have HO1 : Hid (OwnFis w1 w.heap.size v (l ++ m)) := Lib.hid (ho.mono HB0.out.size)
  clear ho hb1
  go_wp2_with fail
  refine (sortF_any HO1.out (by rw [List.length_append]; exact HS.out)).mono ?_
  rintro e w2 ⟨rfl, x, hxp, hxu, ho2, hg2⟩
  have HB2 := Lib.hid (hg2.below HB1.out HB1.out.size fun k hk => (HO1.out.lt k hk).1)
  have HXP := Lib.hid hxp
  have HXU := Lib.hid hxu
  have HO2 := Lib.hid ho2
  have HXI : Hid (∀ f ∈ x, FiIn f) := Lib.hid fun f hf => HIN.out f (hxp.mem_iff.1 hf)
  have hxl : x.length ≤ 1000000 := by rw [hxp.length_eq, List.length_append]; exact HS.out
  obtain ⟨pv, cv, rfl, -, -, hfx⟩ := ho2.files HXI.out
  have HFX := Lib.hid hfx
  clear hxp hxu ho2 hg2 hfx
  go_wp2_with fail
  go_loopw [16] (fun kv wr => ∃ k : Nat, k ≤ x.length ∧ kv = .int .i64 (k : Nat) ∧ Hid (NoTwice x k ∧ Below w2.heap.size w2 wr)) (fun kv _ => x.length - (intOf kv).toNat)
  case atStart => exact ⟨0, Nat.zero_le _, rfl, Lib.hid ⟨fun i _ h => by omega, Below.refl _ _⟩⟩
  case round =>
    obtain ⟨k, hk, rfl, H⟩ := hrel
    by_cases hlt : k < x.length
    · have i1 : (k : Int) < (x.length : Int) := by omega
      have i2 : (0 : Int) ≤ (k : Int) := by omega
      by_cases h0 : k = 0
      · have j0 : decide ((0 : Int) < (k : Int)) = false := decide_eq_false (by omega)
        have j6 : decide (0 < k) = false := decide_eq_false (by omega)
        have HN : Hid (NoTwice x (k + 1)) := Lib.hid fun i h h1 h2 => by omega
        clear h0
        go_wp2_with fail
        go_quiet (fail)
        go_wp2_with fail
        go_roundw
        case rel => exact ⟨k + 1, by omega, by go_num, Lib.hid ⟨HN.out, mbelow_drew H.out.2 _⟩⟩
        case measure => simp [intOf]; omega
      · have j0 : (0 : Int) < (k : Int) := by omega
        obtain ⟨A, rfl, c0, c1, c2, c3, c4, hin⟩ := HFX.out.at H.out.2 hlt
        obtain ⟨A', eA, b0, b1, b2, b3, b4, hin2⟩ := HFX.out.at H.out.2 (show k - 1 < x.length by omega)
        cases eA
        clear c1 c2 c3 c4 hin b1 b2 b3 b4 hin2
        have j1 : (0 : Int) ≤ (k : Int) - 1 := by omega
        have j2 : (k : Int) - 1 < (x.length : Int) := by omega
        have j3 : ((k : Int) - 1).toNat = k - 1 := by omega
        have j4 : IntKind.i64.wrap ((k : Int) - 1) = (k : Int) - 1 := IntWalk.i64_in _ (by omega)
        have j5 : (1 : Int) ≤ (k : Int) := by omega
        have j6 : 0 < k := by omega
        have j7 : 1 ≤ k := by omega
        by_cases he : (x[k - 1]'(by omega)).n = x[k].n
        · have HT : Hid (Mf.Twice (l ++ m)) := Lib.hid ((Mf.twice_perm HXP.out).1 ((twice_step HXU.out).1 ⟨k, hlt, by omega, he⟩))
          rw [he] at b0
          generalize hy : x[k].n = y at b0 c0
          clear he hy h0
          have ee : (y == y) = true := by simp
          go_wp2_with fail
          go_quiet (fail)
          go_wp2_with fail
          go_ret2
          exact ⟨fun _ => ⟨rfl, HB2.out.trans ((mbelow_drew H.out.2 _).mono HB2.out.size)⟩, fun h => absurd HT.out h⟩
        · have HN : Hid (NoTwice x (k + 1)) := Lib.hid fun i h h1 h2 => by
            by_cases e : i = k
            · subst e; exact he
            · exact H.out.1 i h (by omega) h2
          have ee : (x[k].n == (x[k - 1]'(by omega)).n) = false := by rw [beq_eq_false_iff_ne]; exact fun e => he e.symm
          generalize hy : x[k].n = y at c0 ee
          generalize hy0 : (x[k - 1]'(by omega)).n = y0 at b0 ee
          clear he h0 hy hy0
          go_wp2_with fail
          go_quiet (fail)
          go_wp2_with fail
          go_roundw
          case rel => exact ⟨k + 1, by omega, by go_num, Lib.hid ⟨HN.out, mbelow_drew H.out.2 _⟩⟩
          case measure => simp [intOf]; omega
    · obtain rfl : k = x.length := by omega
      have i1 : ¬ (x.length : Int) < (x.length : Int) := by omega
      go_wp2_with fail
      go_ret2
      have hnt : ¬ Mf.Twice (l ++ m) := fun h => by
        obtain ⟨i, hi, hi0, he⟩ := (twice_step HXU.out).2 ((Mf.twice_perm HXP.out).2 h)
        exact H.out.1 i hi hi hi0 he
      exact ⟨fun h => absurd h hnt, fun _ => ⟨_, x, rfl, HXP.out, HXU.out, HO2.out.below H.out.2, HB2.out.trans (H.out.2.mono HB2.out.size)⟩⟩
end Go.Proofs.YtbhjpkejdkfenaaGreatDoor
