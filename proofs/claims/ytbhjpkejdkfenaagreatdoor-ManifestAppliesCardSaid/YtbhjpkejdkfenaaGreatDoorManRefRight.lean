/-
  Walks over the document's answer for states: key, Right. Conditions: those in the theorems.
-/
import Derived.Test.YtbhjpkejdkfenaaGreatDoorManHelp8
import Derived.Test.YtbhjpkejdkfenaaGreatDoorManLess
import Derived.Test.YtbhjpkejdkfenaaGreatDoorManMath
import Derived.Deep.CutRange
set_option linter.unusedSimpArgs false
set_option linter.unusedVariables false
namespace Go.Proofs.YtbhjpkejdkfenaaGreatDoor
open Go.RowKit Go.Shelf
open Mf (File State Edit)
/-- v is the truth of P. -/
def Says (P : Prop) (v : Value) : Prop := ∃ b : Bool, v = .bool b ∧ (b = true ↔ P)
theorem Says.yes {P : Prop} (h : P) : Says P (.bool true) := ⟨true, rfl, by simp [h]⟩
theorem Says.no {P : Prop} (h : ¬ P) : Says P (.bool false) := ⟨false, rfl, by simp [h]⟩
def KeySays (k : ByteArray) (w : World) (e : Ending) (w' : World) : Prop := ∃ b : Bool, e = .returned (.bool b) ∧ (b = true ↔ 1 ≤ k.size ∧ k.size ≤ 128) ∧ w' = w
theorem KeySays.yes {k : ByteArray} {w : World} (h : 1 ≤ k.size ∧ k.size ≤ 128) : KeySays k w (.returned (.bool true)) w := ⟨true, rfl, by simp [h], rfl⟩
theorem KeySays.no {k : ByteArray} {w : World} (h : ¬ (1 ≤ k.size ∧ k.size ≤ 128)) : KeySays k w (.returned (.bool false)) w := ⟨false, rfl, by simp only [Bool.false_eq_true, false_iff]; exact h, rfl⟩
theorem refKey_any (k : ByteArray) (w : World) : Calls Tryz.prog 57 #[.string k] w (KeySays k w) := by
  go_enter Tryz.func57, Tryz.ntmps57
  by_cases h1 : 1 ≤ k.size
  · have i1 : (1 : Int) ≤ (k.size : Int) := by omega
    by_cases h2 : k.size ≤ 128
    · have i2 : (k.size : Int) ≤ 128 := by omega
      have HE : Hid (1 ≤ k.size ∧ k.size ≤ 128) := Lib.hid ⟨h1, h2⟩
      clear h1 h2
      go_wp2_with fail
      go_ret
      exact KeySays.yes HE.out
    · have i2 : ¬ (k.size : Int) ≤ 128 := by omega
      have HE : Hid (¬ (1 ≤ k.size ∧ k.size ≤ 128)) := Lib.hid fun h => h2 h.2
      clear h1 h2
      go_wp2_with fail
      go_ret
      exact KeySays.no HE.out
  · have i1 : ¬ (1 : Int) ≤ (k.size : Int) := by omega
    have HE : Hid (¬ (1 ≤ k.size ∧ k.size ≤ 128)) := Lib.hid fun h => h1 h.1
    clear h1
    go_wp2_with fail
    go_ret
    exact KeySays.no HE.out
theorem rfi_cells {w : World} {n l c : Int} {s t : ByteArray} {T : TypeId} : ∀ W, Below (w.alloc (.cells #[.int .i64 n, .int .i64 l, .int .i64 c, .string s, .string t] T)).heap.size (w.alloc (.cells #[.int .i64 n, .int .i64 l, .int .i64 c, .string s, .string t] T)) W →
    W.cell? ⟨w.heap.size, 0, none⟩ = some (.int .i64 n) ∧ W.cell? ⟨w.heap.size, 1, none⟩ = some (.int .i64 l) ∧ W.cell? ⟨w.heap.size, 2, none⟩ = some (.int .i64 c) ∧ W.cell? ⟨w.heap.size, 3, none⟩ = some (.string s) ∧ W.cell? ⟨w.heap.size, 4, none⟩ = some (.string t) := fun W hW =>
  mcells5 ((hW.block _ (by simp)).trans (heap_alloc_new w _))
set_option maxRecDepth 100000 in
set_option maxHeartbeats 16000000 in
theorem refRight_any {w : World} {p : Option Addr} {cap : Nat} {l : List File} {nx lg : Int} (hl : FilesAt w p l) (hn : l.length ≤ 1000000) :
    Calls Tryz.prog 24 #[stV nx lg p l.length cap] w (Tells (Mf.Right ⟨nx, lg, l⟩) w) := by
  obtain ⟨W1, hW1⟩ : ∃ W1, W1 = w.alloc (.cells #[.int .i64 nx, .int .i64 lg, .slice p l.length cap] 38) := ⟨_, rfl⟩
  have hb1 : Below w.heap.size w W1 := by rw [hW1]; exact mbelow_alloc _ _
  have h1 : W1.heap[w.heap.size]? = some (rsO nx lg p l.length cap) := by rw [hW1]; exact heap_alloc_new w _
  have HL := Lib.hid (hl.below hb1)
  have HB1 := Lib.hid hb1
  have HN := Lib.hid hn
  have HX : Hid (∀ W, Below W1.heap.size W1 W → W.heap[w.heap.size]? = some (rsO nx lg p l.length cap)) :=
    Lib.hid fun W hW => (hW.block _ (Array.getElem?_eq_some_iff.1 h1).1).trans h1
  have HG := Lib.hid (Mf.right_good (nx := nx) (lg := lg) (l := l))
  obtain ⟨c0, c1, c2, -⟩ := rs_cells h1
  unfold stV
  clear hl hb1 h1 hn
  go_enter Tryz.func24, Tryz.ntmps24
  go_upto_region 1 with fail
  rw [← hW1]
  clear hW1
  by_cases e1 : nx < 1
  · have HE := Lib.hid e1
    go_wp2_with fail
    go_ret
    exact tells false (by simp only [Bool.false_eq_true, false_iff]; intro h; have := (HG.out.1 h).1.1; have := HE.out; omega) HB1.out
  by_cases e2 : 1099511627776 < nx
  · have HE := Lib.hid e2
    go_wp2_with fail
    go_ret
    exact tells false (by simp only [Bool.false_eq_true, false_iff]; intro h; have := (HG.out.1 h).1.2; have := HE.out; omega) HB1.out
  by_cases e3 : lg < 0
  · have HE := Lib.hid e3
    go_wp2_with fail
    go_ret
    exact tells false (by simp only [Bool.false_eq_true, false_iff]; intro h; have := (HG.out.1 h).2.1.1; have := HE.out; omega) HB1.out
  by_cases e4 : 1099511627776 < lg
  · have HE := Lib.hid e4
    go_wp2_with fail
    go_ret
    exact tells false (by simp only [Bool.false_eq_true, false_iff]; intro h; have := (HG.out.1 h).2.1.2; have := HE.out; omega) HB1.out
  by_cases e5 : (200 : Int) < (l.length : Int)
  · have HE := Lib.hid e5
    go_wp2_with fail
    go_ret
    exact tells false (by simp only [Bool.false_eq_true, false_iff]; intro h; have := (HG.out.1 h).2.2.1; have := HE.out; omega) HB1.out
  have HNB : Hid ((1 ≤ nx ∧ nx ≤ 1099511627776) ∧ (0 ≤ lg ∧ lg ≤ 1099511627776) ∧ l.length ≤ 200) := Lib.hid ⟨⟨by omega, by omega⟩, ⟨by omega, by omega⟩, by omega⟩
  go_wp2_with fail
  clear c0 c1 c2 e1 e2 e3 e4 e5
  go_loopw [3] (fun kv wr => ∃ k : Nat, k ≤ l.length ∧ kv = .int .i64 (k : Nat) ∧ Hid ((∀ j (h : j < l.length), j < k → Mf.GoodAt nx l j h) ∧ Below W1.heap.size W1 wr)) (fun kv _ => l.length - (intOf kv).toNat)
  case atStart => exact ⟨0, Nat.zero_le _, rfl, Lib.hid ⟨fun _ _ h => absurd h (Nat.not_lt_zero _), Below.refl _ _⟩⟩
  case round =>
    obtain ⟨k, hk, rfl, H⟩ := hrel
    have hk9 : k ≤ 200 := by have := HNB.out.2.2; omega
    by_cases hlt : k < l.length
    · have i1 : (k : Int) < (l.length : Int) := by omega
      have i2 : (0 : Int) ≤ (k : Int) := by omega
      obtain ⟨c0, c1, c2, -⟩ := rs_cells (HX.out _ H.out.2)
      obtain ⟨A, rfl, y0, y1, y2, y3, y4, hfi⟩ := HL.out.at H.out.2 hlt
      have HFI := Lib.hid hfi
      obtain ⟨fn, hfn⟩ : ∃ x, x = l[k].n := ⟨_, rfl⟩
      obtain ⟨fl, hfl⟩ : ∃ x, x = l[k].level := ⟨_, rfl⟩
      obtain ⟨fc, hfc⟩ : ∃ x, x = l[k].count := ⟨_, rfl⟩
      obtain ⟨ff, hff⟩ : ∃ x, x = l[k].first := ⟨_, rfl⟩
      obtain ⟨ft, hft⟩ : ∃ x, x = l[k].last := ⟨_, rfl⟩
      rw [← hfn] at y0
      rw [← hfl] at y1
      rw [← hfc] at y2
      rw [← hff] at y3
      rw [← hft] at y4
      have HSZ : Hid (ff.size ≤ 9223372036854775807 ∧ ft.size ≤ 9223372036854775807) := Lib.hid (by rw [hff, hft]; have h1 := hfi.2.2.2.1; have h2 := hfi.2.2.2.2; unfold maxLen at h1 h2; exact ⟨by omega, by omega⟩)
      have HF : Hid (fn = l[k].n ∧ fl = l[k].level ∧ fc = l[k].count ∧ ff = l[k].first ∧ ft = l[k].last) := Lib.hid ⟨hfn, hfl, hfc, hff, hft⟩
      have HLT := Lib.hid hlt
      obtain ⟨W2, hW2⟩ : ∃ W2, W2 = wr.alloc (.cells #[.int .i64 fn, .int .i64 fl, .int .i64 fc, .string ff, .string ft] 35) := ⟨_, rfl⟩
      have HB2 : Hid (Below W1.heap.size W1 W2) := Lib.hid (by rw [hW2]; exact H.out.2.alloc H.out.2.size _)
      have HC2 : Hid (∀ W, Below W2.heap.size W2 W → W.cell? ⟨wr.heap.size, 0, none⟩ = some (.int .i64 fn) ∧ W.cell? ⟨wr.heap.size, 1, none⟩ = some (.int .i64 fl) ∧ W.cell? ⟨wr.heap.size, 2, none⟩ = some (.int .i64 fc) ∧ W.cell? ⟨wr.heap.size, 3, none⟩ = some (.string ff) ∧ W.cell? ⟨wr.heap.size, 4, none⟩ = some (.string ft)) := Lib.hid (by rw [hW2]; exact rfi_cells)
      have HW2 := Lib.hid hW2
      clear hfn hfl hfc hff hft hfi
      go_upto_region 7 with fail
      rw [← hW2]
      clear hW2 y0 y1 y2 y3 y4 c0 c1 c2
      obtain ⟨d0, d1, d2, d3, d4⟩ := HC2.out _ (Below.refl _ _)
      obtain ⟨c0, c1, c2, -⟩ := rs_cells (HX.out _ HB2.out)
      obtain ⟨P7, H7⟩ : ∃ P : Prop, Hid (P ↔ (fn < 1 ∨ nx ≤ fn ∨ ∃ j, ∃ h : j + 1 = k, fn ≤ (l[j]'(by omega)).n)) := ⟨_, Lib.hid Iff.rfl⟩
      obtain ⟨P9, H9⟩ : ∃ P : Prop, Hid (P ↔ (fl < 0 ∨ 4 ≤ fl ∨ fc < 1 ∨ 4096 < fc ∨ ¬ (1 ≤ ff.size ∧ ff.size ≤ 128) ∨ ¬ (1 ≤ ft.size ∧ ft.size ≤ 128))) := ⟨_, Lib.hid Iff.rfl⟩
      obtain ⟨P11, H11⟩ : ∃ P : Prop, Hid (P ↔ (Mm.lt ft ff = true ∨ fc = 1 ∧ ff ≠ ft ∨ 1 < fc ∧ ff = ft)) := ⟨_, Lib.hid Iff.rfl⟩
      have HGK : Hid (¬ P7 → ¬ P9 → ¬ P11 → (∀ j (hj : j < k), ¬ Mf.Meet (l[j]'(by omega)) (l[k]'hlt)) → Mf.GoodAt nx l k hlt) := Lib.hid fun a b c d => by
        obtain ⟨r0, r1, r2, r3, r4⟩ := HF.out
        rw [H7.out, not_or, not_or] at a
        rw [H9.out] at b
        rw [H11.out] at c
        subst r0 r1 r2 r3 r4
        refine ⟨by omega, by omega, fun j hj => ?_, Mf.isFile_iff.2 ⟨b, c⟩, d⟩
        by_cases e : l[j].n < l[k].n
        · exact e
        · exact absurd ⟨j, hj, by omega⟩ a.2.2
      have HB7 : Hid (P7 → ¬ Mf.Right ⟨nx, lg, l⟩) := Lib.hid fun a h => by
        obtain ⟨r0, -⟩ := HF.out
        have g := (HG.out.1 h).2.2.2 k hlt
        rw [H7.out, r0] at a
        rcases a with a | a | ⟨j, hj, a⟩
        · have := g.least; omega
        · have := g.below; omega
        · have := g.above j hj; omega
      have HB9 : Hid (P9 → ¬ Mf.Right ⟨nx, lg, l⟩) := Lib.hid fun a h => by
        obtain ⟨r0, r1, r2, r3, r4⟩ := HF.out
        subst r0 r1 r2 r3 r4
        exact (Mf.isFile_iff.1 ((HG.out.1 h).2.2.2 k hlt).file).1 (H9.out.1 a)
      have HB11 : Hid (P11 → ¬ Mf.Right ⟨nx, lg, l⟩) := Lib.hid fun a h => by
        obtain ⟨r0, r1, r2, r3, r4⟩ := HF.out
        subst r0 r1 r2 r3 r4
        exact (Mf.isFile_iff.1 ((HG.out.1 h).2.2.2 k hlt).file).2 (H11.out.1 a)
      have HBM : Hid (∀ j (hj : j < k), Mf.Meet (l[j]'(by omega)) (l[k]'hlt) → ¬ Mf.Right ⟨nx, lg, l⟩) := Lib.hid fun j hj a h => ((HG.out.1 h).2.2.2 k hlt).apart j hj a
      go_cut [68] from 31 to 163 (fun cv wx => Says P7 cv ∧ Hid (Below W2.heap.size W2 wx))
      case first =>
        by_cases a1 : fn < 1
        · have HE := Lib.hid (H7.out.2 (.inl a1))
          go_quiet (fail)
          go_wp2_with fail
          go_meet
          exact ⟨Says.yes HE.out, Lib.hid (below_drewN (Below.refl _ _) _)⟩
        by_cases a2 : nx ≤ fn
        · have HE := Lib.hid (H7.out.2 (.inr (.inl a2)))
          go_quiet (fail)
          go_wp2_with fail
          go_meet
          exact ⟨Says.yes HE.out, Lib.hid (below_drewN (Below.refl _ _) _)⟩
        by_cases a3 : k = 0
        · have i3 : ¬ (0 : Int) < (k : Int) := by omega
          have i3n : ¬ 0 < k := by omega
          have i3d : decide (0 < k) = false := decide_eq_false i3n
          have HE : Hid (¬ P7) := Lib.hid fun h => by
            rcases H7.out.1 h with h | h | ⟨j, h, -⟩
            · exact a1 h
            · exact a2 h
            · omega
          clear a3
          go_quiet (fail)
          go_wp2_with fail
          go_meet
          exact ⟨Says.no HE.out, Lib.hid (below_drewN (Below.refl _ _) _)⟩
        obtain ⟨j, hj⟩ : ∃ j, k = j + 1 := ⟨k - 1, by omega⟩
        have hjl : j < l.length := by omega
        obtain ⟨A', e, z0, -⟩ := HL.out.at HB2.out hjl
        cases e
        have i3 : (0 : Int) < (k : Int) := by omega
        have i3n : 0 < k := by omega
        have i3d : decide (0 < k) = true := decide_eq_true i3n
        have i4 : (0 : Int) ≤ (j : Int) := by omega
        have i5 : (j : Int) < (l.length : Int) := by omega
        have i6 : IntKind.i64.wrap ((k : Int) - 1) = (j : Int) := (IntWalk.i64_in _ (by omega)).trans (by omega)
        obtain ⟨pn, hpn⟩ : ∃ x, x = l[j].n := ⟨_, rfl⟩
        rw [← hpn] at z0
        by_cases a4 : fn ≤ pn
        · have HE : Hid P7 := Lib.hid (H7.out.2 (.inr (.inr ⟨j, hj.symm, by rw [← hpn]; exact a4⟩)))
          clear hj hpn
          go_quiet (fail)
          go_wp2_with fail
          go_meet
          exact ⟨Says.yes HE.out, Lib.hid (below_drewN (Below.refl _ _) _)⟩
        · have HE : Hid (¬ P7) := Lib.hid fun h => by
            rcases H7.out.1 h with h | h | ⟨j2, h, h2⟩
            · exact a1 h
            · exact a2 h
            · obtain rfl : j2 = j := by omega
              exact a4 (by rw [hpn]; exact h2)
          clear hj hpn
          go_quiet (fail)
          go_wp2_with fail
          go_meet
          exact ⟨Says.no HE.out, Lib.hid (below_drewN (Below.refl _ _) _)⟩
      case rest =>
        clear d0 d1 d2 d3 d4 c0 c1 c2
        obtain ⟨⟨c, rfl, hc⟩, HBC⟩ := hcut
        cases c with
        | true =>
          have HE := Lib.hid (HB7.out (hc.1 rfl))
          clear hc
          go_wp2_with fail
          go_ret
          exact tells false (by simp only [Bool.false_eq_true, false_iff]; exact HE.out) (HB1.out.trans ((HB2.out.trans (HBC.out.mono HB2.out.size)).mono HB1.out.size))
        | false =>
          have HE7 : Hid (¬ P7) := Lib.hid fun h => by have := hc.2 h; cases this
          clear hc
          obtain ⟨d0, d1, d2, d3, d4⟩ := HC2.out _ HBC.out
          go_upto_region 9 with fail
          go_cut [98] from 31 to 163 (fun cv wx => Says P9 cv ∧ wx = wc)
          case first =>
            by_cases a1 : fl < 0
            · have HE := Lib.hid (H9.out.2 (.inl a1))
              go_wp2_with fail
              go_meet
              exact ⟨Says.yes HE.out, rfl⟩
            by_cases a2 : 4 ≤ fl
            · have HE := Lib.hid (H9.out.2 (.inr (.inl a2)))
              go_wp2_with fail
              go_meet
              exact ⟨Says.yes HE.out, rfl⟩
            by_cases a3 : fc < 1
            · have HE := Lib.hid (H9.out.2 (.inr (.inr (.inl a3))))
              go_wp2_with fail
              go_meet
              exact ⟨Says.yes HE.out, rfl⟩
            by_cases a4 : 4096 < fc
            · have HE := Lib.hid (H9.out.2 (.inr (.inr (.inr (.inl a4)))))
              go_wp2_with fail
              go_meet
              exact ⟨Says.yes HE.out, rfl⟩
            have HA := Lib.hid (And.intro a1 (And.intro a2 (And.intro a3 a4)))
            go_wp2_with fail
            refine (refKey_any ff _).mono ?_
            rintro e w4 ⟨b, rfl, hb, rfl⟩
            cases b with
            | false =>
              have HE := Lib.hid (H9.out.2 (.inr (.inr (.inr (.inr (.inl fun h => by have := hb.2 h; cases this))))))
              clear hb
              go_wp2_with fail
              go_meet
              exact ⟨Says.yes HE.out, rfl⟩
            | true =>
              have HK := Lib.hid (hb.1 rfl)
              clear hb
              go_wp2_with fail
              refine (refKey_any ft _).mono ?_
              rintro e w5 ⟨b, rfl, hb, rfl⟩
              cases b with
              | false =>
                have HE := Lib.hid (H9.out.2 (.inr (.inr (.inr (.inr (.inr fun h => by have := hb.2 h; cases this))))))
                clear hb
                go_wp2_with fail
                go_meet
                exact ⟨Says.yes HE.out, rfl⟩
              | true =>
                have HE : Hid (¬ P9) := Lib.hid fun h => by
                  obtain ⟨q1, q2, q3, q4⟩ := HA.out
                  rcases H9.out.1 h with h | h | h | h | h | h
                  · omega
                  · omega
                  · omega
                  · omega
                  · exact h HK.out
                  · exact h (hb.1 rfl)
                clear hb
                go_wp2_with fail
                go_meet
                exact ⟨Says.no HE.out, rfl⟩
          case rest =>
            obtain ⟨⟨c, rfl, hc⟩, rfl⟩ := hcut
            cases c with
            | true =>
              have HE := Lib.hid (HB9.out (hc.1 rfl))
              clear hc
              go_wp2_with fail
              go_ret
              exact tells false (by simp only [Bool.false_eq_true, false_iff]; exact HE.out) (HB1.out.trans ((HB2.out.trans (HBC.out.mono HB2.out.size)).mono HB1.out.size))
            | false =>
              have HE9 : Hid (¬ P9) := Lib.hid fun h => by have := hc.2 h; cases this
              clear hc
              go_upto_region 11 with fail
              go_cut [127] from 31 to 163 (fun cv wx => Says P11 cv ∧ Hid (Below W2.heap.size W2 wx))
              case first =>
                go_wp2_with fail
                refine (refLess_any ft ff HSZ.out.2 HSZ.out.1 _).mono ?_
                rintro e w4 ⟨rfl, n, rfl⟩
                have HB4 := Lib.hid (below_drewN HBC.out n)
                obtain ⟨e0, e1, e2, e3, e4⟩ := HC2.out _ HB4.out
                clear d0 d1 d2 d3 d4
                by_cases b1 : Mm.lt ft ff = true
                · have HE := Lib.hid (H11.out.2 (.inl b1))
                  rw [b1]
                  clear b1
                  go_wp2_with fail
                  go_meet
                  exact ⟨Says.yes HE.out, HB4⟩
                · have b1' : Mm.lt ft ff = false := by simpa using b1
                  have HB1' := Lib.hid b1
                  rw [b1']
                  clear b1 b1'
                  by_cases b2 : fc = 1
                  · have j1 : (fc == 1) = true := by rw [beq_iff_eq]; exact b2
                    have j2 : ¬ 1 < fc := by omega
                    have HB2' := Lib.hid b2
                    by_cases b3 : ff = ft
                    · have j3 : (ff.toList != ft.toList) = false := by rw [b3, bne_self_eq_false]
                      have j4 : (ff.toList == ft.toList) = true := by rw [b3, beq_self_eq_true]
                      have j5 : ff.toList = ft.toList := by rw [b3]
                      have HE : Hid (¬ P11) := Lib.hid fun h => by
                        rcases H11.out.1 h with h | ⟨-, h⟩ | ⟨h, -⟩
                        · exact HB1'.out h
                        · exact h b3
                        · omega
                      clear b2 b3
                      go_wp2_with fail
                      go_meet
                      exact ⟨Says.no HE.out, HB4⟩
                    · have j3 : (ff.toList != ft.toList) = true := by rw [bne_iff_ne]; exact fun h => b3 (Mm.toList_inj h)
                      have j4 : (ff.toList == ft.toList) = false := by rw [beq_eq_false_iff_ne]; exact fun h => b3 (Mm.toList_inj h)
                      have j5 : ¬ ff.toList = ft.toList := fun h => b3 (Mm.toList_inj h)
                      have HE : Hid P11 := Lib.hid (H11.out.2 (.inr (.inl ⟨b2, b3⟩)))
                      clear b2 b3
                      go_wp2_with fail
                      go_meet
                      exact ⟨Says.yes HE.out, HB4⟩
                  · have j1 : (fc == 1) = false := by rw [beq_eq_false_iff_ne]; exact b2
                    by_cases b4 : 1 < fc
                    · by_cases b3 : ff = ft
                      · have j3 : (ff.toList == ft.toList) = true := by rw [b3, beq_self_eq_true]
                        have HE : Hid P11 := Lib.hid (H11.out.2 (.inr (.inr ⟨b4, b3⟩)))
                        clear b2 b3
                        go_wp2_with fail
                        go_meet
                        exact ⟨Says.yes HE.out, HB4⟩
                      · have j3 : (ff.toList == ft.toList) = false := by rw [beq_eq_false_iff_ne]; exact fun h => b3 (Mm.toList_inj h)
                        have HE : Hid (¬ P11) := Lib.hid fun h => by
                          rcases H11.out.1 h with h | ⟨h, -⟩ | ⟨-, h⟩
                          · exact HB1'.out h
                          · exact b2 h
                          · exact b3 h
                        clear b2 b3
                        go_wp2_with fail
                        go_meet
                        exact ⟨Says.no HE.out, HB4⟩
                    · have HE : Hid (¬ P11) := Lib.hid fun h => by
                        rcases H11.out.1 h with h | ⟨h, -⟩ | ⟨h, -⟩
                        · exact HB1'.out h
                        · exact b2 h
                        · exact b4 h
                      clear b2
                      go_wp2_with fail
                      go_meet
                      exact ⟨Says.no HE.out, HB4⟩
              case rest =>
                clear d0 d1 d2 d3 d4
                obtain ⟨⟨c, rfl, hc⟩, HBD⟩ := hcut
                cases c with
                | true =>
                  have HE := Lib.hid (HB11.out (hc.1 rfl))
                  clear hc
                  go_wp2_with fail
                  go_ret
                  exact tells false (by simp only [Bool.false_eq_true, false_iff]; exact HE.out) (HB1.out.trans ((HB2.out.trans (HBD.out.mono HB2.out.size)).mono HB1.out.size))
                | false =>
                  have HE11 : Hid (¬ P11) := Lib.hid fun h => by have := hc.2 h; cases this
                  clear hc
                  go_wp2_with fail
                  generalize wr.heap.size = fb at *
                  clear HW2
                  go_loopw [5] (fun mv wr => ∃ m : Nat, m ≤ k ∧ mv = .int .i64 (m : Nat) ∧ Hid ((∀ j (hj : j < k), j < m → ¬ Mf.Meet (l[j]'(by omega)) (l[k]'hlt)) ∧ Below W2.heap.size W2 wr)) (fun mv _ => k - (intOf mv).toNat)
                  case atStart => exact ⟨0, Nat.zero_le _, rfl, Lib.hid ⟨fun _ _ h => absurd h (Nat.not_lt_zero _), HBD.out⟩⟩
                  case round =>
                    obtain ⟨m, hm, rfl, H5⟩ := hrel
                    by_cases hmk : m < k
                    · have HB5 : Hid (Below W1.heap.size W1 wr) := Lib.hid (HB2.out.trans (H5.out.2.mono HB2.out.size))
                      have hml : m < l.length := by omega
                      have i3 : (m : Int) < (k : Int) := by omega
                      have i4 : (0 : Int) ≤ (m : Int) := by omega
                      have i5 : (m : Int) < (l.length : Int) := by omega
                      obtain ⟨c0, c1, c2, -⟩ := rs_cells (HX.out _ HB5.out)
                      obtain ⟨A', ea, y0, y1, y2, y3, y4, hfi⟩ := HL.out.at HB5.out hml
                      cases ea
                      obtain ⟨gn, hgn⟩ : ∃ x, x = l[m].n := ⟨_, rfl⟩
                      obtain ⟨gl, hgl⟩ : ∃ x, x = l[m].level := ⟨_, rfl⟩
                      obtain ⟨gc, hgc⟩ : ∃ x, x = l[m].count := ⟨_, rfl⟩
                      obtain ⟨gf, hgf⟩ : ∃ x, x = l[m].first := ⟨_, rfl⟩
                      obtain ⟨gt, hgt⟩ : ∃ x, x = l[m].last := ⟨_, rfl⟩
                      have HSG : Hid (gf.size ≤ 9223372036854775807 ∧ gt.size ≤ 9223372036854775807) := Lib.hid (by rw [hgf, hgt]; have h1 := hfi.2.2.2.1; have h2 := hfi.2.2.2.2; unfold maxLen at h1 h2; exact ⟨by omega, by omega⟩)
                      obtain ⟨P17, H17⟩ : ∃ P : Prop, Hid (P ↔ (0 < fl ∧ gl = fl ∧ Mm.lt ft gf = false ∧ Mm.lt gt ff = false)) := ⟨_, Lib.hid Iff.rfl⟩
                      have HM17 : Hid (P17 ↔ Mf.Meet (l[m]'hml) (l[k]'hlt)) := Lib.hid (by
                        obtain ⟨r0, r1, r2, r3, r4⟩ := HF.out
                        rw [H17.out, Mf.meet_iff, r1, r3, r4, hgl, hgf, hgt])
                      rw [← hgn] at y0
                      rw [← hgl] at y1
                      rw [← hgc] at y2
                      rw [← hgf] at y3
                      rw [← hgt] at y4
                      obtain ⟨W3, hW3⟩ : ∃ W3, W3 = wr.alloc (.cells #[.int .i64 gn, .int .i64 gl, .int .i64 gc, .string gf, .string gt] 35) := ⟨_, rfl⟩
                      have HB23 : Hid (Below W2.heap.size W2 W3) := Lib.hid (by rw [hW3]; exact H5.out.2.alloc H5.out.2.size _)
                      have HC3 : Hid (∀ W, Below W3.heap.size W3 W → W.cell? ⟨wr.heap.size, 0, none⟩ = some (.int .i64 gn) ∧ W.cell? ⟨wr.heap.size, 1, none⟩ = some (.int .i64 gl) ∧ W.cell? ⟨wr.heap.size, 2, none⟩ = some (.int .i64 gc) ∧ W.cell? ⟨wr.heap.size, 3, none⟩ = some (.string gf) ∧ W.cell? ⟨wr.heap.size, 4, none⟩ = some (.string gt)) := Lib.hid (by rw [hW3]; exact rfi_cells)
                      have HH5 := Lib.hid H5.out.1
                      clear hgn hgl hgc hgf hgt hfi H5
                      go_upto_region 17 with fail
                      rw [← hW3]
                      clear hW3 y0 y1 y2 y3 y4 c0 c1 c2
                      obtain ⟨d0, d1, d2, d3, d4⟩ := HC2.out _ HB23.out
                      obtain ⟨g0, g1, g2, g3, g4⟩ := HC3.out _ (Below.refl _ _)
                      go_cut [163] from 128 to 163 (fun cv wx => Says P17 cv ∧ Hid (Below W3.heap.size W3 wx))
                      case first =>
                        by_cases b1 : 0 < fl
                        case neg =>
                          have HE : Hid (¬ P17) := Lib.hid fun h => b1 (H17.out.1 h).1
                          go_wp2_with fail
                          go_meet
                          exact ⟨Says.no HE.out, Lib.hid (Below.refl _ _)⟩
                        by_cases b2 : gl = fl
                        case neg =>
                          have HE : Hid (¬ P17) := Lib.hid fun h => b2 (H17.out.1 h).2.1
                          have j1 : (gl == fl) = false := by rw [beq_eq_false_iff_ne]; exact b2
                          clear b2
                          go_wp2_with fail
                          go_meet
                          exact ⟨Says.no HE.out, Lib.hid (Below.refl _ _)⟩
                        have j1 : (gl == fl) = true := by rw [beq_iff_eq]; exact b2
                        have HBB := Lib.hid (And.intro b1 b2)
                        clear b2
                        go_wp2_with fail
                        refine (refLess_any ft gf HSZ.out.2 HSG.out.1 _).mono ?_
                        rintro e w6 ⟨rfl, n6, rfl⟩
                        cases hl1 : Mm.lt ft gf with
                        | true =>
                          have HE : Hid (¬ P17) := Lib.hid fun h => by have := (H17.out.1 h).2.2.1; rw [hl1] at this; cases this
                          clear hl1
                          go_wp2_with fail
                          go_meet
                          exact ⟨Says.no HE.out, Lib.hid (below_drewN (Below.refl _ _) _)⟩
                        | false =>
                          have HL1 := Lib.hid hl1
                          have HB6 : Hid (Below W3.heap.size W3 (W3.drewN n6)) := Lib.hid (below_drewN (Below.refl _ _) _)
                          clear hl1 d0 d1 d2 d3 d4 g0 g1 g2 g3 g4
                          obtain ⟨d0, d1, d2, d3, d4⟩ := HC2.out _ (HB23.out.trans (HB6.out.mono HB23.out.size))
                          obtain ⟨g0, g1, g2, g3, g4⟩ := HC3.out _ HB6.out
                          go_wp2_with fail
                          refine (refLess_any gt ff HSG.out.2 HSZ.out.1 _).mono ?_
                          rintro e w7 ⟨rfl, n7, rfl⟩
                          cases hl2 : Mm.lt gt ff with
                          | true =>
                            have HE : Hid (¬ P17) := Lib.hid fun h => by have := (H17.out.1 h).2.2.2; rw [hl2] at this; cases this
                            clear hl2
                            go_wp2_with fail
                            go_meet
                            exact ⟨Says.no HE.out, Lib.hid (below_drewN (Below.refl _ _) _)⟩
                          | false =>
                            have HE : Hid P17 := Lib.hid (H17.out.2 ⟨HBB.out.1, HBB.out.2, HL1.out, hl2⟩)
                            clear hl2
                            go_wp2_with fail
                            go_meet
                            exact ⟨Says.yes HE.out, Lib.hid (below_drewN (Below.refl _ _) _)⟩
                      case rest =>
                        clear d0 d1 d2 d3 d4 g0 g1 g2 g3 g4
                        obtain ⟨⟨c, rfl, hc⟩, HBE⟩ := hcut
                        have HB2E := Lib.hid (HB23.out.trans (HBE.out.mono HB23.out.size))
                        cases c with
                        | true =>
                          have HE := Lib.hid (HBM.out m hmk (HM17.out.1 (hc.1 rfl)))
                          clear hc
                          go_wp2_with fail
                          go_ret
                          exact tells false (by simp only [Bool.false_eq_true, false_iff]; exact HE.out) (HB1.out.trans ((HB2.out.trans (HB2E.out.mono HB2.out.size)).mono HB1.out.size))
                        | false =>
                          have HE : Hid (∀ j (hj : j < k), j < m + 1 → ¬ Mf.Meet (l[j]'(by omega)) (l[k]'hlt)) := Lib.hid fun j hj hjm => by
                            by_cases e : j = m
                            · subst e
                              exact fun h => by have := hc.2 (HM17.out.2 h); cases this
                            · exact HH5.out j hj (by omega)
                          clear hc
                          go_wp2_with fail
                          go_roundw
                          case rel => exact ⟨m + 1, by omega, by go_num, Lib.hid ⟨HE.out, HB2E.out⟩⟩
                          case measure => simp [intOf]; omega
                    · obtain rfl : m = k := by omega
                      have i3 : ¬ (m : Int) < (m : Int) := by omega
                      have HGO : Hid (∀ j (h : j < l.length), j < m + 1 → Mf.GoodAt nx l j h) := Lib.hid fun j h hj => by
                        by_cases e : j = m
                        · subst e
                          exact HGK.out HE7.out HE9.out HE11.out fun i hi => H5.out.1 i hi hi
                        · exact H.out.1 j h (by omega)
                      have HB5 := Lib.hid (HB2.out.trans (H5.out.2.mono HB2.out.size))
                      go_wp2_with fail
                      go_roundw
                      case rel => exact ⟨m + 1, by omega, by go_num, Lib.hid ⟨HGO.out, HB5.out⟩⟩
                      case measure => simp [intOf]; omega
    · obtain rfl : k = l.length := by omega
      have i1 : ¬ (l.length : Int) < (l.length : Int) := by omega
      obtain ⟨c0, c1, c2, -⟩ := rs_cells (HX.out _ H.out.2)
      go_wp2_with fail
      go_ret
      exact tells true (by simp only [true_iff]; exact HG.out.2 ⟨HNB.out.1, HNB.out.2.1, HNB.out.2.2, fun k h => H.out.1 k h h⟩) (HB1.out.trans (H.out.2.mono HB1.out.size))
end Go.Proofs.YtbhjpkejdkfenaaGreatDoor
