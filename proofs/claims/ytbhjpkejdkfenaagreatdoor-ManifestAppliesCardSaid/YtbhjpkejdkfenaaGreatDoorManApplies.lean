/-
  The law ManifestApplies, walked. Conditions: those in the theorems.
-/
import Derived.Test.YtbhjpkejdkfenaaGreatDoorManCopied
import Derived.Test.YtbhjpkejdkfenaaGreatDoorManRefApply
import Derived.Test.YtbhjpkejdkfenaaGreatDoorManKnown
set_option linter.unusedSimpArgs false
set_option linter.unusedVariables false
namespace Go.Proofs.YtbhjpkejdkfenaaGreatDoor
open Go.RowKit Go.Shelf
open Mf (File State Edit)
theorem ed_box {w W W' : World} {q r : Option Addr} {nd cd na ca : Nat} {nx lg : Int} (hW : W = w.alloc (.cells #[.slice q nd cd, .slice r na ca, .int .i64 nx, .int .i64 lg] 33)) (h : Below W.heap.size W W') :
    W'.cell? ⟨w.heap.size, 0, none⟩ = some (.slice q nd cd) ∧ W'.cell? ⟨w.heap.size, 1, none⟩ = some (.slice r na ca) ∧ W'.cell? ⟨w.heap.size, 2, none⟩ = some (.int .i64 nx) ∧ W'.cell? ⟨w.heap.size, 3, none⟩ = some (.int .i64 lg) := by
  subst hW
  exact ed_cells ((h.block _ (by simp)).trans (heap_alloc_new w _))
theorem files_lt {W : World} {p : Option Addr} {xs : List File} (h : FilesAt W p xs) (hn : xs ≠ []) {A : Addr} (e : p = some A) : A.block < W.heap.size := by
  have hpos : 0 < xs.length := by cases xs with
    | nil => exact absurd rfl hn
    | cons _ _ => simp
  obtain ⟨A', e', h2, -, -⟩ := h 0 hpos
  rw [e] at e'; cases e'; exact h2
/-- A state of the document's is put into its own block; the row of its tables lies elsewhere. -/
theorem stored_rs {B : Nat} {w W : World} {zb n cw : Nat} {nx lg : Int} {pw : Option Addr} {xs : List File} (hz : W.heap[zb]? = some (rsO 0 0 none 0 0)) (ho : FilesAt W pw xs) (hne : xs ≠ [] → ∀ A, pw = some A → A.block ≠ zb) (hB : B ≤ zb) (hb : Below B w W) :
    (((W.setCell ⟨zb, 0, none⟩ (.int .i64 nx)).setCell ⟨zb, 1, none⟩ (.int .i64 lg)).setCell ⟨zb, 2, none⟩ (.slice pw n cw)).heap[zb]? = some (rsO nx lg pw n cw) ∧
      FilesAt (((W.setCell ⟨zb, 0, none⟩ (.int .i64 nx)).setCell ⟨zb, 1, none⟩ (.int .i64 lg)).setCell ⟨zb, 2, none⟩ (.slice pw n cw)) pw xs ∧
      Below B w (((W.setCell ⟨zb, 0, none⟩ (.int .i64 nx)).setCell ⟨zb, 1, none⟩ (.int .i64 lg)).setCell ⟨zb, 2, none⟩ (.slice pw n cw)) := by
  refine ⟨st_set_rs hz, ?_, st_below hb hB⟩
  by_cases hx : xs = []
  · subst hx; exact FilesAt.nil _ _
  · exact files_set ho (hne hx)
/-- The block of a row that a call made: of its own, none of a box of a state. -/
def RowOf (W : World) (B tb : Nat) (pt : Option Addr) (n : Nat) : Prop := n ≠ 0 → ∃ g cur, pt = some ⟨g, 0, none⟩ ∧ W.heap[g]? = some (.cells cur 29 (0, 0)) ∧ n * 5 ≤ cur.size ∧ B ≤ g ∧ g ≠ tb
theorem RowOf.of {W : World} {B tb n ct n' ct' : Nat} {pt p' : Option Addr} {xs : List File} {nx lg : Int} (h : OwnFis W B (.slice pt n ct) xs) (hn : n = xs.length) (hb : W.heap[tb]? = some (stO nx lg p' n' ct')) : RowOf W B tb pt n := fun h0 => by
  have hne := own_ne h hb
  rcases h.2 with ⟨e, h1⟩ | ⟨g, cap, cur, e, h1, h2, h3, h4, h5, -⟩
  · exact absurd (hn.trans h1) h0
  · cases e
    refine ⟨g, cur, rfl, h2, by omega, h1, fun e => hne (by rw [e]; rfl)⟩
theorem RowOf.below {W W' : World} {B tb n : Nat} {pt : Option Addr} (h : RowOf W B tb pt n) (hb : Below W.heap.size W W') : RowOf W' B tb pt n := fun h0 => by
  obtain ⟨g, cur, e, h1, h2⟩ := h h0
  exact ⟨g, cur, e, (hb.block g (Array.getElem?_eq_some_iff.1 h1).1).trans h1, h2⟩
/-- A cell of the row is written. -/
theorem RowOf.put {W W6 : World} {B tb n k ct : Nat} {g : Nat} {A : Addr} {nx lg : Int} (h : RowOf W B tb (some ⟨g, 0, none⟩) n) (hA : A = ⟨g, 0, none⟩) (h0 : n ≠ 0) (hs : W.heap[tb]? = some (stO nx lg (some A) n ct)) (hb : Below B W6 W) (v : Value) :
    (W.setCell (A.add k) v).heap[tb]? = some (stO nx lg (some A) n ct) ∧ RowOf (W.setCell (A.add k) v) B tb (some A) n ∧ Below B W6 (W.setCell (A.add k) v) := by
  subst hA
  obtain ⟨g', cur, e, h1, h2, h3, h4⟩ := h h0
  cases e
  have hadd : (⟨g, 0, none⟩ : Addr).add k = ⟨g, k, none⟩ := by unfold Addr.add; split <;> simp_all
  rw [hadd]
  exact ⟨(Below.heap_setCell _ _ _ _ (fun e => h4 e.symm)).trans hs, fun _ => ⟨g, _, rfl, mset h1 _, by rw [Array.size_setIfInBounds]; exact h2, h3, h4⟩, hb.setCell h3 _⟩
theorem RowOf.cell {W : World} {B tb n k : Nat} {pt : Option Addr} (h : RowOf W B tb pt n) (hk : k < n) : ∃ A g v, A = ⟨g, 0, none⟩ ∧ pt = some A ∧ W.cell? (A.add (k * 5)) = some v ∧ W.frozen? (A.add (k * 5)) = false := by
  obtain ⟨g, cur, e, h1, h2, -, -⟩ := h (by omega)
  have hadd : (⟨g, 0, none⟩ : Addr).add (k * 5) = ⟨g, k * 5, none⟩ := by unfold Addr.add; split <;> simp_all
  refine ⟨_, g, cur[k * 5]'(by omega), rfl, e, ?_, ?_⟩
  · rw [hadd, cell_of_row W g _ cur _ _ h1, Array.getElem?_eq_getElem]
  · rw [hadd]; exact frozen_of_row W g _ _ _ h1
set_option maxRecDepth 100000 in
set_option maxHeartbeats 16000000 in
theorem manApplies_any {w : World} {v0 v1 : Value} {nx lg : Int} {p : Option Addr} {cap : Nat} {l : List File} {q r : Option Addr} {cd ca : Nat} {ds : List Int} {add : List File} {enx elg : Int}
    (hs : StArg w v0 nx lg p cap l) (ha : EdArg w v1 q cd ds r ca add enx elg) :
    Calls Tryz.prog 4 #[v0, v1] w fun e w' => e = .returned (.bool true) ∧ Below w.heap.size w w' := by
  obtain ⟨rfl, hsf, hsc, hsx, hsg⟩ := hs
  obtain ⟨rfl, had, haf, hac, hacc, hax, hag⟩ := ha
  obtain ⟨W1, hW1⟩ : ∃ W1, W1 = (w.alloc (.cells #[.int .i64 nx, .int .i64 lg, .slice p l.length cap] 24)).alloc (.cells #[.slice q ds.length cd, .slice r add.length ca, .int .i64 enx, .int .i64 elg] 33) := ⟨_, rfl⟩
  have hb1 : Below w.heap.size w W1 := by rw [hW1]; exact ((Below.refl _ w).alloc (Nat.le_refl _) _).alloc (by simp) _
  have h1 : W1.heap[w.heap.size]? = some (stO nx lg p l.length cap) := by rw [hW1, Below.heap_alloc _ _ _ (by simp)]; exact heap_alloc_new w _
  have h2 : W1.heap[w.heap.size + 1]? = some (edO q ds.length cd r add.length ca enx elg) := by
    rw [hW1]
    have := heap_alloc_new (w.alloc (.cells #[.int .i64 nx, .int .i64 lg, .slice p l.length cap] 24)) (.cells #[.slice q ds.length cd, .slice r add.length ca, .int .i64 enx, .int .i64 elg] 33)
    rwa [World.size_alloc] at this
  have HS : Hid (∀ W, Below W1.heap.size W1 W → W.cell? ⟨w.heap.size, 0, none⟩ = some (.int .i64 nx) ∧ W.cell? ⟨w.heap.size, 1, none⟩ = some (.int .i64 lg) ∧ W.cell? ⟨w.heap.size, 2, none⟩ = some (.slice p l.length cap)) := Lib.hid fun W hW => st_cells ((hW.block _ (Array.getElem?_eq_some_iff.1 h1).1).trans h1)
  have HA : Hid (∀ W, Below W1.heap.size W1 W → W.cell? ⟨w.heap.size + 1, 0, none⟩ = some (.slice q ds.length cd) ∧ W.cell? ⟨w.heap.size + 1, 1, none⟩ = some (.slice r add.length ca) ∧ W.cell? ⟨w.heap.size + 1, 2, none⟩ = some (.int .i64 enx) ∧ W.cell? ⟨w.heap.size + 1, 3, none⟩ = some (.int .i64 elg)) := Lib.hid fun W hW => ed_cells ((hW.block _ (Array.getElem?_eq_some_iff.1 h2).1).trans h2)
  have FS := Lib.hid (hsf.below hb1)
  have FD := Lib.hid (had.below hb1)
  have FA := Lib.hid (haf.below hb1)
  have HB1 := Lib.hid hb1
  have HSC := Lib.hid hsc
  have HI := Lib.hid (And.intro hsx (And.intro hsg (And.intro hax hag)))
  unfold stV edV
  clear hsf hsc hsx hsg had haf hac hacc hax hag hb1 h1 h2
  go_enter Tryz.func4, Tryz.ntmps4
  go_wp2_with fail
  rw [← hW1]
  clear hW1
  refine (awake8_any W1).mono ?_
  rintro e w2 ⟨rfl, hb2⟩
  have HB2 : Hid (Below W1.heap.size W1 w2) := Lib.hid hb2
  obtain ⟨c0, c1, c2⟩ := HS.out _ hb2
  obtain ⟨d0, d1, d2, d3⟩ := HA.out _ hb2
  have HG := Lib.hid (great8_any (w := w2) (p := p) (q := q) (r := r) (n := l.length) (nd := ds.length) (na := add.length) (cap := cap) (cd := cd) (ca := ca) (nx := nx) (lg := lg) (enx := enx) (elg := elg))
  unfold stV edV at HG
  clear hb2
  go_wp2_with fail
  refine HG.out.mono ?_
  rintro e w3 ⟨b, rfl, hi, hb3⟩
  have HB3 : Hid (Below W1.heap.size W1 w3) := Lib.hid (HB2.out.trans (hb3.mono HB2.out.size))
  clear c0 c1 c2 d0 d1 d2 d3 HG HB2 hb3
  cases b with
  | true =>
    clear hi
    go_wp2_with fail
    go_ret
    exact ⟨rfl, HB1.out.trans (HB3.out.mono HB1.out.size)⟩
  | false =>
    have HN : Hid (l.length ≤ 300 ∧ add.length ≤ 300 ∧ ds.length ≤ 300) := Lib.hid (by
      have h1 : ¬ (300 < l.length ∨ 300 < add.length ∨ 300 < ds.length) := fun h => by have := hi.2 h; cases this
      omega)
    clear hi
    obtain ⟨c0, c1, c2⟩ := HS.out _ HB3.out
    obtain ⟨d0, d1, d2, d3⟩ := HA.out _ HB3.out
    have HCO := Lib.hid (copied_any (nx := nx) (lg := lg) (enx := enx) (elg := elg) (cap := cap) (cd := cd) (ca := ca) (FS.out.below HB3.out) (FD.out.below HB3.out) (FA.out.below HB3.out) (by have := HN.out; omega) (by have := HN.out; omega) (by have := HN.out; omega))
    go_wp2_with fail
    refine HCO.out.mono ?_
    rintro e w4 ⟨p4, c4, q4, cd4, r4, ca4, rfl, H4⟩
    have HB4 : Hid (Below W1.heap.size W1 w4) := Lib.hid (HB3.out.trans (H4.out.2.2.2.2.2.2.mono HB3.out.size))
    obtain ⟨W5, hW5⟩ : ∃ x, x = w4.alloc (.cells #[.int .i64 nx, .int .i64 lg, .slice p4 l.length c4] 24) := ⟨_, rfl⟩
    obtain ⟨W6, hW6⟩ : ∃ x, x = W5.alloc (.cells #[.slice q4 ds.length cd4, .slice r4 add.length ca4, .int .i64 enx, .int .i64 elg] 33) := ⟨_, rfl⟩
    have HB6 : Hid (Below w4.heap.size w4 W6) := Lib.hid (by rw [hW6, hW5]; exact ((Below.refl _ w4).alloc (Nat.le_refl _) _).alloc (by simp) _)
    have HO5 : Hid (∀ W, Below W6.heap.size W6 W → W.cell? ⟨w4.heap.size, 0, none⟩ = some (.int .i64 nx) ∧ W.cell? ⟨w4.heap.size, 1, none⟩ = some (.int .i64 lg) ∧ W.cell? ⟨w4.heap.size, 2, none⟩ = some (.slice p4 l.length c4)) := Lib.hid fun W hW => by
      have h5 : Below W5.heap.size W5 W6 := by rw [hW6]; exact mbelow_alloc _ _
      exact st_box hW5 (h5.trans (hW.mono h5.size))
    have HO6 : Hid (∀ W, Below W6.heap.size W6 W → W.cell? ⟨W5.heap.size, 0, none⟩ = some (.slice q4 ds.length cd4) ∧ W.cell? ⟨W5.heap.size, 1, none⟩ = some (.slice r4 add.length ca4) ∧ W.cell? ⟨W5.heap.size, 2, none⟩ = some (.int .i64 enx) ∧ W.cell? ⟨W5.heap.size, 3, none⟩ = some (.int .i64 elg)) := Lib.hid fun W hW => ed_box hW6 hW
    have HZ5 : Hid (W5.heap.size = w4.heap.size + 1) := Lib.hid (by rw [hW5]; simp)
    have HW16 : Hid (Below W1.heap.size W1 W6) := Lib.hid (HB4.out.trans (HB6.out.mono HB4.out.size))
    have G4 := Lib.hid (H4.out.1.below HB6.out)
    have G5 := Lib.hid (H4.out.2.1.below HB6.out)
    have G6 := Lib.hid (H4.out.2.2.1.below HB6.out)
    obtain ⟨⟨c, ⟨nx', lg', l'⟩⟩, ho⟩ : ∃ o, o = Mf.apply ⟨nx, lg, l⟩ ⟨ds, add, enx, elg⟩ := ⟨_, rfl⟩
    have HO := Lib.hid ho.symm
    have HSA : Hid (Sane ⟨nx', lg', l'⟩) := Lib.hid (by have := apply_sane ⟨nx, lg, l⟩ ⟨ds, add, enx, elg⟩; rw [← ho] at this; exact this)
    have HAP := Lib.hid (applyO (cd := cd4) (ca := ca4) G4.out H4.out.2.2.2.1 G5.out G6.out (by have := HN.out; omega) (by have := HN.out; omega) (by have := HN.out; omega) HI.out.1 HI.out.2.1 HI.out.2.2.1 HI.out.2.2.2 HO.out rfl)
    clear ho
    clear c0 c1 c2 d0 d1 d2 d3 HCO
    go_upto_region 6 with fail
    rw [← hW5]
    rw [← HZ5.out, ← hW6]
    clear hW5 hW6
    obtain ⟨o0, o1, o2⟩ := HO5.out _ (Below.refl _ _)
    obtain ⟨m0, m1, m2, m3⟩ := HO6.out _ (Below.refl _ _)
    go_wp2_with fail
    refine HAP.out.mono ?_
    rintro e w7 ⟨pt, ct, rfl, HCT, hot, hb7⟩
    obtain ⟨W8, hW8⟩ : ∃ x, x = w7.alloc (.cells #[.int .i64 nx', .int .i64 lg', .slice pt l'.length ct] 24) := ⟨_, rfl⟩
    have HB7 : Hid (Below W6.heap.size W6 w7) := Lib.hid hb7
    have HT := Lib.hid hot
    have HB8 : Hid (Below W6.heap.size W6 W8) := Lib.hid (by rw [hW8]; exact hb7.alloc hb7.size _)
    have HTB : Hid (W8.heap[w7.heap.size]? = some (stO nx' lg' pt l'.length ct) ∧ w7.heap.size < W8.heap.size) := Lib.hid (by rw [hW8]; exact ⟨heap_alloc_new _ _, by simp⟩)
    have HT8 : Hid (OwnFis W8 W6.heap.size (.slice pt l'.length ct) l') := Lib.hid (by rw [hW8]; exact hot.below (mbelow_alloc _ _))
    clear o0 o1 o2 m0 m1 m2 m3 HAP hot hb7 HT
    go_upto_region 7 with fail
    obtain ⟨tb, htb⟩ : ∃ b, b = w7.heap.size := ⟨_, rfl⟩
    rw [← htb, ← hW8]
    rw [← htb] at HTB
    clear hW8 htb
    have HLN : Hid (l'.length ≤ 1000) := Lib.hid (by have := HSA.out.few; simp only at this; omega)
    have HW18 : Hid (Below W1.heap.size W1 W8) := Lib.hid (HW16.out.trans (HB8.out.mono HW16.out.size))
    have HS7 : Hid (∀ W, Below W8.heap.size W8 W → W.cell? ⟨w.heap.size, 0, none⟩ = some (.int .i64 nx) ∧ W.cell? ⟨w.heap.size, 1, none⟩ = some (.int .i64 lg) ∧ W.cell? ⟨w.heap.size, 2, none⟩ = some (.slice p l.length cap) ∧ W.cell? ⟨w.heap.size + 1, 0, none⟩ = some (.slice q ds.length cd) ∧ W.cell? ⟨w.heap.size + 1, 1, none⟩ = some (.slice r add.length ca) ∧ W.cell? ⟨w.heap.size + 1, 2, none⟩ = some (.int .i64 enx) ∧ W.cell? ⟨w.heap.size + 1, 3, none⟩ = some (.int .i64 elg)) := Lib.hid fun W hW => by
      obtain ⟨c0, c1, c2⟩ := HS.out _ (HW18.out.trans (hW.mono HW18.out.size))
      obtain ⟨d0, d1, d2, d3⟩ := HA.out _ (HW18.out.trans (hW.mono HW18.out.size))
      exact ⟨c0, c1, c2, d0, d1, d2, d3⟩
    go_cut [9, 10] from 30 to 37 (fun sv ev wx => ∃ (b : Nat) (pw : Option Addr) (cw : Nat), sv = .pointer (some ⟨b, 0, none⟩) ∧ ev = .int .i64 (c : Nat) ∧ Hid (wx.heap[b]? = some (rsO nx' lg' pw l'.length cw) ∧ FilesAt wx pw l' ∧ (l'.length ≤ cw ∧ cw ≤ maxLen) ∧ W8.heap.size ≤ b ∧ Below W8.heap.size W8 wx))
    case first =>
      have QS : Hid (∀ W, Below W8.heap.size W8 W → Calls Tryz.prog 22 #[.agg #[.int .i64 nx, .int .i64 lg, .slice p l.length cap]] W fun e w' => ∃ pv cv, e = .returned (.agg #[.int .i64 nx, .int .i64 lg, .slice pv l.length cv]) ∧ FilesAt w' pv l ∧ Hid (l.length ≤ cv ∧ cv ≤ maxLen) ∧ Below W.heap.size W w') := Lib.hid fun W hW => by
        refine (state8_any (FS.out.below (HW18.out.trans (hW.mono HW18.out.size))) (by have := HN.out; omega)).mono ?_
        rintro e w' ⟨v, rfl, ho, hb⟩
        obtain ⟨pv, cv, rfl, h1, h2, hf⟩ := ho.files FS.out.ok
        exact ⟨pv, cv, rfl, hf, Lib.hid ⟨h1, h2⟩, hb⟩
      have QE : Hid (∀ W, Below W8.heap.size W8 W → Calls Tryz.prog 23 #[.agg #[.slice q ds.length cd, .slice r add.length ca, .int .i64 enx, .int .i64 elg]] W fun e w' => ∃ pe ce, e = .returned (.agg #[.slice q ds.length cd, .slice pe add.length ce, .int .i64 enx, .int .i64 elg]) ∧ FilesAt w' pe add ∧ Below W.heap.size W w') := Lib.hid fun W hW => by
        refine (edit8_any (FA.out.below (HW18.out.trans (hW.mono HW18.out.size))) (by have := HN.out; omega)).mono ?_
        rintro e w' ⟨v, rfl, ho, hb⟩
        obtain ⟨pv, cv, rfl, -, -, hf⟩ := ho.files FA.out.ok
        exact ⟨pv, cv, rfl, hf, hb⟩
      have QA : Hid (∀ (W : World) (pv : Option Addr) (cv : Nat) (pe : Option Addr) (ce : Nat), FilesAt W pv l → Hid (l.length ≤ cv ∧ cv ≤ maxLen) → FilesAt W pe add → Below W8.heap.size W8 W → Calls Tryz.prog 21 #[.agg #[.int .i64 nx, .int .i64 lg, .slice pv l.length cv], .agg #[.slice q ds.length cd, .slice pe add.length ce, .int .i64 enx, .int .i64 elg]] W fun e w' =>
          ∃ pw cw, e = .returned (.tuple #[.agg #[.int .i64 nx', .int .i64 lg', .slice pw l'.length cw], .int .i64 (c : Nat)]) ∧ FilesAt w' pw l' ∧ Hid (l'.length ≤ cw ∧ cw ≤ maxLen) ∧ (∀ A, pw = some A → W.heap.size ≤ A.block) ∧ Below W.heap.size W w') := Lib.hid fun W pv cv pe ce h1 h2 h3 hW => by
        refine (refApply_any h1 h2.out (FD.out.below (HW18.out.trans (hW.mono HW18.out.size))) h3 (by have := HN.out; omega) (by have := HN.out; omega) (by have := HN.out; omega)).mono ?_
        rintro e w' ⟨pw, cw, rfl, k1, k2, k3, k4⟩
        rw [HO.out] at k1 k2 ⊢
        exact ⟨pw, cw, rfl, k1, Lib.hid k2, k3, k4⟩
      refine wp_region_held_drew (S := fun W => W.cell? ⟨w.heap.size, 0, none⟩ = some (.int .i64 nx) ∧ W.cell? ⟨w.heap.size, 1, none⟩ = some (.int .i64 lg) ∧ W.cell? ⟨w.heap.size, 2, none⟩ = some (.slice p l.length cap) ∧ W.cell? ⟨w.heap.size + 1, 0, none⟩ = some (.slice q ds.length cd) ∧ W.cell? ⟨w.heap.size + 1, 1, none⟩ = some (.slice r add.length ca) ∧ W.cell? ⟨w.heap.size + 1, 2, none⟩ = some (.int .i64 enx) ∧ W.cell? ⟨w.heap.size + 1, 3, none⟩ = some (.int .i64 elg)) (by kernel_rfl) (HS7.out _ (Below.refl _ _).drew) (fun hHeld => ?_)
      have HB := Lib.hid ((Below.refl W8.heap.size W8).drew)
      generalize W8.drew = w0_ at *
      refine take_to (some 31) (i := 0) (oi := _) (v := ?_) rfl rfl (by kernel_rfl) (by kernel_rfl) (by kernel_rfl) (fun _ _ _ h => h) (Or.inl ⟨by kernel_rfl, ?_⟩) hHeld ?_
      rotate_left 1
      · (intro w hSw; obtain ⟨g0, g1, g2, g3, g4, g5, g6⟩ := hSw; go_simp; (try with_reducible rfl))
      try simp only [Act.put, List.setIfInBounds_toArray, List.set_cons_zero, List.set_cons_succ]
      refine take_to (some 33) (i := 2) (oi := _) (v := ?_) rfl rfl (by kernel_rfl) (by kernel_rfl) (by kernel_rfl) (fun _ _ _ h => h) (Or.inl ⟨by kernel_rfl, ?_⟩) hHeld ?_
      rotate_left 1
      · (intro w hSw; obtain ⟨g0, g1, g2, g3, g4, g5, g6⟩ := hSw; go_simp; (try with_reducible rfl))
      try simp only [Act.put, List.setIfInBounds_toArray, List.set_cons_zero, List.set_cons_succ]
      refine wpAnyH_ready (rs := [1, 8]) (by kernel_rfl) (by simp) ?_
      refine AllReadyH.cons (o := _) rfl (fun K hK => ?_) (AllReadyH.cons (o := _) rfl (fun K hK => ?_) AllReadyH.nil)
      · go_simp
        refine (QS.out w0_ HB.out).mono ?_
        rintro e wa1 ⟨pv, cv, rfl, HFS, HCV, hb⟩
        have HB_ := Lib.hid (HB.out.trans (hb.mono HB.out.size))
        clear HB
        have HB := HB_
        clear HB_ hb
        refine hK.out _ _ (HS7.out _ HB.out) (fun qa2 => ?_)
        clear hK K
        try simp only [Act.put, List.setIfInBounds_toArray, List.set_cons_zero, List.set_cons_succ]
        refine wpAnyH_ready (rs := [3, 8]) (by kernel_rfl) (by simp) ?_
        refine AllReadyH.cons (o := _) rfl (fun K hK => ?_) (AllReadyH.cons (o := _) rfl (fun K hK => ?_) AllReadyH.nil)
        · go_simp
          refine (QE.out wa1 HB.out).mono ?_
          rintro e wa3 ⟨pe, ce, rfl, HFE, hb⟩
          have HFS_ := HFS.below hb
          have HCV_ := HCV
          clear HFS
          have HFS := HFS_
          clear HFS_
          clear HCV
          have HCV := HCV_
          clear HCV_
          have HB_ := Lib.hid (HB.out.trans (hb.mono HB.out.size))
          clear HB
          have HB := HB_
          clear HB_ hb
          refine hK.out _ _ (HS7.out _ HB.out) (fun qa4 => ?_)
          clear hK K
          try simp only [Act.put, List.setIfInBounds_toArray, List.set_cons_zero, List.set_cons_succ]
          refine wpAnyH_ready (rs := [4, 8]) (by kernel_rfl) (by simp) ?_
          refine AllReadyH.cons (o := _) rfl (fun K hK => ?_) (AllReadyH.cons (o := _) rfl (fun K hK => ?_) AllReadyH.nil)
          · go_simp
            refine (QA.out wa3 _ _ _ _ HFS HCV HFE HB.out).mono ?_
            rintro e wa5 ⟨pw, cw, rfl, HFU, HCW, hnb, hb⟩
            have HFS_ := HFS.below hb
            have HCV_ := HCV
            have HFE_ := HFE.below hb
            clear HFS
            have HFS := HFS_
            clear HFS_
            clear HCV
            have HCV := HCV_
            clear HCV_
            clear HFE
            have HFE := HFE_
            clear HFE_
            have HB_ := Lib.hid (HB.out.trans (hb.mono HB.out.size))
            clear HB
            have HB := HB_
            clear HB_ hb
            clear hnb
            refine hK.out _ _ (HS7.out _ HB.out) (fun qa6 => ?_)
            clear hK K
            try simp only [Act.put, List.setIfInBounds_toArray, List.set_cons_zero, List.set_cons_succ]
            refine take_to (some 30) (i := 5) (oi := _) (v := ?_) rfl rfl (by kernel_rfl) (by kernel_rfl) (by kernel_rfl) (fun _ _ _ h => h) (Or.inl ⟨by kernel_rfl, ?_⟩) qa6 ?_
            rotate_left 1
            · (intro w hSw; obtain ⟨g0, g1, g2, g3, g4, g5, g6⟩ := hSw; go_simp; (try with_reducible rfl))
            try simp only [Act.put, List.setIfInBounds_toArray, List.set_cons_zero, List.set_cons_succ]
            refine take_to (some 36) (i := 6) (oi := _) (v := ?_) rfl rfl (by kernel_rfl) (by kernel_rfl) (by kernel_rfl) (fun _ _ _ h => h) (Or.inl ⟨by kernel_rfl, ?_⟩) qa6 ?_
            rotate_left 1
            · (intro w hSw; obtain ⟨g0, g1, g2, g3, g4, g5, g6⟩ := hSw; go_simp; (try with_reducible rfl))
            try simp only [Act.put, List.setIfInBounds_toArray, List.set_cons_zero, List.set_cons_succ]
            refine take_to (some 37) (i := 7) (oi := _) (v := ?_) rfl rfl (by kernel_rfl) (by kernel_rfl) (by kernel_rfl) (fun _ _ _ h => h) (Or.inl ⟨by kernel_rfl, ?_⟩) qa6 ?_
            rotate_left 1
            · (intro w hSw; obtain ⟨g0, g1, g2, g3, g4, g5, g6⟩ := hSw; go_simp; (try with_reducible rfl))
            try simp only [Act.put, List.setIfInBounds_toArray, List.set_cons_zero, List.set_cons_succ]
            refine wpAnyH_ready (rs := [8]) (by kernel_rfl) (by simp) ?_
            refine AllReadyH.cons (o := _) rfl (fun K hK => ?_) AllReadyH.nil
            have HZN := Lib.hid (show W8.heap.size ≤ wa5.heap.size from HB.out.size)
            have HNE : l' ≠ [] → ∀ A, pw = some A → A.block ≠ wa5.heap.size := fun h A e => Nat.ne_of_lt (files_lt HFU h e)
            go_simp
            obtain ⟨wa7, ha8⟩ : ∃ x, x = wa5.alloc (.cells #[.int .i64 0, .int .i64 0, .slice none 0 0] 38) := ⟨_, rfl⟩
            rw [← ha8]
            have hb : Below wa5.heap.size wa5 wa7 := by rw [ha8]; exact mbelow_alloc _ _
            have HFS_ := HFS.below hb
            have HCV_ := HCV
            have HFE_ := HFE.below hb
            have HFU_ := HFU.below hb
            have HCW_ := HCW
            clear HFS
            have HFS := HFS_
            clear HFS_
            clear HCV
            have HCV := HCV_
            clear HCV_
            clear HFE
            have HFE := HFE_
            clear HFE_
            clear HFU
            have HFU := HFU_
            clear HFU_
            clear HCW
            have HCW := HCW_
            clear HCW_
            have HZ := (by rw [ha8]; exact heap_alloc_new wa5 _ : wa7.heap[wa5.heap.size]? = some (rsO 0 0 none 0 0))
            have HB_ := Lib.hid (HB.out.trans (hb.mono HB.out.size))
            clear HB
            have HB := HB_
            clear HB_ hb ha8
            generalize wa5.heap.size = zb at *
            refine hK.out _ _ (HS7.out _ HB.out) (fun qa9 => ?_)
            clear hK K
            try simp only [Act.put, List.setIfInBounds_toArray, List.set_cons_zero, List.set_cons_succ]
            refine wpAnyH_ready (rs := [9]) (by kernel_rfl) (by simp) ?_
            refine AllReadyH.cons (o := _) rfl (fun K hK => ?_) AllReadyH.nil
            obtain ⟨z0, z1, z2, zf⟩ := rs_cells HZ
            have zf0 := zf 0
            have zf1 := zf 1
            have zf2 := zf 2
            clear zf
            have HE := Lib.hid (stored_rs (nx := nx') (lg := lg') (n := l'.length) (cw := cw) HZ HFU HNE HZN.out HB.out)
            go_simp
            refine hK.out _ _ (HS7.out _ HE.out.2.2) (fun qa10 => ?_)
            clear hK K
            try simp only [Act.put, List.setIfInBounds_toArray, List.set_cons_zero, List.set_cons_succ]
            refine take_to (some 10) (i := 10) (oi := _) (v := ?_) rfl rfl (by kernel_rfl) (by kernel_rfl) (by kernel_rfl) (fun _ _ _ h => h) (Or.inl ⟨by kernel_rfl, ?_⟩) qa10 ?_
            rotate_left 1
            · (intro w hSw; obtain ⟨g0, g1, g2, g3, g4, g5, g6⟩ := hSw; go_simp; (try with_reducible rfl))
            try simp only [Act.put, List.setIfInBounds_toArray, List.set_cons_zero, List.set_cons_succ]
            refine wpAnyH_done (by kernel_rfl) ?_ _
            go_wp2_with fail
            go_meet
            exact ⟨zb, pw, cw, rfl, rfl, Lib.hid ⟨HE.out.1, HE.out.2.1, HCW.out, HZN.out, HE.out.2.2⟩⟩
          · have HZN := Lib.hid (show W8.heap.size ≤ wa3.heap.size from HB.out.size)
            go_simp
            obtain ⟨wa11, ha12⟩ : ∃ x, x = wa3.alloc (.cells #[.int .i64 0, .int .i64 0, .slice none 0 0] 38) := ⟨_, rfl⟩
            rw [← ha12]
            have hb : Below wa3.heap.size wa3 wa11 := by rw [ha12]; exact mbelow_alloc _ _
            have HFS_ := HFS.below hb
            have HCV_ := HCV
            have HFE_ := HFE.below hb
            clear HFS
            have HFS := HFS_
            clear HFS_
            clear HCV
            have HCV := HCV_
            clear HCV_
            clear HFE
            have HFE := HFE_
            clear HFE_
            have HZ := (by rw [ha12]; exact heap_alloc_new wa3 _ : wa11.heap[wa3.heap.size]? = some (rsO 0 0 none 0 0))
            have HB_ := Lib.hid (HB.out.trans (hb.mono HB.out.size))
            clear HB
            have HB := HB_
            clear HB_ hb ha12
            generalize wa3.heap.size = zb at *
            refine hK.out _ _ (HS7.out _ HB.out) (fun qa13 => ?_)
            clear hK K
            try simp only [Act.put, List.setIfInBounds_toArray, List.set_cons_zero, List.set_cons_succ]
            refine wpAnyH_ready (rs := [4]) (by kernel_rfl) (by simp) ?_
            refine AllReadyH.cons (o := _) rfl (fun K hK => ?_) AllReadyH.nil
            have HZL := Lib.hid (Array.getElem?_eq_some_iff.1 HZ).1
            go_simp
            refine (QA.out wa11 _ _ _ _ HFS HCV HFE HB.out).mono ?_
            rintro e wa14 ⟨pw, cw, rfl, HFU, HCW, hnb, hb⟩
            have HFS_ := HFS.below hb
            have HCV_ := HCV
            have HFE_ := HFE.below hb
            have HZ_ := (hb.block _ (Array.getElem?_eq_some_iff.1 HZ).1).trans HZ
            clear HFS
            have HFS := HFS_
            clear HFS_
            clear HCV
            have HCV := HCV_
            clear HCV_
            clear HFE
            have HFE := HFE_
            clear HFE_
            clear HZ
            have HZ := HZ_
            clear HZ_
            have HB_ := Lib.hid (HB.out.trans (hb.mono HB.out.size))
            clear HB
            have HB := HB_
            clear HB_ hb
            have HNE : l' ≠ [] → ∀ A, pw = some A → A.block ≠ zb := fun _ A e => by have h1 := hnb A e; have h2 := HZL.out; omega
            clear HZL hnb
            refine hK.out _ _ (HS7.out _ HB.out) (fun qa15 => ?_)
            clear hK K
            try simp only [Act.put, List.setIfInBounds_toArray, List.set_cons_zero, List.set_cons_succ]
            refine take_to (some 30) (i := 5) (oi := _) (v := ?_) rfl rfl (by kernel_rfl) (by kernel_rfl) (by kernel_rfl) (fun _ _ _ h => h) (Or.inl ⟨by kernel_rfl, ?_⟩) qa15 ?_
            rotate_left 1
            · (intro w hSw; obtain ⟨g0, g1, g2, g3, g4, g5, g6⟩ := hSw; go_simp; (try with_reducible rfl))
            try simp only [Act.put, List.setIfInBounds_toArray, List.set_cons_zero, List.set_cons_succ]
            refine take_to (some 36) (i := 6) (oi := _) (v := ?_) rfl rfl (by kernel_rfl) (by kernel_rfl) (by kernel_rfl) (fun _ _ _ h => h) (Or.inl ⟨by kernel_rfl, ?_⟩) qa15 ?_
            rotate_left 1
            · (intro w hSw; obtain ⟨g0, g1, g2, g3, g4, g5, g6⟩ := hSw; go_simp; (try with_reducible rfl))
            try simp only [Act.put, List.setIfInBounds_toArray, List.set_cons_zero, List.set_cons_succ]
            refine take_to (some 37) (i := 7) (oi := _) (v := ?_) rfl rfl (by kernel_rfl) (by kernel_rfl) (by kernel_rfl) (fun _ _ _ h => h) (Or.inl ⟨by kernel_rfl, ?_⟩) qa15 ?_
            rotate_left 1
            · (intro w hSw; obtain ⟨g0, g1, g2, g3, g4, g5, g6⟩ := hSw; go_simp; (try with_reducible rfl))
            try simp only [Act.put, List.setIfInBounds_toArray, List.set_cons_zero, List.set_cons_succ]
            refine wpAnyH_ready (rs := [9]) (by kernel_rfl) (by simp) ?_
            refine AllReadyH.cons (o := _) rfl (fun K hK => ?_) AllReadyH.nil
            obtain ⟨z0, z1, z2, zf⟩ := rs_cells HZ
            have zf0 := zf 0
            have zf1 := zf 1
            have zf2 := zf 2
            clear zf
            have HE := Lib.hid (stored_rs (nx := nx') (lg := lg') (n := l'.length) (cw := cw) HZ HFU HNE HZN.out HB.out)
            go_simp
            refine hK.out _ _ (HS7.out _ HE.out.2.2) (fun qa16 => ?_)
            clear hK K
            try simp only [Act.put, List.setIfInBounds_toArray, List.set_cons_zero, List.set_cons_succ]
            refine take_to (some 10) (i := 10) (oi := _) (v := ?_) rfl rfl (by kernel_rfl) (by kernel_rfl) (by kernel_rfl) (fun _ _ _ h => h) (Or.inl ⟨by kernel_rfl, ?_⟩) qa16 ?_
            rotate_left 1
            · (intro w hSw; obtain ⟨g0, g1, g2, g3, g4, g5, g6⟩ := hSw; go_simp; (try with_reducible rfl))
            try simp only [Act.put, List.setIfInBounds_toArray, List.set_cons_zero, List.set_cons_succ]
            refine wpAnyH_done (by kernel_rfl) ?_ _
            go_wp2_with fail
            go_meet
            exact ⟨zb, pw, cw, rfl, rfl, Lib.hid ⟨HE.out.1, HE.out.2.1, HCW.out, HZN.out, HE.out.2.2⟩⟩
        · have HZN := Lib.hid (show W8.heap.size ≤ wa1.heap.size from HB.out.size)
          go_simp
          obtain ⟨wa17, ha18⟩ : ∃ x, x = wa1.alloc (.cells #[.int .i64 0, .int .i64 0, .slice none 0 0] 38) := ⟨_, rfl⟩
          rw [← ha18]
          have hb : Below wa1.heap.size wa1 wa17 := by rw [ha18]; exact mbelow_alloc _ _
          have HFS_ := HFS.below hb
          have HCV_ := HCV
          clear HFS
          have HFS := HFS_
          clear HFS_
          clear HCV
          have HCV := HCV_
          clear HCV_
          have HZ := (by rw [ha18]; exact heap_alloc_new wa1 _ : wa17.heap[wa1.heap.size]? = some (rsO 0 0 none 0 0))
          have HB_ := Lib.hid (HB.out.trans (hb.mono HB.out.size))
          clear HB
          have HB := HB_
          clear HB_ hb ha18
          generalize wa1.heap.size = zb at *
          refine hK.out _ _ (HS7.out _ HB.out) (fun qa19 => ?_)
          clear hK K
          try simp only [Act.put, List.setIfInBounds_toArray, List.set_cons_zero, List.set_cons_succ]
          refine wpAnyH_ready (rs := [3]) (by kernel_rfl) (by simp) ?_
          refine AllReadyH.cons (o := _) rfl (fun K hK => ?_) AllReadyH.nil
          go_simp
          refine (QE.out wa17 HB.out).mono ?_
          rintro e wa20 ⟨pe, ce, rfl, HFE, hb⟩
          have HFS_ := HFS.below hb
          have HCV_ := HCV
          have HZ_ := (hb.block _ (Array.getElem?_eq_some_iff.1 HZ).1).trans HZ
          clear HFS
          have HFS := HFS_
          clear HFS_
          clear HCV
          have HCV := HCV_
          clear HCV_
          clear HZ
          have HZ := HZ_
          clear HZ_
          have HB_ := Lib.hid (HB.out.trans (hb.mono HB.out.size))
          clear HB
          have HB := HB_
          clear HB_ hb
          refine hK.out _ _ (HS7.out _ HB.out) (fun qa21 => ?_)
          clear hK K
          try simp only [Act.put, List.setIfInBounds_toArray, List.set_cons_zero, List.set_cons_succ]
          refine wpAnyH_ready (rs := [4]) (by kernel_rfl) (by simp) ?_
          refine AllReadyH.cons (o := _) rfl (fun K hK => ?_) AllReadyH.nil
          have HZL := Lib.hid (Array.getElem?_eq_some_iff.1 HZ).1
          go_simp
          refine (QA.out wa20 _ _ _ _ HFS HCV HFE HB.out).mono ?_
          rintro e wa22 ⟨pw, cw, rfl, HFU, HCW, hnb, hb⟩
          have HFS_ := HFS.below hb
          have HCV_ := HCV
          have HZ_ := (hb.block _ (Array.getElem?_eq_some_iff.1 HZ).1).trans HZ
          have HFE_ := HFE.below hb
          clear HFS
          have HFS := HFS_
          clear HFS_
          clear HCV
          have HCV := HCV_
          clear HCV_
          clear HZ
          have HZ := HZ_
          clear HZ_
          clear HFE
          have HFE := HFE_
          clear HFE_
          have HB_ := Lib.hid (HB.out.trans (hb.mono HB.out.size))
          clear HB
          have HB := HB_
          clear HB_ hb
          have HNE : l' ≠ [] → ∀ A, pw = some A → A.block ≠ zb := fun _ A e => by have h1 := hnb A e; have h2 := HZL.out; omega
          clear HZL hnb
          refine hK.out _ _ (HS7.out _ HB.out) (fun qa23 => ?_)
          clear hK K
          try simp only [Act.put, List.setIfInBounds_toArray, List.set_cons_zero, List.set_cons_succ]
          refine take_to (some 30) (i := 5) (oi := _) (v := ?_) rfl rfl (by kernel_rfl) (by kernel_rfl) (by kernel_rfl) (fun _ _ _ h => h) (Or.inl ⟨by kernel_rfl, ?_⟩) qa23 ?_
          rotate_left 1
          · (intro w hSw; obtain ⟨g0, g1, g2, g3, g4, g5, g6⟩ := hSw; go_simp; (try with_reducible rfl))
          try simp only [Act.put, List.setIfInBounds_toArray, List.set_cons_zero, List.set_cons_succ]
          refine take_to (some 36) (i := 6) (oi := _) (v := ?_) rfl rfl (by kernel_rfl) (by kernel_rfl) (by kernel_rfl) (fun _ _ _ h => h) (Or.inl ⟨by kernel_rfl, ?_⟩) qa23 ?_
          rotate_left 1
          · (intro w hSw; obtain ⟨g0, g1, g2, g3, g4, g5, g6⟩ := hSw; go_simp; (try with_reducible rfl))
          try simp only [Act.put, List.setIfInBounds_toArray, List.set_cons_zero, List.set_cons_succ]
          refine take_to (some 37) (i := 7) (oi := _) (v := ?_) rfl rfl (by kernel_rfl) (by kernel_rfl) (by kernel_rfl) (fun _ _ _ h => h) (Or.inl ⟨by kernel_rfl, ?_⟩) qa23 ?_
          rotate_left 1
          · (intro w hSw; obtain ⟨g0, g1, g2, g3, g4, g5, g6⟩ := hSw; go_simp; (try with_reducible rfl))
          try simp only [Act.put, List.setIfInBounds_toArray, List.set_cons_zero, List.set_cons_succ]
          refine wpAnyH_ready (rs := [9]) (by kernel_rfl) (by simp) ?_
          refine AllReadyH.cons (o := _) rfl (fun K hK => ?_) AllReadyH.nil
          obtain ⟨z0, z1, z2, zf⟩ := rs_cells HZ
          have zf0 := zf 0
          have zf1 := zf 1
          have zf2 := zf 2
          clear zf
          have HE := Lib.hid (stored_rs (nx := nx') (lg := lg') (n := l'.length) (cw := cw) HZ HFU HNE HZN.out HB.out)
          go_simp
          refine hK.out _ _ (HS7.out _ HE.out.2.2) (fun qa24 => ?_)
          clear hK K
          try simp only [Act.put, List.setIfInBounds_toArray, List.set_cons_zero, List.set_cons_succ]
          refine take_to (some 10) (i := 10) (oi := _) (v := ?_) rfl rfl (by kernel_rfl) (by kernel_rfl) (by kernel_rfl) (fun _ _ _ h => h) (Or.inl ⟨by kernel_rfl, ?_⟩) qa24 ?_
          rotate_left 1
          · (intro w hSw; obtain ⟨g0, g1, g2, g3, g4, g5, g6⟩ := hSw; go_simp; (try with_reducible rfl))
          try simp only [Act.put, List.setIfInBounds_toArray, List.set_cons_zero, List.set_cons_succ]
          refine wpAnyH_done (by kernel_rfl) ?_ _
          go_wp2_with fail
          go_meet
          exact ⟨zb, pw, cw, rfl, rfl, Lib.hid ⟨HE.out.1, HE.out.2.1, HCW.out, HZN.out, HE.out.2.2⟩⟩
      · have HZN := Lib.hid (show W8.heap.size ≤ w0_.heap.size from HB.out.size)
        go_simp
        obtain ⟨wa25, ha26⟩ : ∃ x, x = w0_.alloc (.cells #[.int .i64 0, .int .i64 0, .slice none 0 0] 38) := ⟨_, rfl⟩
        rw [← ha26]
        have hb : Below w0_.heap.size w0_ wa25 := by rw [ha26]; exact mbelow_alloc _ _
        have HZ := (by rw [ha26]; exact heap_alloc_new w0_ _ : wa25.heap[w0_.heap.size]? = some (rsO 0 0 none 0 0))
        have HB_ := Lib.hid (HB.out.trans (hb.mono HB.out.size))
        clear HB
        have HB := HB_
        clear HB_ hb ha26
        generalize w0_.heap.size = zb at *
        refine hK.out _ _ (HS7.out _ HB.out) (fun qa27 => ?_)
        clear hK K
        try simp only [Act.put, List.setIfInBounds_toArray, List.set_cons_zero, List.set_cons_succ]
        refine wpAnyH_ready (rs := [1]) (by kernel_rfl) (by simp) ?_
        refine AllReadyH.cons (o := _) rfl (fun K hK => ?_) AllReadyH.nil
        go_simp
        refine (QS.out wa25 HB.out).mono ?_
        rintro e wa28 ⟨pv, cv, rfl, HFS, HCV, hb⟩
        have HZ_ := (hb.block _ (Array.getElem?_eq_some_iff.1 HZ).1).trans HZ
        clear HZ
        have HZ := HZ_
        clear HZ_
        have HB_ := Lib.hid (HB.out.trans (hb.mono HB.out.size))
        clear HB
        have HB := HB_
        clear HB_ hb
        refine hK.out _ _ (HS7.out _ HB.out) (fun qa29 => ?_)
        clear hK K
        try simp only [Act.put, List.setIfInBounds_toArray, List.set_cons_zero, List.set_cons_succ]
        refine wpAnyH_ready (rs := [3]) (by kernel_rfl) (by simp) ?_
        refine AllReadyH.cons (o := _) rfl (fun K hK => ?_) AllReadyH.nil
        go_simp
        refine (QE.out wa28 HB.out).mono ?_
        rintro e wa30 ⟨pe, ce, rfl, HFE, hb⟩
        have HZ_ := (hb.block _ (Array.getElem?_eq_some_iff.1 HZ).1).trans HZ
        have HFS_ := HFS.below hb
        have HCV_ := HCV
        clear HZ
        have HZ := HZ_
        clear HZ_
        clear HFS
        have HFS := HFS_
        clear HFS_
        clear HCV
        have HCV := HCV_
        clear HCV_
        have HB_ := Lib.hid (HB.out.trans (hb.mono HB.out.size))
        clear HB
        have HB := HB_
        clear HB_ hb
        refine hK.out _ _ (HS7.out _ HB.out) (fun qa31 => ?_)
        clear hK K
        try simp only [Act.put, List.setIfInBounds_toArray, List.set_cons_zero, List.set_cons_succ]
        refine wpAnyH_ready (rs := [4]) (by kernel_rfl) (by simp) ?_
        refine AllReadyH.cons (o := _) rfl (fun K hK => ?_) AllReadyH.nil
        have HZL := Lib.hid (Array.getElem?_eq_some_iff.1 HZ).1
        go_simp
        refine (QA.out wa30 _ _ _ _ HFS HCV HFE HB.out).mono ?_
        rintro e wa32 ⟨pw, cw, rfl, HFU, HCW, hnb, hb⟩
        have HZ_ := (hb.block _ (Array.getElem?_eq_some_iff.1 HZ).1).trans HZ
        have HFS_ := HFS.below hb
        have HCV_ := HCV
        have HFE_ := HFE.below hb
        clear HZ
        have HZ := HZ_
        clear HZ_
        clear HFS
        have HFS := HFS_
        clear HFS_
        clear HCV
        have HCV := HCV_
        clear HCV_
        clear HFE
        have HFE := HFE_
        clear HFE_
        have HB_ := Lib.hid (HB.out.trans (hb.mono HB.out.size))
        clear HB
        have HB := HB_
        clear HB_ hb
        have HNE : l' ≠ [] → ∀ A, pw = some A → A.block ≠ zb := fun _ A e => by have h1 := hnb A e; have h2 := HZL.out; omega
        clear HZL hnb
        refine hK.out _ _ (HS7.out _ HB.out) (fun qa33 => ?_)
        clear hK K
        try simp only [Act.put, List.setIfInBounds_toArray, List.set_cons_zero, List.set_cons_succ]
        refine take_to (some 30) (i := 5) (oi := _) (v := ?_) rfl rfl (by kernel_rfl) (by kernel_rfl) (by kernel_rfl) (fun _ _ _ h => h) (Or.inl ⟨by kernel_rfl, ?_⟩) qa33 ?_
        rotate_left 1
        · (intro w hSw; obtain ⟨g0, g1, g2, g3, g4, g5, g6⟩ := hSw; go_simp; (try with_reducible rfl))
        try simp only [Act.put, List.setIfInBounds_toArray, List.set_cons_zero, List.set_cons_succ]
        refine take_to (some 36) (i := 6) (oi := _) (v := ?_) rfl rfl (by kernel_rfl) (by kernel_rfl) (by kernel_rfl) (fun _ _ _ h => h) (Or.inl ⟨by kernel_rfl, ?_⟩) qa33 ?_
        rotate_left 1
        · (intro w hSw; obtain ⟨g0, g1, g2, g3, g4, g5, g6⟩ := hSw; go_simp; (try with_reducible rfl))
        try simp only [Act.put, List.setIfInBounds_toArray, List.set_cons_zero, List.set_cons_succ]
        refine take_to (some 37) (i := 7) (oi := _) (v := ?_) rfl rfl (by kernel_rfl) (by kernel_rfl) (by kernel_rfl) (fun _ _ _ h => h) (Or.inl ⟨by kernel_rfl, ?_⟩) qa33 ?_
        rotate_left 1
        · (intro w hSw; obtain ⟨g0, g1, g2, g3, g4, g5, g6⟩ := hSw; go_simp; (try with_reducible rfl))
        try simp only [Act.put, List.setIfInBounds_toArray, List.set_cons_zero, List.set_cons_succ]
        refine wpAnyH_ready (rs := [9]) (by kernel_rfl) (by simp) ?_
        refine AllReadyH.cons (o := _) rfl (fun K hK => ?_) AllReadyH.nil
        obtain ⟨z0, z1, z2, zf⟩ := rs_cells HZ
        have zf0 := zf 0
        have zf1 := zf 1
        have zf2 := zf 2
        clear zf
        have HE := Lib.hid (stored_rs (nx := nx') (lg := lg') (n := l'.length) (cw := cw) HZ HFU HNE HZN.out HB.out)
        go_simp
        refine hK.out _ _ (HS7.out _ HE.out.2.2) (fun qa34 => ?_)
        clear hK K
        try simp only [Act.put, List.setIfInBounds_toArray, List.set_cons_zero, List.set_cons_succ]
        refine take_to (some 10) (i := 10) (oi := _) (v := ?_) rfl rfl (by kernel_rfl) (by kernel_rfl) (by kernel_rfl) (fun _ _ _ h => h) (Or.inl ⟨by kernel_rfl, ?_⟩) qa34 ?_
        rotate_left 1
        · (intro w hSw; obtain ⟨g0, g1, g2, g3, g4, g5, g6⟩ := hSw; go_simp; (try with_reducible rfl))
        try simp only [Act.put, List.setIfInBounds_toArray, List.set_cons_zero, List.set_cons_succ]
        refine wpAnyH_done (by kernel_rfl) ?_ _
        go_wp2_with fail
        go_meet
        exact ⟨zb, pw, cw, rfl, rfl, Lib.hid ⟨HE.out.1, HE.out.2.1, HCW.out, HZN.out, HE.out.2.2⟩⟩
    case rest =>
      obtain ⟨ub, pw, cw, rfl, rfl, H7⟩ := hcut
      have HB9 : Hid (Below W1.heap.size W1 wc) := Lib.hid (HW18.out.trans (H7.out.2.2.2.2.mono HW18.out.size))
      have HS8 : Hid (∀ W, Below wc.heap.size wc W → W.cell? ⟨w.heap.size, 0, none⟩ = some (.int .i64 nx) ∧ W.cell? ⟨w.heap.size, 1, none⟩ = some (.int .i64 lg) ∧ W.cell? ⟨w.heap.size, 2, none⟩ = some (.slice p l.length cap) ∧ W.cell? ⟨tb, 0, none⟩ = some (.int .i64 nx') ∧ W.cell? ⟨tb, 1, none⟩ = some (.int .i64 lg') ∧ W.cell? ⟨tb, 2, none⟩ = some (.slice pt l'.length ct) ∧ W.cell? ⟨ub, 0, none⟩ = some (.int .i64 nx') ∧ W.cell? ⟨ub, 1, none⟩ = some (.int .i64 lg') ∧ W.cell? ⟨ub, 2, none⟩ = some (.slice pw l'.length cw)) := Lib.hid fun W hW => by
        obtain ⟨c0, c1, c2⟩ := HS.out _ (HB9.out.trans (hW.mono HB9.out.size))
        obtain ⟨t0, t1, t2⟩ := st_cells ((hW.block _ (Nat.lt_of_lt_of_le HTB.out.2 H7.out.2.2.2.2.size)).trans ((H7.out.2.2.2.2.block _ HTB.out.2).trans HTB.out.1))
        obtain ⟨u0, u1, u2, -⟩ := rs_cells ((hW.block _ (Array.getElem?_eq_some_iff.1 H7.out.1).1).trans H7.out.1)
        exact ⟨c0, c1, c2, t0, t1, t2, u0, u1, u2⟩
      have HTF : Hid (∀ W, Below wc.heap.size wc W → FilesAt W pt l') := Lib.hid fun W hW => by
        obtain ⟨p', c', e, -, -, hf⟩ := HT8.out.files HSA.out.files
        cases e
        exact hf.below (H7.out.2.2.2.2.trans (hW.mono H7.out.2.2.2.2.size))
      have QS : Hid (∀ W, Below wc.heap.size wc W → Calls Tryz.prog 22 #[.agg #[.int .i64 nx, .int .i64 lg, .slice p l.length cap]] W fun e w' => ∃ pv cv, e = .returned (.agg #[.int .i64 nx, .int .i64 lg, .slice pv l.length cv]) ∧ Hid (FilesAt w' pv l) ∧ Below wc.heap.size wc w') := Lib.hid fun W hW => by
        refine (state8_any (FS.out.below (HB9.out.trans (hW.mono HB9.out.size))) (by have := HN.out; omega)).mono ?_
        rintro e w' ⟨v, rfl, ho, hb⟩
        obtain ⟨pv, cv, rfl, h1, h2, hf⟩ := ho.files FS.out.ok
        exact ⟨pv, cv, rfl, Lib.hid hf, hW.trans (hb.mono hW.size)⟩
      have QM : Hid (∀ W, Below wc.heap.size wc W → Calls Tryz.prog 11 #[.agg #[.int .i64 nx', .int .i64 lg', .slice pt l'.length ct], .agg #[.int .i64 nx', .int .i64 lg', .slice pw l'.length cw]] W fun e w' => e = .returned (.bool true) ∧ Below wc.heap.size wc w') := Lib.hid fun W hW => by
        refine (same8_any (nx := nx') (lg := lg') (nx2 := nx') (lg2 := lg') (cap := ct) (cap2 := cw) (HTF.out W hW) (H7.out.2.1.below hW) (by have := HLN.out; omega) (by have := HLN.out; omega)).mono ?_
        rintro e w' ⟨b, rfl, hb, h2⟩
        rw [hb.2 rfl]
        exact ⟨rfl, hW.trans (h2.mono hW.size)⟩
      have hcc : ((c : Int) != (c : Int)) = false := by simp
      obtain ⟨br, hbr⟩ : ∃ br : Bool, (br = true ↔ Mf.Right ⟨nx, lg, l⟩) := by
        by_cases h : Mf.Right ⟨nx, lg, l⟩
        · exact ⟨true, (fun _ => h), (fun _ => rfl)⟩
        · exact ⟨false, (fun e => by cases e), (fun e => absurd e h)⟩
      have QR : Hid (∀ W pv cv, Hid (FilesAt W pv l) → Below wc.heap.size wc W → Calls Tryz.prog 24 #[.agg #[.int .i64 nx, .int .i64 lg, .slice pv l.length cv]] W fun e w' => e = .returned (.bool br) ∧ Below wc.heap.size wc w') := Lib.hid fun W pv cv hf hW => by
        refine (refRight_any (cap := cv) (nx := nx) (lg := lg) hf.out (by have := HN.out; omega)).mono ?_
        rintro e w' ⟨b, rfl, hb, h2⟩
        have hbb : b = br := Bool.eq_iff_iff.2 (hb.trans hbr.symm)
        rw [hbb]
        exact ⟨rfl, hW.trans (h2.mono hW.size)⟩
      have hB0 := (Below.refl wc.heap.size wc).drew
      have hS0 := Lib.hid (HS8.out _ hB0)
      go_upto_region 8 with fail
      go_cut [65] from 38 to 65 (fun bv wx => bv = .bool false ∧ Hid (Below wc.heap.size wc wx))
      case first =>
        cases br with
        | true =>
          have QK : Hid (∀ W, Below wc.heap.size wc W → Calls Tryz.prog 12 #[.agg #[.int .i64 nx, .int .i64 lg, .slice p l.length cap]] W fun e w' => e = .returned (.int .i64 0) ∧ Below wc.heap.size wc w') := Lib.hid fun W hW =>
            (check_yes (FS.out.below (HB9.out.trans (hW.mono HB9.out.size))) HSC.out (hbr.1 rfl)).mono fun e w' ⟨h1, h2⟩ => ⟨h1, hW.trans (h2.mono hW.size)⟩
          refine wp_region_held_drew (S := fun W => W.cell? ⟨w.heap.size, 0, none⟩ = some (.int .i64 nx) ∧ W.cell? ⟨w.heap.size, 1, none⟩ = some (.int .i64 lg) ∧ W.cell? ⟨w.heap.size, 2, none⟩ = some (.slice p l.length cap) ∧ W.cell? ⟨tb, 0, none⟩ = some (.int .i64 nx') ∧ W.cell? ⟨tb, 1, none⟩ = some (.int .i64 lg') ∧ W.cell? ⟨tb, 2, none⟩ = some (.slice pt l'.length ct) ∧ W.cell? ⟨ub, 0, none⟩ = some (.int .i64 nx') ∧ W.cell? ⟨ub, 1, none⟩ = some (.int .i64 lg') ∧ W.cell? ⟨ub, 2, none⟩ = some (.slice pw l'.length cw)) (by kernel_rfl) hS0.out (fun hHeld => ?_)
          have HB := Lib.hid hB0
          clear hB0 hS0
          generalize wc.drew = w0_ at *
          refine take_to (some 38) (i := 0) (oi := _) (v := ?_) rfl rfl (by kernel_rfl) (by kernel_rfl) (by kernel_rfl) (fun _ _ _ h => h) (Or.inl ⟨by kernel_rfl, ?_⟩) hHeld ?_
          rotate_left 1
          · (intro w hSw; obtain ⟨g0, g1, g2, g3, g4, g5, g6, g7, g8⟩ := hSw; go_simp; (try with_reducible rfl))
          try simp only [Act.put, List.setIfInBounds_toArray, List.set_cons_zero, List.set_cons_succ]
          refine take_to (some 39) (i := 1) (oi := _) (v := ?_) rfl rfl (by kernel_rfl) (by kernel_rfl) (by kernel_rfl) (fun _ _ _ h => h) (Or.inl ⟨by kernel_rfl, ?_⟩) hHeld ?_
          rotate_left 1
          · (intro w hSw; obtain ⟨g0, g1, g2, g3, g4, g5, g6, g7, g8⟩ := hSw; go_simp; (try with_reducible rfl))
          try simp only [Act.put, List.setIfInBounds_toArray, List.set_cons_zero, List.set_cons_succ]
          refine take_to (some 40) (i := 2) (oi := _) (v := ?_) rfl rfl (by kernel_rfl) (by kernel_rfl) (by kernel_rfl) (fun _ _ _ h => h) (Or.inl ⟨by kernel_rfl, ?_⟩) hHeld ?_
          rotate_left 1
          · (intro w hSw; obtain ⟨g0, g1, g2, g3, g4, g5, g6, g7, g8⟩ := hSw; go_simp; (try with_reducible rfl))
          try simp only [Act.put, List.setIfInBounds_toArray, List.set_cons_zero, List.set_cons_succ]
          refine take_to (some 41) (i := 3) (oi := _) (v := ?_) rfl rfl (by kernel_rfl) (by kernel_rfl) (by kernel_rfl) (fun _ _ _ h => h) (Or.inl ⟨by kernel_rfl, ?_⟩) hHeld ?_
          rotate_left 1
          · (intro w hSw; obtain ⟨g0, g1, g2, g3, g4, g5, g6, g7, g8⟩ := hSw; go_simp; (try with_reducible rfl))
          try simp only [Act.put, List.setIfInBounds_toArray, List.set_cons_zero, List.set_cons_succ]
          refine take_to (some 42) (i := 4) (oi := _) (v := ?_) rfl rfl (by kernel_rfl) (by kernel_rfl) (by kernel_rfl) (fun _ _ _ h => h) (Or.inl ⟨by kernel_rfl, ?_⟩) hHeld ?_
          rotate_left 1
          · (intro w hSw; obtain ⟨g0, g1, g2, g3, g4, g5, g6, g7, g8⟩ := hSw; go_simp; (try with_reducible rfl))
          try simp only [Act.put, List.setIfInBounds_toArray, List.set_cons_zero, List.set_cons_succ]
          refine take_to (some 43) (i := 5) (oi := _) (v := ?_) rfl rfl (by kernel_rfl) (by kernel_rfl) (by kernel_rfl) (fun _ _ _ h => h) (Or.inl ⟨by kernel_rfl, ?_⟩) hHeld ?_
          rotate_left 1
          · (intro w hSw; obtain ⟨g0, g1, g2, g3, g4, g5, g6, g7, g8⟩ := hSw; go_simp; (try with_reducible rfl))
          try simp only [Act.put, List.setIfInBounds_toArray, List.set_cons_zero, List.set_cons_succ]
          refine wpAnyH_ready (rs := [6]) (by kernel_rfl) (by simp) ?_
          refine AllReadyH.cons (o := _) rfl (fun K hK => ?_) AllReadyH.nil
          go_simp
          refine (QM.out w0_ HB.out).mono ?_
          rintro e wb1 ⟨rfl, hb⟩
          clear HB
          have HB := Lib.hid hb
          clear hb
          refine hK.out _ _ (HS8.out _ HB.out) (fun qb2 => ?_)
          clear hK K
          try simp only [Act.put, List.setIfInBounds_toArray, List.set_cons_zero, List.set_cons_succ]
          refine take_to (some 45) (i := 7) (oi := _) (v := ?_) rfl rfl (by kernel_rfl) (by kernel_rfl) (by kernel_rfl) (fun _ _ _ h => h) (Or.inl ⟨by kernel_rfl, ?_⟩) qb2 ?_
          rotate_left 1
          · (intro w hSw; obtain ⟨g0, g1, g2, g3, g4, g5, g6, g7, g8⟩ := hSw; go_simp; (try with_reducible rfl))
          try simp only [Act.put, List.setIfInBounds_toArray, List.set_cons_zero, List.set_cons_succ]
          refine take_to (some 46) (i := 8) (oi := _) (v := ?_) rfl rfl (by kernel_rfl) (by kernel_rfl) (by kernel_rfl) (fun _ _ _ h => h) (Or.inl ⟨by kernel_rfl, ?_⟩) qb2 ?_
          rotate_left 1
          · (intro w hSw; obtain ⟨g0, g1, g2, g3, g4, g5, g6, g7, g8⟩ := hSw; go_simp; (try with_reducible rfl))
          try simp only [Act.put, List.setIfInBounds_toArray, List.set_cons_zero, List.set_cons_succ]
          refine take_to (some 47) (i := 9) (oi := _) (v := ?_) rfl rfl (by kernel_rfl) (by kernel_rfl) (by kernel_rfl) (fun _ _ _ h => h) (Or.inl ⟨by kernel_rfl, ?_⟩) qb2 ?_
          rotate_left 1
          · (intro w hSw; obtain ⟨g0, g1, g2, g3, g4, g5, g6, g7, g8⟩ := hSw; go_simp; (try with_reducible rfl))
          try simp only [Act.put, List.setIfInBounds_toArray, List.set_cons_zero, List.set_cons_succ]
          refine take_to (some 48) (i := 10) (oi := _) (v := ?_) rfl rfl (by kernel_rfl) (by kernel_rfl) (by kernel_rfl) (fun _ _ _ h => h) (Or.inl ⟨by kernel_rfl, ?_⟩) qb2 ?_
          rotate_left 1
          · (intro w hSw; obtain ⟨g0, g1, g2, g3, g4, g5, g6, g7, g8⟩ := hSw; go_simp; (try with_reducible rfl))
          try simp only [Act.put, List.setIfInBounds_toArray, List.set_cons_zero, List.set_cons_succ]
          refine take_to (some 51) (i := 13) (oi := _) (v := ?_) rfl rfl (by kernel_rfl) (by kernel_rfl) (by kernel_rfl) (fun _ _ _ h => h) (Or.inl ⟨by kernel_rfl, ?_⟩) qb2 ?_
          rotate_left 1
          · (intro w hSw; obtain ⟨g0, g1, g2, g3, g4, g5, g6, g7, g8⟩ := hSw; go_simp; (try with_reducible rfl))
          try simp only [Act.put, List.setIfInBounds_toArray, List.set_cons_zero, List.set_cons_succ]
          refine wpAnyH_ready (rs := [11]) (by kernel_rfl) (by simp) ?_
          refine AllReadyH.cons (o := _) rfl (fun K hK => ?_) AllReadyH.nil
          go_simp
          refine (QK.out wb1 HB.out).mono ?_
          rintro e wb3 ⟨rfl, hb⟩
          clear HB
          have HB := Lib.hid hb
          clear hb
          refine hK.out _ _ (HS8.out _ HB.out) (fun qb4 => ?_)
          clear hK K
          try simp only [Act.put, List.setIfInBounds_toArray, List.set_cons_zero, List.set_cons_succ]
          refine take_to (some 50) (i := 12) (oi := _) (v := ?_) rfl rfl (by kernel_rfl) (by kernel_rfl) (by kernel_rfl) (fun _ _ _ h => h) (Or.inl ⟨by kernel_rfl, ?_⟩) qb4 ?_
          rotate_left 1
          · (intro w hSw; obtain ⟨g0, g1, g2, g3, g4, g5, g6, g7, g8⟩ := hSw; go_simp; (try with_reducible rfl))
          try simp only [Act.put, List.setIfInBounds_toArray, List.set_cons_zero, List.set_cons_succ]
          refine wpAnyH_ready (rs := [14]) (by kernel_rfl) (by simp) ?_
          refine AllReadyH.cons (o := _) rfl (fun K hK => ?_) AllReadyH.nil
          go_simp
          refine (QS.out wb3 HB.out).mono ?_
          rintro e wb5 ⟨pv, cv, rfl, HFV, hb⟩
          clear HB
          have HB := Lib.hid hb
          clear hb
          refine hK.out _ _ (HS8.out _ HB.out) (fun qb6 => ?_)
          clear hK K
          try simp only [Act.put, List.setIfInBounds_toArray, List.set_cons_zero, List.set_cons_succ]
          refine wpAnyH_ready (rs := [15]) (by kernel_rfl) (by simp) ?_
          refine AllReadyH.cons (o := _) rfl (fun K hK => ?_) AllReadyH.nil
          go_simp
          refine (QR.out wb5 _ _ HFV HB.out).mono ?_
          rintro e wb7 ⟨rfl, hb⟩
          clear HB
          have HB := Lib.hid hb
          clear hb
          refine hK.out _ _ (HS8.out _ HB.out) (fun qb8 => ?_)
          clear hK K
          try simp only [Act.put, List.setIfInBounds_toArray, List.set_cons_zero, List.set_cons_succ]
          refine take_to (some 54) (i := 16) (oi := _) (v := ?_) rfl rfl (by kernel_rfl) (by kernel_rfl) (by kernel_rfl) (fun _ _ _ h => h) (Or.inl ⟨by kernel_rfl, ?_⟩) qb8 ?_
          rotate_left 1
          · (intro w hSw; obtain ⟨g0, g1, g2, g3, g4, g5, g6, g7, g8⟩ := hSw; go_simp; (try with_reducible rfl))
          try simp only [Act.put, List.setIfInBounds_toArray, List.set_cons_zero, List.set_cons_succ]
          refine take_to (some 55) (i := 17) (oi := _) (v := ?_) rfl rfl (by kernel_rfl) (by kernel_rfl) (by kernel_rfl) (fun _ _ _ h => h) (Or.inl ⟨by kernel_rfl, ?_⟩) qb8 ?_
          rotate_left 1
          · (intro w hSw; obtain ⟨g0, g1, g2, g3, g4, g5, g6, g7, g8⟩ := hSw; go_simp; (try with_reducible rfl))
          try simp only [Act.put, List.setIfInBounds_toArray, List.set_cons_zero, List.set_cons_succ]
          refine take_to (some 56) (i := 18) (oi := _) (v := ?_) rfl rfl (by kernel_rfl) (by kernel_rfl) (by kernel_rfl) (fun _ _ _ h => h) (Or.inl ⟨by kernel_rfl, ?_⟩) qb8 ?_
          rotate_left 1
          · (intro w hSw; obtain ⟨g0, g1, g2, g3, g4, g5, g6, g7, g8⟩ := hSw; go_simp; (try with_reducible rfl))
          try simp only [Act.put, List.setIfInBounds_toArray, List.set_cons_zero, List.set_cons_succ]
          refine take_to (some 57) (i := 19) (oi := _) (v := ?_) rfl rfl (by kernel_rfl) (by kernel_rfl) (by kernel_rfl) (fun _ _ _ h => h) (Or.inl ⟨by kernel_rfl, ?_⟩) qb8 ?_
          rotate_left 1
          · (intro w hSw; obtain ⟨g0, g1, g2, g3, g4, g5, g6, g7, g8⟩ := hSw; go_simp; (try with_reducible rfl))
          try simp only [Act.put, List.setIfInBounds_toArray, List.set_cons_zero, List.set_cons_succ]
          refine wpAnyH_ready (rs := [20]) (by kernel_rfl) (by simp) ?_
          refine AllReadyH.cons (o := _) rfl (fun K hK => ?_) AllReadyH.nil
          go_simp
          refine (QK.out wb7 HB.out).mono ?_
          rintro e wb9 ⟨rfl, hb⟩
          clear HB
          have HB := Lib.hid hb
          clear hb
          refine hK.out _ _ (HS8.out _ HB.out) (fun qb10 => ?_)
          clear hK K
          try simp only [Act.put, List.setIfInBounds_toArray, List.set_cons_zero, List.set_cons_succ]
          refine take_to (some 59) (i := 21) (oi := _) (v := ?_) rfl rfl (by kernel_rfl) (by kernel_rfl) (by kernel_rfl) (fun _ _ _ h => h) (Or.inl ⟨by kernel_rfl, ?_⟩) qb10 ?_
          rotate_left 1
          · (intro w hSw; obtain ⟨g0, g1, g2, g3, g4, g5, g6, g7, g8⟩ := hSw; go_simp; (try with_reducible rfl))
          try simp only [Act.put, List.setIfInBounds_toArray, List.set_cons_zero, List.set_cons_succ]
          refine take_to (some 60) (i := 22) (oi := _) (v := ?_) rfl rfl (by kernel_rfl) (by kernel_rfl) (by kernel_rfl) (fun _ _ _ h => h) (Or.inl ⟨by kernel_rfl, ?_⟩) qb10 ?_
          rotate_left 1
          · (intro w hSw; obtain ⟨g0, g1, g2, g3, g4, g5, g6, g7, g8⟩ := hSw; go_simp; (try with_reducible rfl))
          try simp only [Act.put, List.setIfInBounds_toArray, List.set_cons_zero, List.set_cons_succ]
          refine take_to (some 61) (i := 23) (oi := _) (v := undef) rfl rfl (by kernel_rfl) (by kernel_rfl) (by kernel_rfl) (fun _ _ _ h => h) (Or.inr ⟨by kernel_rfl, rfl⟩) qb10 ?_
          try simp only [Act.put, List.setIfInBounds_toArray, List.set_cons_zero, List.set_cons_succ]
          refine take_to (some 62) (i := 24) (oi := _) (v := undef) rfl rfl (by kernel_rfl) (by kernel_rfl) (by kernel_rfl) (fun _ _ _ h => h) (Or.inr ⟨by kernel_rfl, rfl⟩) qb10 ?_
          try simp only [Act.put, List.setIfInBounds_toArray, List.set_cons_zero, List.set_cons_succ]
          refine take_to (some 63) (i := 25) (oi := _) (v := undef) rfl rfl (by kernel_rfl) (by kernel_rfl) (by kernel_rfl) (fun _ _ _ h => h) (Or.inr ⟨by kernel_rfl, rfl⟩) qb10 ?_
          try simp only [Act.put, List.setIfInBounds_toArray, List.set_cons_zero, List.set_cons_succ]
          refine take_to (some 64) (i := 26) (oi := _) (v := ?_) rfl rfl (by kernel_rfl) (by kernel_rfl) (by kernel_rfl) (fun _ _ _ h => h) (Or.inl ⟨by kernel_rfl, ?_⟩) qb10 ?_
          rotate_left 1
          · (intro w hSw; obtain ⟨g0, g1, g2, g3, g4, g5, g6, g7, g8⟩ := hSw; go_simp; (try with_reducible rfl))
          try simp only [Act.put, List.setIfInBounds_toArray, List.set_cons_zero, List.set_cons_succ]
          refine take_to (some 65) (i := 27) (oi := _) (v := ?_) rfl rfl (by kernel_rfl) (by kernel_rfl) (by kernel_rfl) (fun _ _ _ h => h) (Or.inl ⟨by kernel_rfl, ?_⟩) qb10 ?_
          rotate_left 1
          · (intro w hSw; obtain ⟨g0, g1, g2, g3, g4, g5, g6, g7, g8⟩ := hSw; go_simp; (try with_reducible rfl))
          try simp only [Act.put, List.setIfInBounds_toArray, List.set_cons_zero, List.set_cons_succ]
          refine wpAnyH_done (by kernel_rfl) ?_ _
          go_wp2_with fail
          go_meet
          exact ⟨rfl, HB⟩
        | false =>
          have QK : Hid (∀ W, Below wc.heap.size wc W → Calls Tryz.prog 12 #[.agg #[.int .i64 nx, .int .i64 lg, .slice p l.length cap]] W fun e w' => e = .returned (.int .i64 1) ∧ Below wc.heap.size wc w') := Lib.hid fun W hW =>
            (check_no (FS.out.below (HB9.out.trans (hW.mono HB9.out.size))) HSC.out (fun h => by cases hbr.2 h)).mono fun e w' ⟨h1, h2⟩ => ⟨h1, hW.trans (h2.mono hW.size)⟩
          refine wp_region_held_drew (S := fun W => W.cell? ⟨w.heap.size, 0, none⟩ = some (.int .i64 nx) ∧ W.cell? ⟨w.heap.size, 1, none⟩ = some (.int .i64 lg) ∧ W.cell? ⟨w.heap.size, 2, none⟩ = some (.slice p l.length cap) ∧ W.cell? ⟨tb, 0, none⟩ = some (.int .i64 nx') ∧ W.cell? ⟨tb, 1, none⟩ = some (.int .i64 lg') ∧ W.cell? ⟨tb, 2, none⟩ = some (.slice pt l'.length ct) ∧ W.cell? ⟨ub, 0, none⟩ = some (.int .i64 nx') ∧ W.cell? ⟨ub, 1, none⟩ = some (.int .i64 lg') ∧ W.cell? ⟨ub, 2, none⟩ = some (.slice pw l'.length cw)) (by kernel_rfl) hS0.out (fun hHeld => ?_)
          have HB := Lib.hid hB0
          clear hB0 hS0
          generalize wc.drew = w0_ at *
          refine take_to (some 38) (i := 0) (oi := _) (v := ?_) rfl rfl (by kernel_rfl) (by kernel_rfl) (by kernel_rfl) (fun _ _ _ h => h) (Or.inl ⟨by kernel_rfl, ?_⟩) hHeld ?_
          rotate_left 1
          · (intro w hSw; obtain ⟨g0, g1, g2, g3, g4, g5, g6, g7, g8⟩ := hSw; go_simp; (try with_reducible rfl))
          try simp only [Act.put, List.setIfInBounds_toArray, List.set_cons_zero, List.set_cons_succ]
          refine take_to (some 39) (i := 1) (oi := _) (v := ?_) rfl rfl (by kernel_rfl) (by kernel_rfl) (by kernel_rfl) (fun _ _ _ h => h) (Or.inl ⟨by kernel_rfl, ?_⟩) hHeld ?_
          rotate_left 1
          · (intro w hSw; obtain ⟨g0, g1, g2, g3, g4, g5, g6, g7, g8⟩ := hSw; go_simp; (try with_reducible rfl))
          try simp only [Act.put, List.setIfInBounds_toArray, List.set_cons_zero, List.set_cons_succ]
          refine take_to (some 40) (i := 2) (oi := _) (v := ?_) rfl rfl (by kernel_rfl) (by kernel_rfl) (by kernel_rfl) (fun _ _ _ h => h) (Or.inl ⟨by kernel_rfl, ?_⟩) hHeld ?_
          rotate_left 1
          · (intro w hSw; obtain ⟨g0, g1, g2, g3, g4, g5, g6, g7, g8⟩ := hSw; go_simp; (try with_reducible rfl))
          try simp only [Act.put, List.setIfInBounds_toArray, List.set_cons_zero, List.set_cons_succ]
          refine take_to (some 41) (i := 3) (oi := _) (v := ?_) rfl rfl (by kernel_rfl) (by kernel_rfl) (by kernel_rfl) (fun _ _ _ h => h) (Or.inl ⟨by kernel_rfl, ?_⟩) hHeld ?_
          rotate_left 1
          · (intro w hSw; obtain ⟨g0, g1, g2, g3, g4, g5, g6, g7, g8⟩ := hSw; go_simp; (try with_reducible rfl))
          try simp only [Act.put, List.setIfInBounds_toArray, List.set_cons_zero, List.set_cons_succ]
          refine take_to (some 42) (i := 4) (oi := _) (v := ?_) rfl rfl (by kernel_rfl) (by kernel_rfl) (by kernel_rfl) (fun _ _ _ h => h) (Or.inl ⟨by kernel_rfl, ?_⟩) hHeld ?_
          rotate_left 1
          · (intro w hSw; obtain ⟨g0, g1, g2, g3, g4, g5, g6, g7, g8⟩ := hSw; go_simp; (try with_reducible rfl))
          try simp only [Act.put, List.setIfInBounds_toArray, List.set_cons_zero, List.set_cons_succ]
          refine take_to (some 43) (i := 5) (oi := _) (v := ?_) rfl rfl (by kernel_rfl) (by kernel_rfl) (by kernel_rfl) (fun _ _ _ h => h) (Or.inl ⟨by kernel_rfl, ?_⟩) hHeld ?_
          rotate_left 1
          · (intro w hSw; obtain ⟨g0, g1, g2, g3, g4, g5, g6, g7, g8⟩ := hSw; go_simp; (try with_reducible rfl))
          try simp only [Act.put, List.setIfInBounds_toArray, List.set_cons_zero, List.set_cons_succ]
          refine wpAnyH_ready (rs := [6]) (by kernel_rfl) (by simp) ?_
          refine AllReadyH.cons (o := _) rfl (fun K hK => ?_) AllReadyH.nil
          go_simp
          refine (QM.out w0_ HB.out).mono ?_
          rintro e wb1 ⟨rfl, hb⟩
          clear HB
          have HB := Lib.hid hb
          clear hb
          refine hK.out _ _ (HS8.out _ HB.out) (fun qb2 => ?_)
          clear hK K
          try simp only [Act.put, List.setIfInBounds_toArray, List.set_cons_zero, List.set_cons_succ]
          refine take_to (some 45) (i := 7) (oi := _) (v := ?_) rfl rfl (by kernel_rfl) (by kernel_rfl) (by kernel_rfl) (fun _ _ _ h => h) (Or.inl ⟨by kernel_rfl, ?_⟩) qb2 ?_
          rotate_left 1
          · (intro w hSw; obtain ⟨g0, g1, g2, g3, g4, g5, g6, g7, g8⟩ := hSw; go_simp; (try with_reducible rfl))
          try simp only [Act.put, List.setIfInBounds_toArray, List.set_cons_zero, List.set_cons_succ]
          refine take_to (some 46) (i := 8) (oi := _) (v := ?_) rfl rfl (by kernel_rfl) (by kernel_rfl) (by kernel_rfl) (fun _ _ _ h => h) (Or.inl ⟨by kernel_rfl, ?_⟩) qb2 ?_
          rotate_left 1
          · (intro w hSw; obtain ⟨g0, g1, g2, g3, g4, g5, g6, g7, g8⟩ := hSw; go_simp; (try with_reducible rfl))
          try simp only [Act.put, List.setIfInBounds_toArray, List.set_cons_zero, List.set_cons_succ]
          refine take_to (some 47) (i := 9) (oi := _) (v := ?_) rfl rfl (by kernel_rfl) (by kernel_rfl) (by kernel_rfl) (fun _ _ _ h => h) (Or.inl ⟨by kernel_rfl, ?_⟩) qb2 ?_
          rotate_left 1
          · (intro w hSw; obtain ⟨g0, g1, g2, g3, g4, g5, g6, g7, g8⟩ := hSw; go_simp; (try with_reducible rfl))
          try simp only [Act.put, List.setIfInBounds_toArray, List.set_cons_zero, List.set_cons_succ]
          refine take_to (some 48) (i := 10) (oi := _) (v := ?_) rfl rfl (by kernel_rfl) (by kernel_rfl) (by kernel_rfl) (fun _ _ _ h => h) (Or.inl ⟨by kernel_rfl, ?_⟩) qb2 ?_
          rotate_left 1
          · (intro w hSw; obtain ⟨g0, g1, g2, g3, g4, g5, g6, g7, g8⟩ := hSw; go_simp; (try with_reducible rfl))
          try simp only [Act.put, List.setIfInBounds_toArray, List.set_cons_zero, List.set_cons_succ]
          refine take_to (some 51) (i := 13) (oi := _) (v := ?_) rfl rfl (by kernel_rfl) (by kernel_rfl) (by kernel_rfl) (fun _ _ _ h => h) (Or.inl ⟨by kernel_rfl, ?_⟩) qb2 ?_
          rotate_left 1
          · (intro w hSw; obtain ⟨g0, g1, g2, g3, g4, g5, g6, g7, g8⟩ := hSw; go_simp; (try with_reducible rfl))
          try simp only [Act.put, List.setIfInBounds_toArray, List.set_cons_zero, List.set_cons_succ]
          refine wpAnyH_ready (rs := [11]) (by kernel_rfl) (by simp) ?_
          refine AllReadyH.cons (o := _) rfl (fun K hK => ?_) AllReadyH.nil
          go_simp
          refine (QK.out wb1 HB.out).mono ?_
          rintro e wb3 ⟨rfl, hb⟩
          clear HB
          have HB := Lib.hid hb
          clear hb
          refine hK.out _ _ (HS8.out _ HB.out) (fun qb4 => ?_)
          clear hK K
          try simp only [Act.put, List.setIfInBounds_toArray, List.set_cons_zero, List.set_cons_succ]
          refine take_to (some 50) (i := 12) (oi := _) (v := ?_) rfl rfl (by kernel_rfl) (by kernel_rfl) (by kernel_rfl) (fun _ _ _ h => h) (Or.inl ⟨by kernel_rfl, ?_⟩) qb4 ?_
          rotate_left 1
          · (intro w hSw; obtain ⟨g0, g1, g2, g3, g4, g5, g6, g7, g8⟩ := hSw; go_simp; (try with_reducible rfl))
          try simp only [Act.put, List.setIfInBounds_toArray, List.set_cons_zero, List.set_cons_succ]
          refine wpAnyH_ready (rs := [14]) (by kernel_rfl) (by simp) ?_
          refine AllReadyH.cons (o := _) rfl (fun K hK => ?_) AllReadyH.nil
          go_simp
          refine (QS.out wb3 HB.out).mono ?_
          rintro e wb5 ⟨pv, cv, rfl, HFV, hb⟩
          clear HB
          have HB := Lib.hid hb
          clear hb
          refine hK.out _ _ (HS8.out _ HB.out) (fun qb6 => ?_)
          clear hK K
          try simp only [Act.put, List.setIfInBounds_toArray, List.set_cons_zero, List.set_cons_succ]
          refine wpAnyH_ready (rs := [15]) (by kernel_rfl) (by simp) ?_
          refine AllReadyH.cons (o := _) rfl (fun K hK => ?_) AllReadyH.nil
          go_simp
          refine (QR.out wb5 _ _ HFV HB.out).mono ?_
          rintro e wb7 ⟨rfl, hb⟩
          clear HB
          have HB := Lib.hid hb
          clear hb
          refine hK.out _ _ (HS8.out _ HB.out) (fun qb8 => ?_)
          clear hK K
          try simp only [Act.put, List.setIfInBounds_toArray, List.set_cons_zero, List.set_cons_succ]
          refine take_to (some 54) (i := 16) (oi := _) (v := ?_) rfl rfl (by kernel_rfl) (by kernel_rfl) (by kernel_rfl) (fun _ _ _ h => h) (Or.inl ⟨by kernel_rfl, ?_⟩) qb8 ?_
          rotate_left 1
          · (intro w hSw; obtain ⟨g0, g1, g2, g3, g4, g5, g6, g7, g8⟩ := hSw; go_simp; (try with_reducible rfl))
          try simp only [Act.put, List.setIfInBounds_toArray, List.set_cons_zero, List.set_cons_succ]
          refine take_to (some 55) (i := 17) (oi := _) (v := ?_) rfl rfl (by kernel_rfl) (by kernel_rfl) (by kernel_rfl) (fun _ _ _ h => h) (Or.inl ⟨by kernel_rfl, ?_⟩) qb8 ?_
          rotate_left 1
          · (intro w hSw; obtain ⟨g0, g1, g2, g3, g4, g5, g6, g7, g8⟩ := hSw; go_simp; (try with_reducible rfl))
          try simp only [Act.put, List.setIfInBounds_toArray, List.set_cons_zero, List.set_cons_succ]
          refine take_to (some 56) (i := 18) (oi := _) (v := ?_) rfl rfl (by kernel_rfl) (by kernel_rfl) (by kernel_rfl) (fun _ _ _ h => h) (Or.inl ⟨by kernel_rfl, ?_⟩) qb8 ?_
          rotate_left 1
          · (intro w hSw; obtain ⟨g0, g1, g2, g3, g4, g5, g6, g7, g8⟩ := hSw; go_simp; (try with_reducible rfl))
          try simp only [Act.put, List.setIfInBounds_toArray, List.set_cons_zero, List.set_cons_succ]
          refine take_to (some 57) (i := 19) (oi := _) (v := ?_) rfl rfl (by kernel_rfl) (by kernel_rfl) (by kernel_rfl) (fun _ _ _ h => h) (Or.inl ⟨by kernel_rfl, ?_⟩) qb8 ?_
          rotate_left 1
          · (intro w hSw; obtain ⟨g0, g1, g2, g3, g4, g5, g6, g7, g8⟩ := hSw; go_simp; (try with_reducible rfl))
          try simp only [Act.put, List.setIfInBounds_toArray, List.set_cons_zero, List.set_cons_succ]
          refine wpAnyH_ready (rs := [20]) (by kernel_rfl) (by simp) ?_
          refine AllReadyH.cons (o := _) rfl (fun K hK => ?_) AllReadyH.nil
          go_simp
          refine (QK.out wb7 HB.out).mono ?_
          rintro e wb9 ⟨rfl, hb⟩
          clear HB
          have HB := Lib.hid hb
          clear hb
          refine hK.out _ _ (HS8.out _ HB.out) (fun qb10 => ?_)
          clear hK K
          try simp only [Act.put, List.setIfInBounds_toArray, List.set_cons_zero, List.set_cons_succ]
          refine take_to (some 59) (i := 21) (oi := _) (v := ?_) rfl rfl (by kernel_rfl) (by kernel_rfl) (by kernel_rfl) (fun _ _ _ h => h) (Or.inl ⟨by kernel_rfl, ?_⟩) qb10 ?_
          rotate_left 1
          · (intro w hSw; obtain ⟨g0, g1, g2, g3, g4, g5, g6, g7, g8⟩ := hSw; go_simp; (try with_reducible rfl))
          try simp only [Act.put, List.setIfInBounds_toArray, List.set_cons_zero, List.set_cons_succ]
          refine take_to (some 60) (i := 22) (oi := _) (v := ?_) rfl rfl (by kernel_rfl) (by kernel_rfl) (by kernel_rfl) (fun _ _ _ h => h) (Or.inl ⟨by kernel_rfl, ?_⟩) qb10 ?_
          rotate_left 1
          · (intro w hSw; obtain ⟨g0, g1, g2, g3, g4, g5, g6, g7, g8⟩ := hSw; go_simp; (try with_reducible rfl))
          try simp only [Act.put, List.setIfInBounds_toArray, List.set_cons_zero, List.set_cons_succ]
          refine take_to (some 61) (i := 23) (oi := _) (v := ?_) rfl rfl (by kernel_rfl) (by kernel_rfl) (by kernel_rfl) (fun _ _ _ h => h) (Or.inl ⟨by kernel_rfl, ?_⟩) qb10 ?_
          rotate_left 1
          · (intro w hSw; obtain ⟨g0, g1, g2, g3, g4, g5, g6, g7, g8⟩ := hSw; go_simp; (try with_reducible rfl))
          try simp only [Act.put, List.setIfInBounds_toArray, List.set_cons_zero, List.set_cons_succ]
          refine wpAnyH_ready (rs := [24]) (by kernel_rfl) (by simp) ?_
          refine AllReadyH.cons (o := _) rfl (fun K hK => ?_) AllReadyH.nil
          go_simp
          refine (QK.out wb9 HB.out).mono ?_
          rintro e wb11 ⟨rfl, hb⟩
          clear HB
          have HB := Lib.hid hb
          clear hb
          refine hK.out _ _ (HS8.out _ HB.out) (fun qb12 => ?_)
          clear hK K
          try simp only [Act.put, List.setIfInBounds_toArray, List.set_cons_zero, List.set_cons_succ]
          refine take_to (some 63) (i := 25) (oi := _) (v := ?_) rfl rfl (by kernel_rfl) (by kernel_rfl) (by kernel_rfl) (fun _ _ _ h => h) (Or.inl ⟨by kernel_rfl, ?_⟩) qb12 ?_
          rotate_left 1
          · (intro w hSw; obtain ⟨g0, g1, g2, g3, g4, g5, g6, g7, g8⟩ := hSw; go_simp; (try with_reducible rfl))
          try simp only [Act.put, List.setIfInBounds_toArray, List.set_cons_zero, List.set_cons_succ]
          refine take_to (some 64) (i := 26) (oi := _) (v := ?_) rfl rfl (by kernel_rfl) (by kernel_rfl) (by kernel_rfl) (fun _ _ _ h => h) (Or.inl ⟨by kernel_rfl, ?_⟩) qb12 ?_
          rotate_left 1
          · (intro w hSw; obtain ⟨g0, g1, g2, g3, g4, g5, g6, g7, g8⟩ := hSw; go_simp; (try with_reducible rfl))
          try simp only [Act.put, List.setIfInBounds_toArray, List.set_cons_zero, List.set_cons_succ]
          refine take_to (some 65) (i := 27) (oi := _) (v := ?_) rfl rfl (by kernel_rfl) (by kernel_rfl) (by kernel_rfl) (fun _ _ _ h => h) (Or.inl ⟨by kernel_rfl, ?_⟩) qb12 ?_
          rotate_left 1
          · (intro w hSw; obtain ⟨g0, g1, g2, g3, g4, g5, g6, g7, g8⟩ := hSw; go_simp; (try with_reducible rfl))
          try simp only [Act.put, List.setIfInBounds_toArray, List.set_cons_zero, List.set_cons_succ]
          refine wpAnyH_done (by kernel_rfl) ?_ _
          go_wp2_with fail
          go_meet
          exact ⟨rfl, HB⟩
      case rest =>
        obtain ⟨rfl, H8⟩ := hcut
        have HK := Lib.hid (H7.out.2.2.2.2.trans (H8.out.mono H7.out.2.2.2.2.size))
        have HR0 := Lib.hid ((HK.out.block _ HTB.out.2).trans HTB.out.1)
        have HRW := Lib.hid ((RowOf.of HT8.out rfl HTB.out.1).below HK.out)
        have HK6 := Lib.hid (HB8.out.trans (HK.out.mono HB8.out.size))
        clear HS8 HB9 H7 H8 HK HTF QS QM hbr QR hcc HS7 HT8
        go_wp2_with fail
        go_loopw [11] (fun kv wr => ∃ k : Nat, k ≤ l'.length ∧ kv = .int .i64 (k : Nat) ∧ Hid (wr.heap[tb]? = some (stO nx' lg' pt l'.length ct) ∧ RowOf wr W6.heap.size tb pt l'.length ∧ Below W6.heap.size W6 wr)) (fun kv _ => l'.length - (intOf kv).toNat)
        case atStart => exact ⟨0, Nat.zero_le _, rfl, Lib.hid ⟨HR0.out, HRW.out, HK6.out⟩⟩
        case round =>
          obtain ⟨k, hk, rfl, H⟩ := hrel
          obtain ⟨t0, t1, t2⟩ := st_cells H.out.1
          by_cases hlt : k < l'.length
          · have i1 : (k : Int) < (l'.length : Int) := by omega
            have i2 : (0 : Int) ≤ (k : Int) := by omega
            have hk9 : k < 1000000 := by have := HLN.out; omega
            obtain ⟨A, g, v0, hA, e, hc, hf⟩ := H.out.2.1.cell hlt
            have HP : Hid (∀ v, (wr.setCell (A.add (k * 5)) v).heap[tb]? = some (stO nx' lg' pt l'.length ct) ∧ RowOf (wr.setCell (A.add (k * 5)) v) W6.heap.size tb pt l'.length ∧ Below W6.heap.size W6 (wr.setCell (A.add (k * 5)) v)) := Lib.hid fun v => by
              subst e
              exact RowOf.put (by rw [← hA]; exact H.out.2.1) hA (by omega) H.out.1 H.out.2.2 v
            subst e
            clear hA
            go_wp2_with fail
            go_roundw
            case rel => exact ⟨k + 1, by omega, by go_num, Lib.hid (HP.out _)⟩
            case measure => simp [intOf]; omega
          · obtain rfl : k = l'.length := by omega
            have i1 : ¬ (l'.length : Int) < (l'.length : Int) := by omega
            have HX := Lib.hid H.out.2.2
            clear HR0 HRW HK6 H HTB
            go_wp2_with fail
            clear t0 t1 t2 hk
            go_loopw [12] (fun kv wr => ∃ k : Nat, k ≤ ds.length ∧ kv = .int .i64 (k : Nat) ∧ Hid (Below W6.heap.size W6 wr)) (fun kv _ => ds.length - (intOf kv).toNat)
            case atStart => exact ⟨0, Nat.zero_le _, rfl, HX⟩
            case round =>
              obtain ⟨k, hk, rfl, H⟩ := hrel
              have HW1r := Lib.hid (HW16.out.trans (H.out.mono HW16.out.size))
              obtain ⟨e0, e1, e2, e3⟩ := HA.out _ HW1r.out
              obtain ⟨m0, m1, m2, m3⟩ := HO6.out _ H.out
              by_cases hlt : k < ds.length
              · have i1 : (k : Int) < (ds.length : Int) := by omega
                have i2 : (0 : Int) ≤ (k : Int) := by omega
                have hk9 : k < 1000000 := by have := HN.out; omega
                obtain ⟨A, eA, hcA, -⟩ := FD.out.at HW1r.out hlt
                obtain ⟨B, eB, hcB, -⟩ := G5.out.at H.out hlt
                generalize ds[k] = n at *
                have hnn : ((n : Int) != (n : Int)) = false := by simp
                subst eA eB
                go_wp2_with fail
                go_quiet (fail)
                go_wp2_with fail
                go_roundw
                case rel => exact ⟨k + 1, by omega, by go_num, Lib.hid (below_drewN H.out _)⟩
                case measure => simp [intOf]; omega
              · obtain rfl : k = ds.length := by omega
                have i1 : ¬ (ds.length : Int) < (ds.length : Int) := by omega
                go_upto_region 19 with fail
                clear e0 e1 e2 e3 m0 m1 m2 m3 hk
                have HS9 : Hid (∀ W, Below wr.heap.size wr W → W.cell? ⟨w.heap.size, 0, none⟩ = some (.int .i64 nx) ∧ W.cell? ⟨w.heap.size, 1, none⟩ = some (.int .i64 lg) ∧ W.cell? ⟨w.heap.size, 2, none⟩ = some (.slice p l.length cap) ∧ W.cell? ⟨w4.heap.size, 0, none⟩ = some (.int .i64 nx) ∧ W.cell? ⟨w4.heap.size, 1, none⟩ = some (.int .i64 lg) ∧ W.cell? ⟨w4.heap.size, 2, none⟩ = some (.slice p4 l.length c4) ∧ W.cell? ⟨w.heap.size + 1, 1, none⟩ = some (.slice r add.length ca) ∧ W.cell? ⟨W5.heap.size, 1, none⟩ = some (.slice r4 add.length ca4)) := Lib.hid fun W hW => by
                  obtain ⟨c0, c1, c2⟩ := HS.out _ (HW1r.out.trans (hW.mono HW1r.out.size))
                  obtain ⟨d0, d1, d2, d3⟩ := HA.out _ (HW1r.out.trans (hW.mono HW1r.out.size))
                  obtain ⟨o0, o1, o2⟩ := HO5.out _ (H.out.trans (hW.mono H.out.size))
                  obtain ⟨m0, m1, m2, m3⟩ := HO6.out _ (H.out.trans (hW.mono H.out.size))
                  exact ⟨c0, c1, c2, o0, o1, o2, d1, m1⟩
                have QS : Hid (∀ W, Below wr.heap.size wr W → Calls Tryz.prog 22 #[.agg #[.int .i64 nx, .int .i64 lg, .slice p l.length cap]] W fun e w' => ∃ pv cv, e = .returned (.agg #[.int .i64 nx, .int .i64 lg, .slice pv l.length cv]) ∧ Hid (FilesAt w' pv l) ∧ Below W.heap.size W w') := Lib.hid fun W hW => by
                  refine (state8_any (FS.out.below (HW1r.out.trans (hW.mono HW1r.out.size))) (by have := HN.out; omega)).mono ?_
                  rintro e w' ⟨v, rfl, ho, hb⟩
                  obtain ⟨pv, cv, rfl, h1, h2, hf⟩ := ho.files FS.out.ok
                  exact ⟨pv, cv, rfl, Lib.hid hf, hb⟩
                have QT : Hid (∀ W, Below wr.heap.size wr W → Calls Tryz.prog 22 #[.agg #[.int .i64 0, .int .i64 0, .slice r4 add.length ca4]] W fun e w' => ∃ pv cv, e = .returned (.agg #[.int .i64 0, .int .i64 0, .slice pv add.length cv]) ∧ Hid (FilesAt w' pv add) ∧ Below W.heap.size W w') := Lib.hid fun W hW => by
                  refine (state8_any (G6.out.below (H.out.trans (hW.mono H.out.size))) (by have := HN.out; omega)).mono ?_
                  rintro e w' ⟨v, rfl, ho, hb⟩
                  obtain ⟨pv, cv, rfl, h1, h2, hf⟩ := ho.files FA.out.ok
                  exact ⟨pv, cv, rfl, Lib.hid hf, hb⟩
                have QU : Hid (∀ W, Below wr.heap.size wr W → Calls Tryz.prog 22 #[.agg #[.int .i64 0, .int .i64 0, .slice r add.length ca]] W fun e w' => ∃ pv cv, e = .returned (.agg #[.int .i64 0, .int .i64 0, .slice pv add.length cv]) ∧ Hid (FilesAt w' pv add) ∧ Below W.heap.size W w') := Lib.hid fun W hW => by
                  refine (state8_any (FA.out.below (HW1r.out.trans (hW.mono HW1r.out.size))) (by have := HN.out; omega)).mono ?_
                  rintro e w' ⟨v, rfl, ho, hb⟩
                  obtain ⟨pv, cv, rfl, h1, h2, hf⟩ := ho.files FA.out.ok
                  exact ⟨pv, cv, rfl, Lib.hid hf, hb⟩
                have QM : Hid (∀ W pv cv, Hid (FilesAt W pv l) → Below wr.heap.size wr W → Calls Tryz.prog 11 #[.agg #[.int .i64 nx, .int .i64 lg, .slice p4 l.length c4], .agg #[.int .i64 nx, .int .i64 lg, .slice pv l.length cv]] W fun e w' => e = .returned (.bool true) ∧ Below W.heap.size W w') := Lib.hid fun W pv cv hf hW => by
                  refine (same8_any (nx := nx) (lg := lg) (nx2 := nx) (lg2 := lg) (cap := c4) (cap2 := cv) (G4.out.below (H.out.trans (hW.mono H.out.size))) hf.out (by have := HN.out; omega) (by have := HN.out; omega)).mono ?_
                  rintro e w' ⟨b, rfl, hb, h2⟩
                  rw [hb.2 rfl]
                  exact ⟨rfl, h2⟩
                have QW : Hid (∀ W pa ca' pb cb', Hid (FilesAt W pa add) → Hid (FilesAt W pb add) → Below wr.heap.size wr W → Calls Tryz.prog 25 #[.agg #[.int .i64 0, .int .i64 0, .slice pa add.length ca'], .agg #[.int .i64 0, .int .i64 0, .slice pb add.length cb']] W fun e w' => e = .returned (.bool true) ∧ Below W.heap.size W w') := Lib.hid fun W pa ca' pb cb' ha hb _ => by
                  refine (refSame_any (nx := 0) (lg := 0) (nx2 := 0) (lg2 := 0) (cap := ca') (cap2 := cb') ha.out hb.out (by have := HN.out; unfold maxLen; omega) (by have := HN.out; unfold maxLen; omega)).mono ?_
                  rintro e w' ⟨b, rfl, hb, h2⟩
                  rw [hb.2 rfl]
                  exact ⟨rfl, h2⟩
                have hB0 := (Below.refl wr.heap.size wr).drew
                have hS0 := Lib.hid (HS9.out _ hB0)
                refine wp_region_held_drew (S := fun W => W.cell? ⟨w.heap.size, 0, none⟩ = some (.int .i64 nx) ∧ W.cell? ⟨w.heap.size, 1, none⟩ = some (.int .i64 lg) ∧ W.cell? ⟨w.heap.size, 2, none⟩ = some (.slice p l.length cap) ∧ W.cell? ⟨w4.heap.size, 0, none⟩ = some (.int .i64 nx) ∧ W.cell? ⟨w4.heap.size, 1, none⟩ = some (.int .i64 lg) ∧ W.cell? ⟨w4.heap.size, 2, none⟩ = some (.slice p4 l.length c4) ∧ W.cell? ⟨w.heap.size + 1, 1, none⟩ = some (.slice r add.length ca) ∧ W.cell? ⟨W5.heap.size, 1, none⟩ = some (.slice r4 add.length ca4)) (by kernel_rfl) hS0.out (fun hHeld => ?_)
                have HB := Lib.hid hB0
                clear hB0 hS0
                generalize wr.drew = w0_ at *
                refine take_to (some 96) (i := 0) (oi := _) (v := ?_) rfl rfl (by kernel_rfl) (by kernel_rfl) (by kernel_rfl) (fun _ _ _ h => h) (Or.inl ⟨by kernel_rfl, ?_⟩) hHeld ?_
                rotate_left 1
                · (intro w hSw; obtain ⟨g0, g1, g2, g3, g4, g5, g6, g7⟩ := hSw; go_simp; (try with_reducible rfl))
                try simp only [Act.put, List.setIfInBounds_toArray, List.set_cons_zero, List.set_cons_succ]
                refine take_to (some 97) (i := 1) (oi := _) (v := ?_) rfl rfl (by kernel_rfl) (by kernel_rfl) (by kernel_rfl) (fun _ _ _ h => h) (Or.inl ⟨by kernel_rfl, ?_⟩) hHeld ?_
                rotate_left 1
                · (intro w hSw; obtain ⟨g0, g1, g2, g3, g4, g5, g6, g7⟩ := hSw; go_simp; (try with_reducible rfl))
                try simp only [Act.put, List.setIfInBounds_toArray, List.set_cons_zero, List.set_cons_succ]
                refine wpAnyH_ready (rs := [2]) (by kernel_rfl) (by simp) ?_
                refine AllReadyH.cons (o := _) rfl (fun K hK => ?_) AllReadyH.nil
                go_simp
                refine (QS.out w0_ HB.out).mono ?_
                rintro e wc1 ⟨pv, cv, rfl, HFV, hb⟩
                have HB_ := Lib.hid (HB.out.trans (hb.mono HB.out.size))
                clear HB
                have HB := HB_
                clear HB_ hb
                refine hK.out _ _ (HS9.out _ HB.out) (fun qc2 => ?_)
                clear hK K
                try simp only [Act.put, List.setIfInBounds_toArray, List.set_cons_zero, List.set_cons_succ]
                refine wpAnyH_ready (rs := [3]) (by kernel_rfl) (by simp) ?_
                refine AllReadyH.cons (o := _) rfl (fun K hK => ?_) AllReadyH.nil
                go_simp
                refine (QM.out wc1 _ _ HFV HB.out).mono ?_
                rintro e wc3 ⟨rfl, hb⟩
                have HB_ := Lib.hid (HB.out.trans (hb.mono HB.out.size))
                clear HB
                have HB := HB_
                clear HB_ hb
                refine hK.out _ _ (HS9.out _ HB.out) (fun qc4 => ?_)
                clear hK K
                try simp only [Act.put, List.setIfInBounds_toArray, List.set_cons_zero, List.set_cons_succ]
                refine take_to (some 100) (i := 4) (oi := _) (v := ?_) rfl rfl (by kernel_rfl) (by kernel_rfl) (by kernel_rfl) (fun _ _ _ h => h) (Or.inl ⟨by kernel_rfl, ?_⟩) qc4 ?_
                rotate_left 1
                · (intro w hSw; obtain ⟨g0, g1, g2, g3, g4, g5, g6, g7⟩ := hSw; go_simp; (try with_reducible rfl))
                try simp only [Act.put, List.setIfInBounds_toArray, List.set_cons_zero, List.set_cons_succ]
                refine take_to (some 101) (i := 5) (oi := _) (v := ?_) rfl rfl (by kernel_rfl) (by kernel_rfl) (by kernel_rfl) (fun _ _ _ h => h) (Or.inl ⟨by kernel_rfl, ?_⟩) qc4 ?_
                rotate_left 1
                · (intro w hSw; obtain ⟨g0, g1, g2, g3, g4, g5, g6, g7⟩ := hSw; go_simp; (try with_reducible rfl))
                try simp only [Act.put, List.setIfInBounds_toArray, List.set_cons_zero, List.set_cons_succ]
                refine take_to (some 105) (i := 9) (oi := _) (v := ?_) rfl rfl (by kernel_rfl) (by kernel_rfl) (by kernel_rfl) (fun _ _ _ h => h) (Or.inl ⟨by kernel_rfl, ?_⟩) qc4 ?_
                rotate_left 1
                · (intro w hSw; obtain ⟨g0, g1, g2, g3, g4, g5, g6, g7⟩ := hSw; go_simp; (try with_reducible rfl))
                try simp only [Act.put, List.setIfInBounds_toArray, List.set_cons_zero, List.set_cons_succ]
                refine take_to (some 102) (i := 6) (oi := _) (v := ?_) rfl rfl (by kernel_rfl) (by kernel_rfl) (by kernel_rfl) (fun _ _ _ h => h) (Or.inl ⟨by kernel_rfl, ?_⟩) qc4 ?_
                rotate_left 1
                · (intro w hSw; obtain ⟨g0, g1, g2, g3, g4, g5, g6, g7⟩ := hSw; go_simp; (try with_reducible rfl))
                try simp only [Act.put, List.setIfInBounds_toArray, List.set_cons_zero, List.set_cons_succ]
                refine take_to (some 106) (i := 10) (oi := _) (v := ?_) rfl rfl (by kernel_rfl) (by kernel_rfl) (by kernel_rfl) (fun _ _ _ h => h) (Or.inl ⟨by kernel_rfl, ?_⟩) qc4 ?_
                rotate_left 1
                · (intro w hSw; obtain ⟨g0, g1, g2, g3, g4, g5, g6, g7⟩ := hSw; go_simp; (try with_reducible rfl))
                try simp only [Act.put, List.setIfInBounds_toArray, List.set_cons_zero, List.set_cons_succ]
                refine take_to (some 103) (i := 7) (oi := _) (v := ?_) rfl rfl (by kernel_rfl) (by kernel_rfl) (by kernel_rfl) (fun _ _ _ h => h) (Or.inl ⟨by kernel_rfl, ?_⟩) qc4 ?_
                rotate_left 1
                · (intro w hSw; obtain ⟨g0, g1, g2, g3, g4, g5, g6, g7⟩ := hSw; go_simp; (try with_reducible rfl))
                try simp only [Act.put, List.setIfInBounds_toArray, List.set_cons_zero, List.set_cons_succ]
                refine take_to (some 107) (i := 11) (oi := _) (v := ?_) rfl rfl (by kernel_rfl) (by kernel_rfl) (by kernel_rfl) (fun _ _ _ h => h) (Or.inl ⟨by kernel_rfl, ?_⟩) qc4 ?_
                rotate_left 1
                · (intro w hSw; obtain ⟨g0, g1, g2, g3, g4, g5, g6, g7⟩ := hSw; go_simp; (try with_reducible rfl))
                try simp only [Act.put, List.setIfInBounds_toArray, List.set_cons_zero, List.set_cons_succ]
                refine wpAnyH_ready (rs := [8]) (by kernel_rfl) (by simp) ?_
                refine AllReadyH.cons (o := _) rfl (fun K hK => ?_) AllReadyH.nil
                go_simp
                refine (QT.out wc3 HB.out).mono ?_
                rintro e wc5 ⟨pa, ca8, rfl, HFA, hb⟩
                have HB_ := Lib.hid (HB.out.trans (hb.mono HB.out.size))
                clear HB
                have HB := HB_
                clear HB_ hb
                refine hK.out _ _ (HS9.out _ HB.out) (fun qc6 => ?_)
                clear hK K
                try simp only [Act.put, List.setIfInBounds_toArray, List.set_cons_zero, List.set_cons_succ]
                refine wpAnyH_ready (rs := [12]) (by kernel_rfl) (by simp) ?_
                refine AllReadyH.cons (o := _) rfl (fun K hK => ?_) AllReadyH.nil
                go_simp
                refine (QU.out wc5 HB.out).mono ?_
                rintro e wc7 ⟨pb, cb8, rfl, HFB, hb⟩
                have HFA_ := Lib.hid (HFA.out.below hb)
                clear HFA
                have HFA := HFA_
                clear HFA_
                have HB_ := Lib.hid (HB.out.trans (hb.mono HB.out.size))
                clear HB
                have HB := HB_
                clear HB_ hb
                refine hK.out _ _ (HS9.out _ HB.out) (fun qc8 => ?_)
                clear hK K
                try simp only [Act.put, List.setIfInBounds_toArray, List.set_cons_zero, List.set_cons_succ]
                refine wpAnyH_ready (rs := [13]) (by kernel_rfl) (by simp) ?_
                refine AllReadyH.cons (o := _) rfl (fun K hK => ?_) AllReadyH.nil
                go_simp
                refine (QW.out wc7 _ _ _ _ HFA HFB HB.out).mono ?_
                rintro e wc9 ⟨rfl, hb⟩
                have HB_ := Lib.hid (HB.out.trans (hb.mono HB.out.size))
                clear HB
                have HB := HB_
                clear HB_ hb
                refine hK.out _ _ (HS9.out _ HB.out) (fun qc10 => ?_)
                clear hK K
                try simp only [Act.put, List.setIfInBounds_toArray, List.set_cons_zero, List.set_cons_succ]
                refine take_to (some 110) (i := 14) (oi := _) (v := ?_) rfl rfl (by kernel_rfl) (by kernel_rfl) (by kernel_rfl) (fun _ _ _ h => h) (Or.inl ⟨by kernel_rfl, ?_⟩) qc10 ?_
                rotate_left 1
                · (intro w hSw; obtain ⟨g0, g1, g2, g3, g4, g5, g6, g7⟩ := hSw; go_simp; (try with_reducible rfl))
                try simp only [Act.put, List.setIfInBounds_toArray, List.set_cons_zero, List.set_cons_succ]
                refine take_to (some 4) (i := 15) (oi := _) (v := ?_) rfl rfl (by kernel_rfl) (by kernel_rfl) (by kernel_rfl) (fun _ _ _ h => h) (Or.inl ⟨by kernel_rfl, ?_⟩) qc10 ?_
                rotate_left 1
                · (intro w hSw; obtain ⟨g0, g1, g2, g3, g4, g5, g6, g7⟩ := hSw; go_simp; (try with_reducible rfl))
                try simp only [Act.put, List.setIfInBounds_toArray, List.set_cons_zero, List.set_cons_succ]
                refine wpAnyH_done (by kernel_rfl) ?_ _
                go_wp2_with fail
                go_ret
                exact ⟨rfl, HB1.out.trans ((HW1r.out.trans (HB.out.mono HW1r.out.size)).mono HB1.out.size)⟩
end Go.Proofs.YtbhjpkejdkfenaaGreatDoor
