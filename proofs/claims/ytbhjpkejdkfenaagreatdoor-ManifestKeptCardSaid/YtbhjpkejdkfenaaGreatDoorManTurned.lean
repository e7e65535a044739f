/-
  The law ManifestTurned, walked. Conditions: those in the theorems.
-/
import Derived.Test.YtbhjpkejdkfenaaGreatDoorManArgs
import Derived.Deep.CutRange
set_option linter.unusedSimpArgs false
set_option linter.unusedVariables false
namespace Go.Proofs.YtbhjpkejdkfenaaGreatDoor
open Go.RowKit Go.Shelf
open Mf (File State Edit)
theorem apply_fail {s : State} {e : Edit} (h : (Mf.apply s e).1 ≠ 0) : (Mf.apply s e).2 = ⟨0, 0, []⟩ := by
  unfold Mf.apply at h ⊢
  by_cases h1 : Mf.Right s
  · rw [if_neg (fun k => k h1)] at h ⊢
    cases hd : Mf.dropAll s.files e.drop with
    | none => rfl
    | some l =>
      rw [hd] at h
      simp only at h ⊢
      by_cases h2 : Mf.Twice (l ++ e.add)
      · rw [if_pos h2]
      · rw [if_neg h2] at h ⊢
        by_cases h3 : Mf.Right ⟨max s.next e.next, max s.log e.log, Mf.insertAll l e.add⟩
        · rw [if_neg (fun k => k h3)] at h
          exact absurd rfl h
        · rw [if_pos h3]
  · rw [if_pos h1]
structure Sane (s : State) : Prop where
  few : s.files.length ≤ 200
  next : I64 s.next
  log : I64 s.log
  files : ∀ f ∈ s.files, FiIn f
theorem sane_right {s : State} (h : Mf.Right s) : Sane s := ⟨h.few, ⟨by have := h.next.1; omega, by have := h.next.2; omega⟩, ⟨by have := h.log.1; omega, by have := h.log.2; omega⟩, right_fi h⟩
theorem apply_sane (s : State) (e : Edit) : Sane (Mf.apply s e).2 := by
  by_cases h : (Mf.apply s e).1 = 0
  · obtain ⟨-, h2, -⟩ := Mf.apply_ok_perm h
    exact sane_right h2
  · rw [apply_fail h]
    exact ⟨Nat.zero_le _, ⟨by decide, by decide⟩, ⟨by decide, by decide⟩, (fun _ h => nomatch h)⟩
theorem apply8_any {w : World} {p q r : Option Addr} {cap cd ca : Nat} {l add : List File} {ds : List Int} {nx lg enx elg : Int} (hl : FilesAt w p l) (hc : l.length ≤ cap ∧ cap ≤ maxLen) (hd : IntsM w q ds) (ha : FilesAt w r add)
    (hn : l.length ≤ 1000) (hdn : ds.length ≤ 1000) (han : add.length ≤ 1000) (i1 : I64 nx) (i2 : I64 lg) (i3 : I64 enx) (i4 : I64 elg) {o : Nat × State} (ho : Mf.apply ⟨nx, lg, l⟩ ⟨ds, add, enx, elg⟩ = o) :
    Calls Tryz.prog 8 #[.agg #[.int .i64 nx, .int .i64 lg, .slice p l.length cap], .agg #[.slice q ds.length cd, .slice r add.length ca, .int .i64 enx, .int .i64 elg]] w fun e w' =>
      ∃ pw cw, e = .returned (.tuple #[.agg #[.int .i64 o.2.next, .int .i64 o.2.log, .slice pw o.2.files.length cw], .int .i64 (o.1 : Nat)]) ∧ Hid (FilesAt w' pw o.2.files ∧ (o.2.files.length ≤ cw ∧ cw ≤ maxLen) ∧ Below w.heap.size w w') := by
  subst ho
  refine (Apply_any hl hc.1 hc.2 hd ha hn hdn han i1 i2 i3 i4).mono ?_
  rintro e w' ⟨v, rfl, hown, hb⟩
  obtain ⟨pw, cw, rfl, h1, h2, h3⟩ := hown.files (apply_sane _ _).files
  exact ⟨pw, cw, rfl, Lib.hid ⟨h3, ⟨h1, h2⟩, hb⟩⟩
theorem check_yes {w : World} {p : Option Addr} {cap : Nat} {l : List File} {nx lg : Int} (hl : FilesAt w p l) (hc : l.length ≤ cap ∧ cap ≤ maxLen) (hr : Mf.Right ⟨nx, lg, l⟩) :
    Calls Tryz.prog 12 #[.agg #[.int .i64 nx, .int .i64 lg, .slice p l.length cap]] w fun e w' => e = .returned (.int .i64 0) ∧ Below w.heap.size w w' := by
  refine (Check_any (nx := nx) (lg := lg) hl hc.1 hc.2).mono ?_
  rintro e w' ⟨n, rfl, h1, -, h3⟩
  obtain rfl := h1.2 hr
  exact ⟨rfl, h3⟩
theorem check_no {w : World} {p : Option Addr} {cap : Nat} {l : List File} {nx lg : Int} (hl : FilesAt w p l) (hc : l.length ≤ cap ∧ cap ≤ maxLen) (hr : ¬ Mf.Right ⟨nx, lg, l⟩) :
    Calls Tryz.prog 12 #[.agg #[.int .i64 nx, .int .i64 lg, .slice p l.length cap]] w fun e w' => e = .returned (.int .i64 1) ∧ Below w.heap.size w w' := by
  refine (Check_any (nx := nx) (lg := lg) hl hc.1 hc.2).mono ?_
  rintro e w' ⟨n, rfl, h1, h2, h3⟩
  rcases h2 with rfl | rfl
  · exact absurd (h1.1 rfl) hr
  · exact ⟨rfl, h3⟩
theorem alike_yes {w : World} {p q : Option Addr} {cap cap2 : Nat} {l m : List File} {nx lg nx2 lg2 : Int} (hp : FilesAt w p l) (hq : FilesAt w q m) (hl : l.length ≤ 1000) (h : (⟨nx, lg, l⟩ : State) = ⟨nx2, lg2, m⟩) :
    Calls Tryz.prog 32 #[.agg #[.int .i64 nx, .int .i64 lg, .slice p l.length cap], .agg #[.int .i64 nx2, .int .i64 lg2, .slice q m.length cap2]] w fun e w' => e = .returned (.bool true) ∧ Below w.heap.size w w' := by
  have hm : m.length ≤ 1000 := by rw [← congrArg (fun s : State => s.files.length) h]; exact hl
  refine (alike8_any (nx := nx) (lg := lg) (nx2 := nx2) (lg2 := lg2) (cap := cap) (cap2 := cap2) hp hq hl hm).mono ?_
  rintro e w' ⟨b, rfl, h1, h2⟩
  obtain rfl := h1.2 h
  exact ⟨rfl, h2⟩
theorem st_box {w W W' : World} {nx lg : Int} {p : Option Addr} {n cap : Nat} (hW : W = w.alloc (.cells #[.int .i64 nx, .int .i64 lg, .slice p n cap] 24)) (h : Below W.heap.size W W') :
    W'.cell? ⟨w.heap.size, 0, none⟩ = some (.int .i64 nx) ∧ W'.cell? ⟨w.heap.size, 1, none⟩ = some (.int .i64 lg) ∧ W'.cell? ⟨w.heap.size, 2, none⟩ = some (.slice p n cap) := by
  subst hW
  exact st_cells ((h.block _ (by simp)).trans (heap_alloc_new w _))
set_option maxRecDepth 100000 in
set_option maxHeartbeats 16000000 in
theorem manTurned_any {w : World} {v0 v1 v2 : Value} {nx lg : Int} {p : Option Addr} {cap : Nat} {l : List File} {q r q2 r2 : Option Addr} {cd ca cd2 ca2 : Nat} {ds ds2 : List Int} {add add2 : List File} {enx elg enx2 elg2 : Int}
    (hs : StArg w v0 nx lg p cap l) (ha : EdArg w v1 q cd ds r ca add enx elg) (hb : EdArg w v2 q2 cd2 ds2 r2 ca2 add2 enx2 elg2) :
    Calls Tryz.prog 7 #[v0, v1, v2] w fun e w' => e = .returned (.bool true) ∧ Below w.heap.size w w' := by
  obtain ⟨rfl, hsf, hsc, hsx, hsg⟩ := hs
  obtain ⟨rfl, had, haf, hac, hacc, hax, hag⟩ := ha
  obtain ⟨rfl, hbd, hbf, hbc, hbcc, hbx, hbg⟩ := hb
  obtain ⟨W1, hW1⟩ : ∃ W1, W1 = ((w.alloc (.cells #[.int .i64 nx, .int .i64 lg, .slice p l.length cap] 24)).alloc (.cells #[.slice q ds.length cd, .slice r add.length ca, .int .i64 enx, .int .i64 elg] 33)).alloc (.cells #[.slice q2 ds2.length cd2, .slice r2 add2.length ca2, .int .i64 enx2, .int .i64 elg2] 33) := ⟨_, rfl⟩
  have hb1 : Below w.heap.size w W1 := by rw [hW1]; exact (((Below.refl _ w).alloc (Nat.le_refl _) _).alloc (by simp) _).alloc (by simp; omega) _
  have h1 : W1.heap[w.heap.size]? = some (stO nx lg p l.length cap) := by rw [hW1, Below.heap_alloc _ _ _ (by simp; omega), Below.heap_alloc _ _ _ (by simp)]; exact heap_alloc_new w _
  have h2 : W1.heap[w.heap.size + 1]? = some (edO q ds.length cd r add.length ca enx elg) := by
    rw [hW1, Below.heap_alloc _ _ _ (by simp)]
    have := heap_alloc_new (w.alloc (.cells #[.int .i64 nx, .int .i64 lg, .slice p l.length cap] 24)) (.cells #[.slice q ds.length cd, .slice r add.length ca, .int .i64 enx, .int .i64 elg] 33)
    rwa [World.size_alloc] at this
  have h3 : W1.heap[w.heap.size + 1 + 1]? = some (edO q2 ds2.length cd2 r2 add2.length ca2 enx2 elg2) := by
    rw [hW1]
    have := heap_alloc_new ((w.alloc (.cells #[.int .i64 nx, .int .i64 lg, .slice p l.length cap] 24)).alloc (.cells #[.slice q ds.length cd, .slice r add.length ca, .int .i64 enx, .int .i64 elg] 33)) (.cells #[.slice q2 ds2.length cd2, .slice r2 add2.length ca2, .int .i64 enx2, .int .i64 elg2] 33)
    rwa [World.size_alloc, World.size_alloc] at this
  have HS : Hid (∀ W, Below W1.heap.size W1 W → W.cell? ⟨w.heap.size, 0, none⟩ = some (.int .i64 nx) ∧ W.cell? ⟨w.heap.size, 1, none⟩ = some (.int .i64 lg) ∧ W.cell? ⟨w.heap.size, 2, none⟩ = some (.slice p l.length cap)) := Lib.hid fun W hW => st_cells ((hW.block _ (Array.getElem?_eq_some_iff.1 h1).1).trans h1)
  have HA : Hid (∀ W, Below W1.heap.size W1 W → W.cell? ⟨w.heap.size + 1, 0, none⟩ = some (.slice q ds.length cd) ∧ W.cell? ⟨w.heap.size + 1, 1, none⟩ = some (.slice r add.length ca) ∧ W.cell? ⟨w.heap.size + 1, 2, none⟩ = some (.int .i64 enx) ∧ W.cell? ⟨w.heap.size + 1, 3, none⟩ = some (.int .i64 elg)) := Lib.hid fun W hW => ed_cells ((hW.block _ (Array.getElem?_eq_some_iff.1 h2).1).trans h2)
  have HB : Hid (∀ W, Below W1.heap.size W1 W → W.cell? ⟨w.heap.size + 1 + 1, 0, none⟩ = some (.slice q2 ds2.length cd2) ∧ W.cell? ⟨w.heap.size + 1 + 1, 1, none⟩ = some (.slice r2 add2.length ca2) ∧ W.cell? ⟨w.heap.size + 1 + 1, 2, none⟩ = some (.int .i64 enx2) ∧ W.cell? ⟨w.heap.size + 1 + 1, 3, none⟩ = some (.int .i64 elg2)) := Lib.hid fun W hW => ed_cells ((hW.block _ (Array.getElem?_eq_some_iff.1 h3).1).trans h3)
  have FS := Lib.hid (hsf.below hb1)
  have FD := Lib.hid (had.below hb1)
  have FA := Lib.hid (haf.below hb1)
  have FD2 := Lib.hid (hbd.below hb1)
  have FA2 := Lib.hid (hbf.below hb1)
  have HB1 := Lib.hid hb1
  have HSC := Lib.hid hsc
  have HI := Lib.hid (And.intro hsx (And.intro hsg (And.intro hax (And.intro hag (And.intro hbx hbg)))))
  unfold stV edV
  clear hsf hsc hsx hsg had haf hac hacc hax hag hbd hbf hbc hbcc hbx hbg hb1 h1 h2 h3
  go_enter Tryz.func7, Tryz.ntmps7
  go_wp2_with fail
  rw [← hW1]
  clear hW1
  refine (awake8_any W1).mono ?_
  rintro e w2 ⟨rfl, hb2⟩
  have HB2 : Hid (Below W1.heap.size W1 w2) := Lib.hid hb2
  obtain ⟨c0, c1, c2⟩ := HS.out _ hb2
  obtain ⟨d0, d1, d2, d3⟩ := HA.out _ hb2
  have HG := Lib.hid (great8_any (w := w2) (p := p) (q := q) (r := r) (n := l.length) (nd := ds.length) (na := add.length) (cap := cap) (cd := cd) (ca := ca) (nx := nx) (lg := lg) (enx := enx) (elg := elg))
  unfold stV edV at HG
  clear hb2
  go_wp2_with fail
  refine HG.out.mono ?_
  rintro e w3 ⟨b, rfl, hi, hb3⟩
  have HB3 : Hid (Below W1.heap.size W1 w3) := Lib.hid (HB2.out.trans (hb3.mono HB2.out.size))
  clear c0 c1 c2 d0 d1 d2 d3 HG HB2 hb3
  cases b with
  | true =>
    clear hi
    go_wp2_with fail
    go_ret
    exact ⟨rfl, HB1.out.trans (HB3.out.mono HB1.out.size)⟩
  | false =>
    have HN1 : Hid (¬ (300 < l.length ∨ 300 < add.length ∨ 300 < ds.length)) := Lib.hid fun h => by have := hi.2 h; cases this
    clear hi
    obtain ⟨c0, c1, c2⟩ := HS.out _ HB3.out
    obtain ⟨e0, e1, e2, e3⟩ := HB.out _ HB3.out
    have HG := Lib.hid (great8_any (w := w3) (p := p) (q := q2) (r := r2) (n := l.length) (nd := ds2.length) (na := add2.length) (cap := cap) (cd := cd2) (ca := ca2) (nx := nx) (lg := lg) (enx := enx2) (elg := elg2))
    unfold stV edV at HG
    go_wp2_with fail
    refine HG.out.mono ?_
    rintro e w4 ⟨b, rfl, hi, hb4⟩
    have HB4 : Hid (Below W1.heap.size W1 w4) := Lib.hid (HB3.out.trans (hb4.mono HB3.out.size))
    clear c0 c1 c2 e0 e1 e2 e3 HG HB3 hb4
    cases b with
    | true =>
      clear hi
      go_wp2_with fail
      go_ret
      exact ⟨rfl, HB1.out.trans (HB4.out.mono HB1.out.size)⟩
    | false =>
      have HN : Hid (l.length ≤ 300 ∧ add.length ≤ 300 ∧ ds.length ≤ 300 ∧ add2.length ≤ 300 ∧ ds2.length ≤ 300) := Lib.hid (by
        have h1 := HN1.out
        have h2 : ¬ (300 < l.length ∨ 300 < add2.length ∨ 300 < ds2.length) := fun h => by have := hi.2 h; cases this
        omega)
      clear hi HN1
      obtain ⟨c0, c1, c2⟩ := HS.out _ HB4.out
      by_cases hr : Mf.Right ⟨nx, lg, l⟩
      case neg =>
        have HAP := Lib.hid (apply8_any (cd := 0) (ca := 0) (FS.out.below HB4.out) HSC.out (IntsM.nil w4 none) (FilesAt.nil w4 none) (by have := HN.out; omega) (by decide) (by decide) HI.out.1 HI.out.2.1 (enx := 0) (elg := 0) ⟨by decide, by decide⟩ ⟨by decide, by decide⟩ (apply_bad (e := ⟨[], [], 0, 0⟩) hr))
        have HR := Lib.hid hr
        clear hr
        go_wp2_with fail
        refine HAP.out.mono ?_
        rintro e w5 ⟨pw, cw, rfl, H5⟩
        have HB5 : Hid (Below W1.heap.size W1 w5) := Lib.hid (HB4.out.trans (H5.out.2.2.mono HB4.out.size))
        obtain ⟨W6, hW6⟩ : ∃ W6, W6 = w5.alloc (.cells #[.int .i64 0, .int .i64 0, .slice pw 0 cw] 24) := ⟨_, rfl⟩
        have HB6 : Hid (Below W1.heap.size W1 W6) := Lib.hid (by rw [hW6]; exact HB5.out.alloc HB5.out.size _)
        clear c0 c1 c2 HAP
        go_upto_region 6 with fail
        rw [← hW6]
        clear hW6
        obtain ⟨c0, c1, c2⟩ := HS.out _ HB6.out
        have HC := Lib.hid (check_no (nx := nx) (lg := lg) (FS.out.below HB6.out) HSC.out HR.out)
        go_wp2_with fail
        refine HC.out.mono ?_
        rintro e w7 ⟨rfl, hb7⟩
        have HB7 := Lib.hid (HB6.out.trans (hb7.mono HB6.out.size))
        clear hb7 c0 c1 c2 HC
        go_wp2_with fail
        go_ret
        exact ⟨rfl, HB1.out.trans (HB7.out.mono HB1.out.size)⟩
      case pos =>
        have HR := Lib.hid hr
        have HAP := Lib.hid (apply8_any (cd := 0) (ca := 0) (FS.out.below HB4.out) HSC.out (IntsM.nil w4 none) (FilesAt.nil w4 none) (by have := HN.out; omega) (by decide) (by decide) HI.out.1 HI.out.2.1 (enx := 0) (elg := 0) ⟨by decide, by decide⟩ ⟨by decide, by decide⟩ (Mf.apply_empty hr))
        clear hr
        go_wp2_with fail
        refine HAP.out.mono ?_
        rintro e w5 ⟨pw, cw, rfl, H5⟩
        have HB5 : Hid (Below W1.heap.size W1 w5) := Lib.hid (HB4.out.trans (H5.out.2.2.mono HB4.out.size))
        obtain ⟨W6, hW6⟩ : ∃ W6, W6 = w5.alloc (.cells #[.int .i64 nx, .int .i64 lg, .slice pw l.length cw] 24) := ⟨_, rfl⟩
        have HB6 : Hid (Below W1.heap.size W1 W6) := Lib.hid (by rw [hW6]; exact HB5.out.alloc HB5.out.size _)
        have HT6 : Hid (∀ W, Below W6.heap.size W6 W → W.cell? ⟨w5.heap.size, 0, none⟩ = some (.int .i64 nx) ∧ W.cell? ⟨w5.heap.size, 1, none⟩ = some (.int .i64 lg) ∧ W.cell? ⟨w5.heap.size, 2, none⟩ = some (.slice pw l.length cw)) := Lib.hid fun W hW => st_box hW6 hW
        have FT : Hid (FilesAt W6 pw l) := Lib.hid (by rw [hW6]; exact H5.out.1.below (mbelow_alloc _ _))
        clear c0 c1 c2 HAP H5
        go_upto_region 6 with fail
        rw [← hW6]
        clear hW6
        obtain ⟨c0, c1, c2⟩ := HS.out _ HB6.out
        have HC := Lib.hid (check_yes (nx := nx) (lg := lg) (FS.out.below HB6.out) HSC.out HR.out)
        go_wp2_with fail
        refine HC.out.mono ?_
        rintro e w7 ⟨rfl, hb7⟩
        have HB7 := Lib.hid (HB6.out.trans (hb7.mono HB6.out.size))
        clear c0 c1 c2 HC
        obtain ⟨c0, c1, c2⟩ := HS.out _ HB7.out
        obtain ⟨t0, t1, t2⟩ := HT6.out _ hb7
        have HK := Lib.hid (alike_yes (nx := nx) (lg := lg) (nx2 := nx) (lg2 := lg) (cap := cap) (cap2 := cw) (FS.out.below HB7.out) (FT.out.below hb7) (by have := HN.out; omega) rfl)
        clear hb7
        go_wp2_with fail
        refine HK.out.mono ?_
        rintro e w8 ⟨rfl, hb8⟩
        have HB8 := Lib.hid (HB7.out.trans (hb8.mono HB7.out.size))
        clear hb8 c0 c1 c2 t0 t1 t2 HK HT6 FT HB5 HB6 HB7
        obtain ⟨c0, c1, c2⟩ := HS.out _ HB8.out
        go_upto_if 58 with fail
        go_cut [9, 10, 11] from 55 to 85 (fun xa xb xc wc => Hid (Below W1.heap.size W1 wc))
        case first =>
          by_cases hlen : 0 < l.length
          · have i1 : (0 : Int) < (l.length : Int) := by omega
            obtain ⟨k, hk⟩ : ∃ k, k = l.length / 2 := ⟨_, rfl⟩
            have hkl : k < l.length := by omega
            have hw : wrap64 ((l.length : Int) / 2) = (k : Int) := (IntWalk.wrap64_in _ (by have := HN.out; omega)).trans (by omega)
            have i2 : (0 : Int) ≤ (k : Int) := by omega
            have i3 : (k : Int) < (l.length : Int) := by omega
            obtain ⟨A, rfl, y0, y1, y2, y3, y4, hfi⟩ := FS.out.at HB8.out hkl
            have HAG := Lib.hid (Mf.apply_again HR.out (k := k) hkl)
            simp only at HAG
            generalize l[k] = f at *
            obtain ⟨fn, fl, fc, ff, ft⟩ := f
            simp only at y0 y1 y2 y3 y4
            obtain ⟨W9, hW9⟩ : ∃ W9, W9 = w8.alloc (.cells #[.int .i64 fn, .int .i64 fl, .int .i64 fc, .string ff, .string ft] 29) := ⟨_, rfl⟩
            have HB9 : Hid (Below W1.heap.size W1 W9) := Lib.hid (by rw [hW9]; exact HB8.out.alloc HB8.out.size _)
            have HC9 : Hid (∀ W, Below W9.heap.size W9 W → W.cell? ⟨w8.heap.size, 0, none⟩ = some (.int .i64 fn) ∧ W.cell? ⟨w8.heap.size, 1, none⟩ = some (.int .i64 fl) ∧ W.cell? ⟨w8.heap.size, 2, none⟩ = some (.int .i64 fc) ∧ W.cell? ⟨w8.heap.size, 3, none⟩ = some (.string ff) ∧ W.cell? ⟨w8.heap.size, 4, none⟩ = some (.string ft)) := Lib.hid (by
              intro W hW
              rw [hW9] at hW
              exact mcells5 ((hW.block _ (by simp)).trans (heap_alloc_new w8 _)))
            have HFI := Lib.hid hfi
            clear hfi hk hkl
            go_upto_region 12 with fail
            rw [← hW9]
            clear hW9 hw y0 y1 y2 y3 y4 c0 c1 c2 i2 i3
            obtain ⟨c0, c1, c2⟩ := HS.out _ HB9.out
            obtain ⟨g0, g1, g2, g3, g4⟩ := HC9.out _ (Below.refl _ _)
            have h0 := fun o => (HC9.out (W9.alloc o) (mbelow_alloc _ _)).1
            have h1 := fun o => (HC9.out (W9.alloc o) (mbelow_alloc _ _)).2.1
            have h2 := fun o => (HC9.out (W9.alloc o) (mbelow_alloc _ _)).2.2.1
            have h3 := fun o => (HC9.out (W9.alloc o) (mbelow_alloc _ _)).2.2.2.1
            have h4 := fun o => (HC9.out (W9.alloc o) (mbelow_alloc _ _)).2.2.2.2
            obtain ⟨WA, hWA⟩ : ∃ WA, WA = W9.alloc (.cells #[.int .i64 fn] 3) := ⟨_, rfl⟩
            obtain ⟨WB, hWB⟩ : ∃ WB, WB = WA.alloc (.cells #[.int .i64 fn, .int .i64 fl, .int .i64 fc, .string ff, .string ft] 29) := ⟨_, rfl⟩
            have HSZ : Hid (WA.heap.size = W9.heap.size + 1) := Lib.hid (by rw [hWA]; simp)
            have HBA : Hid (Below W9.heap.size W9 WA) := Lib.hid (by rw [hWA]; exact mbelow_alloc _ _)
            have HBB : Hid (Below WA.heap.size WA WB) := Lib.hid (by rw [hWB]; exact mbelow_alloc _ _)
            have HB10 : Hid (Below W1.heap.size W1 WB) := Lib.hid (HB9.out.trans ((HBA.out.trans (HBB.out.mono HBA.out.size)).mono HB9.out.size))
            have HIN : Hid (IntsM WA (some ⟨W9.heap.size, 0, none⟩) [fn]) := Lib.hid (by
              intro i hi
              obtain rfl : i = 0 := by simpa using hi
              refine ⟨_, rfl, by rw [hWA]; simp, ?_, HFI.out.1⟩
              rw [hWA]
              show (W9.alloc _).cell? ⟨W9.heap.size, 0, none⟩ = _
              simp)
            have HFN : Hid (FilesAt WB (some ⟨W9.heap.size + 1, 0, none⟩) [⟨fn, fl, fc, ff, ft⟩]) := Lib.hid (by
              rw [hWB, ← HSZ.out]
              exact files_new WA ⟨fn, fl, fc, ff, ft⟩ HFI.out _)
            have HAP := Lib.hid (apply8_any (cd := 1) (ca := 1) (ds := [fn]) (add := [⟨fn, fl, fc, ff, ft⟩]) (FS.out.below HB10.out) HSC.out (HIN.out.below HBB.out) HFN.out (by have := HN.out; omega) (show 1 ≤ 1000 by decide) (show 1 ≤ 1000 by decide) HI.out.1 HI.out.2.1 (enx := 0) (elg := 0) ⟨by decide, by decide⟩ ⟨by decide, by decide⟩ HAG.out)
            clear HAG
            go_wp2_with fail
            rw [← hWA, ← hWB]
            clear hWA hWB h0 h1 h2 h3 h4 c0 c1 c2 g0 g1 g2 g3 g4
            refine HAP.out.mono ?_
            rintro e w11 ⟨pu, cu, rfl, H11⟩
            have HB11 : Hid (Below W1.heap.size W1 w11) := Lib.hid (HB10.out.trans (H11.out.2.2.mono HB10.out.size))
            obtain ⟨WC, hWC⟩ : ∃ WC, WC = w11.alloc (.cells #[.int .i64 nx, .int .i64 lg, .slice pu l.length cu] 24) := ⟨_, rfl⟩
            have HB12 : Hid (Below W1.heap.size W1 WC) := Lib.hid (by rw [hWC]; exact HB11.out.alloc HB11.out.size _)
            have FU : Hid (FilesAt WC pu l) := Lib.hid (by rw [hWC]; exact H11.out.1.below (mbelow_alloc _ _))
            obtain ⟨t0, t1, t2⟩ := st_box hWC (Below.refl _ _)
            have HK := Lib.hid (alike_yes (nx := nx) (lg := lg) (nx2 := nx) (lg2 := lg) (cap := cu) (cap2 := cap) FU.out (FS.out.below HB12.out) (by have := HN.out; omega) rfl)
            clear HAP H11
            go_upto_region 13 with fail
            rw [← hWC]
            clear hWC
            obtain ⟨c0, c1, c2⟩ := HS.out _ HB12.out
            go_wp2_with fail
            refine HK.out.mono ?_
            rintro e w13 ⟨rfl, hb13⟩
            have HB13 : Hid (Below W1.heap.size W1 w13) := Lib.hid (HB12.out.trans (hb13.mono HB12.out.size))
            clear hb13 HK c0 c1 c2 t0 t1 t2
            go_wp2_with fail
            go_meet
            exact HB13
          · have i1 : ¬ (0 : Int) < (l.length : Int) := by omega
            go_wp2_with fail
            go_meet
            exact HB8
        case rest =>
          have HB9 : Hid (Below W1.heap.size W1 wc) := hcut
          clear hcut c0 c1 c2 HB8
          obtain ⟨c0, c1, c2⟩ := HS.out _ HB9.out
          obtain ⟨d0, d1, d2, d3⟩ := HA.out _ HB9.out
          obtain ⟨oa, HOA⟩ : ∃ o, Hid (Mf.apply ⟨nx, lg, l⟩ ⟨ds, add, enx, elg⟩ = o) := ⟨_, Lib.hid rfl⟩
          obtain ⟨ob, HOB⟩ : ∃ o, Hid (Mf.apply ⟨nx, lg, l⟩ ⟨ds2, add2, enx2, elg2⟩ = o) := ⟨_, Lib.hid rfl⟩
          have SA : Hid (Sane oa.2) := Lib.hid (by rw [← HOA.out]; exact apply_sane _ _)
          have SB : Hid (Sane ob.2) := Lib.hid (by rw [← HOB.out]; exact apply_sane _ _)
          have HAP := Lib.hid (apply8_any (cd := cd) (ca := ca) (FS.out.below HB9.out) HSC.out (FD.out.below HB9.out) (FA.out.below HB9.out) (by have := HN.out; omega) (by have := HN.out; omega) (by have := HN.out; omega) HI.out.1 HI.out.2.1 HI.out.2.2.1 HI.out.2.2.2.1 HOA.out)
          go_wp2_with fail
          refine HAP.out.mono ?_
          rintro e w10 ⟨px, cx, rfl, H10⟩
          have HB10 : Hid (Below W1.heap.size W1 w10) := Lib.hid (HB9.out.trans (H10.out.2.2.mono HB9.out.size))
          obtain ⟨WX, hWX⟩ : ∃ WX, WX = w10.alloc (.cells #[.int .i64 oa.2.next, .int .i64 oa.2.log, .slice px oa.2.files.length cx] 24) := ⟨_, rfl⟩
          have HB11 : Hid (Below W1.heap.size W1 WX) := Lib.hid (by rw [hWX]; exact HB10.out.alloc HB10.out.size _)
          have HX : Hid (∀ W, Below WX.heap.size WX W → W.cell? ⟨w10.heap.size, 0, none⟩ = some (.int .i64 oa.2.next) ∧ W.cell? ⟨w10.heap.size, 1, none⟩ = some (.int .i64 oa.2.log) ∧ W.cell? ⟨w10.heap.size, 2, none⟩ = some (.slice px oa.2.files.length cx)) := Lib.hid fun W hW => st_box hWX hW
          have FX : Hid (FilesAt WX px oa.2.files) := Lib.hid (by rw [hWX]; exact H10.out.1.below (mbelow_alloc _ _))
          have HXC := Lib.hid H10.out.2.1
          clear HAP H10 c0 c1 c2 d0 d1 d2 d3
          go_upto_region 16 with fail
          rw [← hWX]
          clear hWX
          obtain ⟨c0, c1, c2⟩ := HS.out _ HB11.out
          obtain ⟨e0, e1, e2, e3⟩ := HB.out _ HB11.out
          have HAP := Lib.hid (apply8_any (cd := cd2) (ca := ca2) (FS.out.below HB11.out) HSC.out (FD2.out.below HB11.out) (FA2.out.below HB11.out) (by have := HN.out; omega) (by have := HN.out; omega) (by have := HN.out; omega) HI.out.1 HI.out.2.1 HI.out.2.2.2.2.1 HI.out.2.2.2.2.2 HOB.out)
          go_wp2_with fail
          refine HAP.out.mono ?_
          rintro e w12 ⟨py, cy, rfl, H12⟩
          have HB12 : Hid (Below WX.heap.size WX w12) := Lib.hid (H12.out.2.2)
          obtain ⟨WY, hWY⟩ : ∃ WY, WY = w12.alloc (.cells #[.int .i64 ob.2.next, .int .i64 ob.2.log, .slice py ob.2.files.length cy] 24) := ⟨_, rfl⟩
          have HB13 : Hid (Below WX.heap.size WX WY) := Lib.hid (by rw [hWY]; exact HB12.out.alloc HB12.out.size _)
          have HY : Hid (∀ W, Below WY.heap.size WY W → W.cell? ⟨w12.heap.size, 0, none⟩ = some (.int .i64 ob.2.next) ∧ W.cell? ⟨w12.heap.size, 1, none⟩ = some (.int .i64 ob.2.log) ∧ W.cell? ⟨w12.heap.size, 2, none⟩ = some (.slice py ob.2.files.length cy)) := Lib.hid fun W hW => st_box hWY hW
          have FY : Hid (FilesAt WY py ob.2.files) := Lib.hid (by rw [hWY]; exact H12.out.1.below (mbelow_alloc _ _))
          have HYC := Lib.hid H12.out.2.1
          clear HAP H12 c0 c1 c2 e0 e1 e2 e3
          go_upto_region 17 with fail
          rw [← hWY]
          clear hWY
          have HBY : Hid (Below W1.heap.size W1 WY) := Lib.hid (HB11.out.trans (HB13.out.mono HB11.out.size))
          by_cases ha0 : oa.1 = 0
          case neg =>
            have j1 : ((oa.1 : Int) != 0) = true := by rw [bne_iff_ne]; omega
            have j2 : ¬ (oa.1 : Int) = 0 := by omega
            clear ha0
            go_wp2_with fail
            go_ret
            exact ⟨rfl, HB1.out.trans (HBY.out.mono HB1.out.size)⟩
          have j1 : ((oa.1 : Int) != 0) = false := by rw [bne_eq_false_iff_eq]; omega
          by_cases hb0 : ob.1 = 0
          case neg =>
            have j3 : ((ob.1 : Int) != 0) = true := by rw [bne_iff_ne]; omega
            have j2 : ¬ (ob.1 : Int) = 0 := by omega
            clear hb0
            rw [ha0] at j1 ⊢
            go_wp2_with fail
            go_ret
            exact ⟨rfl, HB1.out.trans (HBY.out.mono HB1.out.size)⟩
          have HA0 := Lib.hid ha0
          have HB0 := Lib.hid hb0
          rw [ha0, hb0]
          clear j1 ha0 hb0
          have RX : Hid (Mf.Right ⟨oa.2.next, oa.2.log, oa.2.files⟩) := Lib.hid (by have h := HA0.out; rw [← HOA.out] at h; obtain ⟨-, h2, -⟩ := Mf.apply_ok_perm h; rw [HOA.out] at h2; exact h2)
          have RY : Hid (Mf.Right ⟨ob.2.next, ob.2.log, ob.2.files⟩) := Lib.hid (by have h := HB0.out; rw [← HOB.out] at h; obtain ⟨-, h2, -⟩ := Mf.apply_ok_perm h; rw [HOB.out] at h2; exact h2)
          have HLE : Hid (nx ≤ oa.2.next ∧ lg ≤ oa.2.log) := Lib.hid (by have h := HA0.out; rw [← HOA.out] at h; have := Mf.apply_log h; rw [HOA.out] at this; exact this)
          obtain ⟨x0, x1, x2⟩ := HX.out _ HB13.out
          obtain ⟨e0, e1, e2, e3⟩ := HB.out _ HBY.out
          obtain ⟨op, HOP⟩ : ∃ o, Hid (Mf.apply oa.2 ⟨ds2, add2, enx2, elg2⟩ = o) := ⟨_, Lib.hid rfl⟩
          obtain ⟨oq, HOQ⟩ : ∃ o, Hid (Mf.apply ob.2 ⟨ds, add, enx, elg⟩ = o) := ⟨_, Lib.hid rfl⟩
          have SP : Hid (Sane op.2) := Lib.hid (by rw [← HOP.out]; exact apply_sane _ _)
          have SQ : Hid (Sane oq.2) := Lib.hid (by rw [← HOQ.out]; exact apply_sane _ _)
          have HAP := Lib.hid (apply8_any (cd := cd2) (ca := ca2) (FX.out.below HB13.out) HXC.out (FD2.out.below HBY.out) (FA2.out.below HBY.out) (by have := SA.out.few; omega) (by have := HN.out; omega) (by have := HN.out; omega) SA.out.next SA.out.log HI.out.2.2.2.2.1 HI.out.2.2.2.2.2 HOP.out)
          go_wp2_with fail
          refine HAP.out.mono ?_
          rintro e w14 ⟨pp, cp, rfl, H14⟩
          have HB14 : Hid (Below WY.heap.size WY w14) := Lib.hid (H14.out.2.2)
          obtain ⟨WP, hWP⟩ : ∃ WP, WP = w14.alloc (.cells #[.int .i64 op.2.next, .int .i64 op.2.log, .slice pp op.2.files.length cp] 24) := ⟨_, rfl⟩
          have HB15 : Hid (Below WY.heap.size WY WP) := Lib.hid (by rw [hWP]; exact HB14.out.alloc HB14.out.size _)
          have HP : Hid (∀ W, Below WP.heap.size WP W → W.cell? ⟨w14.heap.size, 0, none⟩ = some (.int .i64 op.2.next) ∧ W.cell? ⟨w14.heap.size, 1, none⟩ = some (.int .i64 op.2.log) ∧ W.cell? ⟨w14.heap.size, 2, none⟩ = some (.slice pp op.2.files.length cp)) := Lib.hid fun W hW => st_box hWP hW
          have FP : Hid (FilesAt WP pp op.2.files) := Lib.hid (by rw [hWP]; exact H14.out.1.below (mbelow_alloc _ _))
          clear HAP H14 x0 x1 x2 e0 e1 e2 e3
          go_upto_region 20 with fail
          rw [← hWP]
          clear hWP
          have HBP : Hid (Below W1.heap.size W1 WP) := Lib.hid (HBY.out.trans (HB15.out.mono HBY.out.size))
          obtain ⟨y0, y1, y2⟩ := HY.out _ HB15.out
          obtain ⟨d0, d1, d2, d3⟩ := HA.out _ HBP.out
          have HAP := Lib.hid (apply8_any (cd := cd) (ca := ca) (FY.out.below HB15.out) HYC.out (FD.out.below HBP.out) (FA.out.below HBP.out) (by have := SB.out.few; omega) (by have := HN.out; omega) (by have := HN.out; omega) SB.out.next SB.out.log HI.out.2.2.1 HI.out.2.2.2.1 HOQ.out)
          go_wp2_with fail
          refine HAP.out.mono ?_
          rintro e w16 ⟨pq, cq, rfl, H16⟩
          have HB16 : Hid (Below WP.heap.size WP w16) := Lib.hid (H16.out.2.2)
          obtain ⟨WQ, hWQ⟩ : ∃ WQ, WQ = w16.alloc (.cells #[.int .i64 oq.2.next, .int .i64 oq.2.log, .slice pq oq.2.files.length cq] 24) := ⟨_, rfl⟩
          have HB17 : Hid (Below WP.heap.size WP WQ) := Lib.hid (by rw [hWQ]; exact HB16.out.alloc HB16.out.size _)
          have HQ : Hid (∀ W, Below WQ.heap.size WQ W → W.cell? ⟨w16.heap.size, 0, none⟩ = some (.int .i64 oq.2.next) ∧ W.cell? ⟨w16.heap.size, 1, none⟩ = some (.int .i64 oq.2.log) ∧ W.cell? ⟨w16.heap.size, 2, none⟩ = some (.slice pq oq.2.files.length cq)) := Lib.hid fun W hW => st_box hWQ hW
          have FQ : Hid (FilesAt WQ pq oq.2.files) := Lib.hid (by rw [hWQ]; exact H16.out.1.below (mbelow_alloc _ _))
          clear HAP H16 y0 y1 y2 d0 d1 d2 d3
          go_upto_region 21 with fail
          rw [← hWQ]
          clear hWQ
          have HYQ : Hid (Below WY.heap.size WY WQ) := Lib.hid (HB15.out.trans (HB17.out.mono HB15.out.size))
          have HXQ : Hid (Below WX.heap.size WX WQ) := Lib.hid (HB13.out.trans (HYQ.out.mono HB13.out.size))
          obtain ⟨x0, x1, x2⟩ := HX.out _ HXQ.out
          have HC := Lib.hid (check_yes (FX.out.below HXQ.out) HXC.out RX.out)
          go_wp2_with fail
          refine HC.out.mono ?_
          rintro e w18 ⟨rfl, hb18⟩
          have HYR : Hid (Below WY.heap.size WY w18) := Lib.hid (HYQ.out.trans (hb18.mono HYQ.out.size))
          have HQR : Hid (Below WQ.heap.size WQ w18) := Lib.hid hb18
          clear x0 x1 x2 HC hb18
          obtain ⟨y0, y1, y2⟩ := HY.out _ HYR.out
          have HC := Lib.hid (check_yes (FY.out.below HYR.out) HYC.out RY.out)
          go_wp2_with fail
          refine HC.out.mono ?_
          rintro e w19 ⟨rfl, hb19⟩
          have HQS : Hid (Below WQ.heap.size WQ w19) := Lib.hid (HQR.out.trans (hb19.mono HQR.out.size))
          have HPS : Hid (Below WP.heap.size WP w19) := Lib.hid (HB17.out.trans (HQS.out.mono HB17.out.size))
          have HXS : Hid (Below WX.heap.size WX w19) := Lib.hid (HXQ.out.trans (HQS.out.mono HXQ.out.size))
          have H1S : Hid (Below W1.heap.size W1 w19) := Lib.hid (HB11.out.trans (HXS.out.mono HB11.out.size))
          clear y0 y1 y2 HC hb19
          obtain ⟨x0, x1, x2⟩ := HX.out _ HXS.out
          obtain ⟨c0, c1, c2⟩ := HS.out _ H1S.out
          obtain ⟨d0, d1, d2, d3⟩ := HA.out _ H1S.out
          obtain ⟨e0, e1, e2, e3⟩ := HB.out _ H1S.out
          have j1 : ¬ oa.2.next < nx := by have := HLE.out.1; omega
          have j2 : ¬ oa.2.log < lg := by have := HLE.out.2; omega
          have HK := Lib.hid (apart8_any (enx := enx) (elg := elg) (enx2 := enx2) (elg2 := elg2) (cd := cd) (ca := ca) (cd2 := cd2) (ca2 := ca2) (FD.out.below H1S.out) (FA.out.below H1S.out) (by have := HN.out; omega) (by have := HN.out; omega) (FD2.out.below H1S.out) (FA2.out.below H1S.out) (by have := HN.out; omega) (by have := HN.out; omega))
          unfold edV at HK
          go_wp2_with fail
          refine HK.out.mono ?_
          rintro e w20 ⟨b, rfl, hi, hb20⟩
          have H1T : Hid (Below W1.heap.size W1 w20) := Lib.hid (H1S.out.trans (hb20.mono H1S.out.size))
          have HPT : Hid (Below WP.heap.size WP w20) := Lib.hid (HPS.out.trans (hb20.mono HPS.out.size))
          have HQT : Hid (Below WQ.heap.size WQ w20) := Lib.hid (HQS.out.trans (hb20.mono HQS.out.size))
          clear HK x0 x1 x2 c0 c1 c2 d0 d1 d2 d3 e0 e1 e2 e3 j1 j2 hb20
          cases b with
          | false =>
            clear hi
            go_wp2_with fail
            go_ret
            exact ⟨rfl, HB1.out.trans (H1T.out.mono HB1.out.size)⟩
          | true =>
            have HAPART := Lib.hid (hi.1 rfl)
            clear hi
            by_cases hp0 : op.1 = 0
            case neg =>
              have j1 : ((op.1 : Int) != 0) = true := by rw [bne_iff_ne]; omega
              have j2 : ¬ (op.1 : Int) = 0 := by omega
              clear hp0
              go_wp2_with fail
              go_ret
              exact ⟨rfl, HB1.out.trans (H1T.out.mono HB1.out.size)⟩
            by_cases hq0 : oq.1 = 0
            case neg =>
              have j3 : ((oq.1 : Int) != 0) = true := by rw [bne_iff_ne]; omega
              have j2 : ¬ (oq.1 : Int) = 0 := by omega
              have HP0 := Lib.hid hp0
              rw [hp0]
              clear hp0 hq0
              go_wp2_with fail
              go_ret
              exact ⟨rfl, HB1.out.trans (H1T.out.mono HB1.out.size)⟩
            have HEQ : Hid ((⟨op.2.next, op.2.log, op.2.files⟩ : State) = ⟨oq.2.next, oq.2.log, oq.2.files⟩) := Lib.hid (by
              have a1 := HA0.out
              have a2 := HB0.out
              rw [← HOA.out] at a1
              rw [← HOB.out] at a2
              have p0 := hp0
              have q0 := hq0
              rw [← HOP.out, ← HOA.out] at p0
              rw [← HOQ.out, ← HOB.out] at q0
              have := Mf.apply_turned HAPART.out a1 a2 p0 q0
              rw [HOA.out, HOB.out, HOP.out, HOQ.out] at this
              exact this)
            have HKK := Lib.hid (alike_yes (cap := cp) (cap2 := cq) (FP.out.below HPT.out) (FQ.out.below HQT.out) (by have := SP.out.few; omega) HEQ.out)
            obtain ⟨p0, p1, p2⟩ := HP.out _ HPT.out
            obtain ⟨q0, q1, q2⟩ := HQ.out _ HQT.out
            rw [hp0, hq0]
            clear hp0 hq0
            go_wp2_with fail
            refine HKK.out.mono ?_
            rintro e w21 ⟨rfl, hb21⟩
            have H1U : Hid (Below W1.heap.size W1 w21) := Lib.hid (H1T.out.trans (hb21.mono H1T.out.size))
            clear hb21 p0 p1 p2 q0 q1 q2
            go_wp2_with fail
            go_ret
            exact ⟨rfl, HB1.out.trans (H1U.out.mono HB1.out.size)⟩
end Go.Proofs.YtbhjpkejdkfenaaGreatDoor
