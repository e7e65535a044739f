/-
  A value that fits ends at its last part, and does not fit with a part less or one more; a part is appended to a copy of what was handed in. Conditions: those in the theorems.
  Walks over the laws of package value: a value that fits ends at its last part, and does not fit with a part less or one more. Conditions: those in the theorems (the keywords' variable holds what the row lists).
-/
import Derived.Test.YtnkdhmoocomjfaaGreatDoorVaWakes
import Derived.Test.YtnkdhmoocomjfaaGreatDoorVaGreat
import Derived.Deep.RegionHeldLaw
set_option linter.unusedSimpArgs false
set_option linter.unusedVariables false
namespace Vl
open Ip
variable {s : Sch} {t : List So} {v : List Nd}
theorem fit_none (h : of s t v = none) : fit s t v = 150 := by unfold fit; rw [h]
theorem fit_more {n : Nd} {r : List Nd} {d : Nat} (h : of s t v = some (n :: r, d)) : fit s t v = 150 := by unfold fit; rw [h]
theorem fits_fit (h : types s t = 0) : fits s t v = fit s t v := by unfold fits; rw [if_pos h]
end Vl
namespace Go.Proofs.YtnkdhmoocomjfaaGreatDoor
open Go.RowKit
theorem Vl.whole_end {s : Ip.Sch} {t : List Ip.So} {v : List Vl.Nd} (h : Vl.fits s t v = 0) : 1 ≤ v.length ∧ Vl.endOf v 0 = (v.length : Int) := by
  obtain ⟨-, d, ho, -, -⟩ := Vl.fit_of h
  have hs := Vl.eat_skip v [(t, 1)] ho
  cases v with
  | nil => cases ho
  | cons n v =>
    refine ⟨by simp, ?_⟩
    have e := Vl.endOf_nat (n :: v) 0
    rw [show ((0 : Nat) : Int) = 0 from rfl] at e
    rw [e, Vl.endAt_some (r := []) (by rw [List.drop_zero]; exact hs)]
    simp
theorem Vl.whole_less {s : Ip.Sch} {t : List Ip.So} {v : List Vl.Nd} (h : Vl.fits s t v = 0) : Vl.fits s t (v.take (v.length - 1)) = 150 := by
  obtain ⟨ht, d, ho, -, -⟩ := Vl.fit_of h
  have hl := (Vl.whole_end h).1
  rw [Vl.fits_fit ht]
  cases hx : Vl.of s t (v.take (v.length - 1)) with
  | none => exact Vl.fit_none hx
  | some q =>
    obtain ⟨r, d'⟩ := q
    cases r with
    | cons n r => exact Vl.fit_more hx
    | nil =>
      have h2 := Vl.eatD_more _ [(t, 1)] (v.drop (v.length - 1)) hx
      rw [List.take_append_drop] at h2
      have h3 : some (([] : List Vl.Nd), d) = some ([] ++ v.drop (v.length - 1), d') := ho.symm.trans h2
      have h4 := congrArg List.length (Prod.mk.inj (Option.some.inj h3)).1
      simp at h4
      omega
theorem Vl.whole_more {s : Ip.Sch} {t : List Ip.So} {v : List Vl.Nd} (h : Vl.fits s t v = 0) (n : Vl.Nd) : Vl.fits s t (v ++ [n]) = 150 := by
  obtain ⟨ht, d, ho, -, -⟩ := Vl.fit_of h
  rw [Vl.fits_fit ht]
  exact Vl.fit_more (Vl.eatD_more v [(t, 1)] [n] ho)
/-- An empty literal. -/
theorem row_none {α : Type} {K : RowKind α} {V : World} {base g : Nat} (h : V.heap[g]? = some (.cells #[] K.ty (0, 0))) (hb : base ≤ g) : RowIs K V base (.slice (some ⟨g, 0, none⟩) 0 0) [] :=
  ⟨[], rfl, ⟨by simp, .inr ⟨g, 0, #[], rfl, hb, h, Nat.le_refl _, Nat.zero_le _, by simp, by simp⟩⟩, fun z hz => nomatch hz⟩
/-- A copy, and a part behind it. -/
theorem copy_part {W V : World} {g : Nat} {vv : Value} {v : List Vl.Nd} {n : Vl.Nd} (hW : Below W.heap.size W V) (hg : V.heap[g]? = some (.cells #[] 71 (0, 0))) (hgb : W.heap.size ≤ g) (hv : RoNd W vv v) (hl : v.length ≤ 6000) :
    ∃ p1 c1 V1, (Builtin.append_ #[54, 54] 54 #[.slice (some ⟨g, 0, none⟩) 0 0, vv]).run Tryz.prog V = .ok (.slice p1 v.length c1) V1 ∧ Below W.heap.size W V1 ∧ (∀ b o, b < V.heap.size → b ≠ g → V.heap[b]? = some o → V1.heap[b]? = some o) ∧
      ∀ V2 q, Below V1.heap.size V1 V2 → V2.heap[q]? = some (ndO n) → NdIn n → ∃ p2 c2 V3, (Builtin.append_ #[54, 54] 54 #[.slice p1 v.length c1, .slice (some ⟨q, 0, none⟩) 1 1]).run Tryz.prog V2 = .ok (.slice p2 (v.length + 1) c2) V3 ∧ RoNd V3 (.slice p2 (v.length + 1) c2) (v ++ [n]) ∧ Below W.heap.size W V3 := by
  have h0 := row_none (K := kNd) hg hgb
  obtain ⟨p1, c1, V1, hrun, hR, hG⟩ := row_append_ro okNd (fun _ _ _ => rfl) (fun _ _ _ => trivial) h0 (hv.below hW) (by simp; omega) hW.size 54
  rw [List.nil_append] at hR
  simp only [List.length_nil, Nat.zero_add] at hrun hR hG
  have hb1 : Below W.heap.size W V1 := hG.below hW hW.size fun k hk => by
    have : k = g := by simpa [Value.ownBlock] using hk.symm
    omega
  refine ⟨p1, c1, V1, hrun, hb1, fun b o hb hne ho => (hG.block b hb fun e => hne (by simpa [Value.ownBlock] using e.symm)).trans ho, fun V2 q h2 hq hn => ?_⟩
  have hR2 : RowIs kNd V2 W.heap.size (.slice p1 v.length c1) v := hR.below okNd h2
  obtain ⟨p2, c2, V3, hrun2, hR3, hG2⟩ := row_append okNd hR2 n (.bool false) trivial ⟨q, 0, none⟩ 1 (fun j u hu => by
    have e : (⟨q, 0, none⟩ : Addr).add j = ⟨q, j, none⟩ := by unfold Addr.add; simp; try omega
    rw [e, cell_of_row V2 q j _ _ _ (show V2.heap[q]? = some (.cells #[.int .u8 (n.kind : Nat), .int .i64 n.int, .string n.text, .int .i64 n.kids] 71 (0, 0)) from hq)]
    rw [List.getElem?_toArray]; exact hu) (by omega) (Nat.le_trans hb1.size h2.size) 54
  refine ⟨p2, c2, V3, hrun2, hR3.ro' okNd (fun _ _ _ _ => trivial) fun y hy => ?_, hG2.below (hb1.trans (h2.mono hb1.size)) (Nat.le_trans hb1.size h2.size) fun k hk => ?_⟩
  · rcases List.mem_append.1 hy with hy | hy
    · exact hv.inAll y hy
    · rw [List.mem_singleton.1 hy]; exact hn
  · exact (hR.lt k hk).1
end Go.Proofs.YtnkdhmoocomjfaaGreatDoor
set_option linter.unusedSimpArgs false
set_option linter.unusedVariables false
namespace Go.Proofs.YtnkdhmoocomjfaaGreatDoor
open Go.RowKit
set_option maxRecDepth 100000 in
set_option maxHeartbeats 16000000 in
theorem valueWhole_any {w : World} {sv tv vv : Value} {s : Ip.Sch} {t : List Ip.So} {v : List Vl.Nd} {n : Vl.Nd} (h : RoSch w sv s) (ht : RoSo w tv t) (hv : RoNd w vv v) (hn : NdIn n) (hk : KwIs w) : Calls Tryz.prog 11 #[sv, tv, vv, ndV n] w fun e w' => e = .returned (.bool true) ∧ Below w.heap.size w w' := by
  obtain ⟨p1, c1, p2, c2, p3, c3, rfl, -, -, -, -, l1, l2, l3⟩ := sch_parts h
  obtain ⟨pt, ct, rfl, -, -⟩ := RoIs.shape ht
  obtain ⟨pv, cv, rfl, hv1, hv2⟩ := RoIs.shape hv
  unfold maxLen at hv2
  obtain ⟨W0, hW0⟩ : ∃ W0, W0 = allocs w [schO s p1 c1 p2 c2 p3 c3, ndO n] := ⟨_, rfl⟩
  have HX : Hid (∀ V, Below W0.heap.size W0 V → V.heap[w.heap.size]? = some (schO s p1 c1 p2 c2 p3 c3) ∧ V.heap[w.heap.size + 1]? = some (ndO n) ∧ Below w.heap.size w V) := Lib.hid (by subst hW0; exact fun V hV => ⟨allocs_box (i := 0) rfl hV, allocs_box (i := 1) rfl hV, allocs_on hV⟩)
  obtain ⟨b0, b1, B0⟩ := HX.out W0 (Below.refl _ _)
  obtain ⟨x0, x1, x2, x3⟩ := cells4' b0
  have HGR := Lib.hid (Great15_any h ht hv (Kp.of_below B0))
  have HWK : Hid (∀ W, Below w.heap.size w W → Calls Tryz.prog 27 #[] W fun e w' => e = .returned (.bool true) ∧ Below W.heap.size W w') := Lib.hid fun W hW => wakes15_any W (kw_kp hk (Kp.of_below hW))
  have H := Lib.hid h
  have HT := Lib.hid ht
  have HV := Lib.hid hv
  have HK := Lib.hid hk
  have HN := Lib.hid hn
  clear h ht hv hk b0 b1 B0 l1 l2 l3 hn
  simp only [allocs, schO, ndO] at hW0
  unfold ndV
  go_enter Tryz.func11, Tryz.ntmps11
  go_upto_region 1 with fail
  rw [← hW0]
  clear hW0
  go_wp2_with fail
  refine Calls.mono HGR.out ?_
  rintro e w1 ⟨gb, rfl, hsm, hb1⟩
  have HB1 := Lib.hid hb1
  clear hb1 x0 x1 x2 x3
  have HN1 := Lib.hid (HX.out _ HB1.out).2.1
  obtain ⟨y0, y1, y2, y3⟩ := cells4' HN1.out
  have HEND : Hid (∀ W, Below W0.heap.size W0 W → Calls Tryz.prog 27 #[] W fun e w' => e = .returned (.bool true) ∧ Below w.heap.size w w') := Lib.hid fun W hW => (HWK.out W (HX.out _ hW).2.2).mono fun e w' ⟨h1, h2⟩ => ⟨h1, (HX.out _ hW).2.2.trans (h2.mono (HX.out _ hW).2.2.size)⟩
  cases gb with
  | true =>
    clear hsm
    go_wp2_with fail
    refine Calls.mono (HEND.out _ HB1.out) ?_
    rintro e w2 ⟨rfl, hb2⟩
    have HB2 := Lib.hid hb2
    clear hb2
    go_wp2_with fail
    go_ret
    exact ⟨rfl, HB2.out⟩
  | false =>
  have HSM := Lib.hid (hsm rfl)
  clear hsm
  by_cases htx : 6000 < n.text.size
  · have i1 : (6000 : Int) < (n.text.size : Int) := by omega
    clear htx
    go_wp2_with fail
    refine Calls.mono (HEND.out _ HB1.out) ?_
    rintro e w2 ⟨rfl, hb2⟩
    have HB2 := Lib.hid hb2
    clear hb2
    go_wp2_with fail
    go_ret
    exact ⟨rfl, HB2.out⟩
  have i1 : ¬ (6000 : Int) < (n.text.size : Int) := by omega
  have HTX := Lib.hid htx
  clear htx
  have HF : Hid (∀ V wv x, Below W0.heap.size W0 V → RoNd V wv x → x.length ≤ 6001 → (∀ y ∈ x, y.text.size ≤ 6000) → Calls Tryz.prog 28 #[.agg #[.string s.name, .slice p1 s.records.length c1, .slice p2 s.services.length c2, .slice p3 s.sagas.length c3], .slice pt t.length ct, wv] V fun e w' => e = .returned (.int .i64 (Vl.fits s t x : Nat)) ∧ Below W0.heap.size W0 w') := Lib.hid fun V wv x hV hw hl hx => (Fits_any (H.out.kp (Kp.of_below (HX.out _ hV).2.2)) (HT.out.kp (Kp.of_below (HX.out _ hV).2.2)) hw (Kp.refl V) (kw_kp HK.out (Kp.of_below (HX.out _ hV).2.2)) HSM.out.1 (by omega) (fun y hy => by have := hx y hy; omega)).mono fun e w' ⟨h1, h2⟩ => ⟨h1, hV.trans (h2.mono hV.size)⟩
  obtain ⟨x0, x1, x2, x3⟩ := cells4' (HX.out _ HB1.out).1
  go_wp2_with fail
  refine Calls.mono (HF.out _ _ v HB1.out (HV.out.kp (Kp.of_below (HX.out _ HB1.out).2.2)) (by have := HSM.out.2.2.1; omega) HSM.out.2.2.2.2) ?_
  rintro e w2 ⟨rfl, hb2⟩
  have HB2 := Lib.hid hb2
  clear hb2 x0 x1 x2 x3 y0 y1 y2 y3
  by_cases hz : Vl.fits s t v = 0
  · obtain ⟨hl, he⟩ := Vl.whole_end hz
    have HE : Hid (Calls Tryz.prog 30 #[.slice pv v.length cv, .int .i64 0] w2 fun e w' => e = .returned (.int .i64 (v.length : Nat)) ∧ w' = w2) := Lib.hid ((End_any (HV.out.kp (Kp.of_below (HX.out _ HB2.out).2.2)) (by have := HSM.out.2.2.1; omega) 0 (by unfold I64; decide)).mono fun e w' ⟨h1, h2⟩ => ⟨by rw [h1, he], h2⟩)
    have HLS := Lib.hid (Vl.whole_less hz)
    have HMR := Lib.hid (Vl.whole_more hz n)
    have HL6 := Lib.hid HSM.out.2.2.1
    rw [hz]
    clear hz he
    have j1 : ((v.length : Int) == 0) = false := by rw [beq_eq_false_iff_ne]; omega
    go_wp2_with fail
    refine Calls.mono HE.out ?_
    rintro e w3 ⟨rfl, hw3⟩
    rw [hw3]
    clear hw3 w3 HE
    go_upto_region 7 with fail
    go_cut [9] from 37 to 42 (fun mv wx => ∃ p c, mv = .slice p (v.length + 1) c ∧ Hid (RoNd wx (.slice p (v.length + 1) c) (v ++ [n]) ∧ Below W0.heap.size W0 wx))
    case first =>
      have HB2W := Lib.hid HB2.out
      have HDD : Hid (Below w2.heap.size w2 w2.drew) := Lib.hid (Below.refl _ _).drew
      have HU : Hid (∀ V, Below w2.heap.size w2 V → Below W0.heap.size W0 V) := Lib.hid fun V hV => HB2W.out.trans (hV.mono HB2W.out.size)
      have HC : Hid (∀ V, Below w2.heap.size w2 V → V.cell? ⟨w.heap.size + 1, 0, none⟩ = some (.int .u8 (n.kind : Nat)) ∧ V.cell? ⟨w.heap.size + 1, 1, none⟩ = some (.int .i64 n.int) ∧ V.cell? ⟨w.heap.size + 1, 2, none⟩ = some (.string n.text) ∧ V.cell? ⟨w.heap.size + 1, 3, none⟩ = some (.int .i64 n.kids)) := Lib.hid fun V hV => cells4' (HX.out _ (HU.out V hV)).2.1
      have HV2 := Lib.hid (HV.out.kp (Kp.of_below (HX.out _ HB2W.out).2.2))
      have HA1 : Hid (Below w2.heap.size w2 (w2.drew.alloc (.cells #[] 71))) := Lib.hid (HDD.out.trans (tk_alloc w2.drew _))
      have HB1' : Hid (Below w2.heap.size w2 ((w2.drew.alloc (.cells #[] 71)).alloc (ndO n))) := Lib.hid (HA1.out.trans ((tk_alloc (w2.drew.alloc (.cells #[] 71)) _).mono HA1.out.size))
      have HC1 : Hid (Below w2.heap.size w2 (w2.drew.alloc (ndO n))) := Lib.hid (HDD.out.trans (tk_alloc w2.drew _))
      have HC2 : Hid (Below w2.heap.size w2 ((w2.drew.alloc (ndO n)).alloc (.cells #[] 71))) := Lib.hid (HC1.out.trans ((tk_alloc (w2.drew.alloc (ndO n)) _).mono HC1.out.size))
      go_region_held_law (fun V => V.cell? ⟨w.heap.size + 1, 0, none⟩ = some (.int .u8 (n.kind : Nat)) ∧ V.cell? ⟨w.heap.size + 1, 1, none⟩ = some (.int .i64 n.int) ∧ V.cell? ⟨w.heap.size + 1, 2, none⟩ = some (.string n.text) ∧ V.cell? ⟨w.heap.size + 1, 3, none⟩ = some (.int .i64 n.kids))
        (first | exact HC.out _ hbz | exact HC.out _ (hbA.trans ((tk_alloc VA _).mono hbA.size)) | exact HC.out _ hbA | exact HC.out _ hbB | exact HC.out _ hbC | exact HC.out _ HDD.out | exact HC.out _ HA1.out | exact HC.out _ HC1.out | exact HC.out _ HB1'.out | exact HC.out _ HC2.out)
        (first
          | (obtain ⟨pz, cz, VZ, hz, hrz, hbz⟩ := nA (VA.alloc (ndO n)) VA.heap.size (tk_alloc VA _) (heap_alloc_new VA _) HN.out; refine step_append_run rfl (.tmp 39) (.tmp 41) 54 54 rfl _ _ (by first | rfl | simp [Act.eval, Act.put]) (by first | rfl | simp [Act.eval, Act.put]) _ _ hz ?_)
          | (obtain ⟨pz, cz, VZ, hz, hrz, hbz⟩ := nB VB (w2.drew.alloc (.cells #[] 71)).heap.size (Below.refl _ _) (kB _ _ (Array.getElem?_eq_some_iff.1 (heap_alloc_new (w2.drew.alloc (.cells #[] 71)) (ndO n))).1 (fun e => Nat.ne_of_lt (Array.getElem?_eq_some_iff.1 (heap_alloc_new w2.drew (.cells #[] 71))).1 e.symm) (heap_alloc_new (w2.drew.alloc (.cells #[] 71)) (ndO n))) HN.out; refine step_append_run rfl (.tmp 39) (.tmp 41) 54 54 rfl _ _ (by first | rfl | simp [Act.eval, Act.put]) (by first | rfl | simp [Act.eval, Act.put]) _ _ hz ?_)
          | (obtain ⟨pz, cz, VZ, hz, hrz, hbz⟩ := nC VC w2.drew.heap.size (Below.refl _ _) (kC _ _ (Array.getElem?_eq_some_iff.1 (box_keep (tk_alloc (w2.drew.alloc (ndO n)) (.cells #[] 71)) (heap_alloc_new w2.drew (ndO n)))).1 (fun e => Nat.ne_of_lt (Array.getElem?_eq_some_iff.1 (heap_alloc_new w2.drew (ndO n))).1 e) (box_keep (tk_alloc (w2.drew.alloc (ndO n)) _) (heap_alloc_new w2.drew (ndO n)))) HN.out; refine step_append_run rfl (.tmp 39) (.tmp 41) 54 54 rfl _ _ (by first | rfl | simp [Act.eval, Act.put]) (by first | rfl | simp [Act.eval, Act.put]) _ _ hz ?_)
          | (obtain ⟨pA, cA, VA, hA, hbA, kA, nA⟩ := copy_part (n := n) HA1.out (heap_alloc_new w2.drew (.cells #[] 71)) (Nat.le_refl _) HV2.out HL6.out; refine step_append_run rfl (.tmp 37) (.tmp 38) 54 54 rfl _ _ (by first | rfl | simp [Act.eval, Act.put]) (by first | rfl | simp [Act.eval, Act.put]) _ _ hA ?_)
          | (obtain ⟨pB, cB, VB, hB, hbB, kB, nB⟩ := copy_part (n := n) HB1'.out (box_keep (tk_alloc (w2.drew.alloc (.cells #[] 71)) (ndO n)) (heap_alloc_new w2.drew (.cells #[] 71))) (Nat.le_refl _) HV2.out HL6.out; refine step_append_run rfl (.tmp 37) (.tmp 38) 54 54 rfl _ _ (by first | rfl | simp [Act.eval, Act.put]) (by first | rfl | simp [Act.eval, Act.put]) _ _ hB ?_)
          | (obtain ⟨pC, cC, VC, hC, hbC, kC, nC⟩ := copy_part (n := n) HC2.out (heap_alloc_new (w2.drew.alloc (ndO n)) (.cells #[] 71)) HC1.out.size HV2.out HL6.out; refine step_append_run rfl (.tmp 37) (.tmp 38) 54 54 rfl _ _ (by first | rfl | simp [Act.eval, Act.put]) (by first | rfl | simp [Act.eval, Act.put]) _ _ hC ?_)
          | fail)
      all_goals
        go_wp2_with fail
        rename_i dd heq
        obtain rfl : 42 = dd := Option.some.inj heq
        clear heq
        simp only [List.set_cons_succ, List.set_cons_zero]
        go_meet
        exact ⟨pz, cz, by first | rfl | simp, Lib.hid ⟨hrz, HU.out _ hbz⟩⟩
    case rest =>
      obtain ⟨pm, cm, rfl, HM⟩ := hcut
      obtain ⟨wx, hwx⟩ : ∃ wx, wx = wc := ⟨_, rfl⟩
      subst hwx
      have HBX := Lib.hid HM.out.2
      have HDX : Hid (Below W0.heap.size W0 wx.drew) := Lib.hid HM.out.2.drew
      have HC8 : Hid (∀ V, Below W0.heap.size W0 V → V.cell? ⟨w.heap.size, 0, none⟩ = some (.string s.name) ∧ V.cell? ⟨w.heap.size, 1, none⟩ = some (.slice p1 s.records.length c1) ∧ V.cell? ⟨w.heap.size, 2, none⟩ = some (.slice p2 s.services.length c2) ∧ V.cell? ⟨w.heap.size, 3, none⟩ = some (.slice p3 s.sagas.length c3)) := Lib.hid fun V hV => cells4' (HX.out _ hV).1
      have HF1 : Hid (Calls Tryz.prog 28 #[.agg #[.string s.name, .slice p1 s.records.length c1, .slice p2 s.services.length c2, .slice p3 s.sagas.length c3], .slice pt t.length ct, .slice pv (v.length - 1) cv] wx.drew fun e w' => e = .returned (.int .i64 150) ∧ Below wx.heap.size wx w' ∧ Below W0.heap.size W0 w') := Lib.hid (by
        have q := Fits_any (H.out.kp (Kp.of_below (HX.out _ HBX.out).2.2)) (HT.out.kp (Kp.of_below (HX.out _ HBX.out).2.2)) (RoIs.take (i := v.length - 1) (HV.out.kp (Kp.of_below (HX.out _ HBX.out).2.2)) (by omega)) ((Kp.refl wx).below (Below.refl _ _).drew) (kw_kp HK.out (Kp.of_below (HX.out _ HBX.out).2.2)) HSM.out.1 (by rw [List.length_take]; have := HL6.out; omega) (fun y hy => by have := HSM.out.2.2.2.2 y (List.mem_of_mem_take hy); omega)
        refine q.mono fun e w' ⟨h1, h2⟩ => ?_
        have h3 : Below wx.heap.size wx w' := ((Below.refl wx.heap.size wx).drew).trans h2
        exact ⟨by rw [h1, HLS.out]; rfl, h3, HBX.out.trans (h3.mono HBX.out.size)⟩)
      have HF2 : Hid (∀ V, Below wx.heap.size wx V → Calls Tryz.prog 28 #[.agg #[.string s.name, .slice p1 s.records.length c1, .slice p2 s.services.length c2, .slice p3 s.sagas.length c3], .slice pt t.length ct, .slice pm (v.length + 1) cm] V fun e w' => e = .returned (.int .i64 150) ∧ Below W0.heap.size W0 w') := Lib.hid fun V hV => by
        have hW := HBX.out.trans (hV.mono HBX.out.size)
        have q := HF.out V _ (v ++ [n]) hW (HM.out.1.below hV) (by have := HL6.out; rw [List.length_append]; simp; omega) (fun y hy => by
          rcases List.mem_append.1 hy with hy | hy
          · exact HSM.out.2.2.2.2 y hy
          · rw [List.mem_singleton.1 hy]; have := HTX.out; omega)
        rw [HMR.out] at q
        exact q.mono fun e w' ⟨h1, h2⟩ => ⟨by rw [h1]; rfl, h2⟩
      have k1 : IntKind.i64.wrap ((v.length : Int) - 1) = ((v.length - 1 : Nat) : Int) := (IntWalk.i64_in _ (by omega)).trans (by omega)
      have k2 : (0 : Int) ≤ ((v.length - 1 : Nat) : Int) := by omega
      have k3 : ((v.length - 1 : Nat) : Int) ≤ (cv : Int) := by omega
      go_upto_region 8 with fail
      go_region_held_law (fun V => V.cell? ⟨w.heap.size, 0, none⟩ = some (.string s.name) ∧ V.cell? ⟨w.heap.size, 1, none⟩ = some (.slice p1 s.records.length c1) ∧ V.cell? ⟨w.heap.size, 2, none⟩ = some (.slice p2 s.services.length c2) ∧ V.cell? ⟨w.heap.size, 3, none⟩ = some (.slice p3 s.sagas.length c3))
        (first | exact HC8.out _ hb8 | exact HC8.out _ hb7 | exact HC8.out _ hb6 | exact HC8.out _ HDX.out)
        (first
          | (go_at_call 27; refine (HWK.out w7 (HX.out _ hb7).2.2).mono ?_; rintro e w8 ⟨rfl, hb8'⟩; have hb8 := hb7.trans (hb8'.mono hb7.size))
          | (go_at_call 28; refine (HF2.out w6 hb6').mono ?_; rintro e w7 ⟨rfl, hb7⟩)
          | (go_at_call 28; refine HF1.out.mono ?_; rintro e w6 ⟨rfl, hb6', hb6⟩)
          | fail)
      all_goals
        go_wp2_with fail
        go_ret
        exact ⟨rfl, (HX.out _ hb8).2.2⟩
  · have i2 : ((Vl.fits s t v : Int) != 0) = true := by rw [bne_iff_ne]; omega
    generalize Vl.fits s t v = ft at *
    clear hz
    go_wp2_with fail
    refine Calls.mono (HEND.out _ HB2.out) ?_
    rintro e w3 ⟨rfl, hb3⟩
    have HB3 := Lib.hid hb3
    clear hb3
    go_wp2_with fail
    go_ret
    exact ⟨rfl, HB3.out⟩
set_option maxRecDepth 100000 in
/-- A part that is handed in. -/
theorem open_node {H : Type} {enc : TypeId × Value → H} {W : World} {v : Value} {base : Nat} {d : DataW H} {ps : List MemPlace} (hval : Value.okWide Tryz.prog W .any base 71 v) (h : DataW.Trod enc Tryz.prog W 0 (fun _ => true) true 71 v d ps) : ∃ n, v = ndV n ∧ NdIn n := by
  obtain ⟨v0, v1, v2, v3, y0, y1, y2, y3, m, rfl, -, -, h0, h1, h2, h3⟩ := Go.Joins.open_agg4 Tryz.underlying71 (by kernel_rfl) (by kernel_rfl) hval h
  obtain ⟨n0, e0, -, w0⟩ := DataW.trod_int Tryz.underlying5 h0
  obtain ⟨n1, e1, -, w1⟩ := DataW.trod_int Tryz.underlying2 h1
  obtain ⟨s2, e2, -, w2⟩ := DataW.trod_string Tryz.underlying9 h2
  obtain ⟨n3, e3, -, w3⟩ := DataW.trod_int Tryz.underlying3 h3
  obtain rfl := List.head_eq_of_cons_eq e0
  obtain rfl := List.head_eq_of_cons_eq e1
  obtain rfl := List.head_eq_of_cons_eq e2
  obtain rfl := List.head_eq_of_cons_eq e3
  have h0 := u8_of w0
  refine ⟨⟨n0.toNat, n1, s2, n3⟩, ?_, by show n0.toNat < 256; omega, i64_of w1, w2, i64_of w3⟩
  unfold ndV
  rw [Int.toNat_of_nonneg h0.1]
end Go.Proofs.YtnkdhmoocomjfaaGreatDoor
