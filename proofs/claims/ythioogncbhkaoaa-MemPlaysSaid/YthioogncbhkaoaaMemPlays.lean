/-
  Walks over the laws of package mem: MemPlays. No condition.
-/
import Derived.Test.YthioogncbhkaoaaMActs
import Derived.Test.YthioogncbhkaoaaMemTwo
import Derived.Deep.CutBlock
import Derived.Deep.Cut
import Derived.Deep.LoopGhost
namespace Go.Proofs.Ythioogncbhkaoaa
open Go.RowKit

/-- A table (or none), and the document's list of it. -/
structure Play (w0 w : World) (nn : Bool) (mv : Value) (L : Mm.Row) (ws : List Pr) (pw : Option Addr) (n : Nat) (B : List (Nat × Obj)) : Prop where
  tbl : Tbl w0 w nn mv L [] B
  row : PairsAt w pw ws
  alike : Rf.Alike L ws
  few : ws.length ≤ n
  small : ∀ q ∈ ws, q.1.size ≤ 20000 ∧ q.2.size ≤ 20000
theorem Play.len {w0 w : World} {nn : Bool} {mv : Value} {L : Mm.Row} {ws : List Pr} {pw : Option Addr} {n : Nat} {B : List (Nat × Obj)} (h : Play w0 w nn mv L ws pw n B) : L.length = ws.length := h.alike.length
theorem Play.same {w0 w w' : World} {nn : Bool} {mv : Value} {L : Mm.Row} {ws : List Pr} {pw : Option Addr} {n : Nat} {B : List (Nat × Obj)} (h : Play w0 w nn mv L ws pw n B) (hb : Below w.heap.size w w') : Play w0 w' nn mv L ws pw n B :=
  ⟨h.tbl.same hb, h.row.below hb, h.alike, h.few, h.small⟩
theorem Play.more {w0 w : World} {nn : Bool} {mv : Value} {L : Mm.Row} {ws : List Pr} {pw : Option Addr} {n m : Nat} {B : List (Nat × Obj)} (h : Play w0 w nn mv L ws pw n B) (hm : n ≤ m) : Play w0 w nn mv L ws pw m B :=
  ⟨h.tbl, h.row, h.alike, Nat.le_trans h.few hm, h.small⟩
theorem Play.prin {w0 w : World} {nn : Bool} {mv : Value} {L : Mm.Row} {ws : List Pr} {pw : Option Addr} {n : Nat} {B : List (Nat × Obj)} (h : Play w0 w nn mv L ws pw n B) : ∀ x ∈ ws, PrIn x := fun x hx => by
  have := h.small x hx
  unfold PrIn maxLen; omega

set_option maxRecDepth 100000 in
set_option maxHeartbeats 16000000 in
theorem memPlays_any (p : Option Addr) (cap : Nat) (xs : List MAct) (kind : Int) (w : World) (hxs : MActs w p xs) (hk0 : 0 ≤ kind) :
    Calls Try.prog 3 #[.slice p xs.length cap, .int .u8 kind] w fun e w' => e = .returned (.bool true) ∧ Below w.heap.size w w' := by
  have HX := Lib.hid hxs
  go_enter Try.func3, Try.ntmps3
  go_wp2_with fail
  refine (memAwake_any _).mono ?_
  rintro e w1 ⟨rfl, hb1⟩
  go_wp2_with fail
  refine (greatM_any p cap xs w1 (fun i hi => by
    obtain ⟨A, h1, h2, h3, h4⟩ := hxs i hi
    exact ⟨A, h1, Nat.lt_of_lt_of_le h2 hb1.size, fun j hj => (hb1.cell (by rw [add_block]; exact h2)).trans (h3 j hj), h4⟩)).mono ?_
  rintro e w2 ⟨bb, rfl, hb2, hsm⟩
  have hb := hb1.trans (hb2.mono hb1.size)
  clear hb1 hb2 hxs
  cases bb with
  | true =>
    go_wp2
    go_ret
    exact ⟨rfl, hb⟩
  | false =>
    replace hsm := hsm rfl
    have HSM := Lib.hid hsm
    clear hsm
    go_wp2_with fail
    refine (MS.new_m (w0 := w) (w := w2) (B := []) (R := []) ((now_start w).same hb) (fun _ h => nomatch h)).mono ?_
    rintro e w3 ⟨a, rfl, h3, -⟩
    have H3 := Lib.hid h3
    clear h3 hb
    have hst0 : ∀ (W : World) (nn : Bool) (om : Option Addr), Tbl w W nn (.pointer om) [] [] [] → Hid (Play w W nn (.pointer om) [] [] none 0 []) := fun W nn om h => Lib.hid ⟨h, fun i hi => absurd hi (Nat.not_lt_zero _), Rf.alike_nil, Nat.le_refl _, fun _ h => nomatch h⟩
    have e4 : kind.tmod 4 = kind % 4 := Int.tmod_eq_emod_of_nonneg hk0
    by_cases hk3 : kind % 4 = 3
    · have d1 : (kind.tmod 4 == 3) = true := by rw [beq_iff_eq]; omega
      have d2 : (kind.tmod 4 == 2) = false := by rw [beq_eq_false_iff_ne]; omega
      have HP0 := hst0 _ true none (.inl ⟨rfl, rfl, rfl, H3.out.now, fun _ h => nomatch h⟩)
      clear hk3 hst0 e4
      clear H3 hk0
      go_wp2_with fail
      go_loopg [5, 7, 8] xs.length (fun g mv wv iv wr => ∃ (k : Nat) (om : Option Addr) (L : Mm.Row) (ws : List Pr) (pw : Option Addr) (cw : Nat), g = xs.length - k ∧ k ≤ xs.length ∧ iv = .int .i64 (k : Nat) ∧ mv = .pointer om ∧ wv = .slice pw ws.length cw ∧ Hid (Play w wr true (.pointer om) L ws pw k []))
      case atStart => exact ⟨0, _, [], [], none, 0, rfl, Nat.zero_le _, rfl, rfl, rfl, HP0⟩
      case round =>
        obtain ⟨k, om, L, ws, pw, cw, rfl, hk, rfl, rfl, rfl, HK⟩ := hrel
        have hkl := HSM.out.1
        have hwl := HK.out.few
        by_cases hlt : k < xs.length
        · have i1 : (k : Int) < (xs.length : Int) := by omega
          have i2 : (0 : Int) ≤ (k : Int) := by omega
          obtain ⟨A, rfl, c0, c1, c2, c3, -⟩ := HX.out.at HK.out.tbl.below hlt
          have hxs := HSM.out.2 _ (List.getElem_mem hlt)
          have HXS := Lib.hid hxs
          clear hxs
          generalize xs[k] = x at *
          go_upto_block 2 with fail
          obtain ⟨W, hW⟩ : ∃ W, wr.alloc (actO x) = W := ⟨_, rfl⟩
          have hW' : wr.alloc (.cells #[.int .i64 x.act, .string x.key, .string x.val, .int .i64 x.n] 32) = W := hW
          have hm : Play w (wr.alloc (actO x)) true (.pointer om) L ws pw k [(wr.heap.size, actO x)] := ⟨HK.out.tbl.alloc _, HK.out.row.below (below_alloc _ _), HK.out.alike, HK.out.few, HK.out.small⟩
          obtain ⟨bx, hbx⟩ : ∃ bx, wr.heap.size = bx := ⟨_, rfl⟩
          rw [hW, hbx] at hm
          rw [hW', hbx]
          have HM := Lib.hid hm
          obtain ⟨x0, x1, x2, x3⟩ := act_cells (hm.tbl.box (q := (bx, actO x)) (by simp))
          clear hm hW hW' hbx HK c0 c1 c2 c3
          go_cut [5, 7] from 39 to 193 (fun mv wv wc => ∃ (om' : Option Addr) (L' : Mm.Row) (ws' : List Pr) (pw' : Option Addr) (cw' : Nat), mv = .pointer om' ∧ wv = .slice pw' ws'.length cw' ∧ Hid (Play w wc true (.pointer om') L' ws' pw' (k + 1) [(bx, actO x)]))
          case first =>
            have hact : x.act = 0 ∨ x.act = 1 ∨ x.act = 2 ∨ x.act = 3 ∨ x.act = 4 ∨ x.act = 5 ∨ x.act = 6 ∨ x.act = 7 ∨ (x.act ≠ 0 ∧ x.act ≠ 1 ∧ x.act ≠ 2 ∧ x.act ≠ 3 ∧ x.act ≠ 4 ∧ x.act ≠ 5 ∧ x.act ≠ 6 ∧ x.act ≠ 7) := by omega
            rcases hact with hact | hact | hact | hact | hact | hact | hact | hact | ⟨n0, n1, n2, n3, n4, n5, n6, n7⟩
            · as_aux_lemma =>
                  have hsz := HXS.out
                  have hln := HM.out.len
                  have hbq : (!true && !(Mm.get L x.key).isSome) = false := by rw [HM.out.alike.2.2, Rf.isIn_get]; simp
                  have HS := Lib.hid (set_t HM.out.tbl x.key (by omega) (by omega) x.val hbq)
                  clear hbq hln
                  go_wp2_with fail
                  refine HS.out.mono ?_
                  rintro e w5 ⟨rfl, h5, k5, -⟩
                  simp only [if_true] at h5
                  have H5 := Lib.hid h5
                  have HR5 := Lib.hid (refSet_any pw cw ws (by omega) x.key x.val (by unfold maxLen; omega) (by unfold maxLen; omega) w5 (k5 _ _ HM.out.row))
                  clear x0 x1 x2 x3 HS k5
                  obtain ⟨x0, x1, x2, x3⟩ := act_cells (h5.box (q := (bx, actO x)) (by simp))
                  clear h5
                  go_wp2_with fail
                  refine HR5.out.mono ?_
                  rintro e w6 ⟨v6, rfl, p6, cap6, rfl, hp6, hb6⟩
                  have H6 := Lib.hid (And.intro (H5.out.same hb6) hp6)
                  clear hp6 hb6 HR5 H5
                  generalize Rf.isIn ws x.key = bi at *
                  go_wp2_with fail
                  go_meet
                  case rel => exact ⟨om, [], [], none, 0, rfl, rfl, Lib.hid ⟨H6.out.1, fun i hi => absurd hi (Nat.not_lt_zero _), Rf.alike_nil, Nat.zero_le _, fun _ h => nomatch h⟩⟩
            · as_aux_lemma =>
                  cases hg : Mm.get (Rf.row ws) x.key with
                  | none =>
                    have HG := Lib.hid (get_t HM.out.tbl x.key ((HM.out.alike.2.2 _).trans hg))
                    have HG2 := Lib.hid (fun w' hb => refGet_any pw cw ws (by omega) x.key w' (HM.out.row.below hb))
                    rw [gotR_none hg] at HG2
                    clear hg
                    go_wp2_with fail
                    refine HG.out.mono ?_
                    rintro e w5 ⟨rfl, hb5⟩
                    have H5 := Lib.hid (HM.out.same hb5)
                    have HR5 := Lib.hid (HG2.out w5 hb5)
                    clear x0 x1 x2 x3 hb5 HG HG2
                    obtain ⟨x0, x1, x2, x3⟩ := act_cells (H5.out.tbl.box (q := (bx, actO x)) (by simp))
                    go_wp2_with fail
                    refine HR5.out.mono ?_
                    rintro e w6 ⟨rfl, rfl⟩
                    go_wp2_with fail
                    go_meet
                    case rel => exact ⟨om, L, ws, pw, cw, rfl, rfl, Lib.hid (H5.out.more (Nat.le_succ k))⟩
                  | some v =>
                    obtain ⟨t, rfl, -⟩ := Rf.mem_of_get hg
                    have HG := Lib.hid (get_t HM.out.tbl x.key ((HM.out.alike.2.2 _).trans hg))
                    have HG2 := Lib.hid (fun w' hb => refGet_any pw cw ws (by omega) x.key w' (HM.out.row.below hb))
                    rw [gotR_some hg] at HG2
                    clear hg
                    go_wp2_with fail
                    refine HG.out.mono ?_
                    rintro e w5 ⟨rfl, hb5⟩
                    have H5 := Lib.hid (HM.out.same hb5)
                    have HR5 := Lib.hid (HG2.out w5 hb5)
                    clear x0 x1 x2 x3 hb5 HG HG2
                    obtain ⟨x0, x1, x2, x3⟩ := act_cells (H5.out.tbl.box (q := (bx, actO x)) (by simp))
                    go_wp2_with fail
                    refine HR5.out.mono ?_
                    rintro e w6 ⟨rfl, rfl⟩
                    go_wp2_with fail
                    go_meet
                    case rel => exact ⟨om, L, ws, pw, cw, rfl, rfl, Lib.hid (H5.out.more (Nat.le_succ k))⟩
            · as_aux_lemma =>
                  have hln := HM.out.len
                  have HD := Lib.hid (refDelete_any pw cw ws (by omega) x.key W HM.out.row)
                  have HDT := Lib.hid (fun w' hb => delete_t (HM.out.same (w' := w') hb).tbl x.key (by omega) (b := Rf.isIn ws x.key) (by rw [HM.out.alike.2.2, Rf.isIn_get]))
                  clear hln
                  go_wp2_with fail
                  refine HD.out.mono ?_
                  rintro e w5 ⟨v5, rfl, p5, cap5, rfl, hp5, hb5⟩
                  have HT5 := Lib.hid (HDT.out w5 hb5)
                  have HP5 := Lib.hid hp5
                  clear x0 x1 x2 x3 HD HDT
                  obtain ⟨x0, x1, x2, x3⟩ := act_cells ((HM.out.same hb5).tbl.box (q := (bx, actO x)) (by simp))
                  clear hp5 hb5
                  generalize Rf.isIn ws x.key = bi at *
                  go_wp2_with fail
                  refine HT5.out.mono ?_
                  rintro e w6 ⟨rfl, h6, k6, -⟩
                  have H6 := Lib.hid (And.intro h6 (k6 _ _ HP5.out))
                  clear h6 k6 HT5
                  go_wp2_with fail
                  go_meet
                  case rel => exact ⟨om, _, Rf.delR ws x.key, p5, cap5, rfl, rfl, Lib.hid ⟨H6.out.1, H6.out.2, HM.out.alike.del x.key, by have := Rf.del_length ws x.key; omega, fun q hq => HM.out.small q ((List.mem_filter.1 hq).1)⟩⟩
            · as_aux_lemma =>
                  have hsz := HXS.out
                  have HF2 := Lib.hid (fun w' hb => refFloor_any pw cw ws (by omega) x.key (by unfold maxLen; omega) w' (HM.out.row.below hb))
                  cases hf : Mm.floor L x.key with
                  | none =>
                    have HF := Lib.hid (floor_t HM.out.tbl x.key hf)
                    have HFL := Lib.hid hf
                    clear hf
                    unfold MS.floorV at HF
                    go_wp2_with fail
                    refine HF.out.mono ?_
                    rintro e w5 ⟨rfl, hb5⟩
                    have H5 := Lib.hid (HM.out.same hb5)
                    have HR5 := Lib.hid (HF2.out w5 hb5)
                    clear x0 x1 x2 x3 hb5 HF HF2
                    obtain ⟨x0, x1, x2, x3⟩ := act_cells (H5.out.tbl.box (q := (bx, actO x)) (by simp))
                    go_wp2_with fail
                    refine HR5.out.mono ?_
                    rintro e w6 ⟨o, rfl, hbest, hb6⟩
                    have ho := (floor_best HM.out.alike hbest).symm.trans HFL.out
                    obtain rfl : o = none := by cases o with
                      | none => rfl
                      | some b => cases ho
                    have H6 := Lib.hid (H5.out.same (hb6.alloc hb6.size (.cells #[.string ⟨#[]⟩, .string ⟨#[]⟩] 44)))
                    clear ho hbest hb6 HR5 H5
                    simp only [floorP]
                    go_wp2_with fail
                    go_meet
                    case rel => exact ⟨om, L, ws, pw, cw, rfl, rfl, Lib.hid (H6.out.more (Nat.le_succ k))⟩
                  | some q =>
                    have HF := Lib.hid (floor_t HM.out.tbl x.key hf)
                    have HFL := Lib.hid hf
                    clear hf
                    unfold MS.floorV at HF
                    go_wp2_with fail
                    refine HF.out.mono ?_
                    rintro e w5 ⟨rfl, hb5⟩
                    have H5 := Lib.hid (HM.out.same hb5)
                    have HR5 := Lib.hid (HF2.out w5 hb5)
                    clear x0 x1 x2 x3 hb5 HF HF2
                    obtain ⟨x0, x1, x2, x3⟩ := act_cells (H5.out.tbl.box (q := (bx, actO x)) (by simp))
                    go_wp2_with fail
                    refine HR5.out.mono ?_
                    rintro e w6 ⟨o, rfl, hbest, hb6⟩
                    have ho := (floor_best HM.out.alike hbest).symm.trans HFL.out
                    cases o with
                    | none => cases ho
                    | some b =>
                      obtain rfl := (Option.some.inj ho).symm
                      have H6 := Lib.hid (H5.out.same (hb6.alloc hb6.size (.cells #[.string (floorP ws (some b)).1, .string (floorP ws (some b)).2] 44)))
                      clear ho hbest hb6 HR5 H5 HFL
                      obtain ⟨fp, hfp⟩ : ∃ fp, floorP ws (some b) = fp := ⟨_, rfl⟩
                      rw [hfp] at H6
                      simp only [hfp]
                      clear hfp
                      go_wp2_with fail
                      go_meet
                      case rel => exact ⟨om, L, ws, pw, cw, rfl, rfl, Lib.hid (H6.out.more (Nat.le_succ k))⟩
            · as_aux_lemma =>
                  have hsz := HXS.out
                  have hln := HM.out.len
                  have hfl := Rf.fromR_length ws x.key
                  have hmx : x.key.size ≤ maxLen := by unfold maxLen; omega
                  have HD := Lib.hid (HM.out.same ((Below.refl _ W).drew))
                  have HFR := Lib.hid (from_t HD.out.tbl (by omega) HD.out.alike HD.out.prin x.key (by omega))
                  have HRF := Lib.hid (fun w5 hb => refFrom_any pw cw ws (by omega) x.key hmx w5 (HD.out.row.below hb))
                  have HSM2 := Lib.hid (fun p5 p6 cap5 cap6 w6 => refSame_any p5 p6 cap5 cap6 (Rf.fromR ws x.key) (by omega) w6)
                  have HPC := Lib.hid (fun (W' : World) (hb : Below W.drew.heap.size W.drew W') => (act_cells ((HD.out.same hb).tbl.box (q := (bx, actO x)) (by simp))).2.1)
                  clear hsz hln hfl hmx
                  go_upto_region 42 with fail
                  go_region_held3 (fun w' => w'.cell? ⟨bx, 1, none⟩ = some (.string x.key))
                    (first
                      | exact x1 | exact HPC.out _ hb5 | exact HPC.out _ (hb5.trans (hb6.mono hb5.size)) | exact HPC.out _ ((hb5.trans (hb6.mono hb5.size)).trans (hb7.mono (hb5.trans (hb6.mono hb5.size)).size)))
                    (first
                      | (go_at_call 17; (with_reducible refine HFR.out.mono ?_); rintro e w5 ⟨v5, rfl, p5, cap5, rfl, hp5, hb5⟩)
                      | (go_at_call 18; (with_reducible refine (HRF.out w5 hb5).mono ?_); rintro e w6 ⟨v6, rfl, p6, cap6, rfl, hp6, hb6⟩)
                      | (go_at_call 16; (with_reducible refine (HSM2.out p5 p6 cap5 cap6 w6 (hp5.below hb6) hp6).mono ?_); rintro e w7 ⟨rfl, hb7⟩)
                      | fail)
                  all_goals
                    have H7 := Lib.hid (HD.out.same ((hb5.trans (hb6.mono hb5.size)).trans (hb7.mono (hb5.trans (hb6.mono hb5.size)).size)))
                    clear hb5 hb6 hb7 hp5 hp6
                    go_wp2_with fail
                    go_meet
                    case rel => exact ⟨om, L, ws, pw, cw, rfl, rfl, Lib.hid (H7.out.more (Nat.le_succ k))⟩
            · as_aux_lemma =>
                  have HS := Lib.hid (clear_t HM.out.tbl)
                  go_wp2_with fail
                  refine HS.out.mono ?_
                  rintro e w5 ⟨rfl, h5, -⟩
                  have H5 := Lib.hid h5
                  clear x0 x1 x2 x3 h5 HS
                  go_wp2_with fail
                  go_meet
                  case rel => exact ⟨om, [], [], none, 0, rfl, rfl, Lib.hid ⟨H5.out, fun i hi => absurd hi (Nat.not_lt_zero _), Rf.alike_nil, Nat.zero_le _, fun _ h => nomatch h⟩⟩
            · as_aux_lemma =>
                  have hsz := HXS.out
                  have hln := HM.out.len
                  have HS := Lib.hid (twin_two (n := 300) HM.out.tbl (by omega))
                  clear hln
                  go_wp2_with fail
                  refine HS.out.mono ?_
                  rintro e w5 ⟨om2, rfl, hnn, h5, hb5⟩
                  have HR5 := Lib.hid (HM.out.row.below hb5)
                  have HS5 := Lib.hid (set_two h5 x.key (by omega) (by omega) ⟨#[111, 108, 100]⟩)
                  clear x0 x1 x2 x3 HS hb5
                  obtain ⟨x0, x1, x2, x3⟩ := act_cells (h5.box (q := (bx, actO x)) (by simp))
                  clear h5
                  obtain rfl : om2 = none := by cases om2 with
                    | none => rfl
                    | some a => cases hnn
                  clear hnn
                  go_wp2_with fail
                  refine HS5.out.mono ?_
                  rintro e w6 ⟨b6, rfl, h6, k6⟩
                  have HR6 := Lib.hid (k6 _ _ HR5.out)
                  have HS6 := Lib.hid (delete_two h6 x.val (by omega))
                  clear x0 x1 x2 x3 HS5 HR5
                  obtain ⟨x0, x1, x2, x3⟩ := act_cells (h6.box (q := (bx, actO x)) (by simp))
                  clear h6 k6
                  go_wp2_with fail
                  refine HS6.out.mono ?_
                  rintro e w7 ⟨b7, rfl, h7, k7⟩
                  have H7 := Lib.hid (And.intro h7.goOn (k7 _ _ HR6.out))
                  clear x0 x1 x2 x3 HS6 HR6 h7 k7
                  go_wp2_with fail
                  go_meet
                  case rel => exact ⟨_, L, ws, pw, cw, rfl, rfl, Lib.hid ⟨H7.out.1, H7.out.2, HM.out.alike, Nat.le_succ_of_le HM.out.few, HM.out.small⟩⟩
            · as_aux_lemma =>
                  have hsz := HXS.out
                  have hln := HM.out.len
                  have hmx : x.key.size ≤ maxLen := by unfold maxLen; omega
                  have HD := Lib.hid (HM.out.same ((Below.refl _ W).drew))
                  have HTW := Lib.hid (twin_t HD.out.tbl)
                  have HRF := Lib.hid (fun w5 hb => refFrom_any pw cw ws (by omega) x.key hmx w5 (HD.out.row.below hb))
                  have hmw := fun (mv5 : Value) (w6 : World) (p6 : Option Addr) (cap6 : Nat) (h6 : Tbl W.drew w6 true mv5 L [] []) (hp6 : PairsAt w6 p6 (Rf.fromR ws x.key)) => meanwhile_any (x := x) (cw := cap6) h6 (by omega) HD.out.alike (by omega) (by omega) HD.out.small hp6
                  unfold MAct.agg at hmw
                  simp only [hact] at hmw
                  have HMW := Lib.hid hmw
                  have HPC := Lib.hid (fun (W' : World) (hb : Below W.drew.heap.size W.drew W') => act_cells ((HD.out.same hb).tbl.box (q := (bx, actO x)) (by simp)))
                  clear hsz hln hmx hmw
                  go_upto_region 55 with fail
                  go_region_held3 (fun w' => w'.cell? ⟨bx, 0, none⟩ = some (.int .i64 x.act) ∧ w'.cell? ⟨bx, 1, none⟩ = some (.string x.key) ∧ w'.cell? ⟨bx, 2, none⟩ = some (.string x.val) ∧ w'.cell? ⟨bx, 3, none⟩ = some (.int .i64 x.n))
                    (first
                      | exact ⟨x0, x1, x2, x3⟩ | exact HPC.out _ hb5 | exact HPC.out _ (hb5.trans (hb6.mono hb5.size)) | exact HPC.out _ hb7)
                    (first
                      | (go_at_call 20; (with_reducible refine HTW.out.mono ?_); rintro e w5 ⟨mv5, rfl, h5, hb5⟩)
                      | (go_at_call 18; (with_reducible refine (HRF.out w5 hb5).mono ?_); rintro e w6 ⟨v6, rfl, p6, cap6, rfl, hp6, hb6⟩)
                      | (go_at_call 21; (with_reducible refine (HMW.out mv5 w6 p6 cap6 (h5.same hb6) hp6).mono ?_); rintro e w7 ⟨rfl, hb7⟩)
                      | fail)
                  all_goals
                    have H7 := Lib.hid (HD.out.same hb7)
                    clear hb5 hb6 hb7 hp6 h5
                    go_wp2_with fail
                    go_meet
                    case rel => exact ⟨om, L, ws, pw, cw, rfl, rfl, Lib.hid (H7.out.more (Nat.le_succ k))⟩
            · go_wp2_with fail
              go_meet
              case rel => exact ⟨om, L, ws, pw, cw, rfl, rfl, Lib.hid (HM.out.more (Nat.le_succ k))⟩
          case rest =>
           as_aux_lemma =>
            obtain ⟨om', L', ws', pw', cw', rfl, rfl, HC⟩ := hcut
            clear HM x0 x1 x2 x3
            have HLN := Lib.hid (show (L'.length : Int) = (ws'.length : Int) by rw [HC.out.len])
            go_wp2_with fail
            refine (len_t HC.out.tbl HLN.out).mono ?_
            rintro e w5 ⟨rfl, rfl⟩
            go_wp2_with fail
            go_roundg (xs.length - (k + 1))
            case measure => omega
            case rel => exact ⟨k + 1, om', L', ws', pw', cw', rfl, by omega, by go_num, rfl, rfl, Lib.hid ⟨HC.out.tbl.sub (by simp), HC.out.row, HC.out.alike, HC.out.few, HC.out.small⟩⟩
        · obtain rfl : k = xs.length := by omega
          have i1 : ¬ (xs.length : Int) < (xs.length : Int) := by omega
          have hmax : (⟨#[]⟩ : ByteArray).size ≤ 281474976710656 := by decide
          have hll := HK.out.len
          have HF := Lib.hid (from_t HK.out.tbl (by omega) HK.out.alike HK.out.prin ⟨#[]⟩ hmax)
          clear hmax hll
          go_wp2_with fail
          refine HF.out.mono ?_
          rintro e w5 ⟨v5, rfl, p5, cap5, rfl, hp5, hb5⟩
          have HK5 := Lib.hid (HK.out.same hb5)
          clear hb5
          go_wp2_with fail
          refine (refFrom_any pw cw ws (by omega) ⟨#[]⟩ (by decide) w5 HK5.out.row).mono ?_
          rintro e w6 ⟨v6, rfl, p6, cap6, rfl, hp6, hb6⟩
          have hfl := Rf.fromR_length ws ⟨#[]⟩
          have HB6 := Lib.hid (HK5.out.same hb6).tbl.below
          have HS := Lib.hid (refSame_any p5 p6 cap5 cap6 (Rf.fromR ws ⟨#[]⟩) (by omega) w6 (hp5.below hb6) hp6)
          clear hb6 hp5 hp6
          go_wp2_with fail
          refine HS.out.mono ?_
          rintro e w7 ⟨rfl, hb7⟩
          have HB7 := Lib.hid (HB6.out.trans (hb7.mono HB6.out.size))
          clear hb7
          go_wp2_with fail
          go_ret
          exact ⟨rfl, HB7.out⟩
    · have d1 : (kind.tmod 4 == 3) = false := by rw [beq_eq_false_iff_ne]; omega
      by_cases hk2 : kind % 4 = 2
      · have d2 : (kind.tmod 4 == 2) = true := by rw [beq_iff_eq]; omega
        have HP0 := hst0 _ false (some ⟨w3.heap.size, 0, none⟩) (.inr ⟨rfl, _, rfl, .pointer none, H3.out.now.alloc (MS.memO (.pointer none)), MS.root_nil _, fun _ h => nomatch h⟩)
        clear hk3 hk2 hst0 e4
        clear H3 hk0
        go_wp2_with fail
        go_loopg [5, 7, 8] xs.length (fun g mv wv iv wr => ∃ (k : Nat) (om : Option Addr) (L : Mm.Row) (ws : List Pr) (pw : Option Addr) (cw : Nat), g = xs.length - k ∧ k ≤ xs.length ∧ iv = .int .i64 (k : Nat) ∧ mv = .pointer om ∧ wv = .slice pw ws.length cw ∧ Hid (Play w wr false (.pointer om) L ws pw k []))
        case atStart => exact ⟨0, _, [], [], none, 0, rfl, Nat.zero_le _, rfl, rfl, rfl, HP0⟩
        case round =>
          obtain ⟨k, om, L, ws, pw, cw, rfl, hk, rfl, rfl, rfl, HK⟩ := hrel
          have hkl := HSM.out.1
          have hwl := HK.out.few
          by_cases hlt : k < xs.length
          · have i1 : (k : Int) < (xs.length : Int) := by omega
            have i2 : (0 : Int) ≤ (k : Int) := by omega
            obtain ⟨A, rfl, c0, c1, c2, c3, -⟩ := HX.out.at HK.out.tbl.below hlt
            have hxs := HSM.out.2 _ (List.getElem_mem hlt)
            have HXS := Lib.hid hxs
            clear hxs
            generalize xs[k] = x at *
            go_upto_block 2 with fail
            obtain ⟨W, hW⟩ : ∃ W, wr.alloc (actO x) = W := ⟨_, rfl⟩
            have hW' : wr.alloc (.cells #[.int .i64 x.act, .string x.key, .string x.val, .int .i64 x.n] 32) = W := hW
            have hm : Play w (wr.alloc (actO x)) false (.pointer om) L ws pw k [(wr.heap.size, actO x)] := ⟨HK.out.tbl.alloc _, HK.out.row.below (below_alloc _ _), HK.out.alike, HK.out.few, HK.out.small⟩
            obtain ⟨bx, hbx⟩ : ∃ bx, wr.heap.size = bx := ⟨_, rfl⟩
            rw [hW, hbx] at hm
            rw [hW', hbx]
            have HM := Lib.hid hm
            obtain ⟨x0, x1, x2, x3⟩ := act_cells (hm.tbl.box (q := (bx, actO x)) (by simp))
            clear hm hW hW' hbx HK c0 c1 c2 c3
            go_cut [5, 7] from 39 to 193 (fun mv wv wc => ∃ (om' : Option Addr) (L' : Mm.Row) (ws' : List Pr) (pw' : Option Addr) (cw' : Nat), mv = .pointer om' ∧ wv = .slice pw' ws'.length cw' ∧ Hid (Play w wc false (.pointer om') L' ws' pw' (k + 1) [(bx, actO x)]))
            case first =>
              have hact : x.act = 0 ∨ x.act = 1 ∨ x.act = 2 ∨ x.act = 3 ∨ x.act = 4 ∨ x.act = 5 ∨ x.act = 6 ∨ x.act = 7 ∨ (x.act ≠ 0 ∧ x.act ≠ 1 ∧ x.act ≠ 2 ∧ x.act ≠ 3 ∧ x.act ≠ 4 ∧ x.act ≠ 5 ∧ x.act ≠ 6 ∧ x.act ≠ 7) := by omega
              rcases hact with hact | hact | hact | hact | hact | hact | hact | hact | ⟨n0, n1, n2, n3, n4, n5, n6, n7⟩
              · as_aux_lemma =>
                    have hsz := HXS.out
                    have hln := HM.out.len
                    have hbq : (!false && !(Mm.get L x.key).isSome) = (!Rf.isIn ws x.key) := by rw [HM.out.alike.2.2, Rf.isIn_get]; simp
                    have HS := Lib.hid (set_t HM.out.tbl x.key (by omega) (by omega) x.val hbq)
                    clear hbq hln
                    go_wp2_with fail
                    refine HS.out.mono ?_
                    rintro e w5 ⟨rfl, h5, k5, -⟩
                    simp only [Bool.false_eq_true, if_false] at h5
                    have H5 := Lib.hid h5
                    have HR5 := Lib.hid (refSet_any pw cw ws (by omega) x.key x.val (by unfold maxLen; omega) (by unfold maxLen; omega) w5 (k5 _ _ HM.out.row))
                    clear x0 x1 x2 x3 HS k5
                    obtain ⟨x0, x1, x2, x3⟩ := act_cells (h5.box (q := (bx, actO x)) (by simp))
                    clear h5
                    go_wp2_with fail
                    refine HR5.out.mono ?_
                    rintro e w6 ⟨v6, rfl, p6, cap6, rfl, hp6, hb6⟩
                    have H6 := Lib.hid (And.intro (H5.out.same hb6) hp6)
                    clear hp6 hb6 HR5 H5
                    generalize Rf.isIn ws x.key = bi at *
                    go_wp2_with fail
                    go_meet
                    case rel => exact ⟨om, _, Rf.setR ws x.key x.val, p6, cap6, rfl, rfl, Lib.hid ⟨H6.out.1, H6.out.2, HM.out.alike.set x.key x.val, by have := Rf.set_length ws x.key x.val; omega, Rf.set_in (P := fun q => q.1.size ≤ 20000 ∧ q.2.size ≤ 20000) HM.out.small HXS.out⟩⟩
              · as_aux_lemma =>
                    cases hg : Mm.get (Rf.row ws) x.key with
                    | none =>
                      have HG := Lib.hid (get_t HM.out.tbl x.key ((HM.out.alike.2.2 _).trans hg))
                      have HG2 := Lib.hid (fun w' hb => refGet_any pw cw ws (by omega) x.key w' (HM.out.row.below hb))
                      rw [gotR_none hg] at HG2
                      clear hg
                      go_wp2_with fail
                      refine HG.out.mono ?_
                      rintro e w5 ⟨rfl, hb5⟩
                      have H5 := Lib.hid (HM.out.same hb5)
                      have HR5 := Lib.hid (HG2.out w5 hb5)
                      clear x0 x1 x2 x3 hb5 HG HG2
                      obtain ⟨x0, x1, x2, x3⟩ := act_cells (H5.out.tbl.box (q := (bx, actO x)) (by simp))
                      go_wp2_with fail
                      refine HR5.out.mono ?_
                      rintro e w6 ⟨rfl, rfl⟩
                      go_wp2_with fail
                      go_meet
                      case rel => exact ⟨om, L, ws, pw, cw, rfl, rfl, Lib.hid (H5.out.more (Nat.le_succ k))⟩
                    | some v =>
                      obtain ⟨t, rfl, -⟩ := Rf.mem_of_get hg
                      have HG := Lib.hid (get_t HM.out.tbl x.key ((HM.out.alike.2.2 _).trans hg))
                      have HG2 := Lib.hid (fun w' hb => refGet_any pw cw ws (by omega) x.key w' (HM.out.row.below hb))
                      rw [gotR_some hg] at HG2
                      clear hg
                      go_wp2_with fail
                      refine HG.out.mono ?_
                      rintro e w5 ⟨rfl, hb5⟩
                      have H5 := Lib.hid (HM.out.same hb5)
                      have HR5 := Lib.hid (HG2.out w5 hb5)
                      clear x0 x1 x2 x3 hb5 HG HG2
                      obtain ⟨x0, x1, x2, x3⟩ := act_cells (H5.out.tbl.box (q := (bx, actO x)) (by simp))
                      go_wp2_with fail
                      refine HR5.out.mono ?_
                      rintro e w6 ⟨rfl, rfl⟩
                      go_wp2_with fail
                      go_meet
                      case rel => exact ⟨om, L, ws, pw, cw, rfl, rfl, Lib.hid (H5.out.more (Nat.le_succ k))⟩
              · as_aux_lemma =>
                    have hln := HM.out.len
                    have HD := Lib.hid (refDelete_any pw cw ws (by omega) x.key W HM.out.row)
                    have HDT := Lib.hid (fun w' hb => delete_t (HM.out.same (w' := w') hb).tbl x.key (by omega) (b := Rf.isIn ws x.key) (by rw [HM.out.alike.2.2, Rf.isIn_get]))
                    clear hln
                    go_wp2_with fail
                    refine HD.out.mono ?_
                    rintro e w5 ⟨v5, rfl, p5, cap5, rfl, hp5, hb5⟩
                    have HT5 := Lib.hid (HDT.out w5 hb5)
                    have HP5 := Lib.hid hp5
                    clear x0 x1 x2 x3 HD HDT
                    obtain ⟨x0, x1, x2, x3⟩ := act_cells ((HM.out.same hb5).tbl.box (q := (bx, actO x)) (by simp))
                    clear hp5 hb5
                    generalize Rf.isIn ws x.key = bi at *
                    go_wp2_with fail
                    refine HT5.out.mono ?_
                    rintro e w6 ⟨rfl, h6, k6, -⟩
                    have H6 := Lib.hid (And.intro h6 (k6 _ _ HP5.out))
                    clear h6 k6 HT5
                    go_wp2_with fail
                    go_meet
                    case rel => exact ⟨om, _, Rf.delR ws x.key, p5, cap5, rfl, rfl, Lib.hid ⟨H6.out.1, H6.out.2, HM.out.alike.del x.key, by have := Rf.del_length ws x.key; omega, fun q hq => HM.out.small q ((List.mem_filter.1 hq).1)⟩⟩
              · as_aux_lemma =>
                    have hsz := HXS.out
                    have HF2 := Lib.hid (fun w' hb => refFloor_any pw cw ws (by omega) x.key (by unfold maxLen; omega) w' (HM.out.row.below hb))
                    cases hf : Mm.floor L x.key with
                    | none =>
                      have HF := Lib.hid (floor_t HM.out.tbl x.key hf)
                      have HFL := Lib.hid hf
                      clear hf
                      unfold MS.floorV at HF
                      go_wp2_with fail
                      refine HF.out.mono ?_
                      rintro e w5 ⟨rfl, hb5⟩
                      have H5 := Lib.hid (HM.out.same hb5)
                      have HR5 := Lib.hid (HF2.out w5 hb5)
                      clear x0 x1 x2 x3 hb5 HF HF2
                      obtain ⟨x0, x1, x2, x3⟩ := act_cells (H5.out.tbl.box (q := (bx, actO x)) (by simp))
                      go_wp2_with fail
                      refine HR5.out.mono ?_
                      rintro e w6 ⟨o, rfl, hbest, hb6⟩
                      have ho := (floor_best HM.out.alike hbest).symm.trans HFL.out
                      obtain rfl : o = none := by cases o with
                        | none => rfl
                        | some b => cases ho
                      have H6 := Lib.hid (H5.out.same (hb6.alloc hb6.size (.cells #[.string ⟨#[]⟩, .string ⟨#[]⟩] 44)))
                      clear ho hbest hb6 HR5 H5
                      simp only [floorP]
                      go_wp2_with fail
                      go_meet
                      case rel => exact ⟨om, L, ws, pw, cw, rfl, rfl, Lib.hid (H6.out.more (Nat.le_succ k))⟩
                    | some q =>
                      have HF := Lib.hid (floor_t HM.out.tbl x.key hf)
                      have HFL := Lib.hid hf
                      clear hf
                      unfold MS.floorV at HF
                      go_wp2_with fail
                      refine HF.out.mono ?_
                      rintro e w5 ⟨rfl, hb5⟩
                      have H5 := Lib.hid (HM.out.same hb5)
                      have HR5 := Lib.hid (HF2.out w5 hb5)
                      clear x0 x1 x2 x3 hb5 HF HF2
                      obtain ⟨x0, x1, x2, x3⟩ := act_cells (H5.out.tbl.box (q := (bx, actO x)) (by simp))
                      go_wp2_with fail
                      refine HR5.out.mono ?_
                      rintro e w6 ⟨o, rfl, hbest, hb6⟩
                      have ho := (floor_best HM.out.alike hbest).symm.trans HFL.out
                      cases o with
                      | none => cases ho
                      | some b =>
                        obtain rfl := (Option.some.inj ho).symm
                        have H6 := Lib.hid (H5.out.same (hb6.alloc hb6.size (.cells #[.string (floorP ws (some b)).1, .string (floorP ws (some b)).2] 44)))
                        clear ho hbest hb6 HR5 H5 HFL
                        obtain ⟨fp, hfp⟩ : ∃ fp, floorP ws (some b) = fp := ⟨_, rfl⟩
                        rw [hfp] at H6
                        simp only [hfp]
                        clear hfp
                        go_wp2_with fail
                        go_meet
                        case rel => exact ⟨om, L, ws, pw, cw, rfl, rfl, Lib.hid (H6.out.more (Nat.le_succ k))⟩
              · as_aux_lemma =>
                    have hsz := HXS.out
                    have hln := HM.out.len
                    have hfl := Rf.fromR_length ws x.key
                    have hmx : x.key.size ≤ maxLen := by unfold maxLen; omega
                    have HD := Lib.hid (HM.out.same ((Below.refl _ W).drew))
                    have HFR := Lib.hid (from_t HD.out.tbl (by omega) HD.out.alike HD.out.prin x.key (by omega))
                    have HRF := Lib.hid (fun w5 hb => refFrom_any pw cw ws (by omega) x.key hmx w5 (HD.out.row.below hb))
                    have HSM2 := Lib.hid (fun p5 p6 cap5 cap6 w6 => refSame_any p5 p6 cap5 cap6 (Rf.fromR ws x.key) (by omega) w6)
                    have HPC := Lib.hid (fun (W' : World) (hb : Below W.drew.heap.size W.drew W') => (act_cells ((HD.out.same hb).tbl.box (q := (bx, actO x)) (by simp))).2.1)
                    clear hsz hln hfl hmx
                    go_upto_region 42 with fail
                    go_region_held3 (fun w' => w'.cell? ⟨bx, 1, none⟩ = some (.string x.key))
                      (first
                        | exact x1 | exact HPC.out _ hb5 | exact HPC.out _ (hb5.trans (hb6.mono hb5.size)) | exact HPC.out _ ((hb5.trans (hb6.mono hb5.size)).trans (hb7.mono (hb5.trans (hb6.mono hb5.size)).size)))
                      (first
                        | (go_at_call 17; (with_reducible refine HFR.out.mono ?_); rintro e w5 ⟨v5, rfl, p5, cap5, rfl, hp5, hb5⟩)
                        | (go_at_call 18; (with_reducible refine (HRF.out w5 hb5).mono ?_); rintro e w6 ⟨v6, rfl, p6, cap6, rfl, hp6, hb6⟩)
                        | (go_at_call 16; (with_reducible refine (HSM2.out p5 p6 cap5 cap6 w6 (hp5.below hb6) hp6).mono ?_); rintro e w7 ⟨rfl, hb7⟩)
                        | fail)
                    all_goals
                      have H7 := Lib.hid (HD.out.same ((hb5.trans (hb6.mono hb5.size)).trans (hb7.mono (hb5.trans (hb6.mono hb5.size)).size)))
                      clear hb5 hb6 hb7 hp5 hp6
                      go_wp2_with fail
                      go_meet
                      case rel => exact ⟨om, L, ws, pw, cw, rfl, rfl, Lib.hid (H7.out.more (Nat.le_succ k))⟩
              · as_aux_lemma =>
                    have HS := Lib.hid (clear_t HM.out.tbl)
                    go_wp2_with fail
                    refine HS.out.mono ?_
                    rintro e w5 ⟨rfl, h5, -⟩
                    have H5 := Lib.hid h5
                    clear x0 x1 x2 x3 h5 HS
                    go_wp2_with fail
                    go_meet
                    case rel => exact ⟨om, [], [], none, 0, rfl, rfl, Lib.hid ⟨H5.out, fun i hi => absurd hi (Nat.not_lt_zero _), Rf.alike_nil, Nat.zero_le _, fun _ h => nomatch h⟩⟩
              · as_aux_lemma =>
                    have hsz := HXS.out
                    have hln := HM.out.len
                    have HS := Lib.hid (twin_two (n := 300) HM.out.tbl (by omega))
                    clear hln
                    go_wp2_with fail
                    refine HS.out.mono ?_
                    rintro e w5 ⟨om2, rfl, hnn, h5, hb5⟩
                    have HR5 := Lib.hid (HM.out.row.below hb5)
                    have HS5 := Lib.hid (set_two h5 x.key (by omega) (by omega) ⟨#[111, 108, 100]⟩)
                    clear x0 x1 x2 x3 HS hb5
                    obtain ⟨x0, x1, x2, x3⟩ := act_cells (h5.box (q := (bx, actO x)) (by simp))
                    clear h5
                    obtain ⟨a2, rfl⟩ : ∃ a2, om2 = some a2 := by cases om2 with
                      | none => cases hnn
                      | some a => exact ⟨a, rfl⟩
                    clear hnn
                    go_wp2_with fail
                    refine HS5.out.mono ?_
                    rintro e w6 ⟨b6, rfl, h6, k6⟩
                    have HR6 := Lib.hid (k6 _ _ HR5.out)
                    have HS6 := Lib.hid (delete_two h6 x.val (by omega))
                    clear x0 x1 x2 x3 HS5 HR5
                    obtain ⟨x0, x1, x2, x3⟩ := act_cells (h6.box (q := (bx, actO x)) (by simp))
                    clear h6 k6
                    go_wp2_with fail
                    refine HS6.out.mono ?_
                    rintro e w7 ⟨b7, rfl, h7, k7⟩
                    have H7 := Lib.hid (And.intro h7.goOn (k7 _ _ HR6.out))
                    clear x0 x1 x2 x3 HS6 HR6 h7 k7
                    go_wp2_with fail
                    go_meet
                    case rel => exact ⟨_, L, ws, pw, cw, rfl, rfl, Lib.hid ⟨H7.out.1, H7.out.2, HM.out.alike, Nat.le_succ_of_le HM.out.few, HM.out.small⟩⟩
              · as_aux_lemma =>
                    have hsz := HXS.out
                    have hln := HM.out.len
                    have hmx : x.key.size ≤ maxLen := by unfold maxLen; omega
                    have HD := Lib.hid (HM.out.same ((Below.refl _ W).drew))
                    have HTW := Lib.hid (twin_t HD.out.tbl)
                    have HRF := Lib.hid (fun w5 hb => refFrom_any pw cw ws (by omega) x.key hmx w5 (HD.out.row.below hb))
                    have hmw := fun (mv5 : Value) (w6 : World) (p6 : Option Addr) (cap6 : Nat) (h6 : Tbl W.drew w6 false mv5 L [] []) (hp6 : PairsAt w6 p6 (Rf.fromR ws x.key)) => meanwhile_any (x := x) (cw := cap6) h6 (by omega) HD.out.alike (by omega) (by omega) HD.out.small hp6
                    unfold MAct.agg at hmw
                    simp only [hact] at hmw
                    have HMW := Lib.hid hmw
                    have HPC := Lib.hid (fun (W' : World) (hb : Below W.drew.heap.size W.drew W') => act_cells ((HD.out.same hb).tbl.box (q := (bx, actO x)) (by simp)))
                    clear hsz hln hmx hmw
                    go_upto_region 55 with fail
                    go_region_held3 (fun w' => w'.cell? ⟨bx, 0, none⟩ = some (.int .i64 x.act) ∧ w'.cell? ⟨bx, 1, none⟩ = some (.string x.key) ∧ w'.cell? ⟨bx, 2, none⟩ = some (.string x.val) ∧ w'.cell? ⟨bx, 3, none⟩ = some (.int .i64 x.n))
                      (first
                        | exact ⟨x0, x1, x2, x3⟩ | exact HPC.out _ hb5 | exact HPC.out _ (hb5.trans (hb6.mono hb5.size)) | exact HPC.out _ hb7)
                      (first
                        | (go_at_call 20; (with_reducible refine HTW.out.mono ?_); rintro e w5 ⟨mv5, rfl, h5, hb5⟩)
                        | (go_at_call 18; (with_reducible refine (HRF.out w5 hb5).mono ?_); rintro e w6 ⟨v6, rfl, p6, cap6, rfl, hp6, hb6⟩)
                        | (go_at_call 21; (with_reducible refine (HMW.out mv5 w6 p6 cap6 (h5.same hb6) hp6).mono ?_); rintro e w7 ⟨rfl, hb7⟩)
                        | fail)
                    all_goals
                      have H7 := Lib.hid (HD.out.same hb7)
                      clear hb5 hb6 hb7 hp6 h5
                      go_wp2_with fail
                      go_meet
                      case rel => exact ⟨om, L, ws, pw, cw, rfl, rfl, Lib.hid (H7.out.more (Nat.le_succ k))⟩
              · go_wp2_with fail
                go_meet
                case rel => exact ⟨om, L, ws, pw, cw, rfl, rfl, Lib.hid (HM.out.more (Nat.le_succ k))⟩
            case rest =>
             as_aux_lemma =>
              obtain ⟨om', L', ws', pw', cw', rfl, rfl, HC⟩ := hcut
              clear HM x0 x1 x2 x3
              have HLN := Lib.hid (show (L'.length : Int) = (ws'.length : Int) by rw [HC.out.len])
              go_wp2_with fail
              refine (len_t HC.out.tbl HLN.out).mono ?_
              rintro e w5 ⟨rfl, rfl⟩
              go_wp2_with fail
              go_roundg (xs.length - (k + 1))
              case measure => omega
              case rel => exact ⟨k + 1, om', L', ws', pw', cw', rfl, by omega, by go_num, rfl, rfl, Lib.hid ⟨HC.out.tbl.sub (by simp), HC.out.row, HC.out.alike, HC.out.few, HC.out.small⟩⟩
          · obtain rfl : k = xs.length := by omega
            have i1 : ¬ (xs.length : Int) < (xs.length : Int) := by omega
            have hmax : (⟨#[]⟩ : ByteArray).size ≤ 281474976710656 := by decide
            have hll := HK.out.len
            have HF := Lib.hid (from_t HK.out.tbl (by omega) HK.out.alike HK.out.prin ⟨#[]⟩ hmax)
            clear hmax hll
            go_wp2_with fail
            refine HF.out.mono ?_
            rintro e w5 ⟨v5, rfl, p5, cap5, rfl, hp5, hb5⟩
            have HK5 := Lib.hid (HK.out.same hb5)
            clear hb5
            go_wp2_with fail
            refine (refFrom_any pw cw ws (by omega) ⟨#[]⟩ (by decide) w5 HK5.out.row).mono ?_
            rintro e w6 ⟨v6, rfl, p6, cap6, rfl, hp6, hb6⟩
            have hfl := Rf.fromR_length ws ⟨#[]⟩
            have HB6 := Lib.hid (HK5.out.same hb6).tbl.below
            have HS := Lib.hid (refSame_any p5 p6 cap5 cap6 (Rf.fromR ws ⟨#[]⟩) (by omega) w6 (hp5.below hb6) hp6)
            clear hb6 hp5 hp6
            go_wp2_with fail
            refine HS.out.mono ?_
            rintro e w7 ⟨rfl, hb7⟩
            have HB7 := Lib.hid (HB6.out.trans (hb7.mono HB6.out.size))
            clear hb7
            go_wp2_with fail
            go_ret
            exact ⟨rfl, HB7.out⟩
      · have d2 : (kind.tmod 4 == 2) = false := by rw [beq_eq_false_iff_ne]; omega
        have HP0 := hst0 _ false (some ⟨a, 0, none⟩) (.inr ⟨rfl, a, rfl, H3.out⟩)
        clear hk3 hk2 hst0 e4
        clear H3 hk0
        go_wp2_with fail
        go_loopg [5, 7, 8] xs.length (fun g mv wv iv wr => ∃ (k : Nat) (om : Option Addr) (L : Mm.Row) (ws : List Pr) (pw : Option Addr) (cw : Nat), g = xs.length - k ∧ k ≤ xs.length ∧ iv = .int .i64 (k : Nat) ∧ mv = .pointer om ∧ wv = .slice pw ws.length cw ∧ Hid (Play w wr false (.pointer om) L ws pw k []))
        case atStart => exact ⟨0, _, [], [], none, 0, rfl, Nat.zero_le _, rfl, rfl, rfl, HP0⟩
        case round =>
          obtain ⟨k, om, L, ws, pw, cw, rfl, hk, rfl, rfl, rfl, HK⟩ := hrel
          have hkl := HSM.out.1
          have hwl := HK.out.few
          by_cases hlt : k < xs.length
          · have i1 : (k : Int) < (xs.length : Int) := by omega
            have i2 : (0 : Int) ≤ (k : Int) := by omega
            obtain ⟨A, rfl, c0, c1, c2, c3, -⟩ := HX.out.at HK.out.tbl.below hlt
            have hxs := HSM.out.2 _ (List.getElem_mem hlt)
            have HXS := Lib.hid hxs
            clear hxs
            generalize xs[k] = x at *
            go_upto_block 2 with fail
            obtain ⟨W, hW⟩ : ∃ W, wr.alloc (actO x) = W := ⟨_, rfl⟩
            have hW' : wr.alloc (.cells #[.int .i64 x.act, .string x.key, .string x.val, .int .i64 x.n] 32) = W := hW
            have hm : Play w (wr.alloc (actO x)) false (.pointer om) L ws pw k [(wr.heap.size, actO x)] := ⟨HK.out.tbl.alloc _, HK.out.row.below (below_alloc _ _), HK.out.alike, HK.out.few, HK.out.small⟩
            obtain ⟨bx, hbx⟩ : ∃ bx, wr.heap.size = bx := ⟨_, rfl⟩
            rw [hW, hbx] at hm
            rw [hW', hbx]
            have HM := Lib.hid hm
            obtain ⟨x0, x1, x2, x3⟩ := act_cells (hm.tbl.box (q := (bx, actO x)) (by simp))
            clear hm hW hW' hbx HK c0 c1 c2 c3
            go_cut [5, 7] from 39 to 193 (fun mv wv wc => ∃ (om' : Option Addr) (L' : Mm.Row) (ws' : List Pr) (pw' : Option Addr) (cw' : Nat), mv = .pointer om' ∧ wv = .slice pw' ws'.length cw' ∧ Hid (Play w wc false (.pointer om') L' ws' pw' (k + 1) [(bx, actO x)]))
            case first =>
              have hact : x.act = 0 ∨ x.act = 1 ∨ x.act = 2 ∨ x.act = 3 ∨ x.act = 4 ∨ x.act = 5 ∨ x.act = 6 ∨ x.act = 7 ∨ (x.act ≠ 0 ∧ x.act ≠ 1 ∧ x.act ≠ 2 ∧ x.act ≠ 3 ∧ x.act ≠ 4 ∧ x.act ≠ 5 ∧ x.act ≠ 6 ∧ x.act ≠ 7) := by omega
              rcases hact with hact | hact | hact | hact | hact | hact | hact | hact | ⟨n0, n1, n2, n3, n4, n5, n6, n7⟩
              · as_aux_lemma =>
                    have hsz := HXS.out
                    have hln := HM.out.len
                    have hbq : (!false && !(Mm.get L x.key).isSome) = (!Rf.isIn ws x.key) := by rw [HM.out.alike.2.2, Rf.isIn_get]; simp
                    have HS := Lib.hid (set_t HM.out.tbl x.key (by omega) (by omega) x.val hbq)
                    clear hbq hln
                    go_wp2_with fail
                    refine HS.out.mono ?_
                    rintro e w5 ⟨rfl, h5, k5, -⟩
                    simp only [Bool.false_eq_true, if_false] at h5
                    have H5 := Lib.hid h5
                    have HR5 := Lib.hid (refSet_any pw cw ws (by omega) x.key x.val (by unfold maxLen; omega) (by unfold maxLen; omega) w5 (k5 _ _ HM.out.row))
                    clear x0 x1 x2 x3 HS k5
                    obtain ⟨x0, x1, x2, x3⟩ := act_cells (h5.box (q := (bx, actO x)) (by simp))
                    clear h5
                    go_wp2_with fail
                    refine HR5.out.mono ?_
                    rintro e w6 ⟨v6, rfl, p6, cap6, rfl, hp6, hb6⟩
                    have H6 := Lib.hid (And.intro (H5.out.same hb6) hp6)
                    clear hp6 hb6 HR5 H5
                    generalize Rf.isIn ws x.key = bi at *
                    go_wp2_with fail
                    go_meet
                    case rel => exact ⟨om, _, Rf.setR ws x.key x.val, p6, cap6, rfl, rfl, Lib.hid ⟨H6.out.1, H6.out.2, HM.out.alike.set x.key x.val, by have := Rf.set_length ws x.key x.val; omega, Rf.set_in (P := fun q => q.1.size ≤ 20000 ∧ q.2.size ≤ 20000) HM.out.small HXS.out⟩⟩
              · as_aux_lemma =>
                    cases hg : Mm.get (Rf.row ws) x.key with
                    | none =>
                      have HG := Lib.hid (get_t HM.out.tbl x.key ((HM.out.alike.2.2 _).trans hg))
                      have HG2 := Lib.hid (fun w' hb => refGet_any pw cw ws (by omega) x.key w' (HM.out.row.below hb))
                      rw [gotR_none hg] at HG2
                      clear hg
                      go_wp2_with fail
                      refine HG.out.mono ?_
                      rintro e w5 ⟨rfl, hb5⟩
                      have H5 := Lib.hid (HM.out.same hb5)
                      have HR5 := Lib.hid (HG2.out w5 hb5)
                      clear x0 x1 x2 x3 hb5 HG HG2
                      obtain ⟨x0, x1, x2, x3⟩ := act_cells (H5.out.tbl.box (q := (bx, actO x)) (by simp))
                      go_wp2_with fail
                      refine HR5.out.mono ?_
                      rintro e w6 ⟨rfl, rfl⟩
                      go_wp2_with fail
                      go_meet
                      case rel => exact ⟨om, L, ws, pw, cw, rfl, rfl, Lib.hid (H5.out.more (Nat.le_succ k))⟩
                    | some v =>
                      obtain ⟨t, rfl, -⟩ := Rf.mem_of_get hg
                      have HG := Lib.hid (get_t HM.out.tbl x.key ((HM.out.alike.2.2 _).trans hg))
                      have HG2 := Lib.hid (fun w' hb => refGet_any pw cw ws (by omega) x.key w' (HM.out.row.below hb))
                      rw [gotR_some hg] at HG2
                      clear hg
                      go_wp2_with fail
                      refine HG.out.mono ?_
                      rintro e w5 ⟨rfl, hb5⟩
                      have H5 := Lib.hid (HM.out.same hb5)
                      have HR5 := Lib.hid (HG2.out w5 hb5)
                      clear x0 x1 x2 x3 hb5 HG HG2
                      obtain ⟨x0, x1, x2, x3⟩ := act_cells (H5.out.tbl.box (q := (bx, actO x)) (by simp))
                      go_wp2_with fail
                      refine HR5.out.mono ?_
                      rintro e w6 ⟨rfl, rfl⟩
                      go_wp2_with fail
                      go_meet
                      case rel => exact ⟨om, L, ws, pw, cw, rfl, rfl, Lib.hid (H5.out.more (Nat.le_succ k))⟩
              · as_aux_lemma =>
                    have hln := HM.out.len
                    have HD := Lib.hid (refDelete_any pw cw ws (by omega) x.key W HM.out.row)
                    have HDT := Lib.hid (fun w' hb => delete_t (HM.out.same (w' := w') hb).tbl x.key (by omega) (b := Rf.isIn ws x.key) (by rw [HM.out.alike.2.2, Rf.isIn_get]))
                    clear hln
                    go_wp2_with fail
                    refine HD.out.mono ?_
                    rintro e w5 ⟨v5, rfl, p5, cap5, rfl, hp5, hb5⟩
                    have HT5 := Lib.hid (HDT.out w5 hb5)
                    have HP5 := Lib.hid hp5
                    clear x0 x1 x2 x3 HD HDT
                    obtain ⟨x0, x1, x2, x3⟩ := act_cells ((HM.out.same hb5).tbl.box (q := (bx, actO x)) (by simp))
                    clear hp5 hb5
                    generalize Rf.isIn ws x.key = bi at *
                    go_wp2_with fail
                    refine HT5.out.mono ?_
                    rintro e w6 ⟨rfl, h6, k6, -⟩
                    have H6 := Lib.hid (And.intro h6 (k6 _ _ HP5.out))
                    clear h6 k6 HT5
                    go_wp2_with fail
                    go_meet
                    case rel => exact ⟨om, _, Rf.delR ws x.key, p5, cap5, rfl, rfl, Lib.hid ⟨H6.out.1, H6.out.2, HM.out.alike.del x.key, by have := Rf.del_length ws x.key; omega, fun q hq => HM.out.small q ((List.mem_filter.1 hq).1)⟩⟩
              · as_aux_lemma =>
                    have hsz := HXS.out
                    have HF2 := Lib.hid (fun w' hb => refFloor_any pw cw ws (by omega) x.key (by unfold maxLen; omega) w' (HM.out.row.below hb))
                    cases hf : Mm.floor L x.key with
                    | none =>
                      have HF := Lib.hid (floor_t HM.out.tbl x.key hf)
                      have HFL := Lib.hid hf
                      clear hf
                      unfold MS.floorV at HF
                      go_wp2_with fail
                      refine HF.out.mono ?_
                      rintro e w5 ⟨rfl, hb5⟩
                      have H5 := Lib.hid (HM.out.same hb5)
                      have HR5 := Lib.hid (HF2.out w5 hb5)
                      clear x0 x1 x2 x3 hb5 HF HF2
                      obtain ⟨x0, x1, x2, x3⟩ := act_cells (H5.out.tbl.box (q := (bx, actO x)) (by simp))
                      go_wp2_with fail
                      refine HR5.out.mono ?_
                      rintro e w6 ⟨o, rfl, hbest, hb6⟩
                      have ho := (floor_best HM.out.alike hbest).symm.trans HFL.out
                      obtain rfl : o = none := by cases o with
                        | none => rfl
                        | some b => cases ho
                      have H6 := Lib.hid (H5.out.same (hb6.alloc hb6.size (.cells #[.string ⟨#[]⟩, .string ⟨#[]⟩] 44)))
                      clear ho hbest hb6 HR5 H5
                      simp only [floorP]
                      go_wp2_with fail
                      go_meet
                      case rel => exact ⟨om, L, ws, pw, cw, rfl, rfl, Lib.hid (H6.out.more (Nat.le_succ k))⟩
                    | some q =>
                      have HF := Lib.hid (floor_t HM.out.tbl x.key hf)
                      have HFL := Lib.hid hf
                      clear hf
                      unfold MS.floorV at HF
                      go_wp2_with fail
                      refine HF.out.mono ?_
                      rintro e w5 ⟨rfl, hb5⟩
                      have H5 := Lib.hid (HM.out.same hb5)
                      have HR5 := Lib.hid (HF2.out w5 hb5)
                      clear x0 x1 x2 x3 hb5 HF HF2
                      obtain ⟨x0, x1, x2, x3⟩ := act_cells (H5.out.tbl.box (q := (bx, actO x)) (by simp))
                      go_wp2_with fail
                      refine HR5.out.mono ?_
                      rintro e w6 ⟨o, rfl, hbest, hb6⟩
                      have ho := (floor_best HM.out.alike hbest).symm.trans HFL.out
                      cases o with
                      | none => cases ho
                      | some b =>
                        obtain rfl := (Option.some.inj ho).symm
                        have H6 := Lib.hid (H5.out.same (hb6.alloc hb6.size (.cells #[.string (floorP ws (some b)).1, .string (floorP ws (some b)).2] 44)))
                        clear ho hbest hb6 HR5 H5 HFL
                        obtain ⟨fp, hfp⟩ : ∃ fp, floorP ws (some b) = fp := ⟨_, rfl⟩
                        rw [hfp] at H6
                        simp only [hfp]
                        clear hfp
                        go_wp2_with fail
                        go_meet
                        case rel => exact ⟨om, L, ws, pw, cw, rfl, rfl, Lib.hid (H6.out.more (Nat.le_succ k))⟩
              · as_aux_lemma =>
                    have hsz := HXS.out
                    have hln := HM.out.len
                    have hfl := Rf.fromR_length ws x.key
                    have hmx : x.key.size ≤ maxLen := by unfold maxLen; omega
                    have HD := Lib.hid (HM.out.same ((Below.refl _ W).drew))
                    have HFR := Lib.hid (from_t HD.out.tbl (by omega) HD.out.alike HD.out.prin x.key (by omega))
                    have HRF := Lib.hid (fun w5 hb => refFrom_any pw cw ws (by omega) x.key hmx w5 (HD.out.row.below hb))
                    have HSM2 := Lib.hid (fun p5 p6 cap5 cap6 w6 => refSame_any p5 p6 cap5 cap6 (Rf.fromR ws x.key) (by omega) w6)
                    have HPC := Lib.hid (fun (W' : World) (hb : Below W.drew.heap.size W.drew W') => (act_cells ((HD.out.same hb).tbl.box (q := (bx, actO x)) (by simp))).2.1)
                    clear hsz hln hfl hmx
                    go_upto_region 42 with fail
                    go_region_held3 (fun w' => w'.cell? ⟨bx, 1, none⟩ = some (.string x.key))
                      (first
                        | exact x1 | exact HPC.out _ hb5 | exact HPC.out _ (hb5.trans (hb6.mono hb5.size)) | exact HPC.out _ ((hb5.trans (hb6.mono hb5.size)).trans (hb7.mono (hb5.trans (hb6.mono hb5.size)).size)))
                      (first
                        | (go_at_call 17; (with_reducible refine HFR.out.mono ?_); rintro e w5 ⟨v5, rfl, p5, cap5, rfl, hp5, hb5⟩)
                        | (go_at_call 18; (with_reducible refine (HRF.out w5 hb5).mono ?_); rintro e w6 ⟨v6, rfl, p6, cap6, rfl, hp6, hb6⟩)
                        | (go_at_call 16; (with_reducible refine (HSM2.out p5 p6 cap5 cap6 w6 (hp5.below hb6) hp6).mono ?_); rintro e w7 ⟨rfl, hb7⟩)
                        | fail)
                    all_goals
                      have H7 := Lib.hid (HD.out.same ((hb5.trans (hb6.mono hb5.size)).trans (hb7.mono (hb5.trans (hb6.mono hb5.size)).size)))
                      clear hb5 hb6 hb7 hp5 hp6
                      go_wp2_with fail
                      go_meet
                      case rel => exact ⟨om, L, ws, pw, cw, rfl, rfl, Lib.hid (H7.out.more (Nat.le_succ k))⟩
              · as_aux_lemma =>
                    have HS := Lib.hid (clear_t HM.out.tbl)
                    go_wp2_with fail
                    refine HS.out.mono ?_
                    rintro e w5 ⟨rfl, h5, -⟩
                    have H5 := Lib.hid h5
                    clear x0 x1 x2 x3 h5 HS
                    go_wp2_with fail
                    go_meet
                    case rel => exact ⟨om, [], [], none, 0, rfl, rfl, Lib.hid ⟨H5.out, fun i hi => absurd hi (Nat.not_lt_zero _), Rf.alike_nil, Nat.zero_le _, fun _ h => nomatch h⟩⟩
              · as_aux_lemma =>
                    have hsz := HXS.out
                    have hln := HM.out.len
                    have HS := Lib.hid (twin_two (n := 300) HM.out.tbl (by omega))
                    clear hln
                    go_wp2_with fail
                    refine HS.out.mono ?_
                    rintro e w5 ⟨om2, rfl, hnn, h5, hb5⟩
                    have HR5 := Lib.hid (HM.out.row.below hb5)
                    have HS5 := Lib.hid (set_two h5 x.key (by omega) (by omega) ⟨#[111, 108, 100]⟩)
                    clear x0 x1 x2 x3 HS hb5
                    obtain ⟨x0, x1, x2, x3⟩ := act_cells (h5.box (q := (bx, actO x)) (by simp))
                    clear h5
                    obtain ⟨a2, rfl⟩ : ∃ a2, om2 = some a2 := by cases om2 with
                      | none => cases hnn
                      | some a => exact ⟨a, rfl⟩
                    clear hnn
                    go_wp2_with fail
                    refine HS5.out.mono ?_
                    rintro e w6 ⟨b6, rfl, h6, k6⟩
                    have HR6 := Lib.hid (k6 _ _ HR5.out)
                    have HS6 := Lib.hid (delete_two h6 x.val (by omega))
                    clear x0 x1 x2 x3 HS5 HR5
                    obtain ⟨x0, x1, x2, x3⟩ := act_cells (h6.box (q := (bx, actO x)) (by simp))
                    clear h6 k6
                    go_wp2_with fail
                    refine HS6.out.mono ?_
                    rintro e w7 ⟨b7, rfl, h7, k7⟩
                    have H7 := Lib.hid (And.intro h7.goOn (k7 _ _ HR6.out))
                    clear x0 x1 x2 x3 HS6 HR6 h7 k7
                    go_wp2_with fail
                    go_meet
                    case rel => exact ⟨_, L, ws, pw, cw, rfl, rfl, Lib.hid ⟨H7.out.1, H7.out.2, HM.out.alike, Nat.le_succ_of_le HM.out.few, HM.out.small⟩⟩
              · as_aux_lemma =>
                    have hsz := HXS.out
                    have hln := HM.out.len
                    have hmx : x.key.size ≤ maxLen := by unfold maxLen; omega
                    have HD := Lib.hid (HM.out.same ((Below.refl _ W).drew))
                    have HTW := Lib.hid (twin_t HD.out.tbl)
                    have HRF := Lib.hid (fun w5 hb => refFrom_any pw cw ws (by omega) x.key hmx w5 (HD.out.row.below hb))
                    have hmw := fun (mv5 : Value) (w6 : World) (p6 : Option Addr) (cap6 : Nat) (h6 : Tbl W.drew w6 false mv5 L [] []) (hp6 : PairsAt w6 p6 (Rf.fromR ws x.key)) => meanwhile_any (x := x) (cw := cap6) h6 (by omega) HD.out.alike (by omega) (by omega) HD.out.small hp6
                    unfold MAct.agg at hmw
                    simp only [hact] at hmw
                    have HMW := Lib.hid hmw
                    have HPC := Lib.hid (fun (W' : World) (hb : Below W.drew.heap.size W.drew W') => act_cells ((HD.out.same hb).tbl.box (q := (bx, actO x)) (by simp)))
                    clear hsz hln hmx hmw
                    go_upto_region 55 with fail
                    go_region_held3 (fun w' => w'.cell? ⟨bx, 0, none⟩ = some (.int .i64 x.act) ∧ w'.cell? ⟨bx, 1, none⟩ = some (.string x.key) ∧ w'.cell? ⟨bx, 2, none⟩ = some (.string x.val) ∧ w'.cell? ⟨bx, 3, none⟩ = some (.int .i64 x.n))
                      (first
                        | exact ⟨x0, x1, x2, x3⟩ | exact HPC.out _ hb5 | exact HPC.out _ (hb5.trans (hb6.mono hb5.size)) | exact HPC.out _ hb7)
                      (first
                        | (go_at_call 20; (with_reducible refine HTW.out.mono ?_); rintro e w5 ⟨mv5, rfl, h5, hb5⟩)
                        | (go_at_call 18; (with_reducible refine (HRF.out w5 hb5).mono ?_); rintro e w6 ⟨v6, rfl, p6, cap6, rfl, hp6, hb6⟩)
                        | (go_at_call 21; (with_reducible refine (HMW.out mv5 w6 p6 cap6 (h5.same hb6) hp6).mono ?_); rintro e w7 ⟨rfl, hb7⟩)
                        | fail)
                    all_goals
                      have H7 := Lib.hid (HD.out.same hb7)
                      clear hb5 hb6 hb7 hp6 h5
                      go_wp2_with fail
                      go_meet
                      case rel => exact ⟨om, L, ws, pw, cw, rfl, rfl, Lib.hid (H7.out.more (Nat.le_succ k))⟩
              · go_wp2_with fail
                go_meet
                case rel => exact ⟨om, L, ws, pw, cw, rfl, rfl, Lib.hid (HM.out.more (Nat.le_succ k))⟩
            case rest =>
             as_aux_lemma =>
              obtain ⟨om', L', ws', pw', cw', rfl, rfl, HC⟩ := hcut
              clear HM x0 x1 x2 x3
              have HLN := Lib.hid (show (L'.length : Int) = (ws'.length : Int) by rw [HC.out.len])
              go_wp2_with fail
              refine (len_t HC.out.tbl HLN.out).mono ?_
              rintro e w5 ⟨rfl, rfl⟩
              go_wp2_with fail
              go_roundg (xs.length - (k + 1))
              case measure => omega
              case rel => exact ⟨k + 1, om', L', ws', pw', cw', rfl, by omega, by go_num, rfl, rfl, Lib.hid ⟨HC.out.tbl.sub (by simp), HC.out.row, HC.out.alike, HC.out.few, HC.out.small⟩⟩
          · obtain rfl : k = xs.length := by omega
            have i1 : ¬ (xs.length : Int) < (xs.length : Int) := by omega
            have hmax : (⟨#[]⟩ : ByteArray).size ≤ 281474976710656 := by decide
            have hll := HK.out.len
            have HF := Lib.hid (from_t HK.out.tbl (by omega) HK.out.alike HK.out.prin ⟨#[]⟩ hmax)
            clear hmax hll
            go_wp2_with fail
            refine HF.out.mono ?_
            rintro e w5 ⟨v5, rfl, p5, cap5, rfl, hp5, hb5⟩
            have HK5 := Lib.hid (HK.out.same hb5)
            clear hb5
            go_wp2_with fail
            refine (refFrom_any pw cw ws (by omega) ⟨#[]⟩ (by decide) w5 HK5.out.row).mono ?_
            rintro e w6 ⟨v6, rfl, p6, cap6, rfl, hp6, hb6⟩
            have hfl := Rf.fromR_length ws ⟨#[]⟩
            have HB6 := Lib.hid (HK5.out.same hb6).tbl.below
            have HS := Lib.hid (refSame_any p5 p6 cap5 cap6 (Rf.fromR ws ⟨#[]⟩) (by omega) w6 (hp5.below hb6) hp6)
            clear hb6 hp5 hp6
            go_wp2_with fail
            refine HS.out.mono ?_
            rintro e w7 ⟨rfl, hb7⟩
            have HB7 := Lib.hid (HB6.out.trans (hb7.mono HB6.out.size))
            clear hb7
            go_wp2_with fail
            go_ret
            exact ⟨rfl, HB7.out⟩
end Go.Proofs.Ythioogncbhkaoaa
