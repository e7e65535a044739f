/-
  Walks over the laws of package net: NetAll. No condition.
-/
import Derived.Test.YtokbkbfbmgfbiaaNetAllList
import Derived.Test.YtokbkbfbmgfbiaaNetAllMath
import Derived.Test.YtokbkbfbmgfbiaaNetRow
import Derived.Deep.CutBlock
namespace Go.Proofs.Ytokbkbfbmgfbiaa
open Go.RowKit Go.Maps

theorem Numbers.at {w W : World} {p : Option Addr} {ks : List Int} (h : Numbers w p ks) (hb : Below w.heap.size w W) {i : Nat} (hi : i < ks.length) :
    ∃ A, p = some A ∧ W.cell? (A.add i) = some (.int .i64 ks[i]) ∧ Nm.Wf ks[i] := by
  obtain ⟨A, rfl, h1, h2, h3⟩ := h i hi
  exact ⟨A, rfl, (hb.cell (by rw [add_blk]; exact h1)).trans h2, h3⟩
theorem Numbers.cell {w W : World} {A : Addr} {ks : List Int} (h : Numbers w (some A) ks) (hb : Below w.heap.size w W) {i : Nat} (hi : i < ks.length) : W.cell? (A.add i) = some (.int .i64 ks[i]) := by
  obtain ⟨A', e, h1, -⟩ := h.at hb hi
  cases e; exact h1

set_option maxRecDepth 100000 in
set_option maxHeartbeats 16000000 in
theorem netAll_any (p : Option Addr) (cap : Nat) (xs : List Nm.Pk) (pk : Option Addr) (kcap : Nat) (ks : List Int) (cut : Bool) (w : World) (hxs : Pks w p xs) (hks : Numbers w pk ks) (hkl : ks.length ≤ maxLen) :
    Calls Try.prog 7 #[.slice p xs.length cap, .slice pk ks.length kcap, .bool cut] w fun e w' => e = .returned (.bool true) ∧ Below w.heap.size w w' := by
  have HX := Lib.hid hxs
  have HK := Lib.hid hks
  clear hxs hks
  have hg := pkGuard
  go_enter Try.func7, Try.ntmps7
  go_wp2_with fail
  refine (netAwake_any _).mono ?_
  rintro e w1 ⟨rfl, hb1⟩
  have HB1 := Lib.hid hb1
  clear hb1
  go_wp2_with fail
  go_loopw [7, 8] (fun nv iv wr => ∃ k s : Nat, k ≤ xs.length ∧ k ≤ 101 ∧ iv = .int .i64 (k : Nat) ∧ nv = .int .i64 (s : Nat) ∧ Hid (Below w.heap.size w wr ∧ s ≤ k * 60001)) (fun _ iv _ => 101 - (intOf iv).toNat)
  case atStart => exact ⟨0, 0, Nat.zero_le _, Nat.zero_le _, rfl, rfl, Lib.hid ⟨HB1.out, Nat.zero_le _⟩⟩
  case round =>
    obtain ⟨k, s, hk, hk3, rfl, rfl, HB⟩ := hrel
    have hs60 := HB.out.2
    by_cases hlt : k < xs.length
    · have i1 : (k : Int) < (xs.length : Int) := by omega
      have i2 : (0 : Int) ≤ (k : Int) := by omega
      by_cases hle : k ≤ 100
      · have i3 : (k : Int) ≤ 100 := by omega
        obtain ⟨A, rfl, c0, c1, c2, hok⟩ := HX.out.at HB.out.1 hlt
        have hd := hok.d
        clear hok c0 c1
        generalize xs[k] = x at *
        go_wp2_with fail
        go_roundw
        case rel => exact ⟨k + 1, s + min x.d.size 60001, by omega, by omega, rfl, by congr 1; omega, Lib.hid ⟨HB.out.1, by omega⟩⟩
        case measure => simp [intOf]; omega
      · obtain rfl : k = 101 := by omega
        have i4 : decide ((xs.length : Int) ≤ 100) = false := decide_eq_false (by omega)
        have i5 : decide ((100 : Int) < (xs.length : Int)) = true := decide_eq_true (by omega)
        have hb := HB.out.1
        go_wp2
        go_ret
        exact ⟨rfl, hb⟩
    · obtain rfl : k = xs.length := by omega
      have i1 : ¬ (xs.length : Int) < (xs.length : Int) := by omega
      have hb := HB.out.1
      by_cases h3 : 100 < xs.length
      · have i5 : decide ((100 : Int) < (xs.length : Int)) = true := decide_eq_true (by omega)
        go_wp2
        go_ret
        exact ⟨rfl, hb⟩
      · have i5 : decide ((100 : Int) < (xs.length : Int)) = false := decide_eq_false (by omega)
        by_cases hs : 60000 < s
        · have i6 : decide ((60000 : Int) < (s : Int)) = true := decide_eq_true (by omega)
          go_wp2
          go_ret
          exact ⟨rfl, hb⟩
        · have i6 : decide ((60000 : Int) < (s : Int)) = false := decide_eq_false (by omega)
          clear hs hs60 hk hk3 hlt hb
          go_wp2_with fail
          refine (new_in (B := []) HB.out.1 (fun _ h => nomatch h)).mono ?_
          rintro e w2 ⟨a, rfl, h2⟩
          have H2 := Lib.hid h2.list
          clear h2 HB i5 i6
          go_wp2_with fail
          go_loopw [10, 11] (fun sv iv wr => ∃ (k : Nat) (pv : Option Addr) (cv : Nat), k ≤ xs.length ∧ iv = .int .i64 (k : Nat) ∧ sv = .slice pv (Nm.fits (xs.take k)).length cv ∧ Hid (InL w wr a (Nm.nets (Nm.fits (xs.take k))) (.slice pv (Nm.fits (xs.take k)).length cv) (Nm.fits (xs.take k)))) (fun _ iv _ => xs.length - (intOf iv).toNat)
          case atStart => exact ⟨0, none, 0, Nat.zero_le _, rfl, rfl, H2⟩
          case round =>
            obtain ⟨k, pv, cv, hk, rfl, rfl, HL⟩ := hrel
            by_cases hlt : k < xs.length
            · have i1 : (k : Int) < (xs.length : Int) := by omega
              have i2 : (0 : Int) ≤ (k : Int) := by omega
              obtain ⟨A, rfl, c0, c1, c2, hok⟩ := HX.out.at HL.out.below hlt
              have hfl := Nm.fits_len (xs.take k)
              have hfl2 : (xs.take k).length ≤ k := List.length_take_le _ _
              have HOK := Lib.hid hok
              have HCE := Lib.hid (fun W hW => HX.out.cells (W := W) hW hlt)
              have hd := hok.d
              unfold maxLen at hd
              clear hok
              by_cases hfit : xs[k].d.size ≤ 8192
              · skip
                have HS := Lib.hid (Nm.nets_send (l := Nm.fits (xs.take k)) (p := xs[k]) hfit (by omega))
                have HE := Lib.hid (Nm.fits_yes hlt hfit)
                generalize xs[k] = x at *
                generalize Nm.fits (xs.take k) = L at *
                have hL : L.length < 1000000 := by omega
                clear hfl hfl2 hfit
                obtain ⟨f, t, d⟩ := x
                simp only at c0 c1 c2 hd
                go_wp2_with fail
                refine (send_l HL.out f t d HOK.out.f HOK.out.t HOK.out.d HS.out).mono ?_
                rintro e w5 ⟨rfl, h5⟩
                clear c0 c1 c2
                obtain ⟨c0, c1, c2⟩ := HCE.out _ h5.below
                obtain ⟨pv', cv', nl, w6, hrun, hnl, h6⟩ := append_l h5 ⟨f, t, d⟩ hL 43
                have HN := Lib.hid (And.intro hnl h6)
                simp only at hrun
                clear h5 hnl h6
                go_wp2_with (at_builtin; refine Lib.wpList_append_run _ rfl (.tmp 62) (.tmp 67) _ _ rfl _ _ rfl rfl _ _ hrun ?_)
                go_roundw
                case rel =>
                  refine ⟨k + 1, pv', cv', by omega, rfl, ?_, ?_⟩
                  · rw [HE.out, HN.out.1]
                  · rw [HE.out]; have h7 := HN.out.2; rw [HN.out.1] at h7; exact Lib.hid h7
                case measure => simp [intOf]; omega
              · skip
                have HS := Lib.hid (Nm.nets_long (l := Nm.fits (xs.take k)) (p := xs[k]) (by omega))
                have HE := Lib.hid (Nm.fits_no hlt hfit)
                generalize xs[k] = x at *
                generalize Nm.fits (xs.take k) = L at *
                clear hfl hfl2 hfit
                obtain ⟨f, t, d⟩ := x
                simp only at c0 c1 c2 hd
                go_wp2_with fail
                refine (send_l HL.out f t d HOK.out.f HOK.out.t HOK.out.d HS.out).mono ?_
                rintro e w5 ⟨rfl, h5⟩
                clear c0 c1 c2
                have HN := Lib.hid h5
                clear h5
                go_wp2_with fail
                go_roundw
                case rel =>
                  refine ⟨k + 1, pv, cv, by omega, rfl, ?_, ?_⟩
                  · rw [HE.out]
                  · rw [HE.out]; exact HN
                case measure => simp [intOf]; omega
            · obtain rfl : k = xs.length := by omega
              have i1 : ¬ (xs.length : Int) < (xs.length : Int) := by omega
              rw [List.take_length] at HL ⊢
              have hln : (Nm.fits xs).length ≤ 100 := by have := Nm.fits_len xs; omega
              generalize Nm.fits xs = L at *
              clear hk
              go_upto_block 4 with fail
              go_cut [] from 69 to 101 (fun wc => ∃ (c : Int → Int → Bool) (q : Nat), Hid (Nm.Free c) ∧ Hid (InL w wc a ⟨L, c, q⟩ (.slice pv L.length cv) L))
              case first =>
                skip
                go_wp2_with fail
                go_loopw [12] (fun iv wr => ∃ (k q : Nat) (c : Int → Int → Bool), k ≤ xs.length ∧ q ≤ 2 * k ∧ iv = .int .i64 (k : Nat) ∧ Hid (Nm.Free c) ∧ Hid (InL w wr a ⟨L, c, q⟩ (.slice pv L.length cv) L)) (fun iv _ => xs.length - (intOf iv).toNat)
                case atStart => exact ⟨0, 0, fun _ _ => false, Nat.zero_le _, Nat.le_refl _, rfl, Lib.hid fun _ _ => rfl, HL⟩
                case round =>
                  obtain ⟨k, q, c, hk, hq, rfl, HC, HW⟩ := hrel
                  by_cases hlt : k < xs.length
                  · have i1 : (k : Int) < (xs.length : Int) := by omega
                    have i2 : (0 : Int) ≤ (k : Int) := by omega
                    cases cut with
                    | true =>
                      obtain ⟨A, rfl, c0, c1, c2, hok⟩ := HX.out.at HW.out.below hlt
                      have HOK := Lib.hid hok
                      have HCE := Lib.hid (fun W hW => HX.out.cells (W := W) hW hlt)
                      clear hok c2
                      generalize xs[k] = x at *
                      obtain ⟨f, t, d⟩ := x
                      obtain ⟨c', hc', he⟩ := Nm.cut_back HC.out L q f t
                      have HE := Lib.hid (And.intro hc' he)
                      clear hc' he
                      simp only at c0 c1
                      go_wp2_with fail
                      go_region_law ((go_simp; go_at_call 16; refine (cut_l (HW.out.same (Below.refl _ _).drew) f t true HOK.out.f HOK.out.t (show q < 1000000 by omega)).mono ?_; rintro e w5 ⟨rfl, h5⟩; have H5 := Lib.hid h5; clear h5))
                      all_goals
                        clear c0 c1
                        obtain ⟨c0, c1, -⟩ := HCE.out _ H5.out.below
                        try simp only at c0 c1
                        go_wp2_with fail
                        go_region_law ((go_simp; go_at_call 16; refine (cut_l (H5.out.same (Below.refl _ _).drew) t f false HOK.out.t HOK.out.f (show q + 1 < 1000000 by omega)).mono ?_; rintro e w6 ⟨rfl, h6⟩; rw [HE.out.2] at h6; have H6 := Lib.hid h6; clear h6))
                        all_goals
                          go_wp2_with fail
                          go_roundw
                          case rel => exact ⟨k + 1, q + 2, c', by omega, by omega, rfl, Lib.hid HE.out.1, H6⟩
                          case measure => simp [intOf]; omega
                    | false =>
                      go_wp2_with fail
                      go_meet
                      case rel => exact ⟨c, q, HC, HW⟩
                  · obtain rfl : k = xs.length := by omega
                    have i1 : ¬ (xs.length : Int) < (xs.length : Int) := by omega
                    go_wp2_with fail
                    go_meet
                    case rel => exact ⟨c, q, HC, HW⟩
              case rest =>
                obtain ⟨c, q, HC, HL2⟩ := hcut
                clear HL HX
                go_wp2_with fail
                refine (twin_l HL2.out).mono ?_
                rintro e w3 ⟨b, rfl, h3⟩
                have H3 := Lib.hid h3
                clear h3 HL2
                go_wp2_with fail
                go_loopw [14] (fun iv wr => ∃ k : Nat, k ≤ L.length ∧ iv = .int .i64 (k : Nat) ∧ Hid (TwoL w wr b ⟨L.drop k, c, q⟩ a ⟨L, c, q⟩ (.slice pv L.length cv) L)) (fun iv _ => L.length - (intOf iv).toNat)
                case atStart => exact ⟨0, Nat.zero_le _, rfl, Lib.hid (by simpa using H3.out.swap)⟩
                case round =>
                  obtain ⟨k, hk, rfl, HT⟩ := hrel
                  by_cases hlt : k < L.length
                  · skip
                    have i1 : (k : Int) < (L.length : Int) := by omega
                    have i2 : (0 : Int) ≤ (k : Int) := by omega
                    obtain ⟨g, cg, eg, -, -, -⟩ := cells_row HT.out.row hlt
                    cases eg
                    have HCM := Lib.hid (Nm.first_free HC.out q hlt)
                    have HCE := Lib.hid (fun (W : World) (h : W.ownsRow 0 23 3 (.slice (some ⟨g, 0, none⟩) L.length cv) L.length (rowCells L)) => cells_at h hlt)
                    generalize L[k] = x at *
                    obtain ⟨f, t, d⟩ := x
                    have hee := pk_eq_lit f t d
                    go_wp2_with fail
                    refine (come_tl HT.out 0 ⟨by decide, by decide⟩ HCM.out).mono ?_
                    rintro e w5 ⟨rfl, h5⟩
                    have h6 := h5.alloc (.cells #[.int .i64 f, .int .i64 t, .string d] 23)
                    obtain ⟨g0, g1, g2⟩ := HCE.out _ h6.row
                    have H6 := Lib.hid h6
                    clear h5 h6
                    go_wp2_with fail
                    go_quiet (fail)
                    go_wp2_with fail
                    go_roundw
                    case rel => exact ⟨k + 1, by omega, by go_num, Lib.hid (by simpa using H6.out.drewN _)⟩
                    case measure => simp [intOf]; omega
                  · obtain rfl : k = L.length := by omega
                    have i0 : ¬ (L.length : Int) < (L.length : Int) := by omega
                    rw [List.drop_length] at HT
                    have HT2 := Lib.hid HT.out.swap
                    clear HT hk hlt
                    go_wp2_with fail
                    go_loopw [10, 17] (fun sv iv wr => ∃ (k : Nat) (pv' : Option Addr) (cv' : Nat) (L' : List Nm.Pk), k ≤ ks.length ∧ iv = .int .i64 (k : Nat) ∧ sv = .slice pv' L'.length cv' ∧ L'.length ≤ 100 ∧ Hid (TwoL w wr a ⟨L', c, q⟩ b ⟨[], c, q⟩ (.slice pv' L'.length cv') L')) (fun _ iv _ => ks.length - (intOf iv).toNat)
                    case atStart => exact ⟨0, pv, cv, L, Nat.zero_le _, rfl, rfl, hln, HT2⟩
                    case round =>
                      obtain ⟨k, pv', cv', L', hk, rfl, rfl, hl', HT⟩ := hrel
                      by_cases hlt : k < ks.length
                      · by_cases hl0 : 0 < L'.length
                        · have i1 : (k : Int) < (ks.length : Int) := by omega
                          have i2 : (0 : Int) ≤ (k : Int) := by omega
                          have i3 : (0 : Int) < (L'.length : Int) := by omega
                          have i4 : (L'.length : Int) ≠ 0 := by omega
                          obtain ⟨A, rfl, c0, hwf⟩ := HK.out.at HT.out.below hlt
                          have HKC := Lib.hid (fun (W : World) (hW : Below w.heap.size w W) => HK.out.cell hW hlt)
                          obtain ⟨r1, r2⟩ := place_round (i := ks[k]) hl0 (by omega)
                          have HCM := Lib.hid (Nm.come_free HC.out q ks[k] hl0)
                          have hm := Nm.place_lt ks[k] hl0
                          obtain ⟨g, cg, eg, -, -, -⟩ := cells_row HT.out.row hl0
                          cases eg
                          obtain ⟨p1, cap1, e1, hcap1, hcap2⟩ := row_shape HT.out.row
                          cases e1
                          unfold maxLen at hcap2 hkl
                          have HCE := Lib.hid (fun (W : World) (h : W.ownsRow 0 23 3 (.slice (some ⟨g, 0, none⟩) L'.length cv') L'.length (rowCells L')) => cells_at h hm)
                          have HER := Lib.hid (rowCells_erase L' (Nm.place ks[k] L'.length))
                          generalize L'[Nm.place ks[k] L'.length] = x at *
                          generalize Nm.place ks[k] L'.length = m at *
                          generalize ks[k] = i at *
                          obtain ⟨f, t, d⟩ := x
                          have hee := pk_eq_lit f t d
                          have j0 : (0 : Int) ≤ (m : Int) := by omega
                          have j1 : (m : Int) < (L'.length : Int) := by omega
                          go_wp2_with fail
                          refine (come_tl HT.out i hwf HCM.out).mono ?_
                          rintro e w5 ⟨rfl, h5⟩
                          have h6 := h5.alloc (.cells #[.int .i64 f, .int .i64 t, .string d] 23)
                          obtain ⟨g0, g1, g2⟩ := HCE.out _ h6.row
                          have H6 := Lib.hid h6
                          clear h5 h6
                          go_wp2_with fail
                          go_quiet (fail)
                          go_wp2_with fail
                          obtain ⟨W6, hW6⟩ : ∃ W6, (w5.alloc (.cells #[.int .i64 f, .int .i64 t, .string d] 23)).drewN nq = W6 := ⟨_, rfl⟩
                          have H7 := Lib.hid (show TwoL w W6 a ⟨L'.eraseIdx m, c, q⟩ b ⟨[], c, q⟩ (.slice (some ⟨g, 0, none⟩) L'.length cv') L' from by rw [← hW6]; exact H6.out.drewN _)
                          rw [hW6]
                          clear g0 g1 g2 H6 hW6 hee HCE HKC HCM r1 r2 HT
                          have j2 : (m : Int) ≤ (cv' : Int) := by omega
                          have j2' : m ≤ cv' := by omega
                          have j3 : (L'.length : Int) ≤ (cv' : Int) := by omega
                          obtain ⟨j, hj⟩ : ∃ j, j = m + 1 := ⟨_, rfl⟩
                          have e2 : (m : Int) + 1 = (j : Int) := by omega
                          have e3 : IntKind.i64.wrap (j : Int) = (j : Int) := IntWalk.i64_in _ (by omega)
                          have k1 : (0 : Int) ≤ (j : Int) := by omega
                          have k2 : (j : Int) ≤ (L'.length : Int) := by omega
                          have k3 : j ≤ L'.length := by omega
                          have k4 : (j : Int) ≤ (cv' : Int) := by omega
                          obtain ⟨A2, hA2, hA3⟩ : ∃ A2 : Addr, (if cv' = j then some (⟨g, 0, none⟩ : Addr) else some ⟨g, j * 3, none⟩) = some A2 ∧ (L'.length - j = 0 ∨ A2 = ⟨g, j * 3, none⟩) := by
                            by_cases h : cv' = j
                            · exact ⟨_, if_pos h, .inl (by omega)⟩
                            · exact ⟨_, if_neg h, .inr rfl⟩
                          obtain ⟨p8, c8, W8, hrun8, p9, c9, W9, hrun9, h9⟩ := remake_tl H7.out (m := m) (by omega) hj (by omega) A2 hA3 cv' (cv' - j) 43
                          have H9 := Lib.hid h9
                          clear h9 hj hA3
                          go_region_law (first
                            | (refine step_append_run rfl (.tmp 168) (.tmp 171) 43 43 rfl _ _ (by first | rfl | simp [Act.eval, Act.put]) (by first | rfl | simp [Act.eval, Act.put]) _ _ hrun8 ?_)
                            | (refine step_append_run rfl (.tmp 172) (.tmp 176) 43 43 rfl _ _ (by first | rfl | simp [Act.eval, Act.put]) (by first | rfl | simp [Act.eval, Act.put]) _ _ hrun9 ?_))
                          all_goals
                            go_wp2_with fail
                            go_roundw
                            case rel => exact ⟨k + 1, p9, c9, _, by omega, by go_num, rfl, by rw [List.length_eraseIdx]; split <;> omega, H9⟩
                            case measure => simp [intOf]; omega
                        · have i1 : (k : Int) < (ks.length : Int) := by omega
                          obtain rfl : L' = [] := by cases L' with
                            | nil => rfl
                            | cons _ _ => simp at hl0
                          have i3 : ¬ (0 : Int) < 0 := by omega
                          go_wp2_with fail
                          refine (waiting_tl HT.out (c := 0) rfl).mono ?_
                          rintro e w5 ⟨rfl, rfl⟩
                          go_wp2_with fail
                          refine (waiting_tl HT.out.swap (c := 0) rfl).mono ?_
                          rintro e w5 ⟨rfl, rfl⟩
                          have hB := HT.out.below
                          go_wp2_with fail
                          go_ret
                          exact ⟨rfl, hB⟩
                      · obtain rfl : k = ks.length := by omega
                        have i1 : ¬ (ks.length : Int) < (ks.length : Int) := by omega
                        go_wp2_with fail
                        refine (waiting_tl HT.out (c := (L'.length : Int)) rfl).mono ?_
                        rintro e w5 ⟨rfl, rfl⟩
                        go_wp2_with fail
                        refine (waiting_tl HT.out.swap (c := 0) rfl).mono ?_
                        rintro e w5 ⟨rfl, rfl⟩
                        have hB := HT.out.below
                        go_wp2_with fail
                        go_ret
                        exact ⟨rfl, hB⟩
end Go.Proofs.Ytokbkbfbmgfbiaa
