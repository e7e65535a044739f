/-
  Walks over the laws of package net: NetRow. No condition.
-/
import Derived.Test.YtcfhfamdcdkgjaaNetList
import Derived.Test.YtcfhfamdcdkgjaaNetRowMath
namespace Go.Proofs.Ytcfhfamdcdkgjaa
open Go.RowKit Go.Maps

theorem cells_at {w : World} {g cap : Nat} {l : List Nm.Pk} (h : w.ownsRow 0 23 3 (.slice (some ⟨g, 0, none⟩) l.length cap) l.length (rowCells l)) {i : Nat} (hi : i < l.length) :
    w.cell? ⟨g, i * 3, none⟩ = some (.int .i64 l[i].f) ∧ w.cell? ⟨g, i * 3 + 1, none⟩ = some (.int .i64 l[i].t) ∧ w.cell? ⟨g, i * 3 + 2, none⟩ = some (.string l[i].d) := by
  obtain ⟨g', cap', e, h1⟩ := cells_row h hi
  cases e
  exact h1
theorem pk_eq_lit (f t : Int) (d : ByteArray) (w : World) : (Op.equalIn 10000 23 (.agg #[.int .i64 f, .int .i64 t, .string d]) (.agg #[.int .i64 f, .int .i64 t, .string d])).run Try.prog w = .ok true w := by
  have h := pk_eq ⟨f, t, d⟩ ⟨f, t, d⟩ w
  rw [Nm.same_self] at h; exact h

set_option maxRecDepth 100000 in
set_option maxHeartbeats 16000000 in
theorem netRow_any (p : Option Addr) (cap : Nat) (xs : List Nm.Pk) (last : Bool) (w : World) (hxs : Pks w p xs) :
    Calls Try.prog 8 #[.slice p xs.length cap, .bool last] w fun e w' => e = .returned (.bool true) ∧ Below w.heap.size w w' := by
  have HX := Lib.hid hxs
  clear hxs
  have hg := pkGuard
  go_enter Try.func8, Try.ntmps8
  go_wp2_with fail
  refine (netAwake_any _).mono ?_
  rintro e w1 ⟨rfl, hb1⟩
  have HB1 := Lib.hid hb1
  clear hb1
  go_wp2_with fail
  go_loopw [5, 6] (fun nv iv wr => ∃ k s : Nat, k ≤ xs.length ∧ k ≤ 301 ∧ iv = .int .i64 (k : Nat) ∧ nv = .int .i64 (s : Nat) ∧ Hid (Below w.heap.size w wr ∧ s ≤ k * 60001)) (fun _ iv _ => 301 - (intOf iv).toNat)
  case atStart => exact ⟨0, 0, Nat.zero_le _, Nat.zero_le _, rfl, rfl, Lib.hid ⟨HB1.out, Nat.zero_le _⟩⟩
  case round =>
    obtain ⟨k, s, hk, hk3, rfl, rfl, HB⟩ := hrel
    have hs60 := HB.out.2
    by_cases hlt : k < xs.length
    · have i1 : (k : Int) < (xs.length : Int) := by omega
      have i2 : (0 : Int) ≤ (k : Int) := by omega
      by_cases hle : k ≤ 300
      · have i3 : (k : Int) ≤ 300 := by omega
        obtain ⟨A, rfl, c0, c1, c2, hok⟩ := HX.out.at HB.out.1 hlt
        have hd := hok.d
        clear hok c0 c1
        generalize xs[k] = x at *
        go_wp2_with fail
        go_roundw
        case rel => exact ⟨k + 1, s + min x.d.size 60001, by omega, by omega, rfl, by congr 1; omega, Lib.hid ⟨HB.out.1, by omega⟩⟩
        case measure => simp [intOf]; omega
      · obtain rfl : k = 301 := by omega
        have i4 : decide ((xs.length : Int) ≤ 300) = false := decide_eq_false (by omega)
        have i5 : decide ((300 : Int) < (xs.length : Int)) = true := decide_eq_true (by omega)
        have hb := HB.out.1
        go_wp2
        go_ret
        exact ⟨rfl, hb⟩
    · obtain rfl : k = xs.length := by omega
      have i1 : ¬ (xs.length : Int) < (xs.length : Int) := by omega
      have hb := HB.out.1
      by_cases h3 : 300 < xs.length
      · have i5 : decide ((300 : Int) < (xs.length : Int)) = true := decide_eq_true (by omega)
        go_wp2
        go_ret
        exact ⟨rfl, hb⟩
      · have i5 : decide ((300 : Int) < (xs.length : Int)) = false := decide_eq_false (by omega)
        by_cases hs : 60000 < s
        · have i6 : decide ((60000 : Int) < (s : Int)) = true := decide_eq_true (by omega)
          go_wp2
          go_ret
          exact ⟨rfl, hb⟩
        · have i6 : decide ((60000 : Int) < (s : Int)) = false := decide_eq_false (by omega)
          clear hs hs60 hk hk3 hlt hb
          go_wp2_with fail
          refine (new_in (B := []) HB.out.1 (fun _ h => nomatch h)).mono ?_
          rintro e w2 ⟨a, rfl, h2⟩
          have H2 := Lib.hid h2.list
          clear h2 HB i5 i6
          go_wp2_with fail
          go_loopw [8, 9] (fun sv iv wr => ∃ (k : Nat) (pv : Option Addr) (cv : Nat), k ≤ xs.length ∧ iv = .int .i64 (k : Nat) ∧ sv = .slice pv (Nm.fits (xs.take k)).length cv ∧ Hid (InL w wr a (Nm.nets (Nm.fits (xs.take k))) (.slice pv (Nm.fits (xs.take k)).length cv) (Nm.fits (xs.take k)))) (fun _ iv _ => xs.length - (intOf iv).toNat)
          case atStart => exact ⟨0, none, 0, Nat.zero_le _, rfl, rfl, H2⟩
          case round =>
            obtain ⟨k, pv, cv, hk, rfl, rfl, HL⟩ := hrel
            by_cases hlt : k < xs.length
            · have i1 : (k : Int) < (xs.length : Int) := by omega
              have i2 : (0 : Int) ≤ (k : Int) := by omega
              obtain ⟨A, rfl, c0, c1, c2, hok⟩ := HX.out.at HL.out.below hlt
              have hfl := Nm.fits_len (xs.take k)
              have hfl2 : (xs.take k).length ≤ k := List.length_take_le _ _
              have HOK := Lib.hid hok
              have HCE := Lib.hid (fun W hW => HX.out.cells (W := W) hW hlt)
              have hd := hok.d
              unfold maxLen at hd
              clear hok
              by_cases hfit : xs[k].d.size ≤ 8192
              · have HS := Lib.hid (Nm.nets_send (l := Nm.fits (xs.take k)) (p := xs[k]) hfit (by omega))
                have HE := Lib.hid (Nm.fits_yes hlt hfit)
                have d1 : decide ((xs[k].d.size : Int) ≤ 8192) = true := decide_eq_true (by omega)
                generalize xs[k] = x at *
                generalize Nm.fits (xs.take k) = L at *
                have hL : L.length < 1000000 := by omega
                clear hfl hfl2 hfit
                obtain ⟨f, t, d⟩ := x
                simp only at c0 c1 c2 d1 hd
                go_wp2_with fail
                refine (send_l HL.out f t d HOK.out.f HOK.out.t HOK.out.d HS.out).mono ?_
                rintro e w5 ⟨rfl, h5⟩
                clear c0 c1 c2
                obtain ⟨c0, c1, c2⟩ := HCE.out _ h5.below
                obtain ⟨pv', cv', nl, w6, hrun, hnl, h6⟩ := append_l h5 ⟨f, t, d⟩ hL 43
                have HN := Lib.hid (And.intro hnl h6)
                simp only at hrun
                clear h5 hnl h6
                go_wp2_with (at_builtin; refine Lib.wpList_append_run _ rfl (.tmp 69) (.tmp 74) _ _ rfl _ _ rfl rfl _ _ hrun ?_)
                go_roundw
                case rel =>
                  refine ⟨k + 1, pv', cv', by omega, rfl, ?_, ?_⟩
                  · rw [HE.out, HN.out.1]
                  · rw [HE.out]; have h7 := HN.out.2; rw [HN.out.1] at h7; exact Lib.hid h7
                case measure => simp [intOf]; omega
              · have HS := Lib.hid (Nm.nets_long (l := Nm.fits (xs.take k)) (p := xs[k]) (by omega))
                have HE := Lib.hid (Nm.fits_no hlt hfit)
                have d1 : decide ((xs[k].d.size : Int) ≤ 8192) = false := decide_eq_false (by omega)
                generalize xs[k] = x at *
                generalize Nm.fits (xs.take k) = L at *
                clear hfl hfl2 hfit
                obtain ⟨f, t, d⟩ := x
                simp only at c0 c1 c2 d1 hd
                go_wp2_with fail
                refine (send_l HL.out f t d HOK.out.f HOK.out.t HOK.out.d HS.out).mono ?_
                rintro e w5 ⟨rfl, h5⟩
                clear c0 c1 c2
                obtain ⟨c0, c1, c2⟩ := HCE.out _ h5.below
                have HN := Lib.hid h5
                clear h5
                go_wp2_with fail
                go_roundw
                case rel =>
                  refine ⟨k + 1, pv, cv, by omega, rfl, ?_, ?_⟩
                  · rw [HE.out]
                  · rw [HE.out]; exact HN
                case measure => simp [intOf]; omega
            · obtain rfl : k = xs.length := by omega
              have i1 : ¬ (xs.length : Int) < (xs.length : Int) := by omega
              rw [List.take_length] at HL ⊢
              have hln : (Nm.fits xs).length ≤ 300 := by have := Nm.fits_len xs; omega
              generalize Nm.fits xs = L at *
              clear hk h3 hlt HX
              have hn3 : (L.length : Int) ≤ 300 := by omega
              obtain ⟨p1, cap1, e1, hcap1, -⟩ := HL.out.shape
              cases e1
              go_wp2_with fail
              go_loopw [11] (fun iv wr => ∃ k : Nat, k ≤ L.length ∧ iv = .int .i64 (k : Nat) ∧ Hid (InL w wr a (Nm.nets (if last then L.take (L.length - k) else L.drop k)) (.slice pv L.length cv) L)) (fun iv _ => L.length - (intOf iv).toNat)
              case atStart => exact ⟨0, Nat.zero_le _, rfl, by cases last <;> simpa using HL⟩
              case round =>
                obtain ⟨k, hk, rfl, HK⟩ := hrel
                by_cases hlt : k < L.length
                · have i1 : (k : Int) < (L.length : Int) := by omega
                  have i2 : (0 : Int) ≤ (k : Int) := by omega
                  have w1 : IntKind.i64.wrap ((L.length : Int) - 1) = (L.length : Int) - 1 := IntWalk.i64_in _ (by omega)
                  have w2 : IntKind.i64.wrap ((L.length : Int) - 1 - (k : Int)) = (L.length : Int) - 1 - (k : Int) := IntWalk.i64_in _ (by omega)
                  cases last with
                  | false =>
                    simp only [Bool.false_eq_true, if_false] at HK
                    obtain ⟨g, cg, eg, -, -, -⟩ := cells_row HK.out.row hlt
                    cases eg
                    have HC := Lib.hid (Nm.nets_first hlt)
                    have HCE := Lib.hid (fun (W : World) (h : W.ownsRow 0 23 3 (.slice (some ⟨g, 0, none⟩) L.length cv) L.length (rowCells L)) => cells_at h hlt)
                    have HLN := Lib.hid (show ((Nm.nets (L.drop (k + 1))).row.length : Int) = (L.length : Int) - 1 - (k : Int) from by show ((L.drop (k + 1)).length : Int) = _; rw [List.length_drop]; omega)
                    generalize L[k] = x at *
                    obtain ⟨f, t, d⟩ := x
                    have hee := pk_eq_lit f t d
                    go_wp2_with fail
                    refine (come_l HK.out 0 ⟨by decide, by decide⟩ HC.out).mono ?_
                    rintro e w5 ⟨rfl, h5⟩
                    have h6 := h5.alloc (.cells #[.int .i64 f, .int .i64 t, .string d] 23)
                    obtain ⟨g0, g1, g2⟩ := HCE.out _ h6.row
                    have H6 := Lib.hid h6
                    clear h5 h6
                    go_wp2_with fail
                    go_quiet ((go_at_call 14; exact Calls.quiet_of_same ((waiting_l (H6.out.drewN _) HLN.out).mono fun _ _ ⟨q1, q2⟩ => ⟨q1, q2.symm⟩)))
                    go_wp2_with fail
                    go_roundw
                    case rel => exact ⟨k + 1, by omega, by go_num, Lib.hid (by simpa using H6.out.drewN _)⟩
                    case measure => simp [intOf]; omega
                  | true =>
                    simp only [if_true] at HK
                    have hlt' : L.length - 1 - k < L.length := by omega
                    obtain ⟨g, cg, eg, -, -, -⟩ := cells_row HK.out.row hlt
                    cases eg
                    have HC := Lib.hid (Nm.nets_last hlt)
                    have HCE := Lib.hid (fun (W : World) (h : W.ownsRow 0 23 3 (.slice (some ⟨g, 0, none⟩) L.length cv) L.length (rowCells L)) => cells_at h hlt')
                    have HLN := Lib.hid (show ((Nm.nets (L.take (L.length - (k + 1)))).row.length : Int) = (L.length : Int) - 1 - (k : Int) from by show ((L.take (L.length - (k + 1))).length : Int) = _; rw [List.length_take]; omega)
                    have j0 : (0 : Int) ≤ (L.length : Int) - 1 - (k : Int) := by omega
                    have j1 : (L.length : Int) - 1 - (k : Int) < (L.length : Int) := by omega
                    have j2 : ((L.length : Int) - 1 - (k : Int)).toNat = L.length - 1 - k := by omega
                    generalize L[L.length - 1 - k] = x at *
                    obtain ⟨f, t, d⟩ := x
                    have hee := pk_eq_lit f t d
                    go_wp2_with fail
                    refine (come_l HK.out (-1) ⟨by decide, by decide⟩ HC.out).mono ?_
                    rintro e w5 ⟨rfl, h5⟩
                    have h6 := h5.alloc (.cells #[.int .i64 f, .int .i64 t, .string d] 23)
                    obtain ⟨g0, g1, g2⟩ := HCE.out _ h6.row
                    have H6 := Lib.hid h6
                    clear h5 h6
                    go_wp2_with fail
                    go_quiet ((go_at_call 14; exact Calls.quiet_of_same ((waiting_l (H6.out.drewN _) HLN.out).mono fun _ _ ⟨q1, q2⟩ => ⟨q1, q2.symm⟩)))
                    go_wp2_with fail
                    go_roundw
                    case rel => exact ⟨k + 1, by omega, by go_num, Lib.hid (by simpa using H6.out.drewN _)⟩
                    case measure => simp [intOf]; omega
                · obtain rfl : k = L.length := by omega
                  have i0 : ¬ (L.length : Int) < (L.length : Int) := by omega
                  have e0 : (if last then L.take (L.length - L.length) else L.drop L.length) = [] := by cases last <;> simp
                  rw [e0] at HK
                  clear e0
                  go_wp2_with fail
                  refine (come_l HK.out 0 ⟨by decide, by decide⟩ Nm.nets_none.1).mono ?_
                  rintro e w5 ⟨rfl, h5⟩
                  have h6 := h5.alloc (.cells #[.int .i64 0, .int .i64 0, .string ⟨#[]⟩] 23)
                  clear h5
                  go_wp2_with fail
                  refine (lose_l h6 0 ⟨by decide, by decide⟩ Nm.nets_none.2.1).mono ?_
                  rintro e w7 ⟨rfl, h7⟩
                  clear h6
                  go_wp2_with fail
                  refine (dup_l h7 0 ⟨by decide, by decide⟩ Nm.nets_none.2.2).mono ?_
                  rintro e w8 ⟨rfl, h8⟩
                  have hB := h8.below
                  clear h7 h8
                  go_wp2_with fail
                  go_ret
                  exact ⟨rfl, hB⟩
end Go.Proofs.Ytcfhfamdcdkgjaa
