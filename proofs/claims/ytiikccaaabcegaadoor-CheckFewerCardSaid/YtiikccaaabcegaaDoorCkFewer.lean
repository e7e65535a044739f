/-
  Walks over the laws of package check: without the last saga, the records turned about. Conditions: those in the theorems (the keywords' variable holds what the row lists).
-/
import Derived.Test.YtiikccaaabcegaaDoorCkGreat
import Derived.Test.YtiikccaaabcegaaDoorCkWakes
import Derived.Deep.RegionLaw
set_option linter.unusedSimpArgs false
set_option linter.unusedVariables false
namespace Ck
open Ip
theorem Small.fewer {s : Sch} (h : Small s) : Small (fewer s) :=
  ⟨h.name, by show s.records.reverse.length ≤ 100; rw [List.length_reverse]; exact h.nr, h.ns, by show s.sagas.dropLast.length ≤ 100; rw [List.length_dropLast]; have := h.ng; omega,
    fun r hr => h.r r (List.mem_reverse.1 hr), h.v, fun g hg => h.g g (List.dropLast_subset _ hg)⟩
end Ck
namespace Go.Proofs.YtiikccaaabcegaaDoor
open Go.RowKit
/-- Records of the call's own whose fields lie in an old world. -/
def kRo (u : World) : RowKind Ip.Rcd := ⟨34, 22, 3, 48, #[.string ⟨#[]⟩, .bool false, .slice none 0 0], fun x t => [.string x.name, .bool x.choice, t], fun _ _ t x => RoFld u t x.fields, fun _ => False⟩
theorem okRo (u : World) : (kRo u).Ok := by
  refine ⟨by kernel_rfl, Tryd.underlying22, by show 0 < 3; decide, by show 48 ≤ 100; decide, rfl, fun _ _ => rfl, fun _ _ x t h v hv => ?_, fun _ _ _ _ _ _ h _ _ => h, fun h => h⟩
  simp [kRo] at hv
  rcases hv with rfl | rfl | rfl
  · rfl
  · rfl
  · obtain ⟨p, c, rfl, -⟩ := ro_len (show RoFld u v x.fields from h); rfl
structure FewI (s : Ip.Sch) (p1 : Option Addr) (c1 : Nat) (p2 : Option Addr) (c2 : Nat) (p3 : Option Addr) (c3 : Nat) (w : World) (b base : Nat) (L : List Ip.Rcd) (v : Value) (W : World) : Prop where
  below : Below w.heap.size w W
  one : W.heap[w.heap.size]? = some (schO s p1 c1 p2 c2 p3 c3)
  two : W.heap[b]? = some (.cells #[.string s.name, v, .slice p2 s.services.length c2, .slice p3 s.sagas.length c3] 26 (0, 0))
  row : RowIs (kRo w) W base v L
  lo : w.heap.size < b ∧ b < base ∧ base ≤ W.heap.size
section
variable {s : Ip.Sch} {p1 p2 p3 : Option Addr} {c1 c2 c3 : Nat} {w W : World} {b base : Nat} {L : List Ip.Rcd} {v : Value}
theorem few_push (h : FewI s p1 c1 p2 c2 p3 c3 w b base L v W) {x : Ip.Rcd} {t : Value} (ht : RoFld w t x.fields) (hn : L.length + 1 ≤ 1000000) :
    ∃ pv cv V, (Builtin.append_ #[22, 22] 22 #[v, .slice (some ⟨W.heap.size, 0, none⟩) 1 1]).run Tryd.prog (W.alloc (.cells #[.string x.name, .bool x.choice, t] 34)).drew = .ok (.slice pv (L.length + 1) cv) V ∧
      V.heap[b]? = some (.cells #[.string s.name, v, .slice p2 s.services.length c2, .slice p3 s.sagas.length c3] 26 (0, 0)) ∧
      FewI s p1 c1 p2 c2 p3 c3 w b base (L ++ [x]) (.slice pv (L ++ [x]).length cv) (V.setCell ⟨b, 1, none⟩ (.slice pv (L.length + 1) cv)) := by
  have hb1 : Below W.heap.size W (W.alloc (.cells #[.string x.name, .bool x.choice, t] 34)).drew := (tk_alloc W _).drew
  have hz := h.lo
  obtain ⟨pv, cv, V, hrun, hR, hg⟩ := row_append (okRo w) (h.row.below (okRo w) hb1) x t ht ⟨W.heap.size, 0, none⟩ 1 (fun q u hu => news_lit W _ _ q u hu) hn (Nat.le_trans hz.2.2 hb1.size) 22
  have hlt := h.row.lt
  have hkeep : ∀ k, k < base → V.heap[k]? = W.heap[k]? := fun k hk => (hg.block k (Nat.lt_of_lt_of_le (Nat.lt_of_lt_of_le hk hz.2.2) hb1.size) fun e => by have := (hlt k e).1; omega).trans (hb1.block k (by omega))
  have h2 := (hkeep b hz.2.1).trans h.two
  refine ⟨pv, cv, V, hrun, h2, ?_, ?_, ?_, ?_, hz.1, hz.2.1, ?_⟩
  · exact (hg.below (h.below.trans (hb1.mono h.below.size)) (Nat.le_trans h.below.size hb1.size) fun k hk => by have := (hlt k hk).1; omega).setCell (Nat.le_of_lt hz.1) _
  · exact (Below.heap_setCell _ _ _ _ (by show w.heap.size ≠ b; omega)).trans ((hkeep _ (by omega)).trans h.one)
  · rw [List.length_append]; exact tk_set (i := 1) h2 _
  · rw [List.length_append]; exact row_set (okRo w) hR h2 (by show ¬ ((26 : Nat) = 34 ∨ False); decide) (tn_set V _)
  · rw [World.size_setCell]; exact Nat.le_trans hz.2.2 (Nat.le_trans hb1.size hg.size)
theorem ro_dropLast {α : Type} {K : RowKind α} {inn : α → Prop} {sub : World → Value → α → Prop} {W : World} {p : Option Addr} {c : Nat} {L : List α} (h : RoIs K inn sub W (.slice p L.length c) L) : RoIs K inn sub W (.slice p L.dropLast.length c) L.dropLast := by
  obtain ⟨p', c', e, h1, h2, h3⟩ := h
  cases e
  refine ⟨p, c, rfl, by rw [List.length_dropLast]; omega, h2, fun i hi => ?_⟩
  have hi' : i < L.length := by rw [List.length_dropLast] at hi; omega
  rw [List.getElem_dropLast]
  exact h3 i hi'
theorem few_ro (hrow : RowIs (kRo w) W base v s.records.reverse) (hb : Below w.heap.size w W) (hn : Sm_ s.name) (hin : ∀ x ∈ s.records, RcdIn x) (hs : RoSrv w (.slice p2 s.services.length c2) s.services) (hg : RoSga w (.slice p3 s.sagas.length c3) s.sagas) :
    RoSch W (.agg #[.string s.name, v, .slice p2 s.services.length c2, .slice p3 (s.sagas.length - 1) c3]) (Ck.fewer s) := by
  have hk := Kp.of_below hb
  refine ⟨v, _, _, rfl, hn, ?_, hs.kp hk, ?_⟩
  · exact RowIs.ro' (K := kRo w) (sub := fun W t x => RoFld W t x.fields) (okRo w) (fun t x _ h => RoFld.kp h hk) (fun x hx => hin x (List.mem_reverse.1 hx)) hrow
  · have := ro_dropLast (hg.kp hk)
    rw [List.length_dropLast] at this
    exact this
end
set_option maxRecDepth 100000 in
set_option maxHeartbeats 16000000 in
theorem checkFewer_any {w : World} {sv : Value} {s : Ip.Sch} (h : RoSch w sv s) (hk : KwIs w) : Calls Tryd.prog 3 #[sv] w fun e w' => e = .returned (.bool true) ∧ Below w.heap.size w w' := by
  have hall := h
  obtain ⟨p1, c1, p2, c2, p3, c3, rfl, hsn, hr, hs, hg, l1, l2, l3⟩ := sch_parts h
  obtain ⟨W0, hW0⟩ : ∃ W0, W0 = allocs w [schO s p1 c1 p2 c2 p3 c3] := ⟨_, rfl⟩
  have HX : Hid (∀ W, Below W0.heap.size W0 W → W.heap[w.heap.size]? = some (schO s p1 c1 p2 c2 p3 c3) ∧ Below w.heap.size w W) := Lib.hid (by subst hW0; exact fun W hW => ⟨allocs_box (i := 0) rfl hW, allocs_on hW⟩)
  have HS0 : Hid (W0.heap.size = w.heap.size + 1) := Lib.hid (by rw [hW0, allocs_size]; rfl)
  obtain ⟨b0, B0⟩ := HX.out W0 (Below.refl _ _)
  obtain ⟨x0, x1, x2, x3⟩ := cells4' b0
  have HB0 := Lib.hid B0
  have H := Lib.hid h
  have HK := Lib.hid hk
  have HN := Lib.hid hsn
  have HR := Lib.hid hr
  have HSV := Lib.hid hs
  have HG := Lib.hid hg
  clear h hall hk hr hs hg b0 B0 hsn
  simp only [allocs, schO] at hW0
  go_enter Tryd.func3, Tryd.ntmps3
  go_upto_region 1 with fail
  rw [← hW0]
  clear hW0
  go_wp2_with fail
  clear x0 x1 x2 x3
  refine Calls.mono (Great_any H.out (Kp.of_below HB0.out)) ?_
  rintro e w1 ⟨gb, rfl, hsm, hb1⟩
  have HB1 := Lib.hid hb1
  clear hb1
  cases gb with
  | true =>
    clear hsm
    go_wp2_with fail
    refine Calls.mono (wakes_any _ (kw_kp HK.out (Kp.of_below (HX.out _ HB1.out).2))) ?_
    rintro e w2 ⟨rfl, hb2⟩
    have HB2 := Lib.hid ((HX.out _ HB1.out).2.trans (hb2.mono (HX.out _ HB1.out).2.size))
    clear hb2
    go_wp2_with fail
    go_ret
    exact ⟨rfl, HB2.out⟩
  | false =>
    have HSM := Lib.hid (hsm rfl)
    clear hsm
    obtain ⟨b1, k1⟩ := HX.out _ HB1.out
    obtain ⟨x0, x1, x2, x3⟩ := cells4' b1
    have HK1 := Lib.hid (Kp.of_below k1)
    clear b1 k1
    go_wp2_with fail
    clear x0 x1 x2 x3
    refine Calls.mono (Check_any H.out HK1.out HK.out HSM.out) ?_
    rintro e w2 ⟨rfl, hb2⟩
    have HB2 := Lib.hid (HB1.out.trans (hb2.mono HB1.out.size))
    clear hb2
    have HOK := Lib.hid (Ck.check_ok (s := s))
    generalize Ck.check s = ck at *
    obtain ⟨cw, ce⟩ := ck
    by_cases hce : ce = 0
    · subst hce
      have HOKS := Lib.hid (HOK.out.1 rfl)
      obtain ⟨b1, k1⟩ := HX.out _ HB2.out
      have hw2 : w.heap.size < w2.heap.size := by have := HS0.out; have := HB2.out.size; omega
      obtain ⟨x0, x1, x2, x3⟩ := cells4' b1
      obtain ⟨W4, hW4⟩ : ∃ W4, W4 = w2.alloc (schO s p1 c1 p2 c2 p3 c3) := ⟨_, rfl⟩
      have hb4 : Below w2.heap.size w2 W4 := by rw [hW4]; exact tk_alloc w2 _
      have hs4 : W4.heap.size = w2.heap.size + 1 := by rw [hW4, World.size_alloc]
      have hn4 : W4.heap[w2.heap.size]? = some (schO s p1 c1 p2 c2 p3 c3) := by rw [hW4]; exact heap_alloc_new w2 _
      have f4 := frozen2 hn4 1
      obtain ⟨y0, y1, y2, y3⟩ := cells4' hn4
      have HF : Hid (FewI s p1 c1 p2 c2 p3 c3 w w2.heap.size (w2.heap.size + 1) [] (.slice none 0 0) (W4.setCell ⟨w2.heap.size, 1, none⟩ (.slice none 0 0))) := Lib.hid
        ⟨(k1.trans (hb4.mono k1.size)).setCell (Nat.le_of_lt hw2) _, (Below.heap_setCell _ _ _ _ (by show w.heap.size ≠ w2.heap.size; omega)).trans ((hb4.block _ hw2).trans b1), tk_set (i := 1) hn4 _, RowIs.nil _ _ _, hw2, by omega, by rw [World.size_setCell]; omega⟩
      clear b1 k1 hb4 hs4 hn4 HOK
      unfold schO at hW4
      go_upto_region 7 with fail
      rw [← hW4]
      clear hW4 x0 x1 x2 x3
      go_upto_region 8 with fail
      generalize W4.setCell ⟨w2.heap.size, 1, none⟩ (.slice none 0 0) = W5 at *
      clear y0 y1 y2 y3 f4
      have hnr : s.records.length ≤ 100 := HSM.out.nr
      obtain ⟨x0, x1, x2, x3⟩ := cells4' HF.out.one
      go_wp2_with fail
      clear x0 x1 x2 x3
      go_loopw [6] (fun iv wr => ∃ (m : Nat) (L : List Ip.Rcd) (pv : Option Addr) (cv : Nat), m ≤ s.records.length ∧ iv = .int .i64 ((m : Int) - 1) ∧ Hid (L = (s.records.drop m).reverse) ∧ Hid (FewI s p1 c1 p2 c2 p3 c3 w w2.heap.size (w2.heap.size + 1) L (.slice pv L.length cv) wr)) (fun iv _ => (intOf iv + 1).toNat)
      case atStart => exact ⟨s.records.length, [], none, 0, Nat.le_refl _, by first | rfl | go_num, Lib.hid (by simp), HF⟩
      case round =>
        obtain ⟨m, L, pv, cv, hm, rfl, HL, HF⟩ := hrel
        cases m with
        | zero =>
          rw [show ((0 : Nat) : Int) - 1 = -1 from rfl]
          rw [List.drop_zero] at HL
          obtain ⟨_, _, e3, hlc, hcm⟩ := HG.out.shape
          cases e3
          unfold maxLen at hcm
          have HC := Lib.hid (cells4' HF.out.two)
          obtain ⟨y0, y1, y2, y3⟩ := HC.out
          have hQ : ∀ W v, RoSch W v (Ck.fewer s) → Below w.heap.size w W → Calls Tryd.prog 6 #[v] W fun e w' => e = .returned (.tuple #[.string ⟨#[]⟩, .int .i64 ((0 : Nat) : Int)]) ∧ Below W.heap.size W w' := fun W v h hb => by
            have q := Check_any h (Kp.refl W) (kw_kp HK.out (Kp.of_below hb)) HSM.out.fewer
            unfold Checked at q
            rw [Ck.check_none HOKS.out.fewer] at q
            exact q
          have hrow : RowIs (kRo w) wr (w2.heap.size + 1) (.slice pv L.length cv) s.records.reverse := by rw [← HL.out]; exact HF.out.row
          by_cases hg0 : 0 < s.sagas.length
          · have j1 : (0 : Int) < (s.sagas.length : Int) := by omega
            have j2 : (0 : Int) ≤ (s.sagas.length : Int) - 1 := by omega
            have j3 : (s.sagas.length : Int) - 1 ≤ (c3 : Int) := by omega
            have f3 := frozen2 HF.out.two 3
            have HB6 : Hid (Below w.heap.size w (wr.setCell ⟨w2.heap.size, 3, none⟩ (.slice p3 (s.sagas.length - 1) c3))) := Lib.hid (HF.out.below.setCell (Nat.le_of_lt hw2) _)
            have HY6 : Hid ((wr.setCell ⟨w2.heap.size, 3, none⟩ (.slice p3 (s.sagas.length - 1) c3)).heap[w2.heap.size]? = some (.cells #[.string s.name, .slice pv L.length cv, .slice p2 s.services.length c2, .slice p3 (s.sagas.length - 1) c3] 26 (0, 0))) := Lib.hid (tk_set (i := 3) HF.out.two _)
            have HQ6 := Lib.hid (hQ (wr.setCell ⟨w2.heap.size, 3, none⟩ (.slice p3 (s.sagas.length - 1) c3)) _ (few_ro (row_set (okRo w) hrow HF.out.two (by show ¬ ((26 : Nat) = 34 ∨ False); decide) (tn_set (i := 3) wr (.slice p3 (s.sagas.length - 1) c3))) HB6.out HN.out HR.out.ok HSV.out HG.out) HB6.out)
            clear hQ hrow
            go_upto_region 14 with fail
            generalize (wr.setCell ⟨w2.heap.size, 3, none⟩ (.slice p3 (s.sagas.length - 1) c3)) = W6 at *
            clear y0 y1 y2 y3
            obtain ⟨y0, y1, y2, y3⟩ := cells4' HY6.out
            go_wp2_with fail
            clear y0 y1 y2 y3
            refine Calls.mono HQ6.out ?_
            rintro e w7 ⟨rfl, hb7⟩
            have HB7 := Lib.hid (HB6.out.trans (hb7.mono HB6.out.size))
            clear hb7
            go_wp2_with fail
            refine Calls.mono (wakes_any _ (kw_kp HK.out (Kp.of_below HB7.out))) ?_
            rintro e w8 ⟨rfl, hb8⟩
            have HB8 := Lib.hid (HB7.out.trans (hb8.mono HB7.out.size))
            clear hb8
            go_wp2_with fail
            go_ret
            exact ⟨rfl, HB8.out⟩
          · have j1 : ¬ (0 : Int) < (s.sagas.length : Int) := by omega
            have hz : s.sagas.length - 1 = s.sagas.length := by omega
            have HB6 : Hid (Below w.heap.size w wr) := Lib.hid HF.out.below
            have HY6 := Lib.hid HF.out.two
            have HQ6 := Lib.hid (hQ wr _ (few_ro hrow HB6.out HN.out HR.out.ok HSV.out HG.out) HB6.out)
            rw [hz] at HQ6
            clear hQ hrow
            go_upto_region 14 with fail
            generalize wr = W6 at *
            clear y0 y1 y2 y3
            obtain ⟨y0, y1, y2, y3⟩ := cells4' HY6.out
            go_wp2_with fail
            clear y0 y1 y2 y3
            refine Calls.mono HQ6.out ?_
            rintro e w7 ⟨rfl, hb7⟩
            have HB7 := Lib.hid (HB6.out.trans (hb7.mono HB6.out.size))
            clear hb7
            go_wp2_with fail
            refine Calls.mono (wakes_any _ (kw_kp HK.out (Kp.of_below HB7.out))) ?_
            rintro e w8 ⟨rfl, hb8⟩
            have HB8 := Lib.hid (HB7.out.trans (hb8.mono HB7.out.size))
            clear hb8
            go_wp2_with fail
            go_ret
            exact ⟨rfl, HB8.out⟩
        | succ j =>
          have hi : j < s.records.length := hm
          rw [show ((j + 1 : Nat) : Int) - 1 = (j : Int) by omega]
          have i1 : (j : Int) < (s.records.length : Int) := by omega
          have i2 : (0 : Int) ≤ (j : Int) := by omega
          obtain ⟨A, cc, q, kq, e1, hA, d0, d1, d2, hin, hfl⟩ := rcd_at2 HR.out (Kp.of_below HF.out.below) hi
          cases e1
          have hll : L.length + 1 ≤ 1000000 := by rw [HL.out, List.length_reverse, List.length_drop]; omega
          have HL2 : Hid (L ++ [s.records[j]] = (s.records.drop j).reverse) := Lib.hid (by rw [HL.out, List.drop_eq_getElem_cons hi, List.reverse_cons])
          obtain ⟨pv', cv', V, hrun, hv, hF⟩ := few_push HF.out hfl hll
          have HF2 := Lib.hid hF
          obtain ⟨x0, x1, x2, x3⟩ := cells4' HF.out.one
          obtain ⟨y0, y1, y2, y3⟩ := cells4' HF.out.two
          have y4 := fun o => ((tk_alloc wr o).cell (p := ⟨w2.heap.size, 1, none⟩) (Array.getElem?_eq_some_iff.1 HF.out.two).1).trans y1
          obtain ⟨v0, v1, v2, v3⟩ := cells4' hv
          have vf := frozen2 hv 1
          generalize s.records[j] = x at *
          clear hF hv hin hfl hA
          go_upto_region 11 with fail
          go_region_law (refine step_append_run rfl (.tmp 31) (.tmp 37) 22 22 rfl _ _ (by first | rfl | simp [Act.eval, Act.put]) (by first | rfl | simp [Act.eval, Act.put]) _ _ hrun ?_)
          all_goals
            go_wp2_with fail
            go_roundw
            case rel => exact ⟨j, L ++ [x], pv', cv', by omega, by first | rfl | go_num, HL2, HF2⟩
            case measure => simp [intOf]
    · have j1 : (((ce : Nat) : Int) != 0) = true := by rw [bne_iff_ne]; omega
      go_wp2_with fail
      refine Calls.mono (wakes_any _ (kw_kp HK.out (Kp.of_below (HX.out _ HB2.out).2))) ?_
      rintro e w3 ⟨rfl, hb3⟩
      have HB3 := Lib.hid ((HX.out _ HB2.out).2.trans (hb3.mono (HX.out _ HB2.out).2.size))
      clear hb3
      go_wp2_with fail
      go_ret
      exact ⟨rfl, HB3.out⟩
end Go.Proofs.YtiikccaaabcegaaDoor
