/-
  Walks over package value: open: the parts of a part are waited for. Conditions: those in the theorems.
-/
import Derived.Test.YtnkdhmoocomjfaaGreatDoorVaIs
import Derived.Test.YtnkdhmoocomjfaaGreatDoorVaWalk
import Derived.StillTailTactics
import Derived.Deep.RegionHeldLaw
set_option linter.unusedSimpArgs false
set_option linter.unusedVariables false
namespace Vl
open Ip
def RowsOk (R : List Rw) : Prop := ∀ r ∈ R, 1 ≤ r.times ∧ r.times ≤ 9223372036854775807
theorem RowsOk.snoc {R : List Rw} (h : RowsOk R) {r : Rw} (h1 : 1 ≤ r.times) (h2 : r.times ≤ 9223372036854775807) : RowsOk (R ++ [r]) := fun x hx => by
  rcases List.mem_append.1 hx with hx | hx
  · exact h x hx
  · rw [List.mem_singleton.1 hx]; exact ⟨h1, h2⟩
theorem whole_some {q : Rcd} {n : Nd} {ks : List (List So)} (h : wholeOf q n = some ks) : (n.kind = 7 ∧ ks = q.fields.map (·.type)) ∨ (n.kind = 8 ∧ 0 ≤ n.int ∧ ∃ f, q.fields[n.int.toNat]? = some f ∧ ks = [f.type]) := by
  unfold wholeOf at h
  by_cases hc : q.choice = true
  · rw [if_pos hc] at h
    by_cases hp : n.kind = 8 ∧ n.kids = 1 ∧ 0 ≤ n.int
    · rw [if_pos hp] at h
      cases hg : q.fields[n.int.toNat]? with
      | none => rw [hg] at h; cases h
      | some f => rw [hg] at h; cases h; exact .inr ⟨hp.1, hp.2.2, f, rfl, rfl⟩
    · rw [if_neg hp] at h; cases h
  · rw [if_neg hc] at h
    by_cases hp : n.kind = 7 ∧ n.int = 0 ∧ n.kids = (q.fields.length : Int)
    · rw [if_pos hp] at h; cases h; exact .inl ⟨hp.1, rfl⟩
    · rw [if_neg hp] at h; cases h
theorem kids_some {s : Sch} {x : So} {l : List So} {n : Nd} {ks : List (List So)} (h : kidsOf s (x :: l) n = some ks) :
    (n.kind ≤ 4 ∧ ks = []) ∨ ((n.kind = 5 ∨ n.kind = 6) ∧ 0 ≤ n.kids ∧ ks = List.replicate n.kids.toNat l ∧ (x.kind = 5 ∨ x.kind = 6)) ∨ (∃ q, Ck.find s x.name = some q ∧ n.kind = 7 ∧ ks = q.fields.map (·.type)) ∨ (∃ q f, Ck.find s x.name = some q ∧ n.kind = 8 ∧ 0 ≤ n.int ∧ q.fields[n.int.toNat]? = some f ∧ ks = [f.type]) := by
  rw [kidsOf_cons] at h
  by_cases h4 : x.kind ≤ 4
  · rw [if_pos h4] at h
    by_cases hp : plain x.kind n = true
    · rw [if_pos hp] at h
      cases h
      unfold plain at hp
      simp only [Bool.and_eq_true, decide_eq_true_eq] at hp
      exact .inl ⟨by rw [hp.1.1.1]; exact h4, rfl⟩
    · rw [if_neg hp] at h; cases h
  · rw [if_neg h4] at h
    by_cases he : Ck.empty n.text = false
    · rw [if_pos he] at h; cases h
    · rw [if_neg he] at h
      by_cases h5 : x.kind = 5 ∨ x.kind = 6
      · rw [if_pos h5] at h
        by_cases hp : wraps x.kind n = true
        · rw [if_pos hp] at h
          cases h
          unfold wraps at hp
          simp only [Bool.and_eq_true, decide_eq_true_eq] at hp
          exact .inr (.inl ⟨by rw [hp.1.1.1]; exact h5, hp.1.2, rfl, h5⟩)
        · rw [if_neg hp] at h; cases h
      · rw [if_neg h5] at h
        cases hf : Ck.find s x.name with
        | none => rw [hf] at h; cases h
        | some q =>
          rw [hf] at h
          rcases whole_some (show wholeOf q n = some ks from h) with ⟨h1, h2⟩ | ⟨h1, h2, f, h3, h4⟩
          · exact .inr (.inr (.inl ⟨q, rfl, h1, h2⟩))
          · exact .inr (.inr (.inr ⟨q, f, rfl, h1, h2, h3, h4⟩))
end Vl
namespace Go.Proofs.YtnkdhmoocomjfaaGreatDoor
open Go.RowKit
/-- What open leaves. -/
def Opened (u w : World) (fv : Value) (R : List Vl.Rw) (d z : Nat) (ks : List (List Ip.So)) (dp : Nat) (e : Ending) (w' : World) : Prop :=
  e = .returned (.tuple #[]) ∧ ∃ rv' R', WalkR u w w' fv rv' R' d z ∧ Vl.comes R' = ks.map (fun t => (t, dp)) ++ Vl.comes R ∧ Vl.RowsOk R' ∧ R'.length ≤ R.length + 40
section
variable {u w W : World} {fv rv tv : Value} {R : List Vl.Rw} {d z : Nat} {s : Ip.Sch} {x : Ip.So} {l : List Ip.So}
set_option maxRecDepth 100000 in
set_option maxHeartbeats 4000000 in
theorem open_plain (h : WalkR u w W fv rv R d z) (hR : Vl.RowsOk R) (n : Vl.Nd) (hn : n.kind ≤ 4) (dp : Nat) : Calls Tryz.prog 160 #[.pointer (some ⟨w.heap.size, 0, none⟩), ndV n, tv, .int .i64 (dp : Nat)] W (Opened u w fv R d z [] dp) := by
  obtain ⟨W0, hW0⟩ : ∃ W0, W0 = allocs W [ndO n] := ⟨_, rfl⟩
  have hB0 : Below W.heap.size W W0 := by rw [hW0]; exact allocs_below _ _
  obtain ⟨y0, y1, y2, y3⟩ := cells4' (show W0.heap[W.heap.size]? = some (ndO n) by rw [hW0]; exact allocs_at _ W 0 _ rfl)
  have H := Lib.hid (h.below hB0)
  have e5 : ((n.kind : Int) == 5) = false := by rw [beq_eq_false_iff_ne]; omega
  have e6 : ((n.kind : Int) == 6) = false := by rw [beq_eq_false_iff_ne]; omega
  have e7 : ((n.kind : Int) == 7) = false := by rw [beq_eq_false_iff_ne]; omega
  have e8 : ((n.kind : Int) == 8) = false := by rw [beq_eq_false_iff_ne]; omega
  have HR := Lib.hid hR
  clear h hn hB0 hR
  simp only [allocs, ndO] at hW0
  unfold ndV
  go_enter Tryz.func160, Tryz.ntmps160
  go_upto_region 1 with fail
  rw [← hW0]
  clear hW0
  go_wp2_with fail
  refine bodyPost_end (results_none rfl _ _ _) rfl ?_
  exact ⟨rfl, _, _, H.out, rfl, HR.out, by omega⟩
theorem opened_list {W : World} {q dp : Nat} (h : WalkR u w W fv rv (if 0 < q then R ++ [⟨l, q, dp⟩] else R) d z) (hR : Vl.RowsOk R) (hq : (q : Int) ≤ 9223372036854775807) : Opened u w fv R d z (List.replicate q l) dp (.returned (.tuple #[])) W := by
  by_cases h0 : 0 < q
  · rw [if_pos h0] at h
    exact ⟨rfl, _, _, h, by rw [Vl.comes_snoc, List.map_replicate], hR.snoc h0 (by show q ≤ _; omega), by rw [List.length_append]; simp⟩
  · rw [if_neg h0] at h
    obtain rfl : q = 0 := by omega
    exact ⟨rfl, _, _, h, rfl, hR, by omega⟩
set_option maxRecDepth 100000 in
set_option maxHeartbeats 4000000 in
theorem open_list (h : WalkR u w W fv rv R d z) (hR : Vl.RowsOk R) (hRl : R.length ≤ 800000) (ht : RoSo u tv (x :: l)) (hl : l ≠ []) (n : Vl.Nd) (hn : n.kind = 5 ∨ n.kind = 6) (hk : 0 ≤ n.kids) (hkm : n.kids ≤ 9223372036854775807) (dp : Nat) : Calls Tryz.prog 160 #[.pointer (some ⟨w.heap.size, 0, none⟩), ndV n, tv, .int .i64 (dp : Nat)] W (Opened u w fv R d z (List.replicate n.kids.toNat l) dp) := by
  obtain ⟨p, c, rfl, hc1, hc2⟩ := RoIs.shape ht
  obtain ⟨A, cc, e3, hA, -, -, -⟩ := so_at (i := 0) ht (by simp)
  obtain ⟨rfl, -, rfl⟩ := Value.slice.inj e3
  have hll : 1 ≤ l.length := by cases l with
    | nil => exact absurd rfl hl
    | cons a b => simp
  have hct : 2 ≤ c := by rw [List.length_cons] at hc1; omega
  have htl := RoIs.drop (K := kSo) ht (i := 1) (by rw [List.length_cons]; omega)
  rw [List.length_cons] at htl
  obtain ⟨nk, ni, nx, nd⟩ := n
  simp only at hn hk hkm ⊢
  obtain ⟨q, rfl⟩ := Int.eq_ofNat_of_zero_le hk
  obtain ⟨W0, hW0⟩ : ∃ W0, W0 = allocs W [ndO ⟨nk, ni, nx, q⟩] := ⟨_, rfl⟩
  have hB0 : Below W.heap.size W W0 := by rw [hW0]; exact allocs_below _ _
  obtain ⟨y0, y1, y2, y3⟩ := cells4' (show W0.heap[W.heap.size]? = some (ndO ⟨nk, ni, nx, q⟩) by rw [hW0]; exact allocs_at _ W 0 _ rfl)
  have H := Lib.hid (h.below hB0)
  have HR := Lib.hid hR
  have HTL : Hid (RoSo u (.slice (some (A.add (1 * 2))) (l.length + 1 - 1) (c - 1)) l) := Lib.hid htl
  have hc2' : c ≤ 9223372036854775807 := by unfold maxLen at hc2; omega
  have hlc : l.length + 1 ≤ c := by rw [List.length_cons] at hc1; exact hc1
  have i1 : (1 : Int) ≤ (l.length : Int) + 1 := by omega
  have i2 : (l.length : Int) + 1 ≤ (c : Int) := by omega
  have hc1n : c ≠ 1 := by omega
  simp only at y0 y1 y2 y3
  clear h hR hB0 ht htl hc1 hc2 hA hl
  simp only [allocs, ndO] at hW0
  unfold ndV
  rw [show (q : Int).toNat = q by omega]
  by_cases h5 : nk = 5
  · have e5 : ((nk : Int) == 5) = true := by rw [beq_iff_eq]; omega
    clear hn h5
    go_enter Tryz.func160, Tryz.ntmps160
    go_upto_region 1 with fail
    rw [← hW0]
    clear hW0
    go_wp2_with fail
    go_still_tail 6, (by kernel_rfl)
    change wpList _ _ _ _ _ W0.drew
    have HD := Lib.hid (H.out.below (Below.refl _ _).drew)
    generalize W0.drew = w5 at *
    clear y0 y1 y2 y3
    go_wp2_with fail
    refine Calls.mono (wait_any HD.out HTL.out q dp (by omega)) ?_
    rintro e w6 ⟨rfl, -, rv6, h6⟩
    have HO := Lib.hid (opened_list h6 HR.out hkm)
    clear h6
    go_wp2_with fail
    refine bodyPost_end (results_none rfl _ _ _) rfl ?_
    exact HO.out
  · have e5 : ((nk : Int) == 5) = false := by rw [beq_eq_false_iff_ne]; omega
    have e6 : ((nk : Int) == 6) = true := by rw [beq_iff_eq]; omega
    clear hn h5
    go_enter Tryz.func160, Tryz.ntmps160
    go_upto_region 1 with fail
    rw [← hW0]
    clear hW0
    go_wp2_with fail
    go_still_tail 6, (by kernel_rfl)
    change wpList _ _ _ _ _ W0.drew
    have HD := Lib.hid (H.out.below (Below.refl _ _).drew)
    generalize W0.drew = w5 at *
    clear y0 y1 y2 y3
    go_wp2_with fail
    refine Calls.mono (wait_any HD.out HTL.out q dp (by omega)) ?_
    rintro e w6 ⟨rfl, -, rv6, h6⟩
    have HO := Lib.hid (opened_list h6 HR.out hkm)
    clear h6
    go_wp2_with fail
    refine bodyPost_end (results_none rfl _ _ _) rfl ?_
    exact HO.out
theorem v_three {B x : Nat} {w W : World} (h : Below B w W) (hx : B ≤ x) (a b c : Value) : Below B w (((W.setCell ⟨x, 0, none⟩ a).setCell ⟨x, 1, none⟩ b).setCell ⟨x, 2, none⟩ c) := ((h.setCell hx _).setCell hx _).setCell hx _
theorem FinderIs.fix (h : FinderIs u s W fv) {n : ByteArray} {r : Ip.Rcd} (hr : Ck.find s n = some r) (hn : n.size ≤ maxLen) : ∃ cf p k, fv = .func (.func 156) #[] #[.pointer (some ⟨cf, 0, none⟩)] ∧ RoFld u (.slice p r.fields.length k) r.fields ∧ ∀ V, Below W.heap.size W V → Calls Tryz.prog 156 #[.string n, .pointer (some ⟨cf, 0, none⟩)] V fun e w' => e = .returned (.tuple #[.agg #[.string r.name, .bool r.choice, .slice p r.fields.length k], .bool true]) ∧ Below V.heap.size V w' := by
  obtain ⟨c, b, m, g, rfl, h2, h3, h4⟩ := h
  obtain ⟨p, k, e1, e2, e3, e4⟩ := h4.at n
  rw [hr] at e1 e2 e3 e4
  exact ⟨c, p, k, rfl, e3, fun V hV => find1_fix (box_keep hV h2) (h3.below hV) hn e1 e4⟩
theorem opened_one {W : World} {dp : Nat} {t : List Ip.So} (h : WalkR u w W fv rv (if 0 < 1 then R ++ [⟨t, 1, dp⟩] else R) d z) (hR : Vl.RowsOk R) : Opened u w fv R d z [t] dp (.returned (.tuple #[])) W := by
  rw [if_pos (Nat.zero_lt_one)] at h
  exact ⟨rfl, _, _, h, by rw [Vl.comes_snoc]; rfl, hR.snoc (Nat.le_refl 1) (by show 1 ≤ _; omega), by rw [List.length_append]; simp⟩
set_option maxRecDepth 100000 in
set_option maxHeartbeats 8000000 in
theorem open_choice (h : WalkR u w W fv rv R d z) (hf : FinderIs u s w fv) (hR : Vl.RowsOk R) (hRl : R.length ≤ 800000) (ht : RoSo u tv (x :: l)) (hu : Kp u w) {r : Ip.Rcd} (hr : Ck.find s x.name = some r) {f : Ip.Fld} (n : Vl.Nd) (hn : n.kind = 8) (hi : 0 ≤ n.int) (hfd : r.fields[n.int.toNat]? = some f) (dp : Nat) : Calls Tryz.prog 160 #[.pointer (some ⟨w.heap.size, 0, none⟩), ndV n, tv, .int .i64 (dp : Nat)] W (Opened u w fv R d z [f.type] dp) := by
  obtain ⟨nk, ni, nx, nd⟩ := n
  simp only at hn hi hfd
  obtain ⟨q, rfl⟩ := Int.eq_ofNat_of_zero_le hi
  obtain ⟨hql, hfq⟩ := List.getElem?_eq_some_iff.1 hfd
  rw [show (q : Int).toNat = q by omega] at hql
  have hfq2 : r.fields[q] = f := by simpa using hfq
  obtain ⟨p, c, rfl, -, -⟩ := RoIs.shape ht
  obtain ⟨W0, hW0⟩ : ∃ W0, W0 = allocs W [ndO ⟨nk, q, nx, nd⟩] := ⟨_, rfl⟩
  have hB0 : Below W.heap.size W W0 := by rw [hW0]; exact allocs_below _ _
  have HNB : Hid (W0.heap[W.heap.size]? = some (ndO ⟨nk, q, nx, nd⟩)) := Lib.hid (by rw [hW0]; exact allocs_at _ W 0 _ rfl)
  obtain ⟨y0, y1, y2, y3⟩ := cells4' HNB.out
  have H := Lib.hid (h.below hB0)
  have HKU : Hid (Kp u W0) := Lib.hid (hu.below (H.out.on))
  obtain ⟨C, c3, e3, hC, g0, g1, hin⟩ := so_at (i := 0) (ht.kp HKU.out) (by simp)
  cases e3
  obtain ⟨cf, p2, k2, rfl, hfr, hfi⟩ := (hf.below H.out.on).fix hr hin.2
  have g2 : W0.cell? ⟨C.block, C.off + 1, none⟩ = some (.string x.name) := by have := g1; unfold Addr.add at this; simpa using this
  have g3 : W0.cell? ⟨(C.add 0).block, (C.add 0).off + 1, none⟩ = some (.string x.name) := g2
  have hl0 : (0 : Int) < ((x :: l).length : Int) := by simp
  have HFI := Lib.hid hfi
  have HFR := Lib.hid hfr
  obtain ⟨b0, b1, b2, b3⟩ := cells4' H.out.box
  have HC : Hid (∀ V, Below W0.heap.size W0 V → V.cell? ⟨w.heap.size, 0, none⟩ = some (.func (.func 156) #[] #[.pointer (some ⟨cf, 0, none⟩)]) ∧ V.cell? ⟨C.block, C.off + 1, none⟩ = some (.string x.name) ∧ V.cell? ⟨(C.add 0).block, (C.add 0).off + 1, none⟩ = some (.string x.name)) := Lib.hid fun V hV => ⟨(hV.cell (tcell_block b0)).trans b0, (hV.cell (tcell_block g2)).trans g2, (hV.cell (tcell_block g3)).trans g3⟩
  have HK2 : Hid (∀ V V2, Below W0.heap.size W0 V → Below V.heap.size V V2 → Below W0.heap.size W0 V2) := Lib.hid fun V V2 h1 h2 => h1.trans (h2.mono h1.size)
  have e5 : ((nk : Int) == 5) = false := by rw [beq_eq_false_iff_ne]; omega
  have e6 : ((nk : Int) == 6) = false := by rw [beq_eq_false_iff_ne]; omega
  have e7 : ((nk : Int) == 7) = false := by rw [beq_eq_false_iff_ne]; omega
  have e8 : ((nk : Int) == 8) = true := by rw [beq_iff_eq]; omega
  have HR := Lib.hid hR
  have HD0 : Hid (Below W0.heap.size W0 W0.drew) := Lib.hid (Below.refl _ _).drew
  simp only at y0 y1 y2 y3
  clear h hn hB0 hR hf hu ht hr hfi hfr g0 g1 hin hC hi hfd hfq
  simp only [allocs, ndO] at hW0
  unfold ndV
  simp only
  go_enter Tryz.func160, Tryz.ntmps160
  go_upto_region 1 with fail
  rw [← hW0]
  clear hW0
  go_upto_region 12 with fail
  go_cut [11, 12] from 58 to 69 (fun mv ov wx => ∃ zb : Nat, mv = .pointer (some ⟨zb, 0, none⟩) ∧ ov = .bool true ∧ Hid (wx.heap[zb]? = some (.cells #[.string r.name, .bool r.choice, .slice p2 r.fields.length k2] 34 (0, 0)) ∧ Below W0.heap.size W0 wx))
  case first =>
    clear y0 y1 y2 y3 b1 b2 b3
    go_region_held_law (fun V => V.cell? ⟨w.heap.size, 0, none⟩ = some (.func (.func 156) #[] #[.pointer (some ⟨cf, 0, none⟩)]) ∧ V.cell? ⟨C.block, C.off + 1, none⟩ = some (.string x.name) ∧ V.cell? ⟨(C.add 0).block, (C.add 0).off + 1, none⟩ = some (.string x.name))
      (first | exact HC.out _ HD0.out | exact HC.out _ (HK2.out _ _ HD0.out (tk_alloc _ _)) | exact HC.out _ hb7 | exact HC.out _ (HK2.out _ _ hb7 (tk_alloc _ _)) | exact HC.out _ (v_three (HK2.out _ _ hb7 (tk_alloc _ _)) hb7.size _ _ _) | exact HC.out _ (v_three hb7 (Nat.le_refl _) _ _ _))
      (first
        | (go_at_call 156; refine (HFI.out W0.drew HD0.out).mono ?_; rintro e w6 ⟨rfl, hb6⟩; have hb7 := HK2.out _ _ HD0.out hb6; have hz6 := heap_alloc_new w6 (.cells #[.string ⟨#[]⟩, .bool false, .slice none 0 0] 34); obtain ⟨u0, u1, u2⟩ := cells3 hz6; have f0 := frozen2 hz6 0; have f1 := frozen2 hz6 1; have f2 := frozen2 hz6 2; have hwayA : True := trivial)
        | (go_at_call 156; refine (HFI.out (W0.drew.alloc _) (HK2.out _ _ HD0.out (tk_alloc _ _))).mono ?_; rintro e w6 ⟨rfl, hb6⟩; have hb7 := HK2.out _ _ (HK2.out _ _ HD0.out (tk_alloc _ _)) hb6; have hz6 : w6.heap[W0.heap.size]? = some (.cells #[.string ⟨#[]⟩, .bool false, .slice none 0 0] 34 (0, 0)) := box_keep hb6 (heap_alloc_new _ _); obtain ⟨u0, u1, u2⟩ := cells3 hz6; have f0 := frozen2 hz6 0; have f1 := frozen2 hz6 1; have f2 := frozen2 hz6 2; have hwayB : True := trivial)
        | fail)
    all_goals
      go_wp2_with fail
      go_meet
      first
      | have := hwayA; exact ⟨_, rfl, rfl, Lib.hid ⟨heap_alloc_new w6 _, HK2.out _ _ hb7 (tk_alloc _ _)⟩⟩
      | have := hwayB; exact ⟨_, rfl, rfl, Lib.hid ⟨set_three _ _ _ hz6, v_three hb7 (Nat.le_refl _) _ _ _⟩⟩
  case rest =>
  obtain ⟨zb, rfl, rfl, HM⟩ := hcut
  obtain ⟨wx, hwx⟩ : ∃ wx, wx = wc := ⟨_, rfl⟩
  subst hwx
  have hb03 := HM.out.2
  have HN3 := Lib.hid HM.out.1
  have H3 := Lib.hid (H.out.below hb03)
  clear y0 y1 y2 y3 b0 b1 b2 b3
  obtain ⟨y0, y1, y2, y3⟩ := cells4' (box_keep hb03 HNB.out)
  obtain ⟨B, cb, pp, kp, e5', hB, g0, g1, -, hss, hss2⟩ := fld_at (HFR.out.kp (HKU.out.below hb03)) hql
  cases e5'
  obtain ⟨_, _, _, _, e6', hB', g0', g1', -, hssu, -⟩ := fld_at HFR.out hql
  have hcell := ((HKU.out.below hb03).cell (tcell_block g1')).trans g1'
  cases e6'
  rw [g1] at hcell
  cases hcell
  rw [hfq2] at hssu g1
  have HSO := Lib.hid hssu
  have i1 : (q : Int) < (r.fields.length : Int) := by omega
  have i2 : (0 : Int) ≤ (q : Int) := by omega
  clear hb03 hB g0 hss hss2 hB' g0' g1' hssu HFR HM HFI HC
  obtain ⟨z0, z1, z2⟩ := cells3 HN3.out
  go_wp2_with fail
  refine Calls.mono (wait_any H3.out HSO.out 1 dp (by omega)) ?_
  rintro e w7 ⟨rfl, -, rv7, h7⟩
  have HO : Hid (Opened u w (.func (.func 156) #[] #[.pointer (some ⟨cf, 0, none⟩)]) R d z [f.type] dp (.returned (.tuple #[])) w7) := Lib.hid (opened_one h7 HR.out)
  clear h7
  go_wp2_with fail
  refine bodyPost_end (results_none rfl _ _ _) rfl ?_
  exact HO.out
set_option maxRecDepth 100000 in
set_option maxHeartbeats 8000000 in
theorem open_record (h : WalkR u w W fv rv R d z) (hf : FinderIs u s w fv) (hR : Vl.RowsOk R) (hRl : R.length ≤ 800000) (ht : RoSo u tv (x :: l)) (hu : Kp u w) {r : Ip.Rcd} (hr : Ck.find s x.name = some r) (hrl : r.fields.length ≤ 40) (n : Vl.Nd) (hn : n.kind = 7) (dp : Nat) : Calls Tryz.prog 160 #[.pointer (some ⟨w.heap.size, 0, none⟩), ndV n, tv, .int .i64 (dp : Nat)] W (Opened u w fv R d z (r.fields.map (·.type)) dp) := by
  obtain ⟨nk, ni, nx, nd⟩ := n
  simp only at hn
  have hu0 := Lib.hid hu
  obtain ⟨p, c, rfl, -, -⟩ := RoIs.shape ht
  obtain ⟨W0, hW0⟩ : ∃ W0, W0 = allocs W [ndO ⟨nk, ni, nx, nd⟩] := ⟨_, rfl⟩
  have hB0 : Below W.heap.size W W0 := by rw [hW0]; exact allocs_below _ _
  have HNB : Hid (W0.heap[W.heap.size]? = some (ndO ⟨nk, ni, nx, nd⟩)) := Lib.hid (by rw [hW0]; exact allocs_at _ W 0 _ rfl)
  obtain ⟨y0, y1, y2, y3⟩ := cells4' HNB.out
  have H := Lib.hid (h.below hB0)
  have HKU : Hid (Kp u W0) := Lib.hid (hu.below (H.out.on))
  obtain ⟨C, c3, e3, hC, g0, g1, hin⟩ := so_at (i := 0) (ht.kp HKU.out) (by simp)
  cases e3
  obtain ⟨cf, p2, k2, rfl, hfr, hfi⟩ := (hf.below H.out.on).fix hr hin.2
  have g2 : W0.cell? ⟨C.block, C.off + 1, none⟩ = some (.string x.name) := by have := g1; unfold Addr.add at this; simpa using this
  have g3 : W0.cell? ⟨(C.add 0).block, (C.add 0).off + 1, none⟩ = some (.string x.name) := g2
  have hl0 : (0 : Int) < ((x :: l).length : Int) := by simp
  have HFI := Lib.hid hfi
  have HFR := Lib.hid hfr
  obtain ⟨b0, b1, b2, b3⟩ := cells4' H.out.box
  have HC : Hid (∀ V, Below W0.heap.size W0 V → V.cell? ⟨w.heap.size, 0, none⟩ = some (.func (.func 156) #[] #[.pointer (some ⟨cf, 0, none⟩)]) ∧ V.cell? ⟨C.block, C.off + 1, none⟩ = some (.string x.name) ∧ V.cell? ⟨(C.add 0).block, (C.add 0).off + 1, none⟩ = some (.string x.name)) := Lib.hid fun V hV => ⟨(hV.cell (tcell_block b0)).trans b0, (hV.cell (tcell_block g2)).trans g2, (hV.cell (tcell_block g3)).trans g3⟩
  have HK2 : Hid (∀ V V2, Below W0.heap.size W0 V → Below V.heap.size V V2 → Below W0.heap.size W0 V2) := Lib.hid fun V V2 h1 h2 => h1.trans (h2.mono h1.size)
  have e5 : ((nk : Int) == 5) = false := by rw [beq_eq_false_iff_ne]; omega
  have e6 : ((nk : Int) == 6) = false := by rw [beq_eq_false_iff_ne]; omega
  have e7 : ((nk : Int) == 7) = true := by rw [beq_iff_eq]; omega
  have HR := Lib.hid hR
  have HD0 : Hid (Below W0.heap.size W0 W0.drew) := Lib.hid (Below.refl _ _).drew
  simp only at y0 y1 y2 y3
  clear h hn hB0 hR hf hu ht hr hfi hfr g0 g1 hin hC 
  simp only [allocs, ndO] at hW0
  unfold ndV
  simp only
  go_enter Tryz.func160, Tryz.ntmps160
  go_upto_region 1 with fail
  rw [← hW0]
  clear hW0
  go_upto_region 6 with fail
  go_cut [8, 9] from 27 to 38 (fun mv ov wx => ∃ zb : Nat, mv = .pointer (some ⟨zb, 0, none⟩) ∧ ov = .bool true ∧ Hid (wx.heap[zb]? = some (.cells #[.string r.name, .bool r.choice, .slice p2 r.fields.length k2] 34 (0, 0)) ∧ Below W0.heap.size W0 wx))
  case first =>
    clear y0 y1 y2 y3 b1 b2 b3
    go_region_held_law (fun V => V.cell? ⟨w.heap.size, 0, none⟩ = some (.func (.func 156) #[] #[.pointer (some ⟨cf, 0, none⟩)]) ∧ V.cell? ⟨C.block, C.off + 1, none⟩ = some (.string x.name) ∧ V.cell? ⟨(C.add 0).block, (C.add 0).off + 1, none⟩ = some (.string x.name))
      (first | exact HC.out _ HD0.out | exact HC.out _ (HK2.out _ _ HD0.out (tk_alloc _ _)) | exact HC.out _ hb7 | exact HC.out _ (HK2.out _ _ hb7 (tk_alloc _ _)) | exact HC.out _ (v_three (HK2.out _ _ hb7 (tk_alloc _ _)) hb7.size _ _ _) | exact HC.out _ (v_three hb7 (Nat.le_refl _) _ _ _))
      (first
        | (go_at_call 156; refine (HFI.out W0.drew HD0.out).mono ?_; rintro e w6 ⟨rfl, hb6⟩; have hb7 := HK2.out _ _ HD0.out hb6; have hz6 := heap_alloc_new w6 (.cells #[.string ⟨#[]⟩, .bool false, .slice none 0 0] 34); obtain ⟨u0, u1, u2⟩ := cells3 hz6; have f0 := frozen2 hz6 0; have f1 := frozen2 hz6 1; have f2 := frozen2 hz6 2; have hwayA : True := trivial)
        | (go_at_call 156; refine (HFI.out (W0.drew.alloc _) (HK2.out _ _ HD0.out (tk_alloc _ _))).mono ?_; rintro e w6 ⟨rfl, hb6⟩; have hb7 := HK2.out _ _ (HK2.out _ _ HD0.out (tk_alloc _ _)) hb6; have hz6 : w6.heap[W0.heap.size]? = some (.cells #[.string ⟨#[]⟩, .bool false, .slice none 0 0] 34 (0, 0)) := box_keep hb6 (heap_alloc_new _ _); obtain ⟨u0, u1, u2⟩ := cells3 hz6; have f0 := frozen2 hz6 0; have f1 := frozen2 hz6 1; have f2 := frozen2 hz6 2; have hwayB : True := trivial)
        | fail)
    all_goals
      go_wp2_with fail
      go_meet
      first
      | have := hwayA; exact ⟨_, rfl, rfl, Lib.hid ⟨heap_alloc_new w6 _, HK2.out _ _ hb7 (tk_alloc _ _)⟩⟩
      | have := hwayB; exact ⟨_, rfl, rfl, Lib.hid ⟨set_three _ _ _ hz6, v_three hb7 (Nat.le_refl _) _ _ _⟩⟩
  case rest =>
  obtain ⟨zb, rfl, rfl, HM⟩ := hcut
  obtain ⟨wx, hwx⟩ : ∃ wx, wx = wc := ⟨_, rfl⟩
  subst hwx
  have hb03 := HM.out.2
  have HN3 := Lib.hid HM.out.1
  have H3 := Lib.hid (H.out.below hb03)
  clear y0 y1 y2 y3 b0 b1 b2 b3
  obtain ⟨y0, y1, y2, y3⟩ := cells4' (box_keep hb03 HNB.out)
  have HB3 := Lib.hid hb03
  obtain ⟨z0, z1, z2⟩ := cells3 HN3.out
  have HFU : Hid (Kp u wx) := Lib.hid (HKU.out.below HB3.out)
  have HZB : Hid (zb ≠ w.heap.size) := Lib.hid fun e => by
    have h1 := HN3.out
    rw [e, H3.out.box] at h1
    simp only [wkO, Option.some.injEq, Obj.cells.injEq] at h1
    exact absurd h1.2.1 (by show ¬ ((161 : Nat) = 34); decide)
  have HSB : Hid (w.heap.size ≤ W0.heap.size) := Lib.hid H.out.on.size
  clear HM HFI HC
  go_upto_region 8 with fail
  clear z0 z1 z2 y0 y1 y2 y3
  go_loopw [10] (fun iv wr => ∃ m : Nat, m ≤ r.fields.length ∧ iv = .int .i64 ((m : Int) - 1) ∧ Hid (∃ rv' R', WalkR u w wr (.func (.func 156) #[] #[.pointer (some ⟨cf, 0, none⟩)]) rv' R' d z ∧ Vl.comes R' = ((r.fields.drop m).map (·.type)).map (fun t => (t, dp)) ++ Vl.comes R ∧ Vl.RowsOk R' ∧ R'.length + m = R.length + r.fields.length ∧ wr.heap[zb]? = some (.cells #[.string r.name, .bool r.choice, .slice p2 r.fields.length k2] 34 (0, 0)))) (fun iv _ => (intOf iv + 1).toNat)
  case atStart => exact ⟨r.fields.length, Nat.le_refl _, rfl, Lib.hid ⟨_, _, H3.out, by rw [List.drop_length]; rfl, HR.out, rfl, HN3.out⟩⟩
  case round =>
  obtain ⟨m, hm, rfl, HQ⟩ := hrel
  cases m with
  | zero =>
    have HO : Hid (Opened u w (.func (.func 156) #[] #[.pointer (some ⟨cf, 0, none⟩)]) R d z (r.fields.map (·.type)) dp (.returned (.tuple #[])) wr) := Lib.hid (by
      obtain ⟨rv', R', h1, h2, h3, h4, -⟩ := HQ.out
      rw [List.drop_zero] at h2
      exact ⟨rfl, rv', R', h1, h2, h3, by omega⟩)
    go_wp2_with fail
    refine bodyPost_end (results_none rfl _ _ _) rfl ?_
    exact HO.out
  | succ j =>
    obtain ⟨rv', R', h1, h2, h3, h4, h5⟩ := HQ.out
    have i1 : (0 : Int) ≤ (j : Int) := by omega
    have i2 : (j : Int) < (r.fields.length : Int) := by omega
    have hjl : j < r.fields.length := by omega
    obtain ⟨z0, z1, z2⟩ := cells3 h5
    have hkw : Kp u wr := hu0.out.below h1.on
    obtain ⟨B, cb, pp, kp, e5', hB, g0, g1, -, hss, hss2⟩ := fld_at (HFR.out.kp hkw) hjl
    cases e5'
    obtain ⟨_, _, _, _, e6', hB', g0', g1', -, hssu, -⟩ := fld_at HFR.out hjl
    have hcell := (hkw.cell (tcell_block g1')).trans g1'
    cases e6'
    rw [g1] at hcell
    cases hcell
    have HSO := Lib.hid hssu
    have HDJ := Lib.hid (List.drop_eq_getElem_cons hjl)
    have H1 := Lib.hid h1
    have H2 := Lib.hid h2
    have H3' := Lib.hid h3
    have H5 := Lib.hid h5
    clear hB g0 hss hss2 hB' g0' g1' hssu h1 h2 h3 h5 hkw HQ
    generalize r.fields[j] = f at *
    go_wp2_with fail
    refine Calls.mono (wait_any H1.out HSO.out 1 dp (by omega)) ?_
    rintro e w7 ⟨rfl, hk7, rv7, h7⟩
    have HN7 := Lib.hid ((hk7 zb _ _ H5.out (by show (34 : Nat) ≠ 214; decide) HZB.out).trans H5.out)
    rw [if_pos Nat.zero_lt_one] at h7
    have H7 := Lib.hid h7
    clear h7 hk7 z0 z1 z2 g1
    go_wp2_with fail
    go_roundw
    case rel => exact ⟨j, by omega, by go_num, Lib.hid ⟨_, _, H7.out, by rw [Vl.comes_snoc, H2.out, HDJ.out]; rfl, H3'.out.snoc (Nat.le_refl 1) (by show 1 ≤ _; omega), by rw [List.length_append]; simp; omega, HN7.out⟩⟩
    case measure => simp [intOf]
end
end Go.Proofs.YtnkdhmoocomjfaaGreatDoor
