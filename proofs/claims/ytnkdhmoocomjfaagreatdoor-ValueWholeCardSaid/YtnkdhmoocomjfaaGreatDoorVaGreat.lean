/-
  Rows of the call's own: what was handed in is appended. Conditions: those in the theorems.
  Walks over the law package of value: what is more than its laws go through. Conditions: those in the theorems.
-/
import Derived.Test.YtnkdhmoocomjfaaGreatDoorVaAt
import Derived.Test.YtnkdhmoocomjfaaGreatDoorCkWakes
import Derived.Test.YtnkdhmoocomjfaaGreatDoorCkGreat
set_option linter.unusedSimpArgs false
set_option linter.unusedVariables false
namespace Go.Proofs.YtnkdhmoocomjfaaGreatDoor
open Go.RowKit
section
variable {α : Type} {K : RowKind α} {inn : α → Prop} {sub : World → Value → α → Prop}
/-- The cells of a row of flat elements. -/
theorem flat_cells (hlen : ∀ x t, (K.cells x t).length = K.k) (hpos : 0 < K.k) (hflat : ∀ x t t', K.cells x t = K.cells x t') {W : World} {A : Addr} {c : Nat} {M : List α} (h : RoIs K inn sub W (.slice (some A) M.length c) M) (z : Value) (q : Nat) (u : Value) (hu : ((M.map fun x => (x, z)).flatMap fun y => K.cells y.1 y.2)[q]? = some u) : W.cell? (A.add q) = some u := by
  have hq := (List.getElem?_eq_some_iff.1 hu).1
  have hl : ((M.map fun x => (x, z)).flatMap fun y => K.cells y.1 y.2).length = M.length * K.k := by rw [flat_len hlen, List.length_map]
  rw [hl] at hq
  have hd : q / K.k < M.length := (Nat.div_lt_iff_lt_mul hpos).2 hq
  have hm : q % K.k < K.k := Nat.mod_lt _ hpos
  have e : q = q / K.k * K.k + q % K.k := by have := Nat.div_add_mod q K.k; rw [Nat.mul_comm] at this; exact this.symm
  obtain ⟨p', c', e1, -, -, h4⟩ := h
  obtain ⟨rfl, -, rfl⟩ := Value.slice.inj e1
  obtain ⟨A', t, e2, -, -, -, h5⟩ := h4 (q / K.k) hd
  cases e2
  rw [e] at hu ⊢
  rw [h5 _ hm, ← hu, flat_get hlen (by rw [List.length_map]; exact hd) hm, List.getElem_map]
  rw [hflat _ t z]
/-- What was handed in is appended to a row of the call's own. -/
theorem row_append_ro (ok : K.Ok) (hflat : ∀ x t t', K.cells x t = K.cells x t') {W : World} {base : Nat} (hsub : ∀ t x V, K.sub V base t x) {v u : Value} {L M : List α} (h : RowIs K W base v L) (hm : RoIs K inn sub W u M) (hs : L.length + M.length ≤ 1000000) (hb : base ≤ W.heap.size) (ty : TypeId) :
    ∃ (pv : Option Addr) (cv : Nat) (V : World), (Builtin.append_ #[K.sl, K.sl] ty #[v, u]).run Tryz.prog W = .ok (.slice pv (L.length + M.length) cv) V ∧ RowIs K V base (.slice pv (L.length + M.length) cv) (L ++ M) ∧ GrewT v (.slice pv (L.length + M.length) cv) W V := by
  obtain ⟨p0, k0, rfl, q1, q2⟩ := h.shape
  obtain ⟨p2, k2, rfl, -, -⟩ := hm.shape
  by_cases h0 : M = []
  · subst h0
    refine ⟨p0, k0, W, ?_, by rw [List.append_nil]; exact h, rfl, rfl, rfl, Nat.le_refl _, fun _ _ _ => rfl, fun k hk => .inl hk⟩
    obtain ⟨i0, hi0, -, -, -⟩ := info_parts ok.info
    have hsz := run_sizeOf W hi0
    cases p0 <;> cases p2 <;> simp [Builtin.append_, run_underlying ok.under, loadCellsFrom, storeCells, Builtin.firstCells, Builtin.lenOf, go_sem, q1, hsz]
  · obtain ⟨Z, h1, h2, h3⟩ := h
    have hpos : 0 < M.length := by cases M with
      | nil => exact absurd rfl h0
      | cons _ _ => simp
    obtain ⟨A, hA⟩ : ∃ A, p2 = some A := by
      obtain ⟨p', c', e1, -, -, h4⟩ := hm
      obtain ⟨rfl, -, rfl⟩ := Value.slice.inj e1
      obtain ⟨A', t, e2, -⟩ := h4 0 hpos
      exact ⟨A', e2⟩
    subst hA
    obtain ⟨Y, hY⟩ : ∃ Y, Y = M.map fun x => (x, Value.bool false) := ⟨_, rfl⟩
    have m1 : Y.map Prod.fst = M := by rw [hY, List.map_map]; exact List.map_id M
    have m3 : ∀ z ∈ Y, ∀ V, K.sub V base z.2 z.1 := fun z _ V => hsub _ _ V
    have hYl : Y.length = M.length := by rw [← m1, List.length_map]
    obtain ⟨i0, hi0, hz0, hz1, hz2⟩ := info_parts ok.info
    have hone : ∀ u ∈ (Y.flatMap fun z => K.cells z.1 z.2), u.oneCell' = true := fun u hu => by
      obtain ⟨z, hz, hu⟩ := List.mem_flatMap.1 hu
      exact ok.one _ _ _ _ (m3 z hz W) u hu
    obtain ⟨v', V, hrun, ho, hgr, -, hown⟩ := run_append_own_at (P := Tryz.prog) W base K.sl ty K.ty i0 _ K.k K.bytes ok.under hi0 hz0 hz1 hz2 ok.zlen ok.pos _ _ _ h2
      A M.length k2 (Y.flatMap fun z => K.cells z.1 z.2) (by rw [flat_len ok.len, hYl]) (fun q u hu => flat_cells ok.len ok.pos hflat hm (Value.bool false) q u (by rw [← hY]; exact hu)) hone (by unfold maxLen; omega) (by have := ok.bound; have := Nat.mul_le_mul hs this; omega) hb
    have hgr2 : ∀ k, k < W.heap.size → (Value.slice p0 L.length k0).ownBlock ≠ some k → V.heap[k]? = W.heap[k]? := fun k hk hn => hgr.block k hk fun e => hn e.symm
    have hty : ∀ k, (Value.slice p0 L.length k0).ownBlock = some k → ∃ cs, W.heap[k]? = some (Obj.cells cs K.ty (0, 0)) := RowIs.ownTy (K := K) (L := L) ⟨Z, h1, h2, h3⟩
    have hR : RowIs K V base v' (L ++ M) := by
      refine ⟨Z ++ Y, by rw [List.map_append, h1, m1], ?_, fun z hz => hsub _ _ V⟩
      rw [List.flatMap_append, List.length_append]; exact ho
    obtain ⟨pv, cv, rfl, -, -⟩ := hR.shape
    rw [List.length_append] at hrun hR hown
    refine ⟨pv, cv, V, hrun, hR, hgr.os, hgr.tape, hgr.output, hgr.size, hgr2, fun k hk => ?_⟩
    rcases hown with e | e
    · exact .inl (e ▸ hk)
    · have e2 : (Value.slice pv (L.length + M.length) cv).ownBlock = some W.heap.size := e
      rw [e2] at hk
      simp only [Option.some.injEq] at hk
      exact .inr (by omega)
/-- A literal of one element. -/
theorem row_one (ok : K.Ok) {V : World} {base g : Nat} {x : α} {t : Value} (h : V.heap[g]? = some (.cells (K.cells x t).toArray K.ty (0, 0))) (hb : base ≤ g) (ht : K.sub V base t x) : RowIs K V base (.slice (some ⟨g, 0, none⟩) 1 1) [x] := by
  refine ⟨[(x, t)], rfl, ⟨by simp [ok.len], .inr ⟨g, 1, (K.cells x t).toArray, rfl, hb, h, Nat.le_refl _, by decide, by simp [ok.len], ?_⟩⟩, fun z hz => by rw [List.mem_singleton.1 hz]; exact ht⟩
  have := ok.len x t
  simp [← this]
/-- What was handed in is appended to a literal of one element. -/
theorem lit_append (ok : K.Ok) (hflat : ∀ x t t', K.cells x t = K.cells x t') {w : World} (hsub : ∀ t x V, K.sub V w.heap.size t x) (hsub2 : ∀ V t x, sub V t x) {u : Value} {M : List α} (x : α) (t : Value) (hx : inn x) (hin : ∀ y ∈ M, inn y) (hm : RoIs K inn sub w u M) (hs : M.length + 1 ≤ 1000000) (ty : TypeId) :
    ∃ (pv : Option Addr) (cv : Nat) (V : World), (Builtin.append_ #[K.sl, K.sl] ty #[.slice (some ⟨w.heap.size, 0, none⟩) 1 1, u]).run Tryz.prog (w.alloc (.cells (K.cells x t).toArray K.ty)) = .ok (.slice pv (1 + M.length) cv) V ∧ RoIs K inn sub V (.slice pv (1 + M.length) cv) (x :: M) ∧ Below w.heap.size w V := by
  have h1 := row_one ok (V := w.alloc (.cells (K.cells x t).toArray K.ty)) (base := w.heap.size) (x := x) (t := t) (heap_alloc_new w _) (Nat.le_refl _) (hsub _ _ _)
  have hb := tk_alloc w (.cells (K.cells x t).toArray K.ty)
  obtain ⟨pv, cv, V, hrun, hR, hG⟩ := row_append_ro ok hflat (fun t x V => hsub t x V) h1 (hm.below (fun _ _ _ => hsub2 _ _ _) hb) (by simp; omega) hb.size ty
  refine ⟨pv, cv, V, hrun, ?_, hG.below hb hb.size fun k hk => ?_⟩
  · exact hR.ro' ok (fun t x _ _ => hsub2 _ _ _) fun y hy => by
      rcases List.mem_cons.1 hy with rfl | hy
      · exact hx
      · exact hin y hy
  · have : k = w.heap.size := by simpa [Value.ownBlock] using hk.symm
    omega
theorem RoIs.inAll {W : World} {v : Value} {M : List α} (h : RoIs K inn sub W v M) : ∀ y ∈ M, inn y := fun y hy => by
  obtain ⟨i, hi, rfl⟩ := List.getElem_of_mem hy
  obtain ⟨p, c, -, -, -, h4⟩ := h
  obtain ⟨A, t, -, -, -, h5, -⟩ := h4 i hi
  exact h5
end
end Go.Proofs.YtnkdhmoocomjfaaGreatDoor
set_option linter.unusedSimpArgs false
set_option linter.unusedVariables false
namespace Go.Proofs.YtnkdhmoocomjfaaGreatDoor
open Go.RowKit
/-- What the laws go through. -/
def Vl.Small (s : Ip.Sch) (t : List Ip.So) (v : List Vl.Nd) : Prop := Ck.Small s ∧ t.length ≤ 300 ∧ v.length ≤ 6000 ∧ (∀ x ∈ t, x.name.size ≤ 200) ∧ ∀ n ∈ v, n.text.size ≤ 6000
set_option maxRecDepth 100000 in
set_option maxHeartbeats 4000000 in
theorem Great15_any {u w : World} {sv tv vv : Value} {s : Ip.Sch} {t : List Ip.So} {v : List Vl.Nd} (h : RoSch u sv s) (ht : RoSo u tv t) (hv : RoNd u vv v) (hu : Kp u w) : Calls Tryz.prog 26 #[sv, tv, vv] w (GreatP (Vl.Small s t v) w) := by
  obtain ⟨p1, c1, p2, c2, p3, c3, rfl, -, -, -, -, l1, l2, l3⟩ := sch_parts h
  obtain ⟨pt, ct, rfl, ht1, ht2⟩ := RoIs.shape ht
  obtain ⟨pv, cv, rfl, hv1, hv2⟩ := RoIs.shape hv
  unfold maxLen at ht2 hv2
  obtain ⟨W0, hW0⟩ : ∃ W0, W0 = allocs w [schO s p1 c1 p2 c2 p3 c3] := ⟨_, rfl⟩
  have HX : Hid (∀ V, Below W0.heap.size W0 V → V.heap[w.heap.size]? = some (schO s p1 c1 p2 c2 p3 c3) ∧ Below w.heap.size w V) := Lib.hid (by subst hW0; exact fun V hV => ⟨allocs_box (i := 0) rfl hV, allocs_on hV⟩)
  obtain ⟨b0, B0⟩ := HX.out W0 (Below.refl _ _)
  obtain ⟨x0, x1, x2, x3⟩ := cells4' b0
  have HG := Lib.hid (Great_any h (hu.below B0))
  have HT := Lib.hid ht
  have HV := Lib.hid hv
  have HU := Lib.hid hu
  clear h ht hv hu b0 B0 l1 l2 l3
  simp only [allocs, schO] at hW0
  go_enter Tryz.func26, Tryz.ntmps26
  go_upto_region 1 with fail
  rw [← hW0]
  clear hW0
  go_wp2_with fail
  refine Calls.mono HG.out ?_
  rintro e w1 ⟨gb, rfl, hsm, hb1⟩
  have HB1 := Lib.hid (HX.out _ hb1).2
  clear hb1 x0 x1 x2 x3 HG
  cases gb with
  | true =>
    go_wp2_with fail
    go_ret
    exact ⟨true, rfl, fun h => absurd h (by decide), HB1.out⟩
  | false =>
  have HSM := Lib.hid (hsm rfl)
  clear hsm
  by_cases h300 : 300 < t.length
  · have i1 : (300 : Int) < (t.length : Int) := by omega
    clear h300
    go_wp2_with fail
    go_ret
    exact ⟨true, rfl, fun h => absurd h (by decide), HB1.out⟩
  have i1 : ¬ (300 : Int) < (t.length : Int) := by omega
  by_cases h6 : 6000 < v.length
  · have i2 : (6000 : Int) < (v.length : Int) := by omega
    clear h6 h300
    go_wp2_with fail
    go_ret
    exact ⟨true, rfl, fun h => absurd h (by decide), HB1.out⟩
  have i2 : ¬ (6000 : Int) < (v.length : Int) := by omega
  go_wp2_with fail
  clear i1 i2
  go_loopw [7] (fun kv wr => ∃ k : Nat, k ≤ t.length ∧ kv = .int .i64 (k : Nat) ∧ wr = w1 ∧ Hid (∀ i (hi : i < t.length), i < k → t[i].name.size ≤ 200)) (fun kv _ => t.length - (intOf kv).toNat)
  case atStart => exact ⟨0, Nat.zero_le _, rfl, rfl, Lib.hid fun i hi h => absurd h (Nat.not_lt_zero _)⟩
  case round =>
    obtain ⟨k, hk, rfl, rfl, H⟩ := hrel
    by_cases hlt : k < t.length
    · have i3 : (k : Int) < (t.length : Int) := by omega
      have i4 : (0 : Int) ≤ (k : Int) := by omega
      obtain ⟨A, cc, e3, hA, d0, d1, hin⟩ := so_at (HT.out.kp (HU.out.below HB1.out)) hlt
      cases e3
      have HGN : Hid (t[k].name.size ≤ 200 → ∀ i (hi : i < t.length), i < k + 1 → t[i].name.size ≤ 200) := Lib.hid fun h i hi hik => by
        by_cases e : i < k
        · exact H.out i hi e
        · obtain rfl : i = k := by omega
          exact h
      generalize t[k] = x at *
      clear hA hin H d0
      by_cases hz : 200 < x.name.size
      · have i5 : (200 : Int) < ((x.name.size : Nat) : Int) := by omega
        clear hz
        go_wp2_with fail
        go_ret
        exact ⟨true, rfl, fun h => absurd h (by decide), HB1.out⟩
      · have i5 : ¬ (200 : Int) < ((x.name.size : Nat) : Int) := by omega
        have HO := Lib.hid (HGN.out (by omega))
        clear hz
        go_wp2_with fail
        go_roundw
        case rel => exact ⟨k + 1, by omega, by go_num, (by first | rfl | trivial), HO⟩
        case measure => simp [intOf]; omega
    · obtain rfl : k = t.length := by omega
      have i3 : ¬ (t.length : Int) < (t.length : Int) := by omega
      have HN : Hid (∀ x ∈ t, x.name.size ≤ 200) := Lib.hid fun x hx => by
        obtain ⟨i, hi, rfl⟩ := List.getElem_of_mem hx
        exact H.out i hi hi
      clear H hlt hk
      go_wp2_with fail
      clear i3
      go_loopw [8] (fun kv wz => ∃ k : Nat, k ≤ v.length ∧ kv = .int .i64 (k : Nat) ∧ wz = wr ∧ Hid (∀ i (hi : i < v.length), i < k → v[i].text.size ≤ 6000)) (fun kv _ => v.length - (intOf kv).toNat)
      case atStart => exact ⟨0, Nat.zero_le _, rfl, rfl, Lib.hid fun i hi h => absurd h (Nat.not_lt_zero _)⟩
      case round =>
        obtain ⟨k, hk, rfl, rfl, H⟩ := hrel
        by_cases hlt : k < v.length
        · have i3 : (k : Int) < (v.length : Int) := by omega
          have i4 : (0 : Int) ≤ (k : Int) := by omega
          obtain ⟨A, cc, e3, hA, d0, d1, d2, d3, hin⟩ := nd_at (HV.out.kp (HU.out.below HB1.out)) hlt
          cases e3
          have HGN : Hid (v[k].text.size ≤ 6000 → ∀ i (hi : i < v.length), i < k + 1 → v[i].text.size ≤ 6000) := Lib.hid fun h i hi hik => by
            by_cases e : i < k
            · exact H.out i hi e
            · obtain rfl : i = k := by omega
              exact h
          generalize v[k] = x at *
          clear hA hin H d0 d1 d3
          by_cases hz : 6000 < x.text.size
          · have i5 : (6000 : Int) < ((x.text.size : Nat) : Int) := by omega
            clear hz
            go_wp2_with fail
            go_ret
            exact ⟨true, rfl, fun h => absurd h (by decide), HB1.out⟩
          · have i5 : ¬ (6000 : Int) < ((x.text.size : Nat) : Int) := by omega
            have HO := Lib.hid (HGN.out (by omega))
            clear hz
            go_wp2_with fail
            go_roundw
            case rel => exact ⟨k + 1, by omega, by go_num, (by first | rfl | trivial), HO⟩
            case measure => simp [intOf]; omega
        · obtain rfl : k = v.length := by omega
          have i3 : ¬ (v.length : Int) < (v.length : Int) := by omega
          have HNV : Hid (∀ x ∈ v, x.text.size ≤ 6000) := Lib.hid fun x hx => by
            obtain ⟨i, hi, rfl⟩ := List.getElem_of_mem hx
            exact H.out i hi hi
          have HQ : Hid (Vl.Small s t v) := Lib.hid ⟨HSM.out, by omega, by omega, HN.out, HNV.out⟩
          clear H hlt hk
          go_wp2_with fail
          go_ret
          exact ⟨false, rfl, fun _ => HQ.out, HB1.out⟩
set_option maxRecDepth 100000 in
theorem open_value {H : Type} {enc : TypeId × Value → H} {W : World} {v : Value} {base : Nat} {d : DataW H} {ps : List MemPlace} (hval : Value.okWide Tryz.prog W .any base 54 v) (h : DataW.Trod enc Tryz.prog W 0 (fun _ => true) true 54 v d ps) : ∃ t, RoNd W v t := by
  obtain ⟨fuel, hf⟩ := h
  obtain ⟨p, n, c, rfl⟩ := Go.WideShapes.okWide_slice Tryz.underlying54 hval
  exact open_rows (K := kNd) (inn := NdIn) (sub := fun _ _ _ => True) Tryz.underlying54 (by kernel_rfl) (by decide) (fun _ _ => rfl) (fun _ _ _ h => open_nd h) hf
set_option maxRecDepth 100000 in
/-- Sorts that are handed in. -/
theorem open_sorts {H : Type} {enc : TypeId × Value → H} {W : World} {v : Value} {base : Nat} {d : DataW H} {ps : List MemPlace} (hval : Value.okWide Tryz.prog W .any base 37 v) (h : DataW.Trod enc Tryz.prog W 0 (fun _ => true) true 37 v d ps) : ∃ t, RoSo W v t := by
  obtain ⟨fuel, hf⟩ := h
  obtain ⟨p, n, c, rfl⟩ := Go.WideShapes.okWide_slice Tryz.underlying37 hval
  exact open_rows (K := kSo) (inn := SoIn) (sub := fun _ _ _ => True) Tryz.underlying37 (by kernel_rfl) (by decide) (fun _ _ => rfl) (fun _ _ _ h => open_so h) hf
end Go.Proofs.YtnkdhmoocomjfaaGreatDoor
