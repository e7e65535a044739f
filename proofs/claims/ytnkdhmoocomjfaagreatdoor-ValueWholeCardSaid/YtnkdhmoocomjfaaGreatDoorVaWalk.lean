/-
  Walks over package value: what is to come, a row of its own: wait, next. Conditions: those in the theorems.
  Walks over package value: next, is. Conditions: those in the theorems.
-/
import Derived.Test.YtnkdhmoocomjfaaGreatDoorVaType
import Derived.Test.YtnkdhmoocomjfaaGreatDoorBIdlRefB
set_option linter.unusedSimpArgs false
set_option linter.unusedVariables false
namespace Vl
structure Rw where
  ty : List Ip.So
  times : Nat
  depth : Nat
/-- What is to come, one part behind the other. -/
def comes (R : List Rw) : List (List Ip.So × Nat) := R.reverse.flatMap fun r => List.replicate r.times (r.ty, r.depth)
theorem comes_nil : comes [] = [] := rfl
theorem comes_snoc (R : List Rw) (r : Rw) : comes (R ++ [r]) = List.replicate r.times (r.ty, r.depth) ++ comes R := by
  unfold comes
  rw [List.reverse_append]
  rfl
end Vl
namespace Go.Proofs.YtnkdhmoocomjfaaGreatDoor
open Go.RowKit
def kRw (u : World) : RowKind Vl.Rw := ⟨214, 159, 3, 40, #[.slice none 0 0, .int .i64 0, .int .i64 0], fun x t => [t, .int .i64 (x.times : Nat), .int .i64 (x.depth : Nat)], fun _ _ t x => RoSo u t x.ty, fun _ => False⟩
theorem okRw (u : World) : (kRw u).Ok := by
  refine ⟨by kernel_rfl, Tryz.underlying159, Nat.zero_lt_succ 2, (by decide : (40 : Nat) ≤ 100), rfl, fun _ _ => rfl, fun _ _ x t h v hv => ?_, fun _ _ _ _ _ _ h _ _ => h, fun h => h⟩
  simp [kRw] at hv
  have h' : RoSo u t x.ty := h
  obtain ⟨p, c, rfl, -, -⟩ := RoIs.shape h'
  rcases hv with rfl | rfl | rfl <;> rfl
def wkO (fv rv : Value) (d z : Nat) : Obj := .cells #[fv, rv, .int .i64 (d : Nat), .int .i64 (z : Nat)] 161 (0, 0)
/-- A walk in the box that stands where w ends: the finder, what is to come, the depth and the size so far. -/
structure WalkR (u w W : World) (fv rv : Value) (R : List Vl.Rw) (d z : Nat) : Prop where
  box : W.heap[w.heap.size]? = some (wkO fv rv d z)
  row : RowIs (kRw u) W w.heap.size rv R
  on : Below w.heap.size w W
section
variable {u w W W' : World} {fv rv : Value} {R : List Vl.Rw} {d z : Nat}
theorem WalkR.below (h : WalkR u w W fv rv R d z) (hb : Below W.heap.size W W') : WalkR u w W' fv rv R d z :=
  ⟨box_keep hb h.box, h.row.below (okRw u) hb, h.on.trans (hb.mono h.on.size)⟩
theorem WalkR.apart (h : WalkR u w W fv rv R d z) : ∀ k, rv.ownBlock = some k → k ≠ w.heap.size := fun k hk e => by
  obtain ⟨cs, hc⟩ := h.row.ownTy k hk
  rw [e, h.box] at hc
  simp only [wkO, Option.some.injEq, Obj.cells.injEq] at hc
  exact absurd hc.2.1 (by show ¬ ((161 : Nat) = 214); decide)
/-- One of its cells is set. -/
theorem WalkR.set (h : WalkR u w W fv rv R d z) (i : Nat) (v : Value) {fv' rv' : Value} {d' z' : Nat} (he : (#[fv, rv, Value.int .i64 (d : Nat), .int .i64 (z : Nat)] : Array Value).setIfInBounds i v = #[fv', rv', .int .i64 (d' : Nat), .int .i64 (z' : Nat)]) (hr : rv' = rv) : WalkR u w (W.setCell ⟨w.heap.size, i, none⟩ v) fv' rv' R d' z' := by
  refine ⟨?_, ?_, h.on.setCell (Nat.le_refl _) _⟩
  · rw [tk_set h.box, he]; rfl
  · rw [hr]; exact row_set (okRw u) h.row h.box (by show ¬ ((161 : Nat) = 214 ∨ False); decide) (tn_set W v)
/-- Its row becomes another one, that is there already. -/
theorem walk_turn {rv rv' : Value} {R' : List Vl.Rw} (h : W.heap[w.heap.size]? = some (wkO fv rv d z)) (hr : RowIs (kRw u) W w.heap.size rv' R') (hb : Below w.heap.size w W) : WalkR u w (W.setCell ⟨w.heap.size, 1, none⟩ rv') fv rv' R' d z := by
  refine ⟨?_, row_set (okRw u) hr h (by show ¬ ((161 : Nat) = 214 ∨ False); decide) (tn_set W rv'), hb.setCell (Nat.le_refl _) _⟩
  rw [tk_set h]; rfl
/-- What is no row, and not the walk's own box, stays. -/
def WKeep (a : Nat) (W W' : World) : Prop := ∀ k cs T, W.heap[k]? = some (.cells cs T (0, 0)) → T ≠ 214 → k ≠ a → W'.heap[k]? = W.heap[k]?
theorem WKeep.below {a : Nat} {W W' W'' : World} (h : WKeep a W W') (hb : Below W'.heap.size W' W'') : WKeep a W W'' := fun k cs T hc hT hne => (box_keep hb ((h k cs T hc hT hne).trans hc)).trans hc.symm
theorem WKeep.set {a : Nat} {W W' : World} (h : WKeep a W W') (i : Nat) (v : Value) : WKeep a W (W'.setCell ⟨a, i, none⟩ v) := fun k cs T hc hT hne => (Below.heap_setCell _ _ _ _ hne).trans (h k cs T hc hT hne)
set_option maxRecDepth 100000 in
set_option maxHeartbeats 4000000 in
theorem wait_any (h : WalkR u w W fv rv R d z) {tv : Value} {t : List Ip.So} (ht : RoSo u tv t) (k dp : Nat) (hR : R.length ≤ 900000) : Calls Tryz.prog 117 #[.pointer (some ⟨w.heap.size, 0, none⟩), tv, .int .i64 (k : Nat), .int .i64 (dp : Nat)] W fun e w' => e = .returned (.tuple #[]) ∧ WKeep w.heap.size W w' ∧ ∃ rv', WalkR u w w' fv rv' (if 0 < k then R ++ [⟨t, k, dp⟩] else R) d z := by
  obtain ⟨p, c, rfl, -, -⟩ := RoIs.shape ht
  obtain ⟨x0, x1, x2, x3⟩ := cells4' h.box
  by_cases hk : 0 < k
  · have i1 : (0 : Int) < (k : Int) := by omega
    obtain ⟨pv, cv, V, hrun, hL, hB, hk2⟩ := append_ref (okRw u) h.row h.on ⟨t, k, dp⟩ (.slice p t.length c) ht (by omega) 159
    have hbox := block_apart (J := kRw u) h.row hk2 h.box (by show (214 : Nat) ≠ 161; decide)
    have HBX : Hid (V.heap[w.heap.size]? = some (wkO fv rv d z)) := Lib.hid (hbox.trans h.box)
    have HT : Hid (WalkR u w (V.setCell ⟨w.heap.size, 1, none⟩ (.slice pv (R.length + 1) cv)) fv (.slice pv (R.length + 1) cv) (R ++ [⟨t, k, dp⟩]) d z) := Lib.hid (walk_turn HBX.out hL hB)
    have HKP : Hid (WKeep w.heap.size W (V.setCell ⟨w.heap.size, 1, none⟩ (.slice pv (R.length + 1) cv))) := Lib.hid fun k' cs T hc hT hne => (Below.heap_setCell _ _ _ _ hne).trans (block_apart (J := kRw u) h.row hk2 hc (fun e => hT e.symm))
    have HL := Lib.hid hL
    have HB := Lib.hid hB
    rw [show ((kRw u).cells ⟨t, k, dp⟩ (.slice p t.length c)).toArray = #[.slice p t.length c, .int .i64 (k : Nat), .int .i64 (dp : Nat)] from rfl] at hrun
    obtain ⟨pr, cr, rfl, -, -⟩ := h.row.shape
    obtain ⟨y0, y1, y2, y3⟩ := cells4' HBX.out
    have f1 := frozen2 HBX.out 1
    have HIF : Hid ((if 0 < k then R ++ [(⟨t, k, dp⟩ : Vl.Rw)] else R) = R ++ [⟨t, k, dp⟩]) := Lib.hid (if_pos hk)
    clear hL hB hk2 hbox h ht hk
    go_enter Tryz.func117, Tryz.ntmps117
    go_wp2_with (at_builtin; refine Lib.wpList_append_run _ rfl (.tmp 14) (.tmp 19) _ _ rfl _ _ rfl rfl _ _ hrun ?_)
    refine bodyPost_end (results_none rfl _ _ _) rfl ?_
    exact ⟨rfl, HKP.out, _, HT.out⟩
  · have i1 : ¬ (0 : Int) < (k : Int) := by omega
    have HIF : Hid ((if 0 < k then R ++ [(⟨t, k, dp⟩ : Vl.Rw)] else R) = R) := Lib.hid (if_neg hk)
    have H := Lib.hid h
    clear ht h hk
    go_enter Tryz.func117, Tryz.ntmps117
    go_wp2_with fail
    refine bodyPost_end (results_none rfl _ _ _) rfl ?_
    exact ⟨rfl, fun _ _ _ _ _ _ => rfl, _, H.out⟩
end
/-! ### next -/
section
variable {α : Type} {K : RowKind α} {W : World} {base : Nat} {v : Value} {L : List α}
/-- What stands ahead of some place. -/
theorem RowIs.cut (ok : K.Ok) {p : Option Addr} {n c : Nat} (h : RowIs K W base (.slice p n c) L) {i : Nat} (hi : i ≤ n) (hp : p ≠ none) : RowIs K W base (.slice p i c) (L.take i) := by
  obtain ⟨Z, h1, h2, h3⟩ := h
  rcases h2.2 with ⟨e, -⟩ | ⟨g, cap, cur, e, hg, hh, h4, h5, h6, h7⟩
  · cases e; exact absurd rfl hp
  · obtain ⟨rfl, rfl, rfl⟩ := Value.slice.inj e
    have hz : Z.length = L.length := by rw [← h1, List.length_map]
    have hlen : (L.take i).length = i := by rw [List.length_take]; omega
    have hx : (Z.take i).flatMap (fun z => K.cells z.1 z.2) = cur.toList.take (i * K.k) ∧ (cur.toList.take (i * K.k)).length = i * K.k := by
      have hl := h2.1
      have e1 : (Z.flatMap fun z => K.cells z.1 z.2) = ((Z.take i).flatMap fun z => K.cells z.1 z.2) ++ ((Z.drop i).flatMap fun z => K.cells z.1 z.2) := by rw [← List.flatMap_append, List.take_append_drop]
      have e2 : ((Z.take i).flatMap fun z => K.cells z.1 z.2).length = i * K.k := by rw [flat_len ok.len, List.length_take]; congr 1; omega
      have e3 : cur.toList.take (i * K.k) = (Z.take i).flatMap fun z => K.cells z.1 z.2 := by
        have hle : i * K.k ≤ L.length * K.k := Nat.mul_le_mul_right _ hi
        have h8 := congrArg (List.take (i * K.k)) h7
        rw [List.take_take, Nat.min_eq_left hle, e1, List.take_left' e2] at h8
        exact h8
      exact ⟨e3.symm, by rw [e3, e2]⟩
    refine ⟨Z.take i, by rw [← h1, List.map_take], ⟨by rw [hlen, hx.1, hx.2], .inr ⟨g, c, cur, by rw [hlen], hg, hh, by omega, h5, h6, by rw [hlen, hx.1]⟩⟩, fun z hz => h3 z (List.mem_of_mem_take hz)⟩
theorem flat_set {k : Nat} {cells : α → Value → List Value} (hlen : ∀ x t, (cells x t).length = k) : ∀ (Z : List (α × Value)) {i j : Nat} (hi : i < Z.length) (hj : j < k) {u : Value} (y : α × Value), cells y.1 y.2 = (cells Z[i].1 Z[i].2).set j u → ((Z.set i y).flatMap fun z => cells z.1 z.2) = (Z.flatMap fun z => cells z.1 z.2).set (i * k + j) u
  | [], i, j, hi, _, _, _, _ => absurd hi (Nat.not_lt_zero _)
  | a :: Z, 0, j, _, hj, u, y, h => by
    rw [List.set_cons_zero, List.flatMap_cons, List.flatMap_cons, Nat.zero_mul, Nat.zero_add, List.set_append_left _ _ (by rw [hlen]; exact hj), h]; rfl
  | a :: Z, i + 1, j, hi, hj, u, y, h => by
    rw [List.set_cons_succ, List.flatMap_cons, List.flatMap_cons, flat_set hlen Z (by simpa using hi) hj y h, List.set_append_right _ _ (by rw [hlen, Nat.add_mul]; omega), hlen]
    congr 1
    rw [Nat.add_mul, Nat.one_mul]
    congr 1
    omega
/-- One cell of an element is written. -/
theorem RowIs.write (ok : K.Ok) (h : RowIs K W base v L) {g c : Nat} (hv : v = .slice (some ⟨g, 0, none⟩) L.length c) {i j : Nat} (hi : i < L.length) (hj : j < K.k) {x' : α} {u : Value} (hc : ∀ t, K.sub W base t L[i] → K.sub W base t x' ∧ K.cells x' t = (K.cells L[i] t).set j u) : RowIs K (W.setCell ⟨g, i * K.k + j, none⟩ u) base v (L.set i x') := by
  obtain ⟨Z, h1, h2, h3⟩ := h
  subst hv
  rcases h2.2 with ⟨e, -⟩ | ⟨g', cap, cur, e, hg, hh, h4, h5, h6, h7⟩
  · cases e
  · obtain ⟨e1, -, rfl⟩ := Value.slice.inj e
    cases e1
    have hz : i < Z.length := by rw [← h1, List.length_map] at hi; exact hi
    have hl : Z[i].1 = L[i] := by subst h1; rw [List.getElem_map]
    have hci := hc Z[i].2 (by rw [← hl]; exact h3 _ (List.getElem_mem hz))
    have hfl : ((Z.set i (x', Z[i].2)).flatMap fun z => K.cells z.1 z.2) = (Z.flatMap fun z => K.cells z.1 z.2).set (i * K.k + j) u := by
      exact flat_set ok.len Z hz hj _ (by rw [hl]; exact hci.2)
    have hkeep : ∀ t x, K.sub W base t x → K.sub (W.setCell ⟨g, i * K.k + j, none⟩ u) base t x := fun t x hs => ok.keep _ _ _ _ _ _ hs (Nat.le_refl _) fun k cs ty _ hk hty => (tn_set W u).block k (Array.getElem?_eq_some_iff.1 hk).1 fun e => by
      subst e; rw [hh] at hk; cases hk; exact ok.fresh hty
    refine ⟨Z.set i (x', Z[i].2), by rw [List.map_set, h1], ⟨by rw [List.length_set, hfl, List.length_set]; exact h2.1, .inr ⟨g, c, cur.setIfInBounds (i * K.k + j) u, by rw [List.length_set], hg, tk_set hh u, by rw [List.length_set]; exact h4, h5, by rw [Array.size_setIfInBounds]; exact h6, ?_⟩⟩, fun z hz' => ?_⟩
    · rw [List.length_set, hfl, ← h7, Array.toList_setIfInBounds, List.take_set]
    · rcases List.mem_or_eq_of_mem_set hz' with hm | rfl
      · exact hkeep _ _ (h3 z hm)
      · exact hkeep _ _ hci.1
end
end Go.Proofs.YtnkdhmoocomjfaaGreatDoor
set_option linter.unusedSimpArgs false
set_option linter.unusedVariables false
namespace Vl
/-- What is left behind the next part. -/
def left (R : List Rw) (x : Rw) : List Rw := if x.times = 1 then R else R ++ [⟨x.ty, x.times - 1, x.depth⟩]
theorem comes_left {R : List Rw} {x : Rw} (h : 1 ≤ x.times) : comes (R ++ [x]) = (x.ty, x.depth) :: comes (left R x) := by
  unfold left
  obtain ⟨n, hn⟩ : ∃ n, x.times = n + 1 := ⟨x.times - 1, by omega⟩
  by_cases h1 : x.times = 1
  · rw [if_pos h1, comes_snoc, h1]; rfl
  · rw [if_neg h1, comes_snoc, comes_snoc, hn]; rfl
end Vl
namespace Go.Proofs.YtnkdhmoocomjfaaGreatDoor
open Go.RowKit
section
variable {u w W : World} {fv rv : Value} {R : List Vl.Rw} {d z : Nat}
set_option maxRecDepth 100000 in
set_option maxHeartbeats 4000000 in
theorem next_none (h : WalkR u w W fv rv [] d z) : Calls Tryz.prog 158 #[.pointer (some ⟨w.heap.size, 0, none⟩)] W fun e w' => e = .returned (.tuple #[.slice none 0 0, .int .i64 0, .bool false]) ∧ w' = W := by
  obtain ⟨x0, x1, x2, x3⟩ := cells4' h.box
  obtain ⟨p, c, rfl, -, -⟩ := h.row.shape
  clear h
  go_enter Tryz.func158, Tryz.ntmps158
  go_wp2_with fail
  go_ret3
  exact ⟨rfl, rfl⟩
set_option maxRecDepth 100000 in
set_option maxHeartbeats 4000000 in
theorem next_some {x : Vl.Rw} (h : WalkR u w W fv rv (R ++ [x]) d z) (hx : 1 ≤ x.times) (hxm : x.times ≤ 9223372036854775807) (hR : R.length ≤ 900000) : Calls Tryz.prog 158 #[.pointer (some ⟨w.heap.size, 0, none⟩)] W fun e w' => ∃ tv, e = .returned (.tuple #[tv, .int .i64 (x.depth : Nat), .bool true]) ∧ RoSo u tv x.ty ∧ WKeep w.heap.size W w' ∧ ∃ rv', WalkR u w w' fv rv' (Vl.left R x) d z := by
  obtain ⟨x0, x1, x2, x3⟩ := cells4' h.box
  have hlen : (R ++ [x]).length = R.length + 1 := by simp
  obtain ⟨g, c, t, e, hg, hgl, hsub, hcs⟩ := RowIs.at (okRw u) h.row (i := R.length) (by omega)
  have hgx : (R ++ [x])[R.length]'(by omega) = x := by simp
  rw [hgx] at hsub hcs
  rw [hlen] at e
  have z0 := hcs 0 _ rfl
  have z1 := hcs 1 _ rfl
  have z2 := hcs 2 _ rfl
  subst e
  have hne : g ≠ w.heap.size := h.apart g rfl
  obtain ⟨cs, hgc⟩ := h.row.ownTy g rfl
  have fz := frozen2 hgc (R.length * 3 + 1)
  simp only [show (kRw u).k = 3 from rfl, Nat.add_zero] at z0 z1 z2
  obtain ⟨pt, ct, rfl, -, -⟩ := RoIs.shape (show RoSo u t x.ty from hsub)
  have HSUB : Hid (RoSo u (.slice pt x.ty.length ct) x.ty) := Lib.hid hsub
  obtain ⟨m, hm⟩ : ∃ m, x.times = m + 1 := ⟨x.times - 1, by omega⟩
  have i0 : ¬ ((R.length : Int) < 0) := by omega
  have i1 : (0 : Int) ≤ (R.length : Int) := by omega
  have i2 : (R.length : Int) < (R.length : Int) + 1 := by omega
  have hcc : R.length + 1 ≤ c ∧ c ≤ 9223372036854775807 := by
    obtain ⟨p', c', e', h1, h2⟩ := h.row.shape
    obtain ⟨-, -, rfl⟩ := Value.slice.inj e'
    unfold maxLen at h2
    omega
  obtain ⟨hc1, hc2⟩ := hcc
  obtain ⟨xt, xk, xd⟩ := x
  simp only at hm hx hxm z0 z1 z2 HSUB
  subst hm
  obtain ⟨V1, hV1⟩ : ∃ V, V = W.setCell ⟨g, R.length * 3 + 1, none⟩ (.int .i64 (m : Nat)) := ⟨_, rfl⟩
  have h1 : WalkR u w V1 fv (.slice (some ⟨g, 0, none⟩) (R.length + 1) c) (R ++ [⟨xt, m, xd⟩]) d z := by
    refine ⟨?_, ?_, ?_⟩
    · rw [hV1]; exact (Below.heap_setCell _ _ _ _ (fun e => hne e.symm)).trans h.box
    · rw [hV1]
      have hw := RowIs.write (okRw u) h.row (by rw [hlen]) (i := R.length) (j := 1) (by omega) (by show 1 < 3; omega) (x' := ⟨xt, m, xd⟩) (u := .int .i64 (m : Nat)) (fun t ht => by rw [hgx] at ht ⊢; exact ⟨ht, rfl⟩)
      rw [List.set_append_right _ _ (Nat.le_refl _), Nat.sub_self] at hw
      exact hw
    · rw [hV1]; exact h.on.setCell hg _
  have y1 : V1.cell? ⟨g, R.length * 3 + 1, none⟩ = some (.int .i64 (m : Nat)) := by rw [hV1]; exact World.cell?_setCell_same _ _ _ z1
  have y0 : V1.cell? ⟨g, R.length * 3, none⟩ = some (.slice pt xt.length ct) := by rw [hV1, World.cell?_setCell_other _ _ _ _ (by simp)]; exact z0
  have y2 : V1.cell? ⟨g, R.length * 3 + 2, none⟩ = some (.int .i64 (xd : Nat)) := by rw [hV1, World.cell?_setCell_other _ _ _ _ (by simp)]; exact z2
  obtain ⟨v0, v1, v2, v3⟩ := cells4' h1.box
  have f1 := frozen2 h1.box 1
  have HKP : Hid (WKeep w.heap.size W V1) := Lib.hid fun k cs' T hc hT hne' => by
    rw [hV1]
    exact Below.heap_setCell _ _ _ _ fun e => by subst e; rw [hgc] at hc; cases hc; exact hT rfl
  have H1 := Lib.hid h1
  have z1' : W.cell? ⟨g, R.length * 3 + 1, none⟩ = some (.int .i64 ((m : Int) + 1)) := z1
  have hm1 : m ≤ 9223372036854775806 := by omega
  clear h hcs hgx hsub z1 h1 hlen hx hxm
  go_enter Tryz.func158, Tryz.ntmps158
  go_upto_region 6 with fail
  rw [← hV1]
  clear hV1 x0 x1 x2 x3 z0 z1' z2 fz
  by_cases hm0 : m = 0
  · subst hm0
    have HL : Hid (Vl.left R ⟨xt, 0 + 1, xd⟩ = R) := Lib.hid rfl
    go_quiet (fail)
    go_wp2_with fail
    go_ret3
    refine ⟨_, rfl, HSUB.out, (HKP.out.below (dn_below V1 nq)).set 1 _, .slice (some ⟨g, 0, none⟩) R.length c, ?_⟩
    have h2 := H1.out.below (dn_below V1 nq)
    have hr : RowIs (kRw u) (V1.drewN nq) w.heap.size (.slice (some ⟨g, 0, none⟩) R.length c) R := by
      have h5 := RowIs.cut (okRw u) h2.row (i := R.length) (by omega) (by simp)
      rwa [List.take_left' rfl] at h5
    rw [show Vl.left R ⟨xt, 1, xd⟩ = R from rfl]
    exact walk_turn h2.box hr h2.on
  · have i5 : ((m : Int) == 0) = false := by rw [beq_eq_false_iff_ne]; omega
    have HL : Hid (Vl.left R ⟨xt, m + 1, xd⟩ = R ++ [⟨xt, m, xd⟩]) := Lib.hid (by unfold Vl.left; rw [if_neg (by show ¬ m + 1 = 1; omega)]; rfl)
    clear hm0
    go_quiet (fail)
    go_wp2_with fail
    go_ret3
    exact ⟨_, rfl, HSUB.out, HKP.out.below (dn_below V1 _), _, by rw [HL.out]; exact H1.out.below (dn_below V1 _)⟩
end
end Go.Proofs.YtnkdhmoocomjfaaGreatDoor
