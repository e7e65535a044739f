/-
  The law IdlMore, walked: the declarations of another text, put behind, are read as they are there. Conditions: those in the theorems (the keywords' variable holds what the row lists).
-/
import Derived.Test.YtlmjcnfiolbfpaaDoorIdlAhead
import Derived.Deep.CutRange
import Derived.ChangeKeysEq
set_option linter.unusedSimpArgs false
set_option linter.unusedVariables false
namespace Go.Proofs.YtlmjcnfiolbfpaaDoor
open Go.RowKit

/-- A row is appended to a row of the call's own. -/
theorem row_append_row {α : Type} {K : RowKind α} (ok : K.Ok) {W : World} {base base' : Nat} {v u : Value} {L M : List α} (h : RowIs K W base v L) (hm : RowIs K W base' u M) (hbb : base ≤ base') (hs : L.length + M.length ≤ 1000000) (hb : base ≤ W.heap.size) (ty : TypeId) :
    ∃ (pv : Option Addr) (cv : Nat) (V : World), (Builtin.append_ #[K.sl, K.sl] ty #[v, u]).run Tryd.prog W = .ok (.slice pv (L.length + M.length) cv) V ∧ RowIs K V base (.slice pv (L.length + M.length) cv) (L ++ M) ∧ GrewT v (.slice pv (L.length + M.length) cv) W V := by
  obtain ⟨p0, k0, rfl, q1, q2⟩ := h.shape
  obtain ⟨p2, k2, rfl, -, -⟩ := hm.shape
  by_cases h0 : M = []
  · subst h0
    refine ⟨p0, k0, W, ?_, by rw [List.append_nil]; exact h, rfl, rfl, rfl, Nat.le_refl _, fun _ _ _ => rfl, fun k hk => .inl hk⟩
    obtain ⟨i0, hi0, -, -, -⟩ := info_parts ok.info
    have hsz := run_sizeOf W hi0
    cases p0 <;> cases p2 <;> simp [Builtin.append_, run_underlying ok.under, loadCellsFrom, storeCells, Builtin.firstCells, Builtin.lenOf, go_sem, q1, hsz]
  · obtain ⟨Z, h1, h2, h3⟩ := h
    obtain ⟨Y, m1, m2, m3⟩ := hm
    have hpos : 0 < M.length := by cases M with
      | nil => exact absurd rfl h0
      | cons _ _ => simp
    have hYl : Y.length = M.length := by rw [← m1, List.length_map]
    obtain ⟨g, hg⟩ : ∃ g, p2 = some ⟨g, 0, none⟩ := by
      rcases m2.2 with ⟨-, e⟩ | ⟨g, cap, cur, e, -⟩
      · omega
      · cases e; exact ⟨g, rfl⟩
    subst hg
    obtain ⟨i0, hi0, hz0, hz1, hz2⟩ := info_parts ok.info
    have hone : ∀ u ∈ (Y.flatMap fun z => K.cells z.1 z.2), u.oneCell' = true := fun u hu => by
      obtain ⟨z, hz, hu⟩ := List.mem_flatMap.1 hu
      exact ok.one _ _ _ _ (m3 z hz) u hu
    obtain ⟨v', V, hrun, ho, hgr, -, hown⟩ := run_append_own_at (P := Tryd.prog) W base K.sl ty K.ty i0 _ K.k K.bytes ok.under hi0 hz0 hz1 hz2 ok.zlen ok.pos _ _ _ h2
      ⟨g, 0, none⟩ M.length k2 (Y.flatMap fun z => K.cells z.1 z.2) (by rw [flat_len ok.len, hYl]) (m2.cells rfl) hone (by unfold maxLen; omega) (by have := ok.bound; have := Nat.mul_le_mul hs this; omega) hb
    have hgr2 : ∀ k, k < W.heap.size → (Value.slice p0 L.length k0).ownBlock ≠ some k → V.heap[k]? = W.heap[k]? := fun k hk hn => hgr.block k hk fun e => hn e.symm
    have hty : ∀ k, (Value.slice p0 L.length k0).ownBlock = some k → ∃ cs, W.heap[k]? = some (Obj.cells cs K.ty (0, 0)) := RowIs.ownTy (K := K) (L := L) ⟨Z, h1, h2, h3⟩
    have hne : ∀ (j : Nat) (cs : Array Value) (ty' : TypeId), W.heap[j]? = some (Obj.cells cs ty' (0, 0)) → K.tys ty' → V.heap[j]? = W.heap[j]? := by
      intro j cs ty' hj ht'
      refine hgr2 j (Array.getElem?_eq_some_iff.1 hj).1 fun e => ?_
      obtain ⟨cs', hc'⟩ := hty j e
      rw [hj] at hc'
      cases hc'
      exact ok.fresh ht'
    have hR : RowIs K V base v' (L ++ M) := by
      refine ⟨Z ++ Y, by rw [List.map_append, h1, m1], ?_, fun z hz => ?_⟩
      · rw [List.flatMap_append, List.length_append]; exact ho
      · rcases List.mem_append.1 hz with hz | hz
        · exact ok.keep _ _ _ _ _ _ (h3 z hz) (Nat.le_refl _) fun j cs ty' _ hj ht' => hne j cs ty' hj ht'
        · exact ok.keep _ _ _ _ _ _ (m3 z hz) hbb fun j cs ty' _ hj ht' => hne j cs ty' hj ht'
    obtain ⟨pv, cv, rfl, -, -⟩ := hR.shape
    rw [List.length_append] at hrun hR hown
    refine ⟨pv, cv, V, hrun, hR, hgr.os, hgr.tape, hgr.output, hgr.size, hgr2, fun k hk => ?_⟩
    rcases hown with e | e
    · exact .inl (e ▸ hk)
    · have e2 : (Value.slice pv (L.length + M.length) cv).ownBlock = some W.heap.size := e
      rw [e2] at hk
      simp only [Option.some.injEq] at hk
      exact .inr (by omega)
/-- A row that lies higher than the one that is appended to. -/
theorem row_far {α : Type} {K : RowKind α} (ok : K.Ok) {W V : World} {base : Nat} {u v v' : Value} {M : List α} (h : RowIs K W base u M) (g : GrewT v v' W V) (hv : ∀ k, v.ownBlock = some k → k < base) : RowIs K V base u M :=
  h.keep ok (Nat.le_refl _) fun j cs ty hj hc _ => g.block j (Array.getElem?_eq_some_iff.1 hc).1 fun e => by have := hv j e; omega
/-- A schema that lies higher than the row that is appended to, and than the block that is written. -/
theorem sch_high {W V : World} {b2 y x i : Nat} {t : Ip.Sch} {vr vs vg v v' : Value} (h : SchIn W b2 y t vr vs vg) (g : GrewT v v' W V) (hv : ∀ k, v.ownBlock = some k → k < x) (hx : x < b2) (hy : b2 ≤ y) (a : Value) : SchIn (V.setCell ⟨x, i, none⟩ a) b2 y t vr vs vg := by
  have hb : ∀ j, b2 ≤ j → j < W.heap.size → (V.setCell ⟨x, i, none⟩ a).heap[j]? = W.heap[j]? := fun j hj hl =>
    (Below.heap_setCell _ _ _ _ (by show j ≠ x; omega)).trans (g.block j hl fun e => by have := hv j e; omega)
  exact ⟨(hb y hy (Array.getElem?_eq_some_iff.1 h.blk).1).trans h.blk, h.recs.keep okRcd (Nat.le_refl _) fun j cs ty hj hc _ => hb j hj (Array.getElem?_eq_some_iff.1 hc).1, h.srvs.keep okSrv (Nat.le_refl _) fun j cs ty hj hc _ => hb j hj (Array.getElem?_eq_some_iff.1 hc).1, h.sgas.keep okSga (Nat.le_refl _) fun j cs ty hj hc _ => hb j hj (Array.getElem?_eq_some_iff.1 hc).1⟩
theorem sch_set {W : World} {base x i : Nat} {s : Ip.Sch} {vr vs vg : Value} (cs : Array Value) (a : Value) (h0 : W.heap[x]? = some (.cells cs 26 (0, 0))) (hc : cs.setIfInBounds i a = #[.string s.name, vr, vs, vg]) (h1 : RowIs kRcd W base vr s.records) (h2 : RowIs kSrv W base vs s.services) (h3 : RowIs kSga W base vg s.sagas) : SchIn (W.setCell ⟨x, i, none⟩ a) base x s vr vs vg := by
  have ht := tn_set (b := x) (i := i) W a
  refine ⟨by rw [tk_set h0, hc], row_set okRcd h1 h0 ?_ ht, row_set okSrv h2 h0 ?_ ht, row_set okSga h3 h0 ?_ ht⟩
  · show ¬ ((26 : Nat) = 52 ∨ ((26 : Nat) = 62 ∨ (26 : Nat) = 70)); decide
  · show ¬ ((26 : Nat) = 56 ∨ (26 : Nat) = 94); decide
  · show ¬ ((26 : Nat) = 60 ∨ (26 : Nat) = 64); decide
/-- Records of t behind those of s, in block x. -/
theorem add_recs {W : World} {b1 b2 x y : Nat} {s t : Ip.Sch} {vr vs vg tr tS tg : Value} (hs : SchIn W b1 x s vr vs vg) (ht : SchIn W b2 y t tr tS tg) (hb : b1 ≤ b2) (hw : b1 ≤ W.heap.size) (hn : s.records.length + t.records.length ≤ 1000000) :
    ∃ (pv : Option Addr) (cv : Nat) (V : World), (Builtin.append_ #[22, 22] 22 #[vr, tr]).run Tryd.prog W = .ok (.slice pv (s.records.length + t.records.length) cv) V ∧ GrewT vr (.slice pv (s.records.length + t.records.length) cv) W V ∧ V.heap[x]? = W.heap[x]? ∧
      SchIn (V.setCell ⟨x, 1, none⟩ (.slice pv (s.records.length + t.records.length) cv)) b1 x { s with records := s.records ++ t.records } (.slice pv (s.records.length + t.records.length) cv) vs vg := by
  obtain ⟨pv, cv, V, hrun, hR, hg⟩ := row_append_row okRcd hs.recs ht.recs hb hn hw 22
  have hx := block_apart hs.recs hg.block hs.blk (by show (52 : Nat) ≠ 26; decide)
  refine ⟨pv, cv, V, hrun, hg, hx, sch_set _ _ (hx.trans hs.blk) rfl hR (row_apart okSrv hs.srvs hs.recs hg.block ?_) (row_apart okSga hs.sgas hs.recs hg.block ?_)⟩
  · show ¬ ((52 : Nat) = 56 ∨ (52 : Nat) = 94); decide
  · show ¬ ((52 : Nat) = 60 ∨ (52 : Nat) = 64); decide
theorem add_srvs {W : World} {b1 b2 x y : Nat} {s t : Ip.Sch} {vr vs vg tr tS tg : Value} (hs : SchIn W b1 x s vr vs vg) (ht : SchIn W b2 y t tr tS tg) (hb : b1 ≤ b2) (hw : b1 ≤ W.heap.size) (hn : s.services.length + t.services.length ≤ 1000000) :
    ∃ (pv : Option Addr) (cv : Nat) (V : World), (Builtin.append_ #[23, 23] 23 #[vs, tS]).run Tryd.prog W = .ok (.slice pv (s.services.length + t.services.length) cv) V ∧ GrewT vs (.slice pv (s.services.length + t.services.length) cv) W V ∧ V.heap[x]? = W.heap[x]? ∧
      SchIn (V.setCell ⟨x, 2, none⟩ (.slice pv (s.services.length + t.services.length) cv)) b1 x { s with services := s.services ++ t.services } vr (.slice pv (s.services.length + t.services.length) cv) vg := by
  obtain ⟨pv, cv, V, hrun, hR, hg⟩ := row_append_row okSrv hs.srvs ht.srvs hb hn hw 23
  have hx := block_apart hs.srvs hg.block hs.blk (by show (56 : Nat) ≠ 26; decide)
  refine ⟨pv, cv, V, hrun, hg, hx, sch_set _ _ (hx.trans hs.blk) rfl (row_apart okRcd hs.recs hs.srvs hg.block ?_) hR (row_apart okSga hs.sgas hs.srvs hg.block ?_)⟩
  · show ¬ ((56 : Nat) = 52 ∨ ((56 : Nat) = 62 ∨ (56 : Nat) = 70)); decide
  · show ¬ ((56 : Nat) = 60 ∨ (56 : Nat) = 64); decide
theorem add_sgas {W : World} {b1 b2 x y : Nat} {s t : Ip.Sch} {vr vs vg tr tS tg : Value} (hs : SchIn W b1 x s vr vs vg) (ht : SchIn W b2 y t tr tS tg) (hb : b1 ≤ b2) (hw : b1 ≤ W.heap.size) (hn : s.sagas.length + t.sagas.length ≤ 1000000) :
    ∃ (pv : Option Addr) (cv : Nat) (V : World), (Builtin.append_ #[24, 24] 24 #[vg, tg]).run Tryd.prog W = .ok (.slice pv (s.sagas.length + t.sagas.length) cv) V ∧ GrewT vg (.slice pv (s.sagas.length + t.sagas.length) cv) W V ∧ V.heap[x]? = W.heap[x]? ∧
      SchIn (V.setCell ⟨x, 3, none⟩ (.slice pv (s.sagas.length + t.sagas.length) cv)) b1 x { s with sagas := s.sagas ++ t.sagas } vr vs (.slice pv (s.sagas.length + t.sagas.length) cv) := by
  obtain ⟨pv, cv, V, hrun, hR, hg⟩ := row_append_row okSga hs.sgas ht.sgas hb hn hw 24
  have hx := block_apart hs.sgas hg.block hs.blk (by show (60 : Nat) ≠ 26; decide)
  refine ⟨pv, cv, V, hrun, hg, hx, sch_set _ _ (hx.trans hs.blk) rfl (row_apart okRcd hs.recs hs.sgas hg.block ?_) (row_apart okSrv hs.srvs hs.sgas hg.block ?_) hR⟩
  · show ¬ ((60 : Nat) = 52 ∨ ((60 : Nat) = 62 ∨ (60 : Nat) = 70)); decide
  · show ¬ ((60 : Nat) = 56 ∨ (60 : Nat) = 94); decide
theorem sch_below {W V : World} {base c : Nat} {s : Ip.Sch} {vr vs vg : Value} (h : SchIn W base c s vr vs vg) (hb : Below W.heap.size W V) : SchIn V base c s vr vs vg :=
  ⟨(hb.block c (Array.getElem?_eq_some_iff.1 h.blk).1).trans h.blk, h.recs.below okRcd hb, h.srvs.below okSrv hb, h.sgas.below okSga hb⟩
theorem sch_v {W : World} {base c : Nat} {s : Ip.Sch} {vr vs vg : Value} (h : SchIn W base c s vr vs vg) : SchV W base (.agg #[.string s.name, vr, vs, vg]) s := ⟨_, _, _, rfl, h.recs, h.srvs, h.sgas⟩
/-- A schema that was told, boxed. -/
theorem sch_box {W : World} {base : Nat} {s : Ip.Sch} {vr vs vg : Value} (h1 : RowIs kRcd W base vr s.records) (h2 : RowIs kSrv W base vs s.services) (h3 : RowIs kSga W base vg s.sagas) : SchIn (W.alloc (.cells #[.string s.name, vr, vs, vg] 26)) base W.heap.size s vr vs vg :=
  ⟨heap_alloc_new W _, h1.below okRcd (tk_alloc W _), h2.below okSrv (tk_alloc W _), h3.below okSga (tk_alloc W _)⟩
theorem below_grew_set {w W V : World} {v v' a : Value} {x i : Nat} (h : Below w.heap.size w W) (g : GrewT v v' W V) (hv : ∀ k, v.ownBlock = some k → w.heap.size ≤ k) (hx : w.heap.size ≤ x) : Below w.heap.size w (V.setCell ⟨x, i, none⟩ a) := (g.below h h.size hv).setCell hx _
theorem more_of {x y : List UInt8} (h1 : (Ip.parse x).2.2 = 0) (h2 : (Ip.parse (Ip.headM ++ 10 :: y)).2.2 = 0) : Ip.parse (x ++ 10 :: y) = (Ip.plus (Ip.parse x).1 (Ip.parse (Ip.headM ++ 10 :: y)).1, 0, 0) := Ip.parse_more h1 h2
theorem head_cat (y : ByteArray) : ((⟨#[109, 111, 100, 117, 108, 101, 32, 109, 59, 10]⟩ : ByteArray) ++ y).data.toList = Ip.headM ++ 10 :: y.data.toList := by
  rw [ByteArray.data_append, Array.toList_append]; rfl
set_option maxRecDepth 100000 in
set_option maxHeartbeats 16000000 in
theorem idlMore_any (s r : ByteArray) (w : World) (hm : s.size ≤ maxLen) (hm2 : r.size ≤ maxLen) (hk : KwIs w) : Calls Tryd.prog 7 #[.string s, .string r] w fun e w' => e = .returned (.bool true) ∧ Below w.heap.size w w' := by
  have z1 : s.size ≤ 9223372036854775807 := hm
  have z2 : r.size ≤ 9223372036854775807 := hm2
  go_enter Tryd.func7, Tryd.ntmps7
  go_upto_if 16 with fail
  go_cut [0] from 17 to 18 (fun xv wc => ∃ x : ByteArray, xv = .string x ∧ Hid (x.size ≤ 2500) ∧ wc = w)
  case first =>
    by_cases h1 : 2500 < s.size
    · have i1 : (2500 : Int) < (s.size : Int) := by omega
      have HE : Hid ((s.extract 0 2500).size ≤ 2500) := Lib.hid (by rw [ByteArray.size_extract]; omega)
      go_wp2_with fail
      go_meet
      exact ⟨_, rfl, HE, rfl⟩
    · have i1 : ¬ (2500 : Int) < (s.size : Int) := by omega
      have HE : Hid (s.size ≤ 2500) := Lib.hid (by omega)
      go_wp2_with fail
      go_meet
      exact ⟨_, rfl, HE, rfl⟩
  case rest =>
    obtain ⟨x, rfl, HX, hwc⟩ := hcut
    subst hwc
    go_upto_if 21 with fail
    go_cut [1] from 22 to 23 (fun yv wd => ∃ y : ByteArray, yv = .string y ∧ Hid (y.size ≤ 2500) ∧ wd = wc)
    case first =>
      by_cases h1 : 2500 < r.size
      · have i1 : (2500 : Int) < (r.size : Int) := by omega
        have HE : Hid ((r.extract 0 2500).size ≤ 2500) := Lib.hid (by rw [ByteArray.size_extract]; omega)
        go_wp2_with fail
        go_meet
        exact ⟨_, rfl, HE, rfl⟩
      · have i1 : ¬ (2500 : Int) < (r.size : Int) := by omega
        have HE : Hid (r.size ≤ 2500) := Lib.hid (by omega)
        go_wp2_with fail
        go_meet
        exact ⟨_, rfl, HE, rfl⟩
    case rest =>
      obtain ⟨y, rfl, HY, hwd⟩ := hcut
      subst hwd
      have xs : x.size ≤ 2500 := HX.out
      have ys : y.size ≤ 2500 := HY.out
      have hys2 : ((⟨#[109, 111, 100, 117, 108, 101, 32, 109, 59, 10]⟩ : ByteArray) ++ y).size ≤ 65536 := by rw [ByteArray.size_append]; show 10 + y.size ≤ _; omega
      have HQP := Lib.hid fun W (hW : KwIs W) => Parse_any x W (by omega) hW
      have HQT := Lib.hid fun W (hW : KwIs W) => Parse_any (⟨#[109, 111, 100, 117, 108, 101, 32, 109, 59, 10]⟩ ++ y) W hys2 hW
      have HQC := Lib.hid fun W (hW : KwIs W) => Parse_any (x ++ ⟨#[10]⟩ ++ y) W (by rw [cat_size]; omega) hW
      have hf1 := few_of x (by omega)
      have hf2 := few_of (⟨#[109, 111, 100, 117, 108, 101, 32, 109, 59, 10]⟩ ++ y) hys2
      have hf3 := few_of (x ++ ⟨#[10]⟩ ++ y) (by rw [cat_size]; omega)
      have hl1 := Ip.parse_few (t := x.data.toList) (n := 65536) (by rw [list_len]; omega)
      have hl2 := Ip.parse_few (t := ((⟨#[109, 111, 100, 117, 108, 101, 32, 109, 59, 10]⟩ : ByteArray) ++ y).data.toList) (n := 65536) (by rw [list_len, ByteArray.size_append]; show 10 + y.size + 1 ≤ _; omega)
      rw [cat_list] at HQC hf3
      rw [head_cat] at HQT hf2 hl2
      have HM := Lib.hid (more_of (x := x.data.toList) (y := y.data.toList))
      obtain ⟨⟨S, a1, e1⟩, hx1⟩ : ∃ z, Ip.parse x.data.toList = z := ⟨_, rfl⟩
      obtain ⟨⟨T, a2, e2⟩, hx2⟩ : ∃ z, Ip.parse (Ip.headM ++ 10 :: y.data.toList) = z := ⟨_, rfl⟩
      rw [hx1] at HQP HM hl1
      rw [hx2] at HQT HM hl2
      simp only at HM hl1 hl2
      generalize Ip.parse (x.data.toList ++ 10 :: y.data.toList) = z3 at *
      have HK := Lib.hid hk
      have HF3 := Lib.hid hf3
      have HN1 := Lib.hid hl1
      have HN2 := Lib.hid hl2
      clear hx1 hx2 hk hf1 hf2 hf3 hl1 hl2 hys2
      go_wp2_with fail
      refine Calls.mono (HQP.out _ HK.out) ?_
      rintro e w1 ⟨v1, rfl, hV1, hb1⟩
      obtain ⟨vr, vs, vg, rfl, h1, h2, h3⟩ := hV1
      have HO1 : Hid (∀ v, v = vr ∨ v = vs ∨ v = vg → ∀ k, v.ownBlock = some k → wc.heap.size ≤ k ∧ k < w1.heap.size) := Lib.hid fun v hv => by
        rcases hv with rfl | rfl | rfl
        · exact h1.lt
        · exact h2.lt
        · exact h3.lt
      have HS1 := Lib.hid (sch_box h1 h2 h3)
      obtain ⟨k1, j1, rfl, -, -⟩ := h1.shape
      obtain ⟨k2, j2, rfl, -, -⟩ := h2.shape
      obtain ⟨k3, j3, rfl, -, -⟩ := h3.shape
      have HB1 := Lib.hid hb1
      clear h1 h2 h3 hb1
      go_upto_region 6 with fail
      obtain ⟨W2, hW2⟩ : ∃ W2, W2 = w1.alloc (.cells #[.string S.name, .slice k1 S.records.length j1, .slice k2 S.services.length j2, .slice k3 S.sagas.length j3] 26) := ⟨_, rfl⟩
      have HB2 : Hid (Below wc.heap.size wc W2) := Lib.hid (by rw [hW2]; exact HB1.out.alloc HB1.out.size _)
      have hz2 : W2.heap.size = w1.heap.size + 1 := by rw [hW2, World.size_alloc]
      have HZ2 := Lib.hid hz2
      rw [← hW2] at HS1 ⊢
      clear hW2 hz2
      go_wp2_with fail
      refine Calls.mono (HQT.out _ (HK.out.below HB2.out)) ?_
      rintro e w3 ⟨v3, rfl, hV3, hb3⟩
      obtain ⟨tr, tS, tg, rfl, h1, h2, h3⟩ := hV3
      have HS3 := Lib.hid (sch_below HS1.out hb3)
      have HT3 := Lib.hid (sch_box h1 h2 h3)
      obtain ⟨k4, j4, rfl, -, -⟩ := h1.shape
      obtain ⟨k5, j5, rfl, -, -⟩ := h2.shape
      obtain ⟨k6, j6, rfl, -, -⟩ := h3.shape
      have HB3 := Lib.hid (HB2.out.trans (hb3.mono HB2.out.size))
      have HZ3 := Lib.hid hb3.size
      clear h1 h2 h3 hb3
      go_upto_region 7 with fail
      obtain ⟨W4, hW4⟩ : ∃ W4, W4 = w3.alloc (.cells #[.string T.name, .slice k4 T.records.length j4, .slice k5 T.services.length j5, .slice k6 T.sagas.length j6] 26) := ⟨_, rfl⟩
      have hb4 : Below w3.heap.size w3 W4 := by rw [hW4]; exact tk_alloc _ _
      have HB4 := Lib.hid (HB3.out.trans (hb4.mono HB3.out.size))
      have HS4 := Lib.hid (sch_below HS3.out hb4)
      have hz4 : W4.heap.size = w3.heap.size + 1 := by rw [hW4, World.size_alloc]
      have HZ4 := Lib.hid hz4
      rw [← hW4] at HT3 ⊢
      clear hW4 hb4 hz4
      by_cases t1 : e1 = 0
      · subst t1
        have g1 : (((0 : Nat) : Int) != 0) = false := rfl
        by_cases t2 : e2 = 0
        · subst t2
          have hz3 := HM.out rfl rfl
          subst hz3
          simp only at HF3
          go_wp2_with fail
          refine Calls.mono (HQC.out _ (HK.out.below HB4.out)) ?_
          rintro e w5 ⟨v5, rfl, hV5, hb5⟩
          obtain ⟨ur, us, ug, rfl, h1, h2, h3⟩ := hV5
          have HS5 := Lib.hid (sch_below HS4.out hb5)
          have HT5 := Lib.hid (sch_below HT3.out hb5)
          have HU5 := Lib.hid (sch_box h1 h2 h3)
          obtain ⟨k7, j7, rfl, -, -⟩ := h1.shape
          obtain ⟨k8, j8, rfl, -, -⟩ := h2.shape
          obtain ⟨k9, j9, rfl, -, -⟩ := h3.shape
          have HB5 := Lib.hid (HB4.out.trans (hb5.mono HB4.out.size))
          have HZ5 := Lib.hid hb5.size
          clear h1 h2 h3 hb5
          go_upto_region 10 with fail
          obtain ⟨W6, hW6⟩ : ∃ W6, W6 = w5.alloc (.cells #[.string (Ip.plus S T).name, .slice k7 (Ip.plus S T).records.length j7, .slice k8 (Ip.plus S T).services.length j8, .slice k9 (Ip.plus S T).sagas.length j9] 26) := ⟨_, rfl⟩
          have hb6 : Below w5.heap.size w5 W6 := by rw [hW6]; exact tk_alloc _ _
          have HB6 := Lib.hid (HB5.out.trans (hb6.mono HB5.out.size))
          have HS6 := Lib.hid (sch_below HS5.out hb6)
          have HT6 := Lib.hid (sch_below HT5.out hb6)
          rw [← hW6] at HU5 ⊢
          clear hW6 hb6
          have hxw : w1.heap.size < W2.heap.size := by have := HZ2.out; omega
          have hxw4 : w1.heap.size < W4.heap.size := by have := HZ2.out; have := HZ3.out; have := HZ4.out; omega
          have HXS := Lib.hid (And.intro hxw hxw4)
          have HNN : Hid (S.records.length + T.records.length ≤ 1000000 ∧ S.services.length + T.services.length ≤ 1000000 ∧ S.sagas.length + T.sagas.length ≤ 1000000) := Lib.hid ⟨by have := HN1.out.recs; have := HN2.out.recs; omega, by have := HN1.out.srvs; have := HN2.out.srvs; omega, by have := HN1.out.sgas; have := HN2.out.sgas; omega⟩
          clear hxw hxw4
          obtain ⟨pv0, cv0, V0, hrun, hg, hx, hS⟩ := add_recs HS6.out HT6.out HB2.out.size HB6.out.size HNN.out.1
          have hsb := HS6.out.blk
          have htb := HT6.out.blk
          obtain ⟨x0, x1, x2, x3⟩ := cells4 hsb
          obtain ⟨y0, y1, y2, y3⟩ := cells4 htb
          have hvb := hx.trans hsb
          obtain ⟨u0, u1, u2, u3⟩ := cells4 hvb
          have uf := frozen2 hvb 1
          have HS7' := Lib.hid hS
          have HT7' := Lib.hid (sch_high (i := 1) HT6.out hg (fun k hk => (HO1.out _ (.inl rfl) k hk).2) HXS.out.1 HZ3.out (.slice pv0 (S.records.length + T.records.length) cv0))
          have HU7' := Lib.hid (sch_high (i := 1) HU5.out hg (fun k hk => (HO1.out _ (.inl rfl) k hk).2) HXS.out.2 HZ5.out (.slice pv0 (S.records.length + T.records.length) cv0))
          have HB7' := Lib.hid (below_grew_set (i := 1) (a := .slice pv0 (S.records.length + T.records.length) cv0) HB6.out hg (fun k hk => (HO1.out _ (.inl rfl) k hk).1) HB1.out.size)
          clear hg hx hS hsb htb hvb
          go_upto_region 11 with (at_builtin; refine Lib.wpList_append_run _ rfl (.tmp 54) (.tmp 56) _ _ rfl _ _ rfl rfl _ _ hrun ?_)
          obtain ⟨W7, hW⟩ : ∃ W, W = V0.setCell ⟨w1.heap.size, 1, none⟩ (.slice pv0 (S.records.length + T.records.length) cv0) := ⟨_, rfl⟩
          rw [← hW] at HS7' HT7' HU7' HB7' ⊢
          have HS7 := HS7'
          have HT7 := HT7'
          have HU7 := HU7'
          have HB7 := HB7'
          clear hW x0 x1 x2 x3 y0 y1 y2 y3 u0 u1 u2 u3 uf hrun HS7' HT7' HU7' HB7'
          obtain ⟨pv1, cv1, V1, hrun, hg, hx, hS⟩ := add_srvs HS7.out HT7.out HB2.out.size HB7.out.size HNN.out.2.1
          have hsb := HS7.out.blk
          have htb := HT7.out.blk
          obtain ⟨x0, x1, x2, x3⟩ := cells4 hsb
          obtain ⟨y0, y1, y2, y3⟩ := cells4 htb
          have hvb := hx.trans hsb
          obtain ⟨u0, u1, u2, u3⟩ := cells4 hvb
          have uf := frozen2 hvb 2
          have HS8' := Lib.hid hS
          have HT8' := Lib.hid (sch_high (i := 2) HT7.out hg (fun k hk => (HO1.out _ (.inr (.inl rfl)) k hk).2) HXS.out.1 HZ3.out (.slice pv1 (S.services.length + T.services.length) cv1))
          have HU8' := Lib.hid (sch_high (i := 2) HU7.out hg (fun k hk => (HO1.out _ (.inr (.inl rfl)) k hk).2) HXS.out.2 HZ5.out (.slice pv1 (S.services.length + T.services.length) cv1))
          have HB8' := Lib.hid (below_grew_set (i := 2) (a := .slice pv1 (S.services.length + T.services.length) cv1) HB7.out hg (fun k hk => (HO1.out _ (.inr (.inl rfl)) k hk).1) HB1.out.size)
          clear hg hx hS hsb htb hvb
          go_upto_region 12 with (at_builtin; refine Lib.wpList_append_run _ rfl (.tmp 60) (.tmp 62) _ _ rfl _ _ rfl rfl _ _ hrun ?_)
          obtain ⟨W8, hW⟩ : ∃ W, W = V1.setCell ⟨w1.heap.size, 2, none⟩ (.slice pv1 (S.services.length + T.services.length) cv1) := ⟨_, rfl⟩
          rw [← hW] at HS8' HT8' HU8' HB8' ⊢
          have HS8 := HS8'
          have HT8 := HT8'
          have HU8 := HU8'
          have HB8 := HB8'
          clear hW x0 x1 x2 x3 y0 y1 y2 y3 u0 u1 u2 u3 uf hrun HS8' HT8' HU8' HB8'
          obtain ⟨pv2, cv2, V2, hrun, hg, hx, hS⟩ := add_sgas HS8.out HT8.out HB2.out.size HB8.out.size HNN.out.2.2
          have hsb := HS8.out.blk
          have htb := HT8.out.blk
          obtain ⟨x0, x1, x2, x3⟩ := cells4 hsb
          obtain ⟨y0, y1, y2, y3⟩ := cells4 htb
          have hvb := hx.trans hsb
          obtain ⟨u0, u1, u2, u3⟩ := cells4 hvb
          have uf := frozen2 hvb 3
          have HS9' := Lib.hid hS
          have HT9' := Lib.hid (sch_high (i := 3) HT8.out hg (fun k hk => (HO1.out _ (.inr (.inr rfl)) k hk).2) HXS.out.1 HZ3.out (.slice pv2 (S.sagas.length + T.sagas.length) cv2))
          have HU9' := Lib.hid (sch_high (i := 3) HU8.out hg (fun k hk => (HO1.out _ (.inr (.inr rfl)) k hk).2) HXS.out.2 HZ5.out (.slice pv2 (S.sagas.length + T.sagas.length) cv2))
          have HB9' := Lib.hid (below_grew_set (i := 3) (a := .slice pv2 (S.sagas.length + T.sagas.length) cv2) HB8.out hg (fun k hk => (HO1.out _ (.inr (.inr rfl)) k hk).1) HB1.out.size)
          clear hg hx hS hsb htb hvb
          go_upto_region 13 with (at_builtin; refine Lib.wpList_append_run _ rfl (.tmp 66) (.tmp 68) _ _ rfl _ _ rfl rfl _ _ hrun ?_)
          obtain ⟨W9, hW⟩ : ∃ W, W = V2.setCell ⟨w1.heap.size, 3, none⟩ (.slice pv2 (S.sagas.length + T.sagas.length) cv2) := ⟨_, rfl⟩
          rw [← hW] at HS9' HT9' HU9' HB9' ⊢
          have HS9 := HS9'
          have HT9 := HT9'
          have HU9 := HU9'
          have HB9 := HB9'
          clear hW x0 x1 x2 x3 y0 y1 y2 y3 u0 u1 u2 u3 uf hrun HS9' HT9' HU9' HB9'
          have hS := Same_any (sch_v HS9.out) (sch_v HU9.out) HF3.out
          have hsb := HS9.out.blk
          have hub := HU9.out.blk
          obtain ⟨x0, x1, x2, x3⟩ := cells4 hsb
          obtain ⟨y0, y1, y2, y3⟩ := cells4 hub
          have HSM := Lib.hid hS
          clear hS hsb hub
          go_wp2_with (first | (go_at_call 10; refine HSM.out.mono ?_; rintro e w10 ⟨rfl, hb10⟩; have HB10 := Lib.hid (HB9.out.trans (hb10.mono HB9.out.size)); clear hb10) | (go_at_call 11; refine (wakes_any _ (HK.out.below HB10.out)).mono ?_; rintro e w11 ⟨rfl, hb11⟩) | fail)
          go_ret
          exact ⟨rfl, HB10.out.trans (hb11.mono HB10.out.size)⟩
        · have g2 : (((e2 : Nat) : Int) != 0) = true := by rw [bne_iff_ne]; omega
          clear t2
          go_wp2_with (first | (go_at_call 11; refine (wakes_any _ (HK.out.below HB4.out)).mono ?_; rintro e w8 ⟨rfl, hb8⟩) | fail)
          go_ret
          exact ⟨rfl, HB4.out.trans (hb8.mono HB4.out.size)⟩
      · have g1 : (((e1 : Nat) : Int) != 0) = true := by rw [bne_iff_ne]; omega
        clear t1
        go_wp2_with (first | (go_at_call 11; refine (wakes_any _ (HK.out.below HB4.out)).mono ?_; rintro e w8 ⟨rfl, hb8⟩) | fail)
        go_ret
        exact ⟨rfl, HB4.out.trans (hb8.mono HB4.out.size)⟩
end Go.Proofs.YtlmjcnfiolbfpaaDoor
