/-
  Walks over the laws of package check: Shop and its schema, wakes. Conditions: those in the theorems (the keywords' variable holds what the row lists).
-/
import Derived.Test.YtnkdhmoocomjfaaGreatDoorCkCheck
import Derived.Test.YtnkdhmoocomjfaaGreatDoorCkMath
import Derived.Test.YtnkdhmoocomjfaaGreatDoorBIdlRefParse
set_option linter.unusedSimpArgs false
set_option linter.unusedVariables false
namespace Ck
open Ip
def shopL0 : List UInt8 := [109, 111, 100, 117, 108, 101, 32, 115, 104, 111, 112, 59, 32, 114, 101, 99, 111, 114, 100, 32, 79, 32, 123, 32, 97, 99, 99, 111, 117, 110, 116, 58, 32, 116, 101, 120, 116, 59, 32, 97, 109, 111, 117, 110, 116, 58, 32, 105, 110, 116]
def shopL1 : List UInt8 := [59, 32, 109, 101, 109, 111, 58, 32, 111, 112, 116, 32, 116, 101, 120, 116, 59, 32, 125, 32, 115, 101, 114, 118, 105, 99, 101, 32, 83, 32, 123, 32, 116, 97, 107, 101, 32, 116, 40, 79, 41, 32, 45, 62, 32, 105, 110, 116, 32, 117]
def shopL2 : List UInt8 := [110, 100, 111, 32, 117, 59, 32, 103, 105, 118, 101, 32, 117, 40, 79, 41, 32, 45, 62, 32, 110, 111, 110, 101, 59, 32, 110, 111, 116, 101, 32, 110, 40, 79, 41, 32, 45, 62, 32, 110, 111, 110, 101, 59, 32, 125, 32, 115, 97, 103]
def shopL3 : List UInt8 := [97, 32, 103, 40, 79, 41, 32, 123, 32, 100, 111, 32, 83, 46, 116, 32, 97, 116, 32, 48, 59, 32, 100, 111, 32, 83, 46, 110, 32, 97, 116, 32, 49, 59, 32, 125]
def shopL : List UInt8 := shopL0 ++ (shopL1 ++ (shopL2 ++ (shopL3)))
def shopS : Sch := ⟨⟨#[115, 104, 111, 112]⟩, [⟨⟨#[79]⟩, false, [⟨⟨#[97, 99, 99, 111, 117, 110, 116]⟩, [⟨4, ⟨#[]⟩⟩]⟩, ⟨⟨#[97, 109, 111, 117, 110, 116]⟩, [⟨3, ⟨#[]⟩⟩]⟩, ⟨⟨#[109, 101, 109, 111]⟩, [⟨6, ⟨#[]⟩⟩, ⟨4, ⟨#[]⟩⟩]⟩]⟩], [⟨⟨#[83]⟩, [⟨⟨#[116]⟩, ⟨#[79]⟩, 3, ⟨#[116, 97, 107, 101]⟩, ⟨#[117]⟩⟩, ⟨⟨#[117]⟩, ⟨#[79]⟩, 1, ⟨#[103, 105, 118, 101]⟩, ⟨#[]⟩⟩, ⟨⟨#[110]⟩, ⟨#[79]⟩, 1, ⟨#[110, 111, 116, 101]⟩, ⟨#[]⟩⟩]⟩], [⟨⟨#[103]⟩, ⟨#[79]⟩, [⟨⟨#[83]⟩, ⟨#[116]⟩, 0⟩, ⟨⟨#[83]⟩, ⟨#[110]⟩, 1⟩]⟩]⟩
def shopT : Sch := ⟨⟨#[115, 104, 111, 112]⟩, [⟨⟨#[79]⟩, false, [⟨⟨#[97, 99, 99, 111, 117, 110, 116]⟩, [⟨4, ⟨#[]⟩⟩]⟩, ⟨⟨#[97, 109, 111, 117, 110, 116]⟩, [⟨3, ⟨#[]⟩⟩]⟩, ⟨⟨#[109, 101, 109, 111]⟩, [⟨6, ⟨#[]⟩⟩, ⟨4, ⟨#[]⟩⟩]⟩]⟩], [⟨⟨#[83]⟩, [⟨⟨#[116]⟩, ⟨#[79]⟩, 3, ⟨#[116, 97, 107, 101]⟩, ⟨#[117]⟩⟩, ⟨⟨#[117]⟩, ⟨#[79]⟩, 1, ⟨#[103, 105, 118, 101]⟩, ⟨#[]⟩⟩, ⟨⟨#[110]⟩, ⟨#[79]⟩, 1, ⟨#[110, 111, 116, 101]⟩, ⟨#[]⟩⟩]⟩], [⟨⟨#[103]⟩, ⟨#[79]⟩, [⟨⟨#[83]⟩, ⟨#[117]⟩, 0⟩, ⟨⟨#[83]⟩, ⟨#[110]⟩, 1⟩]⟩]⟩
theorem shop_parse : parse shopL = (shopS, 0, 0) := by kernel_rfl
theorem shop_right : check shopS = (⟨#[]⟩, 0) := by kernel_rfl
theorem shop_wrong : check shopT = (⟨#[103, 46, 48]⟩, 133) := by kernel_rfl
end Ck
namespace Ck
open Ip
def shopM0 : List UInt8 := [109, 111, 100, 117, 108, 101, 32, 115, 104, 111, 112, 59, 32, 114, 101, 99, 111, 114, 100, 32, 79, 32, 123, 32, 97, 99, 99, 111, 117, 110, 116, 58, 32, 116, 101, 120, 116, 59, 32, 97, 109, 111, 117, 110, 116, 58]
def shopM1 : List UInt8 := [32, 105, 110, 116, 59, 32, 109, 101, 109, 111, 58, 32, 111, 112, 116, 32, 116, 101, 120, 116, 59, 32, 125, 32, 115, 101, 114, 118, 105, 99, 101, 32, 83, 32, 123, 32, 116, 97, 107, 101, 32, 116, 40, 79, 41, 32, 45]
def shopM2 : List UInt8 := [62, 32, 105, 110, 116, 32, 117, 110, 100, 111, 32, 117, 59, 32, 103, 105, 118, 101, 32, 117, 40, 79, 41, 32, 45, 62, 32, 110, 111, 110, 101, 59, 32, 110, 111, 116, 101, 32, 110, 40, 79, 41, 32, 45, 62, 32]
def shopM3 : List UInt8 := [110, 111, 110, 101, 59, 32, 125, 32, 115, 97, 103, 97, 32, 103, 40, 79, 41, 32, 123, 32, 100, 111, 32, 83, 46, 116, 32, 97, 116, 32, 48, 59, 32, 100, 111, 32, 83, 46, 110, 32, 97, 116, 32, 49, 59, 32, 125]
theorem shop_text : (shopM0.append shopM1).append (shopM2.append shopM3) = shopL := by kernel_rfl
end Ck
namespace Go.Proofs.YtnkdhmoocomjfaaGreatDoor
open Go.RowKit
def ShpIn (s : Ip.Sch) : Prop := Sm_ s.name ∧ (∀ r ∈ s.records, RcdIn r ∧ ∀ f ∈ r.fields, FldIn f ∧ ∀ x ∈ f.type, SoIn x) ∧ (∀ v ∈ s.services, SrvIn v ∧ ∀ m ∈ v.methods, MthIn m) ∧ (∀ g ∈ s.sagas, SgaIn g ∧ ∀ p ∈ g.steps, StpIn p)
theorem shop_inS : ShpIn Ck.shopS := by
  unfold ShpIn RcdIn FldIn SoIn SrvIn MthIn SgaIn StpIn Sm_ I64
  decide +kernel
theorem shop_inT : ShpIn Ck.shopT := by
  unfold ShpIn RcdIn FldIn SoIn SrvIn MthIn SgaIn StpIn Sm_ I64
  decide +kernel
theorem shop_smallS : Ck.Small Ck.shopS := by
  refine ⟨?_, ?_, ?_, ?_, ?_, ?_, ?_⟩ <;> unfold Ck.shopS <;> (try unfold Ck.SmR Ck.SmF) <;> (try unfold Ck.SmV Ck.SmM) <;> (try unfold Ck.SmG Ck.SmP) <;> decide +kernel
theorem shop_smallT : Ck.Small Ck.shopT := by
  refine ⟨?_, ?_, ?_, ?_, ?_, ?_, ?_⟩ <;> unfold Ck.shopT <;> (try unfold Ck.SmR Ck.SmF) <;> (try unfold Ck.SmV Ck.SmM) <;> (try unfold Ck.SmG Ck.SmP) <;> decide +kernel
theorem RowIs.ro' {α : Type} {K : RowKind α} {inn : α → Prop} {sub : World → Value → α → Prop} {W : World} {v : Value} {L : List α} (ok : K.Ok) {base : Nat} (hs : ∀ t x, x ∈ L → K.sub W base t x → sub W t x) (hin : ∀ x ∈ L, inn x) (h : RowIs K W base v L) : RoIs K inn sub W v L := by
  obtain ⟨p, c, rfl, h2, h3⟩ := h.shape
  refine ⟨p, c, rfl, h2, h3, fun i hi => ?_⟩
  obtain ⟨g, c', t, e, -, hg, ht, hc⟩ := h.at ok hi
  obtain ⟨rfl, -, rfl⟩ := Value.slice.inj e
  refine ⟨⟨g, 0, none⟩, t, rfl, hg, hs _ _ (List.getElem_mem hi) ht, hin _ (List.getElem_mem hi), fun j hj => ?_⟩
  have hu : (K.cells L[i] t)[j]? = some ((K.cells L[i] t)[j]'(by rw [ok.len]; exact hj)) := List.getElem?_eq_getElem _
  have hadd : (⟨g, 0, none⟩ : Addr).add (i * K.k + j) = ⟨g, i * K.k + j, none⟩ := by unfold Addr.add; split <;> simp_all
  rw [hadd, hu]
  exact hc j _ hu
theorem rcds_ro {W : World} {base : Nat} {v : Value} {L : List Ip.Rcd} (h : RowIs kRcd W base v L) (hin : ∀ r ∈ L, RcdIn r ∧ ∀ f ∈ r.fields, FldIn f ∧ ∀ x ∈ f.type, SoIn x) : RoRcd W v L :=
  RowIs.ro' okRcd (fun _ x hx k => RowIs.ro' okFld (fun _ y hy k => RowIs.ro' okSo (fun _ _ _ _ => trivial) (fun z hz => ((hin x hx).2 y hy).2 z hz) k) (fun y hy => ((hin x hx).2 y hy).1) k) (fun x hx => (hin x hx).1) h
theorem srvs_ro {W : World} {base : Nat} {v : Value} {L : List Ip.Srv} (h : RowIs kSrv W base v L) (hin : ∀ v ∈ L, SrvIn v ∧ ∀ m ∈ v.methods, MthIn m) : RoSrv W v L :=
  RowIs.ro' okSrv (fun _ x hx k => RowIs.ro' okMth (fun _ _ _ _ => trivial) (fun y hy => (hin x hx).2 y hy) k) (fun x hx => (hin x hx).1) h
theorem sgas_ro {W : World} {base : Nat} {v : Value} {L : List Ip.Sga} (h : RowIs kSga W base v L) (hin : ∀ g ∈ L, SgaIn g ∧ ∀ p ∈ g.steps, StpIn p) : RoSga W v L :=
  RowIs.ro' okSga (fun _ x hx k => RowIs.ro' okStp (fun _ _ _ _ => trivial) (fun y hy => (hin x hx).2 y hy) k) (fun x hx => (hin x hx).1) h
/-- A row that is not empty: its block. -/
theorem RowIs.blk {α : Type} {K : RowKind α} {W : World} {base : Nat} {v : Value} {L : List α} (ok : K.Ok) (h : RowIs K W base v L) (h0 : 0 < L.length) :
    ∃ g c cur, v = .slice (some ⟨g, 0, none⟩) L.length c ∧ base ≤ g ∧ W.heap[g]? = some (.cells cur K.ty (0, 0)) ∧ L.length ≤ c ∧ c ≤ maxLen ∧ ∀ i (hi : i < L.length), ∃ t, K.sub W base t L[i] ∧ ∀ j u, (K.cells L[i] t)[j]? = some u → W.cell? ⟨g, i * K.k + j, none⟩ = some u := by
  have h' := h
  obtain ⟨Z, h1, h2, h3⟩ := h
  rcases h2.2 with ⟨-, e⟩ | ⟨g, cap, cur, rfl, hg, hh, h4, h5, h6, h7⟩
  · omega
  · refine ⟨g, cap, cur, rfl, hg, hh, h4, h5, fun i hi => ?_⟩
    obtain ⟨g', c', t, e, -, -, ht, hc⟩ := h'.at ok hi
    cases e
    exact ⟨t, ht, hc⟩
set_option maxRecDepth 100000 in
set_option maxHeartbeats 8000000 in
/-- The shop's schema, and with another method in its first step. -/
theorem shop_turn {W : World} {base : Nat} {vr vs vg : Value} (hr : RowIs kRcd W base vr Ck.shopS.records) (hs : RowIs kSrv W base vs Ck.shopS.services) (hg : RowIs kSga W base vg Ck.shopS.sagas) :
    ∃ g cg q cq, vg = .slice (some ⟨g, 0, none⟩) 1 cg ∧ base ≤ q ∧ W.cell? ⟨g, 2, none⟩ = some (.slice (some ⟨q, 0, none⟩) 2 cq) ∧ W.cell? ⟨q, 1, none⟩ = some (.string ⟨#[116]⟩) ∧ W.frozen? ⟨q, 1, none⟩ = false ∧ (∃ cu, W.heap[q]? = some (.cells cu 48 (0, 0))) ∧ RoSch (W.setCell ⟨q, 1, none⟩ (.string ⟨#[117]⟩)) (.agg #[.string Ck.shopS.name, vr, vs, vg]) Ck.shopT := by
  obtain ⟨g, cg, cug, rfl, hbg, hhg, hlg, hmg, hcg⟩ := hg.blk okSga (by decide)
  obtain ⟨t, hst, hct⟩ := hcg 0 (by decide)
  obtain ⟨q, cq, cuq, rfl, hbq, hhq, hlq, hmq, hcq⟩ := (show RowIs kStp W base t Ck.shopS.sagas[0].steps from hst).blk okStp (by decide)
  obtain ⟨_, _, p0⟩ := hcq 0 (by decide)
  obtain ⟨_, _, p1⟩ := hcq 1 (by decide)
  have a0 := p0 0 _ rfl
  have a1 := p0 1 _ rfl
  have a2 := p0 2 _ rfl
  have d0 := p1 0 _ rfl
  have d1 := p1 1 _ rfl
  have d2 := p1 2 _ rfl
  have e0 := hct 0 _ rfl
  have e1 := hct 1 _ rfl
  have e2 := hct 2 _ rfl
  have hgq : g ≠ q := by
    intro e
    subst e
    rw [hhg] at hhq
    have := (Obj.cells.inj (Option.some.inj hhq)).2.1
    revert this
    show ¬ ((44 : Nat) = 48)
    decide
  have hadd : ∀ b k, (⟨b, 0, none⟩ : Addr).add k = ⟨b, k, none⟩ := fun b k => by unfold Addr.add; split <;> simp_all
  refine ⟨g, cg, q, cq, rfl, hbq, e2, a1, frozen2 hhq 1, ⟨_, hhq⟩, vr, vs, _, rfl, shop_inT.1, ?_, ?_, ?_⟩
  · exact rcds_ro (row_set okRcd (l := Ck.shopS.records) hr hhq (by show ¬ ((48 : Nat) = 34 ∨ ((48 : Nat) = 39 ∨ (48 : Nat) = 41)); decide) (tn_set W _)) shop_inS.2.1
  · exact srvs_ro (row_set okSrv (l := Ck.shopS.services) hs hhq (by show ¬ ((48 : Nat) = 98 ∨ (48 : Nat) = 100); decide) (tn_set W _)) shop_inS.2.2.1
  · refine ⟨some ⟨g, 0, none⟩, cg, rfl, hlg, hmg, fun i hi => ?_⟩
    obtain rfl : i = 0 := by have : i < 1 := hi; omega
    refine ⟨⟨g, 0, none⟩, .slice (some ⟨q, 0, none⟩) 2 cq, rfl, by rw [World.size_setCell]; exact (Array.getElem?_eq_some_iff.1 hhg).1, ?_, (shop_inT.2.2.2 _ (List.getElem_mem hi)).1, fun j hj => ?_⟩
    · refine ⟨some ⟨q, 0, none⟩, cq, rfl, hlq, hmq, fun k hk => ⟨⟨q, 0, none⟩, .bool true, rfl, by rw [World.size_setCell]; exact (Array.getElem?_eq_some_iff.1 hhq).1, trivial, (shop_inT.2.2.2 _ (List.getElem_mem hi)).2 _ (List.getElem_mem hk), fun j hj => ?_⟩⟩
      rw [hadd]
      have hk' : k < 2 := hk
      have hj' : j < 3 := hj
      obtain rfl | rfl : k = 0 ∨ k = 1 := by omega
      · obtain rfl | rfl | rfl : j = 0 ∨ j = 1 ∨ j = 2 := by omega
        · rw [World.cell?_setCell_other _ _ _ _ (by intro e; cases e)]; exact a0
        · exact World.cell?_setCell_same _ _ _ (show W.cell? ⟨q, 1, none⟩ = _ from a1)
        · rw [World.cell?_setCell_other _ _ _ _ (by intro e; cases e)]; exact a2
      · obtain rfl | rfl | rfl : j = 0 ∨ j = 1 ∨ j = 2 := by omega
        · rw [World.cell?_setCell_other _ _ _ _ (by intro e; cases e)]; exact d0
        · rw [World.cell?_setCell_other _ _ _ _ (by intro e; cases e)]; exact d1
        · rw [World.cell?_setCell_other _ _ _ _ (by intro e; cases e)]; exact d2
    · rw [hadd, World.cell?_setCell_other _ _ _ _ (fun e => hgq (congrArg Addr.block e).symm)]
      have hj' : j < 3 := hj
      obtain rfl | rfl | rfl : j = 0 ∨ j = 1 ∨ j = 2 := by omega
      · exact e0
      · exact e1
      · exact e2
end Go.Proofs.YtnkdhmoocomjfaaGreatDoor
namespace Go.Proofs.YtnkdhmoocomjfaaGreatDoor
open Go.RowKit
theorem shop_res {W : World} {tmps : Array Value} {b : Nat} {x0 x1 x2 x3 : Value} (h0 : tmps[0]? = some (.pointer (some ⟨b, 0, none⟩))) (h : W.heap[b]? = some (.cells #[x0, x1, x2, x3] 26 (0, 0))) :
    (results Tryz.f42 tmps).run Tryz.prog W = .ok (.agg #[x0, x1, x2, x3]) W := by
  obtain ⟨c0, c1, c2, c3⟩ := cells4 h
  simp [results, Tryz.results42, h0, go_sem, c0, c1, c2, c3]
set_option maxRecDepth 100000 in
set_option maxHeartbeats 8000000 in
theorem Shop_any (w : World) : Calls Tryz.prog 42 #[] w fun e w' => ∃ vr vs vg, e = .returned (.agg #[.string Ck.shopS.name, vr, vs, vg]) ∧ RowIs kRcd w' w.heap.size vr Ck.shopS.records ∧ RowIs kSrv w' w.heap.size vs Ck.shopS.services ∧ RowIs kSga w' w.heap.size vg Ck.shopS.sagas ∧ Below w.heap.size w w' := by
  have QA : ∀ W, Calls Tryz.prog 57 #[.string ⟨((Ck.shopM0.append Ck.shopM1).append (Ck.shopM2.append Ck.shopM3)).toArray⟩] W (Parsed (Ck.shopS, 0, 0) W) := fun W => by
    have q := RefParse_any ⟨((Ck.shopM0.append Ck.shopM1).append (Ck.shopM2.append Ck.shopM3)).toArray⟩ W (by decide)
    rwa [show (⟨((Ck.shopM0.append Ck.shopM1).append (Ck.shopM2.append Ck.shopM3)).toArray⟩ : ByteArray).data.toList = Ck.shopL from Ck.shop_text, Ck.shop_parse] at q
  unfold Ck.shopM0 Ck.shopM1 Ck.shopM2 Ck.shopM3 at QA
  obtain ⟨s, hs⟩ : ∃ s, s = Ck.shopS := ⟨_, rfl⟩
  rw [← hs] at QA ⊢
  clear hs
  obtain ⟨W0, hW0⟩ : ∃ W0, W0 = w.alloc (.cells zS 26) := ⟨_, rfl⟩
  have hb0 : Below w.heap.size w W0 := by rw [hW0]; exact tk_alloc w _
  have hz0 : W0.heap[w.heap.size]? = some (.cells zS 26 (0, 0)) := by rw [hW0]; exact heap_alloc_new w _
  have HX : Hid (∀ W, Below W0.heap.size W0 W → W.heap[w.heap.size]? = some (.cells zS 26 (0, 0)) ∧ Below w.heap.size w W) := Lib.hid fun W hW =>
    ⟨(hW.block _ (Array.getElem?_eq_some_iff.1 hz0).1).trans hz0, hb0.trans (hW.mono hb0.size)⟩
  have HS0 : Hid (w.heap.size ≤ W0.heap.size) := Lib.hid hb0.size
  have HS1 : Hid (w.heap.size < W0.heap.size) := Lib.hid (Array.getElem?_eq_some_iff.1 hz0).1
  unfold zS at hW0
  clear hb0 hz0
  go_enter Tryz.func42, Tryz.ntmps42
  go_upto_region 1 with fail
  rw [← hW0]
  clear hW0
  go_wp2_with fail
  refine Calls.mono (QA _) ?_
  rintro e w1 ⟨v, rfl, ⟨vr, vs, vg, rfl, h1, h2, h3⟩, hb1⟩
  have HH := Lib.hid (⟨h1, h2, h3, hb1⟩ : RowIs kRcd w1 W0.heap.size vr s.records ∧ RowIs kSrv w1 W0.heap.size vs s.services ∧ RowIs kSga w1 W0.heap.size vg s.sagas ∧ Below W0.heap.size W0 w1)
  obtain ⟨p1, c1, rfl, -⟩ := h1.shape
  obtain ⟨p2, c2, rfl, -⟩ := h2.shape
  obtain ⟨p3, c3, rfl, -⟩ := h3.shape
  clear h1 h2 h3 hb1 QA
  obtain ⟨W1, hW1⟩ : ∃ W1, W1 = w1.alloc (.cells #[.string s.name, .slice p1 s.records.length c1, .slice p2 s.services.length c2, .slice p3 s.sagas.length c3] 26) := ⟨_, rfl⟩
  have hn1 : W1.heap[w1.heap.size]? = some (.cells #[.string s.name, .slice p1 s.records.length c1, .slice p2 s.services.length c2, .slice p3 s.sagas.length c3] 26 (0, 0)) := by rw [hW1]; exact heap_alloc_new w1 _
  have hb1 : Below w1.heap.size w1 W1 := by rw [hW1]; exact tk_alloc w1 _
  obtain ⟨x0, x1, x2, x3⟩ := cells4' hn1
  have hb2 : Below W0.heap.size W0 W1 := HH.out.2.2.2.trans (hb1.mono HH.out.2.2.2.size)
  obtain ⟨hz, hB⟩ := HX.out _ hb2
  unfold zS at hz
  obtain ⟨z0, z1, z2, z3⟩ := cells4 hz
  have f0 := frozen2 hz 0
  have f1 := frozen2 hz 1
  have f2 := frozen2 hz 2
  have f3 := frozen2 hz 3
  have HZ := Lib.hid hz
  have HB := Lib.hid hB
  have HB1 := Lib.hid hb1
  clear hn1 hb1 hb2 hz hB
  go_upto_region 2 with fail
  rw [← hW1]
  clear hW1
  go_wp2_with fail
  refine bodyPost_ret (shop_res rfl (set_four _ _ _ _ HZ.out)) rfl ?_
  have k : ∀ j cs ty, W0.heap.size ≤ j → w1.heap[j]? = some (.cells cs ty (0, 0)) → (((((W1.setCell ⟨w.heap.size, 0, none⟩ (.string s.name)).setCell ⟨w.heap.size, 1, none⟩ (.slice p1 s.records.length c1)).setCell ⟨w.heap.size, 2, none⟩ (.slice p2 s.services.length c2)).setCell ⟨w.heap.size, 3, none⟩ (.slice p3 s.sagas.length c3)).heap[j]? = w1.heap[j]?) := fun j cs ty hj hc => by
    have hs0 : w.heap.size < W0.heap.size := HS1.out
    have hlt := (Array.getElem?_eq_some_iff.1 hc).1
    have hne : j ≠ w.heap.size := by omega
    exact ((((tn_set W1 _).trans (tn_set _ _)).trans (tn_set _ _)).trans (tn_set _ _)).block j (Nat.lt_of_lt_of_le hlt HB1.out.size) hne |>.trans (HB1.out.block j hlt)
  exact ⟨_, _, _, rfl, HH.out.1.keep okRcd HS0.out fun j cs ty hj hc _ => k j cs ty hj hc, HH.out.2.1.keep okSrv HS0.out fun j cs ty hj hc _ => k j cs ty hj hc, HH.out.2.2.1.keep okSga HS0.out fun j cs ty hj hc _ => k j cs ty hj hc, below_four HB.out (Nat.le_refl _)⟩
theorem sch_ro {W : World} {base : Nat} {vr vs vg : Value} (h1 : RowIs kRcd W base vr Ck.shopS.records) (h2 : RowIs kSrv W base vs Ck.shopS.services) (h3 : RowIs kSga W base vg Ck.shopS.sagas) : RoSch W (.agg #[.string Ck.shopS.name, vr, vs, vg]) Ck.shopS :=
  ⟨vr, vs, vg, rfl, shop_inS.1, rcds_ro h1 shop_inS.2.1, srvs_ro h2 shop_inS.2.2.1, sgas_ro h3 shop_inS.2.2.2⟩
set_option maxRecDepth 100000 in
set_option maxHeartbeats 16000000 in
theorem wakes_any (w : World) (hk : KwIs w) : Calls Tryz.prog 15 #[] w fun e w' => e = .returned (.bool true) ∧ Below w.heap.size w w' := by
  have HK := Lib.hid hk
  clear hk
  have QS0 := fun (W W' : World) (v : Value) (h : RoSch W v Ck.shopS) (hk : Kp W W') (hkw : KwIs W) => Check_any h hk hkw shop_smallS
  have QT0 := fun (W : World) (v : Value) (h : RoSch W v Ck.shopT) (hkw : KwIs W) => Check_any h (Kp.refl W) hkw shop_smallT
  unfold Checked at QS0 QT0
  simp only [Ck.shop_right, Ck.shop_wrong] at QS0 QT0
  have QS := Lib.hid QS0
  have QT := Lib.hid QT0
  clear QS0 QT0
  go_enter Tryz.func15, Tryz.ntmps15
  go_wp2_with fail
  refine Calls.mono (Shop_any _) ?_
  rintro e w1 ⟨vr, vs, vg, rfl, h1, h2, h3, hb1⟩
  have HR := Lib.hid (sch_ro h1 h2 h3)
  obtain ⟨p1, c1, rfl, -⟩ := h1.shape
  obtain ⟨p2, c2, rfl, -⟩ := h2.shape
  obtain ⟨p3, c3, rfl, -⟩ := h3.shape
  clear h1 h2 h3
  obtain ⟨W1, hW1⟩ : ∃ W1, W1 = w1.alloc (.cells #[.string Ck.shopS.name, .slice p1 Ck.shopS.records.length c1, .slice p2 Ck.shopS.services.length c2, .slice p3 Ck.shopS.sagas.length c3] 26) := ⟨_, rfl⟩
  have hn1 : W1.heap[w1.heap.size]? = some (.cells #[.string Ck.shopS.name, .slice p1 Ck.shopS.records.length c1, .slice p2 Ck.shopS.services.length c2, .slice p3 Ck.shopS.sagas.length c3] 26 (0, 0)) := by rw [hW1]; exact heap_alloc_new w1 _
  have hb2 : Below w1.heap.size w1 W1 := by rw [hW1]; exact tk_alloc w1 _
  have HB1 := Lib.hid (hb1.trans (hb2.mono hb1.size))
  have HK1 := Lib.hid (kw_kp HK.out (Kp.of_below hb1))
  have HP1 := Lib.hid (Kp.of_below hb2)
  obtain ⟨x0, x1, x2, x3⟩ := cells4' hn1
  clear hn1 hb1 hb2
  go_upto_region 2 with fail
  rw [← hW1]
  clear hW1
  go_wp2_with fail
  clear x0 x1 x2 x3
  refine Calls.mono (QS.out _ _ _ HR.out HP1.out HK1.out) ?_
  rintro e w2 ⟨rfl, hb2⟩
  have HB2 := Lib.hid (HB1.out.trans (hb2.mono HB1.out.size))
  have HK2 := Lib.hid (kw_kp HK.out (Kp.of_below HB2.out))
  clear hb2 HR HK1 HP1 HB1 QS
  go_wp2_with fail
  refine Calls.mono (Shop_any _) ?_
  rintro e w3 ⟨vr, vs, vg, rfl, h1, h2, h3, hb3⟩
  obtain ⟨W3, hW3⟩ : ∃ W3, W3 = w3.alloc (.cells #[.string Ck.shopS.name, vr, vs, vg] 26) := ⟨_, rfl⟩
  have hn3 : W3.heap[w3.heap.size]? = some (.cells #[.string Ck.shopS.name, vr, vs, vg] 26 (0, 0)) := by rw [hW3]; exact heap_alloc_new w3 _
  have hb4 : Below w3.heap.size w3 W3 := by rw [hW3]; exact tk_alloc w3 _
  obtain ⟨g, cg, q, cq, rfl, hq, g2, q1, fq, ⟨cu, hcu⟩, hT⟩ := shop_turn (h1.below okRcd hb4) (h2.below okSrv hb4) (h3.below okSga hb4)
  have HB3 := Lib.hid (HB2.out.trans ((hb3.trans (hb4.mono hb3.size)).mono HB2.out.size))
  have HQ := Lib.hid (hq)
  have HT := Lib.hid hT
  clear hT hq h3
  obtain ⟨p4, c4, rfl, -⟩ := h1.shape
  obtain ⟨p5, c5, rfl, -⟩ := h2.shape
  clear h1 h2
  have hq3 : w3.heap.size ≠ q := by
    intro e
    rw [← e, hn3] at hcu
    have := (Obj.cells.inj (Option.some.inj hcu)).2.1
    revert this
    show ¬ ((26 : Nat) = 48)
    decide
  obtain ⟨x0, x1, x2, x3⟩ := cells4' hn3
  have hn5 : (W3.setCell ⟨q, 1, none⟩ (.string ⟨#[117]⟩)).heap[w3.heap.size]? = _ := (Below.heap_setCell W3 ⟨q, 1, none⟩ (.string ⟨#[117]⟩) _ hq3).trans hn3
  have hb5 : Below w.heap.size w (W3.setCell ⟨q, 1, none⟩ (.string ⟨#[117]⟩)) := HB3.out.setCell (Nat.le_trans HB2.out.size HQ.out) _
  have HB5 := Lib.hid hb5
  obtain ⟨y0, y1, y2, y3⟩ := cells4' hn5
  have HY := Lib.hid hn5
  clear hn3 hcu hb3 hb4 hn5 hb5 hq3 HB3 y0 y1 y2 y3
  go_upto_region 4 with fail
  rw [← hW3]
  clear hW3
  go_upto_region 5 with fail
  clear x0 x1 x2 x3 g2 q1 fq
  generalize W3.setCell ⟨q, 1, none⟩ (.string ⟨#[117]⟩) = V at *
  obtain ⟨y0, y1, y2, y3⟩ := cells4' HY.out
  go_wp2_with fail
  refine Calls.mono (QT.out _ _ HT.out (kw_kp HK.out (Kp.of_below HB5.out))) ?_
  rintro e w4 ⟨rfl, hb4⟩
  have HB6 := Lib.hid (HB5.out.trans (hb4.mono HB5.out.size))
  clear hb4 y0 y1 y2 y3
  go_wp2_with fail
  go_ret
  exact ⟨rfl, HB6.out⟩
end Go.Proofs.YtnkdhmoocomjfaaGreatDoor
