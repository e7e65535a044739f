/-
  Walks over package idl: sorts. Conditions: those in the theorems (the keywords' variable holds what the row lists).
-/
import Derived.Test.YtlmjcnfiolbfpaaDoorIdlSort
import Derived.Deep.Cut
set_option linter.unusedSimpArgs false
set_option linter.unusedVariables false
namespace Go.Proofs.YtlmjcnfiolbfpaaDoor
open Go.RowKit

theorem row_tn {α : Type} {K : RowKind α} (ok : K.Ok) {b base : Nat} {W V : World} {v : Value} {L : List α} (h : RowIs K W base v L) (ht : Tn b W V) (hb : b < base) : RowIs K V base v L :=
  h.keep ok (Nat.le_refl _) fun j cs ty hj hc _ => ht.block j (Array.getElem?_eq_some_iff.1 hc).1 (by omega)
theorem tn_grew {v v' : Value} {W V : World} (g : GrewT v v' W V) {x : Nat} (hx : v.ownBlock = none ∨ v.ownBlock = some x) : Tn x W V :=
  ⟨g.os, g.tape, g.output, g.size, fun k hk hn => g.block k hk fun e => by rcases hx with h | h <;> rw [h] at e <;> cases e; exact hn rfl⟩
theorem Gone.grew {b q : Nat} {w W V : World} {r r0 : Ip.R} (h : Gone b q w r W) (h0 : Rd w b q r0) {v v' : Value} (g : GrewT v v' W V) (ho : ∀ k, v.ownBlock = some k → w.heap.size ≤ k) : Gone b q w r V := by
  cases hv : v.ownBlock with
  | none => exact h.turn h0 (Nat.le_refl _) (tn_grew g (.inl hv))
  | some x => exact h.turn h0 (ho x hv) (tn_grew g (.inr hv))
def sliceLen : Value → Nat
  | .slice _ n _ => n
  | _ => 0
theorem news_lit (w : World) (cs : List Value) (t : TypeId) : ∀ j u, cs[j]? = some u → (w.alloc (.cells cs.toArray t)).cell? ((⟨w.heap.size, 0, none⟩ : Addr).add j) = some u := by
  intro j u hj
  have hadd : (⟨w.heap.size, 0, none⟩ : Addr).add j = ⟨w.heap.size, j, none⟩ := by unfold Addr.add; split <;> simp_all
  rw [hadd, cell_of_row _ _ _ _ _ _ (heap_alloc_new w _)]
  simpa using hj
/-- An element that is written out at the call is appended to a row of the call's own. -/
theorem append_lit {α : Type} {K : RowKind α} (ok : K.Ok) {b q : Nat} {w W : World} {r r0 : Ip.R} {v : Value} {L : List α} (hL : RowIs K W w.heap.size v L) (hG : Gone b q w r W) (h0 : Rd w b q r0) (x : α) (t : Value) (ht : K.sub W w.heap.size t x) (hs : L.length + 1 ≤ 1000000) (ty : TypeId) :
    ∃ (pv : Option Addr) (cv : Nat) (V : World), (Builtin.append_ #[K.sl, K.sl] ty #[v, .slice (some ⟨W.heap.size, 0, none⟩) 1 1]).run Tryd.prog (W.alloc (.cells (K.cells x t).toArray K.ty)) = .ok (.slice pv (L.length + 1) cv) V ∧
      RowIs K V w.heap.size (.slice pv (L.length + 1) cv) (L ++ [x]) ∧ Gone b q w r V ∧ (∀ k, k < W.heap.size → v.ownBlock ≠ some k → V.heap[k]? = W.heap[k]?) := by
  have hb := tk_alloc W (.cells (K.cells x t).toArray K.ty)
  have hz := hG.2.size
  obtain ⟨pv, cv, V, h1, h2, h3⟩ := row_append ok (hL.below ok hb) x t (ok.keep _ _ _ _ _ _ ht (Nat.le_refl _) fun j cs ty' _ hj _ => hb.block j (Array.getElem?_eq_some_iff.1 hj).1) ⟨W.heap.size, 0, none⟩ 1 (news_lit W _ _) hs (by rw [World.size_alloc]; omega) ty
  exact ⟨pv, cv, V, h1, h2, (hG.alloc _).grew h0 h3 (fun k hk => (hL.lt k hk).1), fun k hk hn => (h3.block k (by rw [World.size_alloc]; omega) hn).trans (hb.block k hk)⟩
/-- One more sort behind those that there are. -/
def Sorted_ (r : Ip.R) (L : List Ip.So) (rk : Ip.R) : Prop := Ip.sorts r = (L ++ (Ip.sorts rk).1, (Ip.sorts rk).2) ∧ L.length + rk.left.length ≤ r.left.length
theorem sorted_goes {r rk : Ip.R} {L : List Ip.So} (h : Sorted_ r L rk) (hg : (Ip.sort rk).1.goes = true) : Sorted_ r (L ++ [(Ip.sort rk).1]) (Ip.sort rk).2 := by
  obtain ⟨h1, h2⟩ := h
  rw [Ip.sorts_eq rk, if_pos hg] at h1
  refine ⟨by rw [h1]; simp, ?_⟩
  have hr : rk.stuck = false := by
    cases hr : rk.stuck with
    | false => rfl
    | true => rw [Ip.sort_stuck0 hr] at hg; cases hg
  rcases Ip.takes_sort rk hr with h | h
  · rw [Ip.sort_stuck h] at hg; cases hg
  · rw [List.length_append]; simp only [List.length_cons, List.length_nil]; omega
theorem sorted_ends {r rk : Ip.R} {L : List Ip.So} (h : Sorted_ r L rk) (hg : (Ip.sort rk).1.goes = false) : Ip.sorts r = (L ++ [(Ip.sort rk).1], (Ip.sort rk).2) := by
  obtain ⟨h1, h2⟩ := h
  rw [Ip.sorts_eq rk, if_neg (by rw [hg]; simp)] at h1
  exact h1
set_option maxRecDepth 100000 in
set_option maxHeartbeats 4000000 in
theorem sorts_any {w : World} {b q : Nat} {r : Ip.R} (h : Rd w b q r) : Calls Tryd.prog 26 #[.pointer (some ⟨b, 0, none⟩)] w fun e w' => ∃ v, e = .returned v ∧ RowIs kSo w' w.heap.size v (Ip.sorts r).1 ∧ Gone b q w (Ip.sorts r).2 w' := by
  have hfew := h.few
  have hbl := h.lt
  have HH := Lib.hid h
  clear h
  go_enter Tryd.func26, Tryd.ntmps26
  go_wp2_with fail
  go_loopw [3] (fun lv wr => ∃ (L : List Ip.So) (rk : Ip.R), Hid (RowIs kSo wr w.heap.size lv L) ∧ Hid (Gone b q w rk wr) ∧ Hid (Sorted_ r L rk)) (fun lv _ => 65537 - sliceLen lv)
  case atStart => exact ⟨[], r, Lib.hid (RowIs.nil _ _ _), Lib.hid (Gone.refl HH.out), Lib.hid ⟨rfl, by simp⟩⟩
  case round =>
    obtain ⟨L, rk, HL, HG, HS⟩ := hrel
    have QS := sort_any HG.out.1
    obtain ⟨x, hx⟩ : ∃ x, (Ip.sort rk).1 = x := ⟨_, rfl⟩
    obtain ⟨r', hr'⟩ : ∃ r', (Ip.sort rk).2 = r' := ⟨_, rfl⟩
    have HSG := Lib.hid (fun hg => sorted_goes HS.out hg)
    have HSE := Lib.hid (fun hg => sorted_ends HS.out hg)
    rw [hx, hr'] at QS HSG
    rw [hx, hr'] at HSE
    have HLN : Hid (L.length + 1 ≤ 65537) := Lib.hid (by have := HS.out.2; omega)
    clear hx hr'
    obtain ⟨p0, c0, rfl, -, -⟩ := HL.out.shape
    obtain ⟨xk, xn⟩ := x
    unfold soV at QS
    simp only at QS
    go_wp2_with fail
    refine QS.mono ?_
    rintro e w1 ⟨rfl, hG1⟩
    have HL1 := Lib.hid (row_tn okSo HL.out hG1.2 hbl)
    have HG1 := Lib.hid (HG.out.trans hG1)
    clear hG1 QS
    go_upto_region 3 with fail
    obtain ⟨W3, hW3⟩ : ∃ W3, W3 = w1.alloc (.cells #[.int .u8 (xk : Nat), .string xn] 70) := ⟨_, rfl⟩
    have hb3 : Below w1.heap.size w1 W3 := by rw [hW3]; exact tk_alloc _ _
    have hn3 : W3.heap[w1.heap.size]? = some (.cells #[.int .u8 (xk : Nat), .string xn] 70 (0, 0)) := by rw [hW3]; exact heap_alloc_new _ _
    have hl3 := (Array.getElem?_eq_some_iff.1 hn3).1
    have hG3 : Gone b q w r' W3 := by rw [hW3]; exact HG1.out.alloc _
    obtain ⟨pv, cv, V, hrun, hL4, hG4, hbl4⟩ := append_lit okSo (HL1.out.below okSo hb3) hG3 HH.out ⟨xk, xn⟩ (.bool false) trivial (by have := HLN.out; omega) 33
    have hn4 := (hbl4 _ hl3 fun e => by have := (HL1.out.lt _ e).2; omega).trans hn3
    obtain ⟨d0, d1⟩ := cells2 hn3
    obtain ⟨e0, e1⟩ := cells2 hn4
    have HL4 := Lib.hid hL4
    have HG4 := Lib.hid hG4
    rw [← hW3]
    clear hW3 hb3 hn3 hG3 hL4 hG4 hbl4 hn4 e1
    cases hg : (⟨xk, xn⟩ : Ip.So).goes with
    | true =>
      have HS2 := Lib.hid (HSG.out hg)
      have hk : xk = 5 ∨ xk = 6 := by
        unfold Ip.So.goes at hg
        simpa using hg
      rcases hk with rfl | rfl
      · clear hg HSG HSE
        go_wp2_with (at_builtin; refine Lib.wpList_append_run _ rfl (.tmp 7) (.tmp 9) _ _ rfl _ _ rfl rfl _ _ hrun ?_)
        go_roundw
        case rel => exact ⟨_, _, HL4, HG4, HS2⟩
        case measure => have := HLN.out; simp [sliceLen]; omega
      · clear hg HSG HSE
        go_wp2_with (at_builtin; refine Lib.wpList_append_run _ rfl (.tmp 7) (.tmp 9) _ _ rfl _ _ rfl rfl _ _ hrun ?_)
        go_roundw
        case rel => exact ⟨_, _, HL4, HG4, HS2⟩
        case measure => have := HLN.out; simp [sliceLen]; omega
    | false =>
      have HS2 := Lib.hid (HSE.out hg)
      have hk : (((xk : Nat) : Int) != 5) = true ∧ (((xk : Nat) : Int) != 6) = true := by
        unfold Ip.So.goes at hg
        simp at hg
        simp only [bne_iff_ne]
        omega
      obtain ⟨k5, k6⟩ := hk
      clear hg HSG HSE
      go_wp2_with (at_builtin; refine Lib.wpList_append_run _ rfl (.tmp 7) (.tmp 9) _ _ rfl _ _ rfl rfl _ _ hrun ?_)
      go_ret
      exact ⟨_, rfl, by rw [HS2.out]; exact HL4.out, by rw [HS2.out]; exact HG4.out⟩
end Go.Proofs.YtlmjcnfiolbfpaaDoor
