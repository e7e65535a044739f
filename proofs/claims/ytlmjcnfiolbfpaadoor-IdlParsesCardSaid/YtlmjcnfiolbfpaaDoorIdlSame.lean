/-
  Walks over the document's answer for declarations: SameSorts, SameRecord, SameService, SameSaga, Same, of equal ones. Conditions: those in the theorems.
-/
import Derived.Test.YtlmjcnfiolbfpaaDoorIdlWhole
import Derived.Test.YtlmjcnfiolbfpaaDoorIdlFew
import Derived.Deep.QuietTactic
import Derived.BigQuiet
import Derived.StillTailTactics
set_option linter.unusedSimpArgs false
set_option linter.unusedVariables false
namespace Go.Proofs.YtlmjcnfiolbfpaaDoor
open Go.RowKit

theorem dn_below (w : World) (n : Nat) : Below w.heap.size w (w.drewN n) := ⟨rfl, rfl, rfl, Nat.le_refl _, fun _ _ => rfl⟩
/-- An element of a row, at an address of which nothing is known. -/
theorem row_at {α : Type} {K : RowKind α} (ok : K.Ok) {W : World} {base : Nat} {v : Value} {L : List α} (h : RowIs K W base v L) {i : Nat} (hi : i < L.length) :
    ∃ A c t, v = .slice (some A) L.length c ∧ A.block < W.heap.size ∧ K.sub W base t L[i] ∧ (∀ u, (K.cells L[i] t)[0]? = some u → W.cell? (A.add (i * K.k)) = some u) ∧ ∀ j u, 0 < j → (K.cells L[i] t)[j]? = some u → W.cell? ⟨(A.add (i * K.k)).block, (A.add (i * K.k)).off + j, none⟩ = some u := by
  obtain ⟨g, c, t, e, -, hg, hs, hc⟩ := h.at ok hi
  have hadd : (⟨g, 0, none⟩ : Addr).add (i * K.k) = ⟨g, i * K.k, none⟩ := by unfold Addr.add; split <;> simp_all
  refine ⟨⟨g, 0, none⟩, c, t, e, hg, hs, fun u hu => ?_, fun j u _ hu => ?_⟩
  · rw [hadd]; exact hc 0 u hu
  · rw [hadd]; exact hc j u hu
set_option maxRecDepth 100000 in
set_option maxHeartbeats 4000000 in
theorem SameSorts_any {w : World} {b1 b2 : Nat} {v1 v2 : Value} {L : List Ip.So} (h1 : RowIs kSo w b1 v1 L) (h2 : RowIs kSo w b2 v2 L) (hl : L.length ≤ 1000000) :
    Calls Tryd.prog 14 #[v1, v2] w fun e w' => e = .returned (.bool true) ∧ ∃ n, w' = w.drewN n := by
  have H1 := Lib.hid h1
  have H2 := Lib.hid h2
  obtain ⟨p1, c1, rfl, -, -⟩ := h1.shape
  obtain ⟨p2, c2, rfl, -, -⟩ := h2.shape
  clear h1 h2
  go_enter Tryd.func14, Tryd.ntmps14
  go_wp2_with fail
  go_loopw [5] (fun kv wr => ∃ k : Nat, k ≤ L.length ∧ kv = .int .i64 (k : Nat) ∧ Hid (∃ n, wr = w.drewN n)) (fun kv _ => L.length - (intOf kv).toNat)
  case atStart => exact ⟨0, Nat.zero_le _, rfl, Lib.hid ⟨0, rfl⟩⟩
  case round =>
    obtain ⟨k, hk, rfl, H⟩ := hrel
    have HB : Hid (Below w.heap.size w wr) := Lib.hid (by obtain ⟨n, e⟩ := H.out; rw [e]; exact dn_below w n)
    by_cases hlt : k < L.length
    · have i1 : (k : Int) < (L.length : Int) := by omega
      have i2 : (0 : Int) ≤ (k : Int) := by omega
      obtain ⟨A, c3, t3, e3, hA, -, a0, a1⟩ := row_at okSo (H1.out.below okSo HB.out) hlt
      obtain ⟨B, c4, t4, e4, hB, -, d0, d1⟩ := row_at okSo (H2.out.below okSo HB.out) hlt
      cases e3
      cases e4
      generalize L[k] = x at *
      obtain ⟨xk, xn⟩ := x
      have x0 := a0 _ rfl
      have x1 := a1 1 _ (by decide) rfl
      have y0 := d0 _ rfl
      have y1 := d1 1 _ (by decide) rfl
      simp only [show kSo.k = 2 from rfl] at x0 x1 y0 y1
      clear a0 a1 d0 d1
      go_wp2_with fail
      go_quiet (fail)
      go_wp2_with fail
      go_roundw
      case rel => exact ⟨k + 1, by omega, by go_num, Lib.hid (by obtain ⟨n, e⟩ := H.out; exact ⟨n + _, by rw [e, World.drewN_drewN]⟩)⟩
      case measure => simp [intOf]; omega
    · obtain rfl : k = L.length := by omega
      have i1 : ¬ (L.length : Int) < (L.length : Int) := by omega
      go_wp2_with fail
      go_ret
      exact ⟨rfl, H.out⟩
/-! ### structs -/
set_option maxRecDepth 100000 in
set_option maxHeartbeats 8000000 in
theorem SameRecord_any {w : World} {b1 b2 : Nat} {v1 v2 : Value} {n : ByteArray} {ch : Bool} {L : List Ip.Fld} (h1 : RowIs kFld w b1 v1 L) (h2 : RowIs kFld w b2 v2 L) (hl : L.length ≤ 1000000) (hls : ∀ x ∈ L, x.type.length ≤ 1000000) :
    Calls Tryd.prog 22 #[.agg #[.string n, .bool ch, v1], .agg #[.string n, .bool ch, v2]] w fun e w' => e = .returned (.bool true) ∧ Below w.heap.size w w' := by
  obtain ⟨p1, k1, rfl, -, -⟩ := h1.shape
  obtain ⟨p2, k2, rfl, -, -⟩ := h2.shape
  obtain ⟨W0, hW0⟩ : ∃ W0, W0 = (w.alloc (.cells #[.string n, .bool ch, .slice p1 L.length k1] 52)).alloc (.cells #[.string n, .bool ch, .slice p2 L.length k2] 52) := ⟨_, rfl⟩
  have hb0 : Below w.heap.size w W0 := by rw [hW0]; exact (tk_alloc w _).trans ((tk_alloc _ _).mono (by rw [World.size_alloc]; omega))
  have hz0 : W0.heap[w.heap.size]? = some (.cells #[.string n, .bool ch, .slice p1 L.length k1] 52 (0, 0)) := by
    rw [hW0]
    exact ((tk_alloc (w.alloc _) _).block _ (by rw [World.size_alloc]; omega)).trans (heap_alloc_new w _)
  have hn0 : W0.heap[w.heap.size + 1]? = some (.cells #[.string n, .bool ch, .slice p2 L.length k2] 52 (0, 0)) := by
    rw [hW0]
    have := heap_alloc_new (w.alloc (.cells #[.string n, .bool ch, .slice p1 L.length k1] 52)) (.cells #[.string n, .bool ch, .slice p2 L.length k2] 52)
    rw [World.size_alloc] at this; exact this
  have HX : Hid (∀ W, Below W0.heap.size W0 W → W.heap[w.heap.size]? = some (.cells #[.string n, .bool ch, .slice p1 L.length k1] 52 (0, 0)) ∧ W.heap[w.heap.size + 1]? = some (.cells #[.string n, .bool ch, .slice p2 L.length k2] 52 (0, 0))) := Lib.hid fun W hW =>
    ⟨(hW.block _ (Array.getElem?_eq_some_iff.1 hz0).1).trans hz0, (hW.block _ (Array.getElem?_eq_some_iff.1 hn0).1).trans hn0⟩
  have H1 := Lib.hid (h1.below okFld hb0)
  have H2 := Lib.hid (h2.below okFld hb0)
  have HB0 := Lib.hid hb0
  obtain ⟨x0, x1, x2⟩ := cells3 hz0
  obtain ⟨y0, y1, y2⟩ := cells3 hn0
  have HLS := Lib.hid hls
  clear hls
  clear h1 h2 hz0 hn0 hb0
  go_enter Tryd.func22, Tryd.ntmps22
  go_upto_region 1 with fail
  rw [← hW0]
  clear hW0
  go_wp2_with fail
  clear x0 x1 x2 y0 y1 y2
  go_loopw [5] (fun kv wr => ∃ k : Nat, k ≤ L.length ∧ kv = .int .i64 (k : Nat) ∧ Hid (∃ n, wr = W0.drewN n)) (fun kv _ => L.length - (intOf kv).toNat)
  case atStart => exact ⟨0, Nat.zero_le _, rfl, Lib.hid ⟨0, rfl⟩⟩
  case round =>
    obtain ⟨k, hk, rfl, H⟩ := hrel
    have HB : Hid (Below W0.heap.size W0 wr) := Lib.hid (by obtain ⟨n, e⟩ := H.out; rw [e]; exact dn_below W0 n)
    obtain ⟨hz, hn⟩ := HX.out _ HB.out
    obtain ⟨x0, x1, x2⟩ := cells3 hz
    obtain ⟨y0, y1, y2⟩ := cells3 hn
    clear hz hn
    by_cases hlt : k < L.length
    · have i1 : (k : Int) < (L.length : Int) := by omega
      have i2 : (0 : Int) ≤ (k : Int) := by omega
      obtain ⟨A, c3, t3, e3, hA, s3, a0, a1⟩ := row_at okFld (H1.out.below okFld HB.out) hlt
      obtain ⟨B, c4, t4, e4, hB, s4, d0, d1⟩ := row_at okFld (H2.out.below okFld HB.out) hlt
      cases e3
      cases e4
      have hlx := HLS.out _ (List.getElem_mem hlt)
      generalize L[k] = x at *
      obtain ⟨xn, xt⟩ := x
      have e0 := a0 _ rfl
      have g0 := d0 _ rfl
      have e1 := a1 1 _ (by decide) rfl
      have g1 := d1 1 _ (by decide) rfl
      simp only [show kFld.k = 2 from rfl] at e0 g0 e1 g1
      clear a0 a1 d0 d1
      obtain ⟨q3, l3, rfl, -, -⟩ := RowIs.shape s3
      obtain ⟨q4, l4, rfl, -, -⟩ := RowIs.shape s4
      have QS := fun m => SameSorts_any (RowIs.below okSo s3 (dn_below wr m)) (RowIs.below okSo s4 (dn_below wr m)) hlx
      have HQ := Lib.hid QS
      clear QS s3 s4
      go_wp2_with fail
      go_quiet ((go_at_call 14; exact Calls.quiet_of (HQ.out _)))
      go_wp2_with fail
      go_roundw
      case rel => exact ⟨k + 1, by omega, by go_num, Lib.hid (by obtain ⟨n, e⟩ := H.out; exact ⟨n + _, by rw [e, World.drewN_drewN]⟩)⟩
      case measure => simp [intOf]; omega
    · obtain rfl : k = L.length := by omega
      have i1 : ¬ (L.length : Int) < (L.length : Int) := by omega
      go_wp2_with fail
      go_ret
      exact ⟨rfl, HB0.out.trans (HB.out.mono HB0.out.size)⟩
set_option maxRecDepth 100000 in
set_option maxHeartbeats 8000000 in
theorem SameService_any {w : World} {b1 b2 : Nat} {v1 v2 : Value} {n : ByteArray} {L : List Ip.Mth} (h1 : RowIs kMth w b1 v1 L) (h2 : RowIs kMth w b2 v2 L) (hl : L.length ≤ 1000000) :
    Calls Tryd.prog 23 #[.agg #[.string n, v1], .agg #[.string n, v2]] w fun e w' => e = .returned (.bool true) ∧ Below w.heap.size w w' := by
  obtain ⟨p1, k1, rfl, -, -⟩ := h1.shape
  obtain ⟨p2, k2, rfl, -, -⟩ := h2.shape
  obtain ⟨W0, hW0⟩ : ∃ W0, W0 = (w.alloc (.cells #[.string n, .slice p1 L.length k1] 56)).alloc (.cells #[.string n, .slice p2 L.length k2] 56) := ⟨_, rfl⟩
  have hb0 : Below w.heap.size w W0 := by rw [hW0]; exact (tk_alloc w _).trans ((tk_alloc _ _).mono (by rw [World.size_alloc]; omega))
  have hz0 : W0.heap[w.heap.size]? = some (.cells #[.string n, .slice p1 L.length k1] 56 (0, 0)) := by
    rw [hW0]
    exact ((tk_alloc (w.alloc _) _).block _ (by rw [World.size_alloc]; omega)).trans (heap_alloc_new w _)
  have hn0 : W0.heap[w.heap.size + 1]? = some (.cells #[.string n, .slice p2 L.length k2] 56 (0, 0)) := by
    rw [hW0]
    have := heap_alloc_new (w.alloc (.cells #[.string n, .slice p1 L.length k1] 56)) (.cells #[.string n, .slice p2 L.length k2] 56)
    rw [World.size_alloc] at this; exact this
  have HX : Hid (∀ W, Below W0.heap.size W0 W → W.heap[w.heap.size]? = some (.cells #[.string n, .slice p1 L.length k1] 56 (0, 0)) ∧ W.heap[w.heap.size + 1]? = some (.cells #[.string n, .slice p2 L.length k2] 56 (0, 0))) := Lib.hid fun W hW =>
    ⟨(hW.block _ (Array.getElem?_eq_some_iff.1 hz0).1).trans hz0, (hW.block _ (Array.getElem?_eq_some_iff.1 hn0).1).trans hn0⟩
  have H1 := Lib.hid (h1.below okMth hb0)
  have H2 := Lib.hid (h2.below okMth hb0)
  have HB0 := Lib.hid hb0
  obtain ⟨x0, x1⟩ := cells2 hz0
  obtain ⟨y0, y1⟩ := cells2 hn0
  clear h1 h2 hz0 hn0 hb0
  go_enter Tryd.func23, Tryd.ntmps23
  go_upto_region 1 with fail
  rw [← hW0]
  clear hW0
  go_wp2_with fail
  clear x0 x1 y0 y1
  go_loopw [5] (fun kv wr => ∃ k : Nat, k ≤ L.length ∧ kv = .int .i64 (k : Nat) ∧ Hid (∃ n, wr = W0.drewN n)) (fun kv _ => L.length - (intOf kv).toNat)
  case atStart => exact ⟨0, Nat.zero_le _, rfl, Lib.hid ⟨0, rfl⟩⟩
  case round =>
    obtain ⟨k, hk, rfl, H⟩ := hrel
    have HB : Hid (Below W0.heap.size W0 wr) := Lib.hid (by obtain ⟨n, e⟩ := H.out; rw [e]; exact dn_below W0 n)
    obtain ⟨hz, hn⟩ := HX.out _ HB.out
    obtain ⟨x0, x1⟩ := cells2 hz
    obtain ⟨y0, y1⟩ := cells2 hn
    clear hz hn
    by_cases hlt : k < L.length
    · have i1 : (k : Int) < (L.length : Int) := by omega
      have i2 : (0 : Int) ≤ (k : Int) := by omega
      obtain ⟨A, c3, t3, e3, hA, s3, a0, a1⟩ := row_at okMth (H1.out.below okMth HB.out) hlt
      obtain ⟨B, c4, t4, e4, hB, s4, d0, d1⟩ := row_at okMth (H2.out.below okMth HB.out) hlt
      cases e3
      cases e4
      clear s3 s4
      generalize L[k] = x at *
      obtain ⟨xn, xa, xr, xe, xu⟩ := x
      have e0 := a0 _ rfl
      have g0 := d0 _ rfl
      have e1 := a1 1 _ (by decide) rfl
      have g1 := d1 1 _ (by decide) rfl
      have e2 := a1 2 _ (by decide) rfl
      have g2 := d1 2 _ (by decide) rfl
      have e3 := a1 3 _ (by decide) rfl
      have g3 := d1 3 _ (by decide) rfl
      have e4 := a1 4 _ (by decide) rfl
      have g4 := d1 4 _ (by decide) rfl
      simp only [show kMth.k = 5 from rfl] at e0 g0 e1 g1 e2 g2 e3 g3 e4 g4
      clear a0 a1 d0 d1
      go_wp2_with fail
      go_quiet (fail)
      go_wp2_with fail
      go_roundw
      case rel => exact ⟨k + 1, by omega, by go_num, Lib.hid (by obtain ⟨n, e⟩ := H.out; exact ⟨n + _, by rw [e, World.drewN_drewN]⟩)⟩
      case measure => simp [intOf]; omega
    · obtain rfl : k = L.length := by omega
      have i1 : ¬ (L.length : Int) < (L.length : Int) := by omega
      go_wp2_with fail
      go_ret
      exact ⟨rfl, HB0.out.trans (HB.out.mono HB0.out.size)⟩
set_option maxRecDepth 100000 in
set_option maxHeartbeats 8000000 in
theorem SameSaga_any {w : World} {b1 b2 : Nat} {v1 v2 : Value} {n a : ByteArray} {L : List Ip.Stp} (h1 : RowIs kStp w b1 v1 L) (h2 : RowIs kStp w b2 v2 L) (hl : L.length ≤ 1000000) :
    Calls Tryd.prog 24 #[.agg #[.string n, .string a, v1], .agg #[.string n, .string a, v2]] w fun e w' => e = .returned (.bool true) ∧ Below w.heap.size w w' := by
  obtain ⟨p1, k1, rfl, -, -⟩ := h1.shape
  obtain ⟨p2, k2, rfl, -, -⟩ := h2.shape
  obtain ⟨W0, hW0⟩ : ∃ W0, W0 = (w.alloc (.cells #[.string n, .string a, .slice p1 L.length k1] 60)).alloc (.cells #[.string n, .string a, .slice p2 L.length k2] 60) := ⟨_, rfl⟩
  have hb0 : Below w.heap.size w W0 := by rw [hW0]; exact (tk_alloc w _).trans ((tk_alloc _ _).mono (by rw [World.size_alloc]; omega))
  have hz0 : W0.heap[w.heap.size]? = some (.cells #[.string n, .string a, .slice p1 L.length k1] 60 (0, 0)) := by
    rw [hW0]
    exact ((tk_alloc (w.alloc _) _).block _ (by rw [World.size_alloc]; omega)).trans (heap_alloc_new w _)
  have hn0 : W0.heap[w.heap.size + 1]? = some (.cells #[.string n, .string a, .slice p2 L.length k2] 60 (0, 0)) := by
    rw [hW0]
    have := heap_alloc_new (w.alloc (.cells #[.string n, .string a, .slice p1 L.length k1] 60)) (.cells #[.string n, .string a, .slice p2 L.length k2] 60)
    rw [World.size_alloc] at this; exact this
  have HX : Hid (∀ W, Below W0.heap.size W0 W → W.heap[w.heap.size]? = some (.cells #[.string n, .string a, .slice p1 L.length k1] 60 (0, 0)) ∧ W.heap[w.heap.size + 1]? = some (.cells #[.string n, .string a, .slice p2 L.length k2] 60 (0, 0))) := Lib.hid fun W hW =>
    ⟨(hW.block _ (Array.getElem?_eq_some_iff.1 hz0).1).trans hz0, (hW.block _ (Array.getElem?_eq_some_iff.1 hn0).1).trans hn0⟩
  have H1 := Lib.hid (h1.below okStp hb0)
  have H2 := Lib.hid (h2.below okStp hb0)
  have HB0 := Lib.hid hb0
  obtain ⟨x0, x1, x2⟩ := cells3 hz0
  obtain ⟨y0, y1, y2⟩ := cells3 hn0
  clear h1 h2 hz0 hn0 hb0
  go_enter Tryd.func24, Tryd.ntmps24
  go_upto_region 1 with fail
  rw [← hW0]
  clear hW0
  go_wp2_with fail
  clear x0 x1 x2 y0 y1 y2
  go_loopw [5] (fun kv wr => ∃ k : Nat, k ≤ L.length ∧ kv = .int .i64 (k : Nat) ∧ Hid (∃ n, wr = W0.drewN n)) (fun kv _ => L.length - (intOf kv).toNat)
  case atStart => exact ⟨0, Nat.zero_le _, rfl, Lib.hid ⟨0, rfl⟩⟩
  case round =>
    obtain ⟨k, hk, rfl, H⟩ := hrel
    have HB : Hid (Below W0.heap.size W0 wr) := Lib.hid (by obtain ⟨n, e⟩ := H.out; rw [e]; exact dn_below W0 n)
    obtain ⟨hz, hn⟩ := HX.out _ HB.out
    obtain ⟨x0, x1, x2⟩ := cells3 hz
    obtain ⟨y0, y1, y2⟩ := cells3 hn
    clear hz hn
    by_cases hlt : k < L.length
    · have i1 : (k : Int) < (L.length : Int) := by omega
      have i2 : (0 : Int) ≤ (k : Int) := by omega
      obtain ⟨A, c3, t3, e3, hA, s3, a0, a1⟩ := row_at okStp (H1.out.below okStp HB.out) hlt
      obtain ⟨B, c4, t4, e4, hB, s4, d0, d1⟩ := row_at okStp (H2.out.below okStp HB.out) hlt
      cases e3
      cases e4
      clear s3 s4
      generalize L[k] = x at *
      obtain ⟨xs, xm, xa⟩ := x
      have e0 := a0 _ rfl
      have g0 := d0 _ rfl
      have e1 := a1 1 _ (by decide) rfl
      have g1 := d1 1 _ (by decide) rfl
      have e2 := a1 2 _ (by decide) rfl
      have g2 := d1 2 _ (by decide) rfl
      simp only [show kStp.k = 3 from rfl] at e0 g0 e1 g1 e2 g2
      clear a0 a1 d0 d1
      go_wp2_with fail
      go_quiet (fail)
      go_wp2_with fail
      go_roundw
      case rel => exact ⟨k + 1, by omega, by go_num, Lib.hid (by obtain ⟨n, e⟩ := H.out; exact ⟨n + _, by rw [e, World.drewN_drewN]⟩)⟩
      case measure => simp [intOf]; omega
    · obtain rfl : k = L.length := by omega
      have i1 : ¬ (L.length : Int) < (L.length : Int) := by omega
      go_wp2_with fail
      go_ret
      exact ⟨rfl, HB0.out.trans (HB.out.mono HB0.out.size)⟩
/-! ### Same -/
set_option maxRecDepth 100000 in
set_option maxHeartbeats 16000000 in
theorem Same_any {w : World} {b1 b2 : Nat} {v1 v2 : Value} {s : Ip.Sch} (h1 : SchV w b1 v1 s) (h2 : SchV w b2 v2 s) (hf : Ip.Few 1000000 s) :
    Calls Tryd.prog 10 #[v1, v2] w fun e w' => e = .returned (.bool true) ∧ Below w.heap.size w w' := by
  obtain ⟨vr, vs, vg, rfl, r1, s1, g1⟩ := h1
  obtain ⟨ur, us, ug, rfl, r2, s2, g2⟩ := h2
  obtain ⟨p1, k1, rfl, -, -⟩ := r1.shape
  obtain ⟨p2, k2, rfl, -, -⟩ := s1.shape
  obtain ⟨p3, k3, rfl, -, -⟩ := g1.shape
  obtain ⟨p4, k4, rfl, -, -⟩ := r2.shape
  obtain ⟨p5, k5, rfl, -, -⟩ := s2.shape
  obtain ⟨p6, k6, rfl, -, -⟩ := g2.shape
  obtain ⟨nm, R, Sv, G⟩ := s
  simp only at r1 s1 g1 r2 s2 g2
  obtain ⟨W0, hW0⟩ : ∃ W0, W0 = (w.alloc (.cells #[.string nm, .slice p1 R.length k1, .slice p2 Sv.length k2, .slice p3 G.length k3] 26)).alloc (.cells #[.string nm, .slice p4 R.length k4, .slice p5 Sv.length k5, .slice p6 G.length k6] 26) := ⟨_, rfl⟩
  have hb0 : Below w.heap.size w W0 := by rw [hW0]; exact (tk_alloc w _).trans ((tk_alloc _ _).mono (by rw [World.size_alloc]; omega))
  have hz0 : W0.heap[w.heap.size]? = some (.cells #[.string nm, .slice p1 R.length k1, .slice p2 Sv.length k2, .slice p3 G.length k3] 26 (0, 0)) := by
    rw [hW0]
    exact ((tk_alloc (w.alloc _) _).block _ (by rw [World.size_alloc]; omega)).trans (heap_alloc_new w _)
  have hn0 : W0.heap[w.heap.size + 1]? = some (.cells #[.string nm, .slice p4 R.length k4, .slice p5 Sv.length k5, .slice p6 G.length k6] 26 (0, 0)) := by
    rw [hW0]
    have := heap_alloc_new (w.alloc (.cells #[.string nm, .slice p1 R.length k1, .slice p2 Sv.length k2, .slice p3 G.length k3] 26)) (.cells #[.string nm, .slice p4 R.length k4, .slice p5 Sv.length k5, .slice p6 G.length k6] 26)
    rw [World.size_alloc] at this; exact this
  have HX : Hid (∀ W, Below W0.heap.size W0 W → W.heap[w.heap.size]? = some (.cells #[.string nm, .slice p1 R.length k1, .slice p2 Sv.length k2, .slice p3 G.length k3] 26 (0, 0)) ∧ W.heap[w.heap.size + 1]? = some (.cells #[.string nm, .slice p4 R.length k4, .slice p5 Sv.length k5, .slice p6 G.length k6] 26 (0, 0))) := Lib.hid fun W hW =>
    ⟨(hW.block _ (Array.getElem?_eq_some_iff.1 hz0).1).trans hz0, (hW.block _ (Array.getElem?_eq_some_iff.1 hn0).1).trans hn0⟩
  have HR1 := Lib.hid (r1.below okRcd hb0)
  have HR2 := Lib.hid (r2.below okRcd hb0)
  have HS1 := Lib.hid (s1.below okSrv hb0)
  have HS2 := Lib.hid (s2.below okSrv hb0)
  have HG1 := Lib.hid (g1.below okSga hb0)
  have HG2 := Lib.hid (g2.below okSga hb0)
  have HB0 := Lib.hid hb0
  have HF := Lib.hid hf
  obtain ⟨x0, x1, x2, x3⟩ := cells4 hz0
  obtain ⟨y0, y1, y2, y3⟩ := cells4 hn0
  clear r1 r2 s1 s2 g1 g2 hz0 hn0 hb0 hf
  go_enter Tryd.func10, Tryd.ntmps10
  go_upto_region 1 with fail
  rw [← hW0]
  clear hW0
  go_wp2_with fail
  clear x0 x1 x2 x3 y0 y1 y2 y3
  go_loopw [5] (fun kv wr => ∃ k : Nat, k ≤ R.length ∧ kv = .int .i64 (k : Nat) ∧ Hid (Below W0.heap.size W0 wr)) (fun kv _ => R.length - (intOf kv).toNat)
  case atStart => exact ⟨0, Nat.zero_le _, rfl, Lib.hid (Below.refl _ _)⟩
  case round =>
    obtain ⟨k, hk, rfl, HB⟩ := hrel
    obtain ⟨hz, hn⟩ := HX.out _ HB.out
    obtain ⟨x0, x1, x2, x3⟩ := cells4 hz
    obtain ⟨y0, y1, y2, y3⟩ := cells4 hn
    clear hz hn
    by_cases hlt : k < R.length
    · have i1 : (k : Int) < (R.length : Int) := by omega
      have hk9 : k ≤ 1000000 := by have : R.length ≤ 1000000 := HF.out.recs; omega
      have i2 : (0 : Int) ≤ (k : Int) := by omega
      obtain ⟨A, c3, t3, e3, hA, s3, a0, a1⟩ := row_at okRcd (HR1.out.below okRcd HB.out) hlt
      obtain ⟨B, c4, t4, e4, hB, s4, d0, d1⟩ := row_at okRcd (HR2.out.below okRcd HB.out) hlt
      cases e3
      cases e4
      have hfx := HF.out.recX _ (List.getElem_mem hlt)
      generalize R[k] = x at *
      obtain ⟨xn, xc, xf⟩ := x
      obtain ⟨q3, l3, rfl, -, -⟩ := RowIs.shape s3
      obtain ⟨q4, l4, rfl, -, -⟩ := RowIs.shape s4
      have e0 := a0 _ rfl
      have g0 := d0 _ rfl
      have e1 := a1 1 _ (by decide) rfl
      have g1 := d1 1 _ (by decide) rfl
      have e2 := a1 2 _ (by decide) rfl
      have g2 := d1 2 _ (by decide) rfl
      simp only [show kRcd.k = 3 from rfl] at e0 g0 e1 g1 e2 g2
      have QS := fun W (hW : Below wr.heap.size wr W) => SameRecord_any (n := xn) (ch := xc) (RowIs.below okFld s3 hW) (RowIs.below okFld s4 hW) hfx.1 hfx.2
      have HQ := Lib.hid QS
      clear a0 a1 d0 d1 QS s3 s4 hfx
      go_wp2_with fail
      go_still_tail 10, (by kernel_rfl)
      change wpList _ _ _ _ _ wr.drew
      have hdr : Below wr.heap.size wr wr.drew := (Below.refl _ _).drew
      generalize wr.drew = w5 at *
      have HD := Lib.hid hdr
      clear hdr
      go_wp2_with fail
      refine (HQ.out _ HD.out).mono ?_
      rintro e w6 ⟨rfl, hb6⟩
      have HB6 := Lib.hid (HB.out.trans ((HD.out.trans (hb6.mono HD.out.size)).mono HB.out.size))
      clear hb6
      go_wp2_with fail
      go_roundw
      case rel => exact ⟨k + 1, by omega, by go_num, HB6⟩
      case measure => simp [intOf]; omega
    · obtain rfl : k = R.length := by omega
      have i1 : ¬ (R.length : Int) < (R.length : Int) := by omega
      go_wp2_with fail
      have HBa := HB
      clear x0 x1 x2 x3 y0 y1 y2 y3 HB i1 hk hlt
      go_loopw [6] (fun kv wr => ∃ k : Nat, k ≤ Sv.length ∧ kv = .int .i64 (k : Nat) ∧ Hid (Below W0.heap.size W0 wr)) (fun kv _ => Sv.length - (intOf kv).toNat)
      case atStart => exact ⟨0, Nat.zero_le _, rfl, HBa⟩
      case round =>
        obtain ⟨k, hk, rfl, HB⟩ := hrel
        obtain ⟨hz, hn⟩ := HX.out _ HB.out
        obtain ⟨x0, x1, x2, x3⟩ := cells4 hz
        obtain ⟨y0, y1, y2, y3⟩ := cells4 hn
        clear hz hn
        by_cases hlt : k < Sv.length
        · have i1 : (k : Int) < (Sv.length : Int) := by omega
          have hk9 : k ≤ 1000000 := by have : Sv.length ≤ 1000000 := HF.out.srvs; omega
          have i2 : (0 : Int) ≤ (k : Int) := by omega
          obtain ⟨A, c3, t3, e3, hA, s3, a0, a1⟩ := row_at okSrv (HS1.out.below okSrv HB.out) hlt
          obtain ⟨B, c4, t4, e4, hB, s4, d0, d1⟩ := row_at okSrv (HS2.out.below okSrv HB.out) hlt
          cases e3
          cases e4
          have hfx := HF.out.srvX _ (List.getElem_mem hlt)
          generalize Sv[k] = x at *
          obtain ⟨xn, xf⟩ := x
          obtain ⟨q3, l3, rfl, -, -⟩ := RowIs.shape s3
          obtain ⟨q4, l4, rfl, -, -⟩ := RowIs.shape s4
          have e0 := a0 _ rfl
          have g0 := d0 _ rfl
          have e1 := a1 1 _ (by decide) rfl
          have g1 := d1 1 _ (by decide) rfl
          simp only [show kSrv.k = 2 from rfl] at e0 g0 e1 g1
          have QS := fun W (hW : Below wr.heap.size wr W) => SameService_any (n := xn) (RowIs.below okMth s3 hW) (RowIs.below okMth s4 hW) hfx
          have HQ := Lib.hid QS
          clear a0 a1 d0 d1 QS s3 s4 hfx
          go_wp2_with fail
          go_still_tail 10, (by kernel_rfl)
          change wpList _ _ _ _ _ wr.drew
          have hdr : Below wr.heap.size wr wr.drew := (Below.refl _ _).drew
          generalize wr.drew = w5 at *
          have HD := Lib.hid hdr
          clear hdr
          go_wp2_with fail
          refine (HQ.out _ HD.out).mono ?_
          rintro e w6 ⟨rfl, hb6⟩
          have HB6 := Lib.hid (HB.out.trans ((HD.out.trans (hb6.mono HD.out.size)).mono HB.out.size))
          clear hb6
          go_wp2_with fail
          go_roundw
          case rel => exact ⟨k + 1, by omega, by go_num, HB6⟩
          case measure => simp [intOf]; omega
        · obtain rfl : k = Sv.length := by omega
          have i1 : ¬ (Sv.length : Int) < (Sv.length : Int) := by omega
          go_wp2_with fail
          have HBb := HB
          clear x0 x1 x2 x3 y0 y1 y2 y3 HB i1 hk hlt
          go_loopw [7] (fun kv wr => ∃ k : Nat, k ≤ G.length ∧ kv = .int .i64 (k : Nat) ∧ Hid (Below W0.heap.size W0 wr)) (fun kv _ => G.length - (intOf kv).toNat)
          case atStart => exact ⟨0, Nat.zero_le _, rfl, HBb⟩
          case round =>
            obtain ⟨k, hk, rfl, HB⟩ := hrel
            obtain ⟨hz, hn⟩ := HX.out _ HB.out
            obtain ⟨x0, x1, x2, x3⟩ := cells4 hz
            obtain ⟨y0, y1, y2, y3⟩ := cells4 hn
            clear hz hn
            by_cases hlt : k < G.length
            · have i1 : (k : Int) < (G.length : Int) := by omega
              have hk9 : k ≤ 1000000 := by have : G.length ≤ 1000000 := HF.out.sgas; omega
              have i2 : (0 : Int) ≤ (k : Int) := by omega
              obtain ⟨A, c3, t3, e3, hA, s3, a0, a1⟩ := row_at okSga (HG1.out.below okSga HB.out) hlt
              obtain ⟨B, c4, t4, e4, hB, s4, d0, d1⟩ := row_at okSga (HG2.out.below okSga HB.out) hlt
              cases e3
              cases e4
              have hfx := HF.out.sgaX _ (List.getElem_mem hlt)
              generalize G[k] = x at *
              obtain ⟨xn, xa, xf⟩ := x
              obtain ⟨q3, l3, rfl, -, -⟩ := RowIs.shape s3
              obtain ⟨q4, l4, rfl, -, -⟩ := RowIs.shape s4
              have e0 := a0 _ rfl
              have g0 := d0 _ rfl
              have e1 := a1 1 _ (by decide) rfl
              have g1 := d1 1 _ (by decide) rfl
              have e2 := a1 2 _ (by decide) rfl
              have g2 := d1 2 _ (by decide) rfl
              simp only [show kSga.k = 3 from rfl] at e0 g0 e1 g1 e2 g2
              have QS := fun W (hW : Below wr.heap.size wr W) => SameSaga_any (n := xn) (a := xa) (RowIs.below okStp s3 hW) (RowIs.below okStp s4 hW) hfx
              have HQ := Lib.hid QS
              clear a0 a1 d0 d1 QS s3 s4 hfx
              go_wp2_with fail
              go_still_tail 10, (by kernel_rfl)
              change wpList _ _ _ _ _ wr.drew
              have hdr : Below wr.heap.size wr wr.drew := (Below.refl _ _).drew
              generalize wr.drew = w5 at *
              have HD := Lib.hid hdr
              clear hdr
              go_wp2_with fail
              refine (HQ.out _ HD.out).mono ?_
              rintro e w6 ⟨rfl, hb6⟩
              have HB6 := Lib.hid (HB.out.trans ((HD.out.trans (hb6.mono HD.out.size)).mono HB.out.size))
              clear hb6
              go_wp2_with fail
              go_roundw
              case rel => exact ⟨k + 1, by omega, by go_num, HB6⟩
              case measure => simp [intOf]; omega
            · obtain rfl : k = G.length := by omega
              have i1 : ¬ (G.length : Int) < (G.length : Int) := by omega
              go_wp2_with fail
              go_ret
              exact ⟨rfl, HB0.out.trans (HB.out.mono HB0.out.size)⟩
end Go.Proofs.YtlmjcnfiolbfpaaDoor
