/-
  Walks over the document's SameSorts, SameRecord and SameSaga of parts that are read only. Conditions: those in the theorems.
-/
import Derived.Test.YtamkkdmbefekmaaGreatDoorSchWalk
import Derived.Test.YtamkkdmbefekmaaGreatDoorCkMath
import Derived.StillTailTactics
import Derived.Deep.QuietTactic
import Derived.BigQuiet
set_option linter.unusedSimpArgs false
set_option linter.unusedVariables false
/-! ## SchSame -/
namespace Go.Proofs.YtamkkdmbefekmaaGreatDoor
open Go.RowKit
theorem ro_so {W : World} {v : Value} {L : List Ip.So} (h : RoSo W v L) {i : Nat} (hi : i < L.length) :
    ∃ A c t, v = .slice (some A) L.length c ∧ A.block < W.heap.size ∧ True ∧ (∀ u, (kSo.cells L[i] t)[0]? = some u → W.cell? (A.add (i * kSo.k)) = some u) ∧ ∀ j u, 0 < j → (kSo.cells L[i] t)[j]? = some u → W.cell? ⟨(A.add (i * kSo.k)).block, (A.add (i * kSo.k)).off + j, none⟩ = some u := by
  obtain ⟨A, c, t, e, hA, hs, -, c0, c1⟩ := RoIs.at h (by decide) (fun _ _ => rfl) hi
  exact ⟨A, c, t, e, hA, hs, c0, c1⟩
theorem ro_fld {W : World} {v : Value} {L : List Ip.Fld} (h : RoFld W v L) {i : Nat} (hi : i < L.length) :
    ∃ A c t, v = .slice (some A) L.length c ∧ A.block < W.heap.size ∧ RoSo W t L[i].type ∧ (∀ u, (kFld.cells L[i] t)[0]? = some u → W.cell? (A.add (i * kFld.k)) = some u) ∧ ∀ j u, 0 < j → (kFld.cells L[i] t)[j]? = some u → W.cell? ⟨(A.add (i * kFld.k)).block, (A.add (i * kFld.k)).off + j, none⟩ = some u := by
  obtain ⟨A, c, t, e, hA, hs, -, c0, c1⟩ := RoIs.at h (by decide) (fun _ _ => rfl) hi
  exact ⟨A, c, t, e, hA, hs, c0, c1⟩
theorem ro_stp {W : World} {v : Value} {L : List Ip.Stp} (h : RoStp W v L) {i : Nat} (hi : i < L.length) :
    ∃ A c t, v = .slice (some A) L.length c ∧ A.block < W.heap.size ∧ True ∧ (∀ u, (kStp.cells L[i] t)[0]? = some u → W.cell? (A.add (i * kStp.k)) = some u) ∧ ∀ j u, 0 < j → (kStp.cells L[i] t)[j]? = some u → W.cell? ⟨(A.add (i * kStp.k)).block, (A.add (i * kStp.k)).off + j, none⟩ = some u := by
  obtain ⟨A, c, t, e, hA, hs, -, c0, c1⟩ := RoIs.at h (by decide) (fun _ _ => rfl) hi
  exact ⟨A, c, t, e, hA, hs, c0, c1⟩
set_option maxRecDepth 100000 in
set_option maxHeartbeats 4000000 in
theorem SameSorts_ro {w : World} {v1 v2 : Value} {L : List Ip.So} (h1 : RoSo w v1 L) (h2 : RoSo w v2 L) (hl : L.length ≤ 1000000) :
    Calls Tryz.prog 31 #[v1, v2] w fun e w' => e = .returned (.bool true) ∧ ∃ n, w' = w.drewN n := by
  have H1 := Lib.hid h1
  have H2 := Lib.hid h2
  obtain ⟨p1, c1, rfl, -, -⟩ := RoIs.shape h1
  obtain ⟨p2, c2, rfl, -, -⟩ := RoIs.shape h2
  clear h1 h2
  go_enter Tryz.func31, Tryz.ntmps31
  go_wp2_with fail
  go_loopw [5] (fun kv wr => ∃ k : Nat, k ≤ L.length ∧ kv = .int .i64 (k : Nat) ∧ Hid (∃ n, wr = w.drewN n)) (fun kv _ => L.length - (intOf kv).toNat)
  case atStart => exact ⟨0, Nat.zero_le _, rfl, Lib.hid ⟨0, rfl⟩⟩
  case round =>
    obtain ⟨k, hk, rfl, H⟩ := hrel
    have HB : Hid (Below w.heap.size w wr) := Lib.hid (by obtain ⟨n, e⟩ := H.out; rw [e]; exact dn_below w n)
    by_cases hlt : k < L.length
    · have i1 : (k : Int) < (L.length : Int) := by omega
      have i2 : (0 : Int) ≤ (k : Int) := by omega
      obtain ⟨A, c3, t3, e3, hA, -, a0, a1⟩ := ro_so (H1.out.below HB.out) hlt
      obtain ⟨B, c4, t4, e4, hB, -, d0, d1⟩ := ro_so (H2.out.below HB.out) hlt
      cases e3
      cases e4
      generalize L[k] = x at *
      obtain ⟨xk, xn⟩ := x
      have x0 := a0 _ rfl
      have x1 := a1 1 _ (by decide) rfl
      have y0 := d0 _ rfl
      have y1 := d1 1 _ (by decide) rfl
      simp only [show kSo.k = 2 from rfl] at x0 x1 y0 y1
      clear a0 a1 d0 d1
      go_wp2_with fail
      go_quiet (fail)
      go_wp2_with fail
      go_roundw
      case rel => exact ⟨k + 1, by omega, by go_num, Lib.hid (by obtain ⟨n, e⟩ := H.out; exact ⟨n + _, by rw [e, World.drewN_drewN]⟩)⟩
      case measure => simp [intOf]; omega
    · obtain rfl : k = L.length := by omega
      have i1 : ¬ (L.length : Int) < (L.length : Int) := by omega
      go_wp2_with fail
      go_ret
      exact ⟨rfl, H.out⟩
set_option maxRecDepth 100000 in
set_option maxHeartbeats 8000000 in
theorem SameRecord_ro {w : World} {v1 v2 : Value} {n : ByteArray} {ch : Bool} {L : List Ip.Fld} (h1 : RoFld w v1 L) (h2 : RoFld w v2 L) (hl : L.length ≤ 1000000) (hls : ∀ x ∈ L, x.type.length ≤ 1000000) :
    Calls Tryz.prog 19 #[.agg #[.string n, .bool ch, v1], .agg #[.string n, .bool ch, v2]] w fun e w' => e = .returned (.bool true) ∧ Below w.heap.size w w' := by
  obtain ⟨p1, k1, rfl, -, -⟩ := RoIs.shape h1
  obtain ⟨p2, k2, rfl, -, -⟩ := RoIs.shape h2
  obtain ⟨W0, hW0⟩ : ∃ W0, W0 = (w.alloc (.cells #[.string n, .bool ch, .slice p1 L.length k1] 46)).alloc (.cells #[.string n, .bool ch, .slice p2 L.length k2] 46) := ⟨_, rfl⟩
  have hb0 : Below w.heap.size w W0 := by rw [hW0]; exact (tk_alloc w _).trans ((tk_alloc _ _).mono (by rw [World.size_alloc]; omega))
  have hz0 : W0.heap[w.heap.size]? = some (.cells #[.string n, .bool ch, .slice p1 L.length k1] 46 (0, 0)) := by
    rw [hW0]
    exact ((tk_alloc (w.alloc _) _).block _ (by rw [World.size_alloc]; omega)).trans (heap_alloc_new w _)
  have hn0 : W0.heap[w.heap.size + 1]? = some (.cells #[.string n, .bool ch, .slice p2 L.length k2] 46 (0, 0)) := by
    rw [hW0]
    have := heap_alloc_new (w.alloc (.cells #[.string n, .bool ch, .slice p1 L.length k1] 46)) (.cells #[.string n, .bool ch, .slice p2 L.length k2] 46)
    rw [World.size_alloc] at this; exact this
  have HX : Hid (∀ W, Below W0.heap.size W0 W → W.heap[w.heap.size]? = some (.cells #[.string n, .bool ch, .slice p1 L.length k1] 46 (0, 0)) ∧ W.heap[w.heap.size + 1]? = some (.cells #[.string n, .bool ch, .slice p2 L.length k2] 46 (0, 0))) := Lib.hid fun W hW =>
    ⟨(hW.block _ (Array.getElem?_eq_some_iff.1 hz0).1).trans hz0, (hW.block _ (Array.getElem?_eq_some_iff.1 hn0).1).trans hn0⟩
  have H1 := Lib.hid (h1.below hb0)
  have H2 := Lib.hid (h2.below hb0)
  have HB0 := Lib.hid hb0
  obtain ⟨x0, x1, x2⟩ := cells3 hz0
  obtain ⟨y0, y1, y2⟩ := cells3 hn0
  have HLS := Lib.hid hls
  clear hls
  clear h1 h2 hz0 hn0 hb0
  go_enter Tryz.func19, Tryz.ntmps19
  go_upto_region 1 with fail
  rw [← hW0]
  clear hW0
  go_wp2_with fail
  clear x0 x1 x2 y0 y1 y2
  go_loopw [5] (fun kv wr => ∃ k : Nat, k ≤ L.length ∧ kv = .int .i64 (k : Nat) ∧ Hid (∃ n, wr = W0.drewN n)) (fun kv _ => L.length - (intOf kv).toNat)
  case atStart => exact ⟨0, Nat.zero_le _, rfl, Lib.hid ⟨0, rfl⟩⟩
  case round =>
    obtain ⟨k, hk, rfl, H⟩ := hrel
    have HB : Hid (Below W0.heap.size W0 wr) := Lib.hid (by obtain ⟨n, e⟩ := H.out; rw [e]; exact dn_below W0 n)
    obtain ⟨hz, hn⟩ := HX.out _ HB.out
    obtain ⟨x0, x1, x2⟩ := cells3 hz
    obtain ⟨y0, y1, y2⟩ := cells3 hn
    clear hz hn
    by_cases hlt : k < L.length
    · have i1 : (k : Int) < (L.length : Int) := by omega
      have i2 : (0 : Int) ≤ (k : Int) := by omega
      obtain ⟨A, c3, t3, e3, hA, s3, a0, a1⟩ := ro_fld (H1.out.below HB.out) hlt
      obtain ⟨B, c4, t4, e4, hB, s4, d0, d1⟩ := ro_fld (H2.out.below HB.out) hlt
      cases e3
      cases e4
      have hlx := HLS.out _ (List.getElem_mem hlt)
      generalize L[k] = x at *
      obtain ⟨xn, xt⟩ := x
      have e0 := a0 _ rfl
      have g0 := d0 _ rfl
      have e1 := a1 1 _ (by decide) rfl
      have g1 := d1 1 _ (by decide) rfl
      simp only [show kFld.k = 2 from rfl] at e0 g0 e1 g1
      clear a0 a1 d0 d1
      obtain ⟨q3, l3, rfl, -, -⟩ := RoIs.shape s3
      obtain ⟨q4, l4, rfl, -, -⟩ := RoIs.shape s4
      have QS := fun m => SameSorts_ro (RoSo.below s3 (dn_below wr m)) (RoSo.below s4 (dn_below wr m)) hlx
      have HQ := Lib.hid QS
      clear QS s3 s4
      go_wp2_with fail
      go_quiet ((go_at_call 31; exact Calls.quiet_of (HQ.out _)))
      go_wp2_with fail
      go_roundw
      case rel => exact ⟨k + 1, by omega, by go_num, Lib.hid (by obtain ⟨n, e⟩ := H.out; exact ⟨n + _, by rw [e, World.drewN_drewN]⟩)⟩
      case measure => simp [intOf]; omega
    · obtain rfl : k = L.length := by omega
      have i1 : ¬ (L.length : Int) < (L.length : Int) := by omega
      go_wp2_with fail
      go_ret
      exact ⟨rfl, HB0.out.trans (HB.out.mono HB0.out.size)⟩
set_option maxRecDepth 100000 in
set_option maxHeartbeats 8000000 in
theorem SameSaga_ro {w : World} {v1 v2 : Value} {n a : ByteArray} {L : List Ip.Stp} (h1 : RoStp w v1 L) (h2 : RoStp w v2 L) (hl : L.length ≤ 1000000) :
    Calls Tryz.prog 16 #[.agg #[.string n, .string a, v1], .agg #[.string n, .string a, v2]] w fun e w' => e = .returned (.bool true) ∧ Below w.heap.size w w' := by
  obtain ⟨p1, k1, rfl, -, -⟩ := RoIs.shape h1
  obtain ⟨p2, k2, rfl, -, -⟩ := RoIs.shape h2
  obtain ⟨W0, hW0⟩ : ∃ W0, W0 = (w.alloc (.cells #[.string n, .string a, .slice p1 L.length k1] 34)).alloc (.cells #[.string n, .string a, .slice p2 L.length k2] 34) := ⟨_, rfl⟩
  have hb0 : Below w.heap.size w W0 := by rw [hW0]; exact (tk_alloc w _).trans ((tk_alloc _ _).mono (by rw [World.size_alloc]; omega))
  have hz0 : W0.heap[w.heap.size]? = some (.cells #[.string n, .string a, .slice p1 L.length k1] 34 (0, 0)) := by
    rw [hW0]
    exact ((tk_alloc (w.alloc _) _).block _ (by rw [World.size_alloc]; omega)).trans (heap_alloc_new w _)
  have hn0 : W0.heap[w.heap.size + 1]? = some (.cells #[.string n, .string a, .slice p2 L.length k2] 34 (0, 0)) := by
    rw [hW0]
    have := heap_alloc_new (w.alloc (.cells #[.string n, .string a, .slice p1 L.length k1] 34)) (.cells #[.string n, .string a, .slice p2 L.length k2] 34)
    rw [World.size_alloc] at this; exact this
  have HX : Hid (∀ W, Below W0.heap.size W0 W → W.heap[w.heap.size]? = some (.cells #[.string n, .string a, .slice p1 L.length k1] 34 (0, 0)) ∧ W.heap[w.heap.size + 1]? = some (.cells #[.string n, .string a, .slice p2 L.length k2] 34 (0, 0))) := Lib.hid fun W hW =>
    ⟨(hW.block _ (Array.getElem?_eq_some_iff.1 hz0).1).trans hz0, (hW.block _ (Array.getElem?_eq_some_iff.1 hn0).1).trans hn0⟩
  have H1 := Lib.hid (h1.below hb0)
  have H2 := Lib.hid (h2.below hb0)
  have HB0 := Lib.hid hb0
  obtain ⟨x0, x1, x2⟩ := cells3 hz0
  obtain ⟨y0, y1, y2⟩ := cells3 hn0
  clear h1 h2 hz0 hn0 hb0
  go_enter Tryz.func16, Tryz.ntmps16
  go_upto_region 1 with fail
  rw [← hW0]
  clear hW0
  go_wp2_with fail
  clear x0 x1 x2 y0 y1 y2
  go_loopw [5] (fun kv wr => ∃ k : Nat, k ≤ L.length ∧ kv = .int .i64 (k : Nat) ∧ Hid (∃ n, wr = W0.drewN n)) (fun kv _ => L.length - (intOf kv).toNat)
  case atStart => exact ⟨0, Nat.zero_le _, rfl, Lib.hid ⟨0, rfl⟩⟩
  case round =>
    obtain ⟨k, hk, rfl, H⟩ := hrel
    have HB : Hid (Below W0.heap.size W0 wr) := Lib.hid (by obtain ⟨n, e⟩ := H.out; rw [e]; exact dn_below W0 n)
    obtain ⟨hz, hn⟩ := HX.out _ HB.out
    obtain ⟨x0, x1, x2⟩ := cells3 hz
    obtain ⟨y0, y1, y2⟩ := cells3 hn
    clear hz hn
    by_cases hlt : k < L.length
    · have i1 : (k : Int) < (L.length : Int) := by omega
      have i2 : (0 : Int) ≤ (k : Int) := by omega
      obtain ⟨A, c3, t3, e3, hA, s3, a0, a1⟩ := ro_stp (H1.out.below HB.out) hlt
      obtain ⟨B, c4, t4, e4, hB, s4, d0, d1⟩ := ro_stp (H2.out.below HB.out) hlt
      cases e3
      cases e4
      clear s3 s4
      generalize L[k] = x at *
      obtain ⟨xs, xm, xa⟩ := x
      have e0 := a0 _ rfl
      have g0 := d0 _ rfl
      have e1 := a1 1 _ (by decide) rfl
      have g1 := d1 1 _ (by decide) rfl
      have e2 := a1 2 _ (by decide) rfl
      have g2 := d1 2 _ (by decide) rfl
      simp only [show kStp.k = 3 from rfl] at e0 g0 e1 g1 e2 g2
      clear a0 a1 d0 d1
      go_wp2_with fail
      go_quiet (fail)
      go_wp2_with fail
      go_roundw
      case rel => exact ⟨k + 1, by omega, by go_num, Lib.hid (by obtain ⟨n, e⟩ := H.out; exact ⟨n + _, by rw [e, World.drewN_drewN]⟩)⟩
      case measure => simp [intOf]; omega
    · obtain rfl : k = L.length := by omega
      have i1 : ¬ (L.length : Int) < (L.length : Int) := by omega
      go_wp2_with fail
      go_ret
      exact ⟨rfl, HB0.out.trans (HB.out.mono HB0.out.size)⟩
end Go.Proofs.YtamkkdmbefekmaaGreatDoor
