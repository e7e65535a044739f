/-
  Walks over the document's Same and SameService of schemas that are read only. Conditions: those in the theorems.
-/
import Derived.Test.YtamkkdmbefekmaaGreatDoorCkSameRo
import Derived.StillTailTactics
set_option linter.unusedSimpArgs false
set_option linter.unusedVariables false
namespace Go.Proofs.YtamkkdmbefekmaaGreatDoor
open Go.RowKit
theorem ro_mth {W : World} {v : Value} {L : List Ip.Mth} (h : RoMth W v L) {i : Nat} (hi : i < L.length) :
    ∃ A c t, v = .slice (some A) L.length c ∧ A.block < W.heap.size ∧ True ∧ (∀ u, (kMth.cells L[i] t)[0]? = some u → W.cell? (A.add (i * kMth.k)) = some u) ∧ ∀ j u, 0 < j → (kMth.cells L[i] t)[j]? = some u → W.cell? ⟨(A.add (i * kMth.k)).block, (A.add (i * kMth.k)).off + j, none⟩ = some u := by
  obtain ⟨A, c, t, e, hA, hs, -, c0, c1⟩ := RoIs.at h (by decide) (fun _ _ => rfl) hi
  exact ⟨A, c, t, e, hA, hs, c0, c1⟩
theorem ro_rcd {W : World} {v : Value} {L : List Ip.Rcd} (h : RoRcd W v L) {i : Nat} (hi : i < L.length) :
    ∃ A c t, v = .slice (some A) L.length c ∧ A.block < W.heap.size ∧ RoFld W t L[i].fields ∧ (∀ u, (kRcd.cells L[i] t)[0]? = some u → W.cell? (A.add (i * kRcd.k)) = some u) ∧ ∀ j u, 0 < j → (kRcd.cells L[i] t)[j]? = some u → W.cell? ⟨(A.add (i * kRcd.k)).block, (A.add (i * kRcd.k)).off + j, none⟩ = some u := by
  obtain ⟨A, c, t, e, hA, hs, -, c0, c1⟩ := RoIs.at h (by decide) (fun _ _ => rfl) hi
  exact ⟨A, c, t, e, hA, hs, c0, c1⟩
theorem ro_srv {W : World} {v : Value} {L : List Ip.Srv} (h : RoSrv W v L) {i : Nat} (hi : i < L.length) :
    ∃ A c t, v = .slice (some A) L.length c ∧ A.block < W.heap.size ∧ RoMth W t L[i].methods ∧ (∀ u, (kSrv.cells L[i] t)[0]? = some u → W.cell? (A.add (i * kSrv.k)) = some u) ∧ ∀ j u, 0 < j → (kSrv.cells L[i] t)[j]? = some u → W.cell? ⟨(A.add (i * kSrv.k)).block, (A.add (i * kSrv.k)).off + j, none⟩ = some u := by
  obtain ⟨A, c, t, e, hA, hs, -, c0, c1⟩ := RoIs.at h (by decide) (fun _ _ => rfl) hi
  exact ⟨A, c, t, e, hA, hs, c0, c1⟩
theorem ro_sga {W : World} {v : Value} {L : List Ip.Sga} (h : RoSga W v L) {i : Nat} (hi : i < L.length) :
    ∃ A c t, v = .slice (some A) L.length c ∧ A.block < W.heap.size ∧ RoStp W t L[i].steps ∧ (∀ u, (kSga.cells L[i] t)[0]? = some u → W.cell? (A.add (i * kSga.k)) = some u) ∧ ∀ j u, 0 < j → (kSga.cells L[i] t)[j]? = some u → W.cell? ⟨(A.add (i * kSga.k)).block, (A.add (i * kSga.k)).off + j, none⟩ = some u := by
  obtain ⟨A, c, t, e, hA, hs, -, c0, c1⟩ := RoIs.at h (by decide) (fun _ _ => rfl) hi
  exact ⟨A, c, t, e, hA, hs, c0, c1⟩
set_option maxRecDepth 100000 in
set_option maxHeartbeats 8000000 in
theorem SameService_ro {w : World} {v1 v2 : Value} {n : ByteArray} {L : List Ip.Mth} (h1 : RoMth w v1 L) (h2 : RoMth w v2 L) (hl : L.length ≤ 1000000) :
    Calls Tryz.prog 64 #[.agg #[.string n, v1], .agg #[.string n, v2]] w fun e w' => e = .returned (.bool true) ∧ Below w.heap.size w w' := by
  obtain ⟨p1, k1, rfl, -, -⟩ := RoIs.shape h1
  obtain ⟨p2, k2, rfl, -, -⟩ := RoIs.shape h2
  obtain ⟨W0, hW0⟩ : ∃ W0, W0 = (w.alloc (.cells #[.string n, .slice p1 L.length k1] 91)).alloc (.cells #[.string n, .slice p2 L.length k2] 91) := ⟨_, rfl⟩
  have hb0 : Below w.heap.size w W0 := by rw [hW0]; exact (tk_alloc w _).trans ((tk_alloc _ _).mono (by rw [World.size_alloc]; omega))
  have hz0 : W0.heap[w.heap.size]? = some (.cells #[.string n, .slice p1 L.length k1] 91 (0, 0)) := by
    rw [hW0]
    exact ((tk_alloc (w.alloc _) _).block _ (by rw [World.size_alloc]; omega)).trans (heap_alloc_new w _)
  have hn0 : W0.heap[w.heap.size + 1]? = some (.cells #[.string n, .slice p2 L.length k2] 91 (0, 0)) := by
    rw [hW0]
    have := heap_alloc_new (w.alloc (.cells #[.string n, .slice p1 L.length k1] 91)) (.cells #[.string n, .slice p2 L.length k2] 91)
    rw [World.size_alloc] at this; exact this
  have HX : Hid (∀ W, Below W0.heap.size W0 W → W.heap[w.heap.size]? = some (.cells #[.string n, .slice p1 L.length k1] 91 (0, 0)) ∧ W.heap[w.heap.size + 1]? = some (.cells #[.string n, .slice p2 L.length k2] 91 (0, 0))) := Lib.hid fun W hW =>
    ⟨(hW.block _ (Array.getElem?_eq_some_iff.1 hz0).1).trans hz0, (hW.block _ (Array.getElem?_eq_some_iff.1 hn0).1).trans hn0⟩
  have H1 := Lib.hid (h1.below hb0)
  have H2 := Lib.hid (h2.below hb0)
  have HB0 := Lib.hid hb0
  obtain ⟨x0, x1⟩ := cells2 hz0
  obtain ⟨y0, y1⟩ := cells2 hn0
  clear h1 h2 hz0 hn0 hb0
  go_enter Tryz.func64, Tryz.ntmps64
  go_upto_region 1 with fail
  rw [← hW0]
  clear hW0
  go_wp2_with fail
  clear x0 x1 y0 y1
  go_loopw [5] (fun kv wr => ∃ k : Nat, k ≤ L.length ∧ kv = .int .i64 (k : Nat) ∧ Hid (∃ n, wr = W0.drewN n)) (fun kv _ => L.length - (intOf kv).toNat)
  case atStart => exact ⟨0, Nat.zero_le _, rfl, Lib.hid ⟨0, rfl⟩⟩
  case round =>
    obtain ⟨k, hk, rfl, H⟩ := hrel
    have HB : Hid (Below W0.heap.size W0 wr) := Lib.hid (by obtain ⟨n, e⟩ := H.out; rw [e]; exact dn_below W0 n)
    obtain ⟨hz, hn⟩ := HX.out _ HB.out
    obtain ⟨x0, x1⟩ := cells2 hz
    obtain ⟨y0, y1⟩ := cells2 hn
    clear hz hn
    by_cases hlt : k < L.length
    · have i1 : (k : Int) < (L.length : Int) := by omega
      have i2 : (0 : Int) ≤ (k : Int) := by omega
      obtain ⟨A, c3, t3, e3, hA, s3, a0, a1⟩ := ro_mth (H1.out.below HB.out) hlt
      obtain ⟨B, c4, t4, e4, hB, s4, d0, d1⟩ := ro_mth (H2.out.below HB.out) hlt
      cases e3
      cases e4
      clear s3 s4
      generalize L[k] = x at *
      obtain ⟨xn, xa, xr, xe, xu⟩ := x
      have e0 := a0 _ rfl
      have g0 := d0 _ rfl
      have e1 := a1 1 _ (by decide) rfl
      have g1 := d1 1 _ (by decide) rfl
      have e2 := a1 2 _ (by decide) rfl
      have g2 := d1 2 _ (by decide) rfl
      have e3 := a1 3 _ (by decide) rfl
      have g3 := d1 3 _ (by decide) rfl
      have e4 := a1 4 _ (by decide) rfl
      have g4 := d1 4 _ (by decide) rfl
      simp only [show kMth.k = 5 from rfl] at e0 g0 e1 g1 e2 g2 e3 g3 e4 g4
      clear a0 a1 d0 d1
      go_wp2_with fail
      go_quiet (fail)
      go_wp2_with fail
      go_roundw
      case rel => exact ⟨k + 1, by omega, by go_num, Lib.hid (by obtain ⟨n, e⟩ := H.out; exact ⟨n + _, by rw [e, World.drewN_drewN]⟩)⟩
      case measure => simp [intOf]; omega
    · obtain rfl : k = L.length := by omega
      have i1 : ¬ (L.length : Int) < (L.length : Int) := by omega
      go_wp2_with fail
      go_ret
      exact ⟨rfl, HB0.out.trans (HB.out.mono HB0.out.size)⟩
set_option maxRecDepth 100000 in
set_option maxHeartbeats 16000000 in
theorem Same_ro {w : World} {v1 v2 : Value} {s : Ip.Sch} (h1 : RoSch w v1 s) (h2 : RoSch w v2 s) (hf : Ip.Few 1000000 s) :
    Calls Tryz.prog 29 #[v1, v2] w fun e w' => e = .returned (.bool true) ∧ Below w.heap.size w w' := by
  obtain ⟨vr, vs, vg, rfl, -, r1, s1, g1⟩ := h1
  obtain ⟨ur, us, ug, rfl, -, r2, s2, g2⟩ := h2
  obtain ⟨p1, k1, rfl, -, -⟩ := RoIs.shape r1
  obtain ⟨p2, k2, rfl, -, -⟩ := RoIs.shape s1
  obtain ⟨p3, k3, rfl, -, -⟩ := RoIs.shape g1
  obtain ⟨p4, k4, rfl, -, -⟩ := RoIs.shape r2
  obtain ⟨p5, k5, rfl, -, -⟩ := RoIs.shape s2
  obtain ⟨p6, k6, rfl, -, -⟩ := RoIs.shape g2
  obtain ⟨nm, R, Sv, G⟩ := s
  simp only at r1 s1 g1 r2 s2 g2
  obtain ⟨W0, hW0⟩ : ∃ W0, W0 = (w.alloc (.cells #[.string nm, .slice p1 R.length k1, .slice p2 Sv.length k2, .slice p3 G.length k3] 26)).alloc (.cells #[.string nm, .slice p4 R.length k4, .slice p5 Sv.length k5, .slice p6 G.length k6] 26) := ⟨_, rfl⟩
  have hb0 : Below w.heap.size w W0 := by rw [hW0]; exact (tk_alloc w _).trans ((tk_alloc _ _).mono (by rw [World.size_alloc]; omega))
  have hz0 : W0.heap[w.heap.size]? = some (.cells #[.string nm, .slice p1 R.length k1, .slice p2 Sv.length k2, .slice p3 G.length k3] 26 (0, 0)) := by
    rw [hW0]
    exact ((tk_alloc (w.alloc _) _).block _ (by rw [World.size_alloc]; omega)).trans (heap_alloc_new w _)
  have hn0 : W0.heap[w.heap.size + 1]? = some (.cells #[.string nm, .slice p4 R.length k4, .slice p5 Sv.length k5, .slice p6 G.length k6] 26 (0, 0)) := by
    rw [hW0]
    have := heap_alloc_new (w.alloc (.cells #[.string nm, .slice p1 R.length k1, .slice p2 Sv.length k2, .slice p3 G.length k3] 26)) (.cells #[.string nm, .slice p4 R.length k4, .slice p5 Sv.length k5, .slice p6 G.length k6] 26)
    rw [World.size_alloc] at this; exact this
  have HX : Hid (∀ W, Below W0.heap.size W0 W → W.heap[w.heap.size]? = some (.cells #[.string nm, .slice p1 R.length k1, .slice p2 Sv.length k2, .slice p3 G.length k3] 26 (0, 0)) ∧ W.heap[w.heap.size + 1]? = some (.cells #[.string nm, .slice p4 R.length k4, .slice p5 Sv.length k5, .slice p6 G.length k6] 26 (0, 0))) := Lib.hid fun W hW =>
    ⟨(hW.block _ (Array.getElem?_eq_some_iff.1 hz0).1).trans hz0, (hW.block _ (Array.getElem?_eq_some_iff.1 hn0).1).trans hn0⟩
  have HR1 := Lib.hid (r1.below hb0)
  have HR2 := Lib.hid (r2.below hb0)
  have HS1 := Lib.hid (s1.below hb0)
  have HS2 := Lib.hid (s2.below hb0)
  have HG1 := Lib.hid (g1.below hb0)
  have HG2 := Lib.hid (g2.below hb0)
  have HB0 := Lib.hid hb0
  have HF := Lib.hid hf
  obtain ⟨x0, x1, x2, x3⟩ := cells4 hz0
  obtain ⟨y0, y1, y2, y3⟩ := cells4 hn0
  clear r1 r2 s1 s2 g1 g2 hz0 hn0 hb0 hf
  go_enter Tryz.func29, Tryz.ntmps29
  go_upto_region 1 with fail
  rw [← hW0]
  clear hW0
  go_wp2_with fail
  clear x0 x1 x2 x3 y0 y1 y2 y3
  go_loopw [5] (fun kv wr => ∃ k : Nat, k ≤ R.length ∧ kv = .int .i64 (k : Nat) ∧ Hid (Below W0.heap.size W0 wr)) (fun kv _ => R.length - (intOf kv).toNat)
  case atStart => exact ⟨0, Nat.zero_le _, rfl, Lib.hid (Below.refl _ _)⟩
  case round =>
    obtain ⟨k, hk, rfl, HB⟩ := hrel
    obtain ⟨hz, hn⟩ := HX.out _ HB.out
    obtain ⟨x0, x1, x2, x3⟩ := cells4 hz
    obtain ⟨y0, y1, y2, y3⟩ := cells4 hn
    clear hz hn
    by_cases hlt : k < R.length
    · have i1 : (k : Int) < (R.length : Int) := by omega
      have hk9 : k ≤ 1000000 := by have : R.length ≤ 1000000 := HF.out.recs; omega
      have i2 : (0 : Int) ≤ (k : Int) := by omega
      obtain ⟨A, c3, t3, e3, hA, s3, a0, a1⟩ := ro_rcd (HR1.out.below HB.out) hlt
      obtain ⟨B, c4, t4, e4, hB, s4, d0, d1⟩ := ro_rcd (HR2.out.below HB.out) hlt
      cases e3
      cases e4
      have hfx := HF.out.recX _ (List.getElem_mem hlt)
      generalize R[k] = x at *
      obtain ⟨xn, xc, xf⟩ := x
      obtain ⟨q3, l3, rfl, -, -⟩ := RoIs.shape s3
      obtain ⟨q4, l4, rfl, -, -⟩ := RoIs.shape s4
      have e0 := a0 _ rfl
      have g0 := d0 _ rfl
      have e1 := a1 1 _ (by decide) rfl
      have g1 := d1 1 _ (by decide) rfl
      have e2 := a1 2 _ (by decide) rfl
      have g2 := d1 2 _ (by decide) rfl
      simp only [show kRcd.k = 3 from rfl] at e0 g0 e1 g1 e2 g2
      have QS := fun W (hW : Below wr.heap.size wr W) => SameRecord_ro (n := xn) (ch := xc) (RoFld.below s3 hW) (RoFld.below s4 hW) hfx.1 hfx.2
      have HQ := Lib.hid QS
      clear a0 a1 d0 d1 QS s3 s4 hfx
      go_wp2_with fail
      go_still_tail 10, (by kernel_rfl)
      change wpList _ _ _ _ _ wr.drew
      have hdr : Below wr.heap.size wr wr.drew := (Below.refl _ _).drew
      generalize wr.drew = w5 at *
      have HD := Lib.hid hdr
      clear hdr
      go_wp2_with fail
      refine (HQ.out _ HD.out).mono ?_
      rintro e w6 ⟨rfl, hb6⟩
      have HB6 := Lib.hid (HB.out.trans ((HD.out.trans (hb6.mono HD.out.size)).mono HB.out.size))
      clear hb6
      go_wp2_with fail
      go_roundw
      case rel => exact ⟨k + 1, by omega, by go_num, HB6⟩
      case measure => simp [intOf]; omega
    · obtain rfl : k = R.length := by omega
      have i1 : ¬ (R.length : Int) < (R.length : Int) := by omega
      go_wp2_with fail
      have HBa := HB
      clear x0 x1 x2 x3 y0 y1 y2 y3 HB i1 hk hlt
      go_loopw [6] (fun kv wr => ∃ k : Nat, k ≤ Sv.length ∧ kv = .int .i64 (k : Nat) ∧ Hid (Below W0.heap.size W0 wr)) (fun kv _ => Sv.length - (intOf kv).toNat)
      case atStart => exact ⟨0, Nat.zero_le _, rfl, HBa⟩
      case round =>
        obtain ⟨k, hk, rfl, HB⟩ := hrel
        obtain ⟨hz, hn⟩ := HX.out _ HB.out
        obtain ⟨x0, x1, x2, x3⟩ := cells4 hz
        obtain ⟨y0, y1, y2, y3⟩ := cells4 hn
        clear hz hn
        by_cases hlt : k < Sv.length
        · have i1 : (k : Int) < (Sv.length : Int) := by omega
          have hk9 : k ≤ 1000000 := by have : Sv.length ≤ 1000000 := HF.out.srvs; omega
          have i2 : (0 : Int) ≤ (k : Int) := by omega
          obtain ⟨A, c3, t3, e3, hA, s3, a0, a1⟩ := ro_srv (HS1.out.below HB.out) hlt
          obtain ⟨B, c4, t4, e4, hB, s4, d0, d1⟩ := ro_srv (HS2.out.below HB.out) hlt
          cases e3
          cases e4
          have hfx := HF.out.srvX _ (List.getElem_mem hlt)
          generalize Sv[k] = x at *
          obtain ⟨xn, xf⟩ := x
          obtain ⟨q3, l3, rfl, -, -⟩ := RoIs.shape s3
          obtain ⟨q4, l4, rfl, -, -⟩ := RoIs.shape s4
          have e0 := a0 _ rfl
          have g0 := d0 _ rfl
          have e1 := a1 1 _ (by decide) rfl
          have g1 := d1 1 _ (by decide) rfl
          simp only [show kSrv.k = 2 from rfl] at e0 g0 e1 g1
          have QS := fun W (hW : Below wr.heap.size wr W) => SameService_ro (n := xn) (RoMth.below s3 hW) (RoMth.below s4 hW) hfx
          have HQ := Lib.hid QS
          clear a0 a1 d0 d1 QS s3 s4 hfx
          go_wp2_with fail
          go_still_tail 10, (by kernel_rfl)
          change wpList _ _ _ _ _ wr.drew
          have hdr : Below wr.heap.size wr wr.drew := (Below.refl _ _).drew
          generalize wr.drew = w5 at *
          have HD := Lib.hid hdr
          clear hdr
          go_wp2_with fail
          refine (HQ.out _ HD.out).mono ?_
          rintro e w6 ⟨rfl, hb6⟩
          have HB6 := Lib.hid (HB.out.trans ((HD.out.trans (hb6.mono HD.out.size)).mono HB.out.size))
          clear hb6
          go_wp2_with fail
          go_roundw
          case rel => exact ⟨k + 1, by omega, by go_num, HB6⟩
          case measure => simp [intOf]; omega
        · obtain rfl : k = Sv.length := by omega
          have i1 : ¬ (Sv.length : Int) < (Sv.length : Int) := by omega
          go_wp2_with fail
          have HBb := HB
          clear x0 x1 x2 x3 y0 y1 y2 y3 HB i1 hk hlt
          go_loopw [7] (fun kv wr => ∃ k : Nat, k ≤ G.length ∧ kv = .int .i64 (k : Nat) ∧ Hid (Below W0.heap.size W0 wr)) (fun kv _ => G.length - (intOf kv).toNat)
          case atStart => exact ⟨0, Nat.zero_le _, rfl, HBb⟩
          case round =>
            obtain ⟨k, hk, rfl, HB⟩ := hrel
            obtain ⟨hz, hn⟩ := HX.out _ HB.out
            obtain ⟨x0, x1, x2, x3⟩ := cells4 hz
            obtain ⟨y0, y1, y2, y3⟩ := cells4 hn
            clear hz hn
            by_cases hlt : k < G.length
            · have i1 : (k : Int) < (G.length : Int) := by omega
              have hk9 : k ≤ 1000000 := by have : G.length ≤ 1000000 := HF.out.sgas; omega
              have i2 : (0 : Int) ≤ (k : Int) := by omega
              obtain ⟨A, c3, t3, e3, hA, s3, a0, a1⟩ := ro_sga (HG1.out.below HB.out) hlt
              obtain ⟨B, c4, t4, e4, hB, s4, d0, d1⟩ := ro_sga (HG2.out.below HB.out) hlt
              cases e3
              cases e4
              have hfx := HF.out.sgaX _ (List.getElem_mem hlt)
              generalize G[k] = x at *
              obtain ⟨xn, xa, xf⟩ := x
              obtain ⟨q3, l3, rfl, -, -⟩ := RoIs.shape s3
              obtain ⟨q4, l4, rfl, -, -⟩ := RoIs.shape s4
              have e0 := a0 _ rfl
              have g0 := d0 _ rfl
              have e1 := a1 1 _ (by decide) rfl
              have g1 := d1 1 _ (by decide) rfl
              have e2 := a1 2 _ (by decide) rfl
              have g2 := d1 2 _ (by decide) rfl
              simp only [show kSga.k = 3 from rfl] at e0 g0 e1 g1 e2 g2
              have QS := fun W (hW : Below wr.heap.size wr W) => SameSaga_ro (n := xn) (a := xa) (RoStp.below s3 hW) (RoStp.below s4 hW) hfx
              have HQ := Lib.hid QS
              clear a0 a1 d0 d1 QS s3 s4 hfx
              go_wp2_with fail
              go_still_tail 10, (by kernel_rfl)
              change wpList _ _ _ _ _ wr.drew
              have hdr : Below wr.heap.size wr wr.drew := (Below.refl _ _).drew
              generalize wr.drew = w5 at *
              have HD := Lib.hid hdr
              clear hdr
              go_wp2_with fail
              refine (HQ.out _ HD.out).mono ?_
              rintro e w6 ⟨rfl, hb6⟩
              have HB6 := Lib.hid (HB.out.trans ((HD.out.trans (hb6.mono HD.out.size)).mono HB.out.size))
              clear hb6
              go_wp2_with fail
              go_roundw
              case rel => exact ⟨k + 1, by omega, by go_num, HB6⟩
              case measure => simp [intOf]; omega
            · obtain rfl : k = G.length := by omega
              have i1 : ¬ (G.length : Int) < (G.length : Int) := by omega
              go_wp2_with fail
              go_ret
              exact ⟨rfl, HB0.out.trans (HB.out.mono HB0.out.size)⟩
end Go.Proofs.YtamkkdmbefekmaaGreatDoor
