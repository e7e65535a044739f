/-
  The parts of CkSameRo, CkFoundB that a seat without their package has. Conditions: those in the theorems.
-/
import Derived.Test.YtnkdhmoocomjfaaGreatDoorSchWalk
import Derived.Test.YtnkdhmoocomjfaaGreatDoorCkMath
import Derived.StillTailTactics
import Derived.Deep.QuietTactic
import Derived.BigQuiet
import Derived.Test.YtnkdhmoocomjfaaGreatDoorCkFirst
import Derived.Test.YtnkdhmoocomjfaaGreatDoorCkLook
import Derived.Test.YtnkdhmoocomjfaaGreatDoorBIdlRefB
import Derived.Test.YtnkdhmoocomjfaaGreatDoorCkSeqs
import Derived.Test.YtnkdhmoocomjfaaGreatDoorCkDecl
import Derived.Test.YtnkdhmoocomjfaaGreatDoorCkGreat
import Derived.Test.YtnkdhmoocomjfaaGreatDoorCkWakes
set_option linter.unusedSimpArgs false
set_option linter.unusedVariables false
/-! ## SchSame -/
namespace Go.Proofs.YtnkdhmoocomjfaaGreatDoor
open Go.RowKit
theorem ro_so {W : World} {v : Value} {L : List Ip.So} (h : RoSo W v L) {i : Nat} (hi : i < L.length) :
    ∃ A c t, v = .slice (some A) L.length c ∧ A.block < W.heap.size ∧ True ∧ (∀ u, (kSo.cells L[i] t)[0]? = some u → W.cell? (A.add (i * kSo.k)) = some u) ∧ ∀ j u, 0 < j → (kSo.cells L[i] t)[j]? = some u → W.cell? ⟨(A.add (i * kSo.k)).block, (A.add (i * kSo.k)).off + j, none⟩ = some u := by
  obtain ⟨A, c, t, e, hA, hs, -, c0, c1⟩ := RoIs.at h (by decide) (fun _ _ => rfl) hi
  exact ⟨A, c, t, e, hA, hs, c0, c1⟩
theorem ro_fld {W : World} {v : Value} {L : List Ip.Fld} (h : RoFld W v L) {i : Nat} (hi : i < L.length) :
    ∃ A c t, v = .slice (some A) L.length c ∧ A.block < W.heap.size ∧ RoSo W t L[i].type ∧ (∀ u, (kFld.cells L[i] t)[0]? = some u → W.cell? (A.add (i * kFld.k)) = some u) ∧ ∀ j u, 0 < j → (kFld.cells L[i] t)[j]? = some u → W.cell? ⟨(A.add (i * kFld.k)).block, (A.add (i * kFld.k)).off + j, none⟩ = some u := by
  obtain ⟨A, c, t, e, hA, hs, -, c0, c1⟩ := RoIs.at h (by decide) (fun _ _ => rfl) hi
  exact ⟨A, c, t, e, hA, hs, c0, c1⟩
theorem ro_stp {W : World} {v : Value} {L : List Ip.Stp} (h : RoStp W v L) {i : Nat} (hi : i < L.length) :
    ∃ A c t, v = .slice (some A) L.length c ∧ A.block < W.heap.size ∧ True ∧ (∀ u, (kStp.cells L[i] t)[0]? = some u → W.cell? (A.add (i * kStp.k)) = some u) ∧ ∀ j u, 0 < j → (kStp.cells L[i] t)[j]? = some u → W.cell? ⟨(A.add (i * kStp.k)).block, (A.add (i * kStp.k)).off + j, none⟩ = some u := by
  obtain ⟨A, c, t, e, hA, hs, -, c0, c1⟩ := RoIs.at h (by decide) (fun _ _ => rfl) hi
  exact ⟨A, c, t, e, hA, hs, c0, c1⟩
end Go.Proofs.YtnkdhmoocomjfaaGreatDoor
/-! ## CkFirstG -/
namespace Go.Proofs.YtnkdhmoocomjfaaGreatDoor
open Go.RowKit
/-! ### api.Saga -/
set_option maxRecDepth 100000 in
set_option maxHeartbeats 1000000 in
theorem eqG_any {w : World} (n : ByteArray) {b : Nat} (hb : w.heap[b]? = some (.cells #[.string n] 9 (0, 0))) (x : Ip.Sga) (p : Option Addr) (c : Nat) : Calls Tryz.prog 55 #[.agg #[.string x.name, .string x.arg, .slice p x.steps.length c], .pointer (some ⟨b, 0, none⟩)] w fun e w' => e = .returned (.bool (Ip.eqB x.name n)) ∧ Below w.heap.size w w' := by
  have hc : ∀ o, (w.alloc o).cell? ⟨b, 0, none⟩ = some (.string n) := fun o => by
    rw [cell_of_row _ b 0 _ _ _ ((Below.heap_alloc _ _ b (Array.getElem?_eq_some_iff.1 hb).1).trans hb)]; rfl
  go_enter Tryz.func55, Tryz.ntmps55
  go_wp2_with fail
  go_ret
  exact ⟨by rw [← eqB_list]; rfl, tk_alloc w _⟩
set_option maxRecDepth 100000 in
set_option maxHeartbeats 4000000 in
theorem idxG_any {w : World} {v : Value} {L : List Ip.Sga} (h : RoSga w v L) (n : ByteArray) {b : Nat} (hb : w.heap[b]? = some (.cells #[.string n] 9 (0, 0))) :
    Calls Tryz.prog 105 #[v, .func (.func 55) #[] #[.pointer (some ⟨b, 0, none⟩)]] w fun e w' => e = .returned (idxV (L.findIdx? fun r => Ip.eqB r.name n)) ∧ Below w.heap.size w w' := by
  have H := Lib.hid h
  have HB := Lib.hid hb
  obtain ⟨p0, k0, rfl, hl⟩ := ro_len h
  clear h hb
  go_enter Tryz.func105, Tryz.ntmps105
  go_wp2_with fail
  go_loopw [8] (fun kv wr => ∃ k : Nat, k ≤ L.length ∧ kv = .int .i64 (k : Nat) ∧ Hid (Below w.heap.size w wr ∧ ∀ j (hj : j < L.length), j < k → Ip.eqB L[j].name n = false)) (fun kv _ => L.length - (intOf kv).toNat)
  case atStart => exact ⟨0, Nat.zero_le _, rfl, Lib.hid ⟨Below.refl _ _, fun j _ hj => absurd hj (Nat.not_lt_zero _)⟩⟩
  case round =>
    obtain ⟨k, hk, rfl, HR⟩ := hrel
    by_cases hlt : k < L.length
    · have i1 : (k : Int) < (L.length : Int) := by omega
      have i2 : (0 : Int) ≤ (k : Int) := by omega
      obtain ⟨A, cc, p, c, e3, hA, c0, c1, c2, -, -, -⟩ := sga_at (H.out.below HR.out.1) hlt
      cases e3
      have hb1 := Lib.hid ((HR.out.1.block b (Array.getElem?_eq_some_iff.1 HB.out).1).trans HB.out)
      go_wp2_with fail
      refine Calls.mono (eqG_any n hb1.out L[k] p c) ?_
      rintro e w1 ⟨rfl, hb2⟩
      have HB2 := Lib.hid (HR.out.1.trans (hb2.mono HR.out.1.size))
      clear hb2 c0 c1 c2
      cases hq : Ip.eqB L[k].name n with
      | true =>
        have HF : Hid (L.findIdx? (fun r => Ip.eqB r.name n) = some k) := Lib.hid (idx_some hlt HR.out.2 hq)
        clear hq
        go_wp2_with fail
        go_ret
        exact ⟨by rw [HF.out]; rfl, HB2.out⟩
      | false =>
        have HQ := Lib.hid hq
        clear hq
        go_wp2_with fail
        go_roundw
        case rel => exact ⟨k + 1, by omega, by go_num, Lib.hid ⟨HB2.out, fun j hj hjk => by
          by_cases e : j < k
          · exact HR.out.2 j hj e
          · obtain rfl : j = k := by omega
            exact HQ.out⟩⟩
        case measure => simp [intOf]; omega
    · obtain rfl : k = L.length := by omega
      have i1 : ¬ (L.length : Int) < (L.length : Int) := by omega
      go_wp2_with fail
      go_ret
      exact ⟨by rw [idx_none (L := L) fun j hj => HR.out.2 j hj hj]; rfl, HR.out.1⟩
theorem firstG_res {W : World} {tmps : Array Value} {b : Nat} {x0 x1 x2 x9 : Value} (h4 : tmps[4]? = some (.pointer (some ⟨b, 0, none⟩))) (h5 : tmps[5]? = some x9) (h : W.heap[b]? = some (.cells #[x0, x1, x2] 44 (0, 0))) :
    (results Tryz.f54 tmps).run Tryz.prog W = .ok (.tuple #[.agg #[x0, x1, x2], x9]) W := by
  obtain ⟨c0, c1, c2⟩ := cells3 h
  simp [results, Tryz.results54, h4, h5, go_sem, c0, c1, c2]
set_option maxRecDepth 100000 in
set_option maxHeartbeats 4000000 in
theorem firstG_any {u w : World} {v : Value} {L : List Ip.Sga} (h : RoSga u v L) (hu : Kp u w) (n : ByteArray) {b : Nat} (hb : w.heap[b]? = some (.cells #[.string n] 9 (0, 0))) :
    Calls Tryz.prog 54 #[v, .func (.func 55) #[] #[.pointer (some ⟨b, 0, none⟩)]] w (Fnd SgaV noSga u (L.find? fun r => Ip.eqB r.name n) w) := by
  obtain ⟨W0, hW0⟩ : ∃ W0, W0 = w.alloc (.cells #[.string ⟨#[]⟩, .string ⟨#[]⟩, .slice none 0 0] 44) := ⟨_, rfl⟩
  have hb0 : Below w.heap.size w W0 := by rw [hW0]; exact tk_alloc w _
  have hz0 : W0.heap[w.heap.size]? = some (.cells #[.string ⟨#[]⟩, .string ⟨#[]⟩, .slice none 0 0] 44 (0, 0)) := by rw [hW0]; exact heap_alloc_new w _
  have H0 := Lib.hid h
  have HU := Lib.hid hu
  have H := Lib.hid (h.kp (hu.below hb0))
  have HB := Lib.hid ((hb0.block b (Array.getElem?_eq_some_iff.1 hb).1).trans hb)
  have HX : Hid (∀ W, Below W0.heap.size W0 W → W.heap[w.heap.size]? = some (.cells #[.string ⟨#[]⟩, .string ⟨#[]⟩, .slice none 0 0] 44 (0, 0)) ∧ Below w.heap.size w W) := Lib.hid fun W hW =>
    ⟨(hW.block _ (Array.getElem?_eq_some_iff.1 hz0).1).trans hz0, hb0.trans (hW.mono hb0.size)⟩
  obtain ⟨p0, k0, rfl, hl⟩ := ro_len h
  clear h hb hb0 hz0 hu
  go_enter Tryz.func54, Tryz.ntmps54
  go_upto_region 1 with fail
  rw [← hW0]
  clear hW0
  go_wp2_with fail
  refine (idxG_any H.out n HB.out).mono ?_
  rintro e w1 ⟨rfl, hb1⟩
  obtain ⟨hz, hB⟩ := HX.out _ hb1
  have HZ := Lib.hid hz
  have HBW := Lib.hid hB
  clear hb1
  cases hq : L.findIdx? fun r => Ip.eqB r.name n with
  | some i =>
    obtain ⟨hlt, hf⟩ := find_idx hq
    have HF := Lib.hid hf
    clear hq hf
    rw [show idxV (some i) = .int .i64 ((i : Nat) : Int) from rfl]
    have i1 : (i : Int) < (L.length : Int) := by omega
    have i2 : (0 : Int) ≤ (i : Int) := by omega
    obtain ⟨A, cc, p, c, e3, hA, c0, c1, c2, hin, hs, -⟩ := sga_at H0.out hlt
    cases e3
    replace c0 := ((HU.out.below HBW.out).cell (by exact (tadd_block A _).symm ▸ hA)).trans c0; replace c1 := ((HU.out.below HBW.out).cell (by exact (tadd_block A _).symm ▸ hA)).trans c1; replace c2 := ((HU.out.below HBW.out).cell (by exact (tadd_block A _).symm ▸ hA)).trans c2
    obtain ⟨z0, z1, z2⟩ := cells3 hz
    have f0 := frozen2 hz 0; have f1 := frozen2 hz 1; have f2 := frozen2 hz 2
    have HI := Lib.hid hin
    have HS := Lib.hid hs
    clear hz hB hin hs
    go_wp2_with fail
    refine bodyPost_ret (firstG_res rfl rfl (set_three _ _ _ HZ.out)) rfl ?_
    rw [HF.out]
    have hbW : Below w.heap.size w ((((w1).setCell ⟨w.heap.size, 0, none⟩ (.string L[i].name)).setCell ⟨w.heap.size, 1, none⟩ (.string L[i].arg)).setCell ⟨w.heap.size, 2, none⟩ (.slice p L[i].steps.length c)) := (((HBW.out).setCell (by exact Nat.le_refl w.heap.size) _).setCell (by exact Nat.le_refl w.heap.size) _).setCell (by exact Nat.le_refl w.heap.size) _
    exact ⟨_, rfl, ⟨_, _, rfl, HI.out, HS.out⟩, hbW⟩
  | none =>
    have HF := Lib.hid (find_idx_none hq)
    clear hq
    rw [show idxV none = .int .i64 (-1) from rfl]
    obtain ⟨W2, hW2⟩ : ∃ W2, W2 = w1.alloc (.cells #[.string ⟨#[]⟩, .string ⟨#[]⟩, .slice none 0 0] 44) := ⟨_, rfl⟩
    have hb2 : Below w1.heap.size w1 W2 := by rw [hW2]; exact tk_alloc w1 _
    have hn : W2.heap[w1.heap.size]? = some (.cells #[.string ⟨#[]⟩, .string ⟨#[]⟩, .slice none 0 0] 44 (0, 0)) := by rw [hW2]; exact heap_alloc_new w1 _
    have hz2 := (hb2.block _ (Array.getElem?_eq_some_iff.1 hz).1).trans hz
    have HB2 := Lib.hid (hB.trans (hb2.mono hB.size))
    obtain ⟨z0, z1, z2⟩ := cells3 hz2
    obtain ⟨n0, n1, n2⟩ := cells3 hn
    have f0 := frozen2 hz2 0; have f1 := frozen2 hz2 1; have f2 := frozen2 hz2 2
    have HZ2 := Lib.hid hz2
    clear hz hB hb2 hn hz2
    go_upto_region 5 with fail
    rw [← hW2]
    clear hW2
    go_wp2_with fail
    refine bodyPost_ret (firstG_res rfl rfl (set_three _ _ _ HZ2.out)) rfl ?_
    rw [HF.out]
    have hbW : Below w.heap.size w ((((W2).setCell ⟨w.heap.size, 0, none⟩ (.string ⟨#[]⟩)).setCell ⟨w.heap.size, 1, none⟩ (.string ⟨#[]⟩)).setCell ⟨w.heap.size, 2, none⟩ (.slice none 0 0)) := (((HB2.out).setCell (by exact Nat.le_refl w.heap.size) _).setCell (by exact Nat.le_refl w.heap.size) _).setCell (by exact Nat.le_refl w.heap.size) _
    exact ⟨_, rfl, SgaV.none _, hbW⟩
end Go.Proofs.YtnkdhmoocomjfaaGreatDoor
/-! ## CkOwn -/
namespace Go.Proofs.YtnkdhmoocomjfaaGreatDoor
open Go.RowKit
/-- A row that lies above stays where only blocks ahead of it turn. -/
theorem row_above {α : Type} {K : RowKind α} (ok : K.Ok) {W V : World} {b b' : Nat} {v : Value} {L : List α} (h : RowIs K W b v L) (hb : b' ≤ b) (hk : ∀ j, b ≤ j → V.heap[j]? = W.heap[j]?) : RowIs K V b' v L := h.keep ok hb fun j _ _ hj _ _ => hk j hj
def SzS (x : Ip.So) : Prop := x.name.size ≤ 1000
theorem ownS_res {W : World} {tmps : Array Value} {b : Nat} {x0 x1 : Value} (h2 : tmps[2]? = some (.pointer (some ⟨b, 0, none⟩))) (h : W.heap[b]? = some (.cells #[x0, x1] 41 (0, 0))) :
    (results Tryz.f141 tmps).run Tryz.prog W = .ok (.agg #[x0, x1]) W := by
  obtain ⟨c0, c1⟩ := cells2 h
  simp [results, Tryz.results141, h2, go_sem, c0, c1]
set_option maxRecDepth 100000 in
set_option maxHeartbeats 8000000 in
theorem ownS_any (w : World) {x : Ip.So} (hs : SzS x) : Calls Tryz.prog 141 #[.agg #[.int .u8 (x.kind : Nat), .string x.name]] w fun e w' => e = .returned (.agg #[.int .u8 (x.kind : Nat), .string x.name]) ∧ Below w.heap.size w w' := by
  obtain ⟨W0, hW0⟩ : ∃ W0, W0 = allocs w [.cells #[.int .u8 (x.kind : Nat), .string x.name] 41, .cells #[.int .u8 0, .string ⟨#[]⟩] 41] := ⟨_, rfl⟩
  have HX : Hid (∀ W, Below W0.heap.size W0 W → W.heap[w.heap.size]? = some (.cells #[.int .u8 (x.kind : Nat), .string x.name] 41 (0, 0)) ∧ W.heap[w.heap.size + 1]? = some (.cells #[.int .u8 0, .string ⟨#[]⟩] 41 (0, 0)) ∧ Below w.heap.size w W) := Lib.hid (by subst hW0; exact fun W hW => ⟨allocs_box (i := 0) rfl hW, allocs_box (i := 1) rfl hW, allocs_on hW⟩)
  have HZ0 : Hid (W0.heap.size = w.heap.size + 2) := Lib.hid (by rw [hW0, allocs_size]; rfl)
  have HSZ := Lib.hid hs
  clear hs
  simp only [allocs] at hW0
  obtain ⟨b0, z0, B0⟩ := HX.out W0 (Below.refl _ _)
  have HY := Lib.hid b0
  have HZ := Lib.hid z0
  have HB := Lib.hid B0
  have HS0 : Hid (w.heap.size + 2 ≤ W0.heap.size) := Lib.hid (Nat.le_of_eq HZ0.out.symm)
  clear b0 z0 B0 HX HZ0
  go_enter Tryz.func141, Tryz.ntmps141
  go_upto_region 1 with fail
  rw [← hW0]
  clear hW0
  obtain ⟨x0, x1⟩ := cells2 HY.out
  go_wp2_with fail
  refine (clone_any _ _ (by have : x.name.size ≤ 1000 := HSZ.out; omega)).mono ?_
  rintro e w1 ⟨rfl, hb1⟩
  have hy := box_keep hb1 HY.out
  have hz := box_keep hb1 HZ.out
  have hB := HB.out.trans (hb1.mono HB.out.size)
  have hs := Nat.le_trans HS0.out hb1.size
  obtain ⟨W1, hW⟩ : ∃ W, W = w1.setCell ⟨w.heap.size, 1, none⟩ (.string x.name) := ⟨_, rfl⟩
  have HY1 : Hid (W1.heap[w.heap.size]? = some (.cells #[.int .u8 (x.kind : Nat), .string x.name] 41 (0, 0))) := Lib.hid (by rw [hW]; exact tk_set (i := 1) hy _)
  have HZ1 : Hid (W1.heap[w.heap.size + 1]? = some (.cells #[.int .u8 0, .string ⟨#[]⟩] 41 (0, 0))) := Lib.hid (by rw [hW]; exact (Below.heap_setCell _ _ _ _ (by show w.heap.size + 1 ≠ w.heap.size; omega)).trans hz)
  have HB1 : Hid (Below w.heap.size w W1) := Lib.hid (by rw [hW]; exact hB.setCell (Nat.le_refl _) _)
  have HS11 : Hid (w.heap.size + 2 ≤ W1.heap.size) := Lib.hid (by rw [hW, World.size_setCell]; exact hs)
  have f := frozen2 hy 1
  clear x0 x1
  obtain ⟨x0, x1⟩ := cells2 hy
  clear hy hz hB hs hb1 HY HZ HB HS0
  go_upto_region 2 with fail
  rw [← hW]
  clear hW f x0 x1
  have HY := HY1; have HZ := HZ1; have HB := HB1; have HS0 := HS11
  clear HY1 HZ1 HB1 HS11
  obtain ⟨x0, x1⟩ := cells2 HY.out
  obtain ⟨z0, z1⟩ := cells2 HZ.out
  have f0 := frozen2 HZ.out 0
  have f1 := frozen2 HZ.out 1
  go_wp2_with fail
  refine bodyPost_ret (ownS_res rfl (set_two _ _ HZ.out)) rfl ?_
  exact ⟨rfl, (HB.out.setCell (Nat.le_succ _) _).setCell (Nat.le_succ _) _⟩
set_option maxRecDepth 100000 in
set_option maxHeartbeats 8000000 in
theorem ownSs_any {u w : World} {v : Value} {L : List Ip.So} (h : RoSo u v L) (hu : Kp u w) (hl : L.length ≤ 1000) (hs : ∀ y ∈ L, SzS y) : Calls Tryz.prog 140 #[v, .func (.func 141) #[] #[]] w fun e w' => ∃ p c, e = .returned (.slice p L.length c) ∧ RowIs kSo w' w.heap.size (.slice p L.length c) L ∧ Below w.heap.size w w' := by
  have H := Lib.hid h
  have HU := Lib.hid hu
  have HSZ := Lib.hid hs
  obtain ⟨p0, k0, rfl, -⟩ := ro_len h
  clear h hu hs
  go_enter Tryz.func140, Tryz.ntmps140
  go_wp2_with fail
  go_loopw [5, 10] (fun lv kv wr => ∃ k : Nat, k ≤ L.length ∧ kv = .int .i64 (k : Nat) ∧ Hid (Below w.heap.size w wr ∧ RowIs kSo wr w.heap.size lv (L.take k))) (fun _ kv _ => L.length - (intOf kv).toNat)
  case atStart => exact ⟨0, Nat.zero_le _, rfl, Lib.hid ⟨Below.refl _ _, RowIs.nil _ _ _⟩⟩
  case round =>
    obtain ⟨k, hk, rfl, HR⟩ := hrel
    have hlen : (L.take k).length = k := by rw [List.length_take]; omega
    obtain ⟨pl, cl, hlv, -, -⟩ := HR.out.2.shape
    rw [hlen] at hlv
    subst hlv
    have HLEN := Lib.hid hlen
    clear hlen
    by_cases hlt : k < L.length
    · have i1 : (k : Int) < (L.length : Int) := by omega
      have i2 : (0 : Int) ≤ (k : Int) := by omega
      obtain ⟨A, cc, e3, hA, c0, c1, hin⟩ := so_at (H.out.kp (Kp.go HU.out HU.out.size HR.out.1)) hlt
      cases e3
      have HT : Hid (L.take (k + 1) = L.take k ++ [L[k]]) := Lib.hid (List.take_succ_eq_append_getElem hlt)
      have HSX := Lib.hid (HSZ.out _ (List.getElem_mem hlt))
      generalize L[k] = x at *
      obtain ⟨W1, hW1⟩ : ∃ W1, W1 = wr.alloc (.cells #[.int .u8 (x.kind : Nat), .string x.name] 41) := ⟨_, rfl⟩
      have hn1 : W1.heap[wr.heap.size]? = some (.cells #[.int .u8 (x.kind : Nat), .string x.name] 41 (0, 0)) := by rw [hW1]; exact heap_alloc_new wr _
      have hb1 : Below wr.heap.size wr W1 := by rw [hW1]; exact tk_alloc wr _
      obtain ⟨y0, y1⟩ := cells2 hn1
      have HB1 : Hid (Below w.heap.size w W1) := Lib.hid (HR.out.1.trans (hb1.mono HR.out.1.size))
      have HR1 : Hid (RowIs kSo W1 w.heap.size (.slice pl k cl) (L.take k)) := Lib.hid (HR.out.2.below okSo hb1)
      have HK1 := Lib.hid (Kp.of_below hb1)
      clear hn1 hb1 hA hin
      go_upto_region 5 with fail
      rw [← hW1]
      clear hW1
      go_wp2_with fail
      refine (ownS_any W1 (x := x) HSX.out).mono ?_
      rintro e w2 ⟨rfl, hb2⟩
      obtain ⟨pv, cv, V, hrun, hL5, hG, -⟩ := append_ref okSo (HR1.out.below okSo hb2) (HB1.out.trans (hb2.mono HB1.out.size)) x (.bool false) trivial (by rw [HLEN.out]; omega) 37
      rw [HLEN.out] at hrun hL5
      rw [show (kSo.cells x (.bool false)).toArray = #[.int .u8 (x.kind : Nat), .string x.name] from rfl] at hrun
      rw [← HT.out] at hL5
      have HG := Lib.hid hG
      have HL := Lib.hid hL5
      clear hL5 hG hb2 y0 y1 c0 c1
      go_wp2_with (at_builtin; refine Lib.wpList_append_run _ rfl (.tmp 14) (.tmp 18) _ _ rfl _ _ rfl rfl _ _ hrun ?_)
      go_roundw
      case rel => exact ⟨k + 1, by omega, by go_num, Lib.hid ⟨HG.out, HL.out⟩⟩
      case measure => simp [intOf]; omega
    · obtain rfl : k = L.length := by omega
      have i1 : ¬ (L.length : Int) < (L.length : Int) := by omega
      have HL : Hid (RowIs kSo wr w.heap.size (.slice pl L.length cl) L) := Lib.hid (by have := HR.out.2; rwa [List.take_length] at this)
      go_wp2_with fail
      go_ret
      exact ⟨_, _, rfl, HL.out, HR.out.1⟩
def SzF (x : Ip.Fld) : Prop := x.name.size ≤ 1000 ∧ x.type.length ≤ 1000 ∧ ∀ y ∈ x.type, SzS y
theorem ownF_res {W : World} {tmps : Array Value} {b : Nat} {x0 x1 : Value} (h2 : tmps[2]? = some (.pointer (some ⟨b, 0, none⟩))) (h : W.heap[b]? = some (.cells #[x0, x1] 39 (0, 0))) :
    (results Tryz.f104 tmps).run Tryz.prog W = .ok (.agg #[x0, x1]) W := by
  obtain ⟨c0, c1⟩ := cells2 h
  simp [results, Tryz.results104, h2, go_sem, c0, c1]
set_option maxRecDepth 100000 in
set_option maxHeartbeats 8000000 in
theorem ownF_any {u w : World} {x : Ip.Fld} {p : Option Addr} {c : Nat} (h : RoSo u (.slice p x.type.length c) x.type) (hu : Kp u w) (hs : SzF x) : Calls Tryz.prog 104 #[.agg #[.string x.name, .slice p x.type.length c]] w fun e w' => ∃ p c, e = .returned (.agg #[.string x.name, .slice p x.type.length c]) ∧ RowIs kSo w' w.heap.size (.slice p x.type.length c) x.type ∧ Below w.heap.size w w' := by
  obtain ⟨W0, hW0⟩ : ∃ W0, W0 = allocs w [.cells #[.string x.name, .slice p x.type.length c] 39, .cells #[.string ⟨#[]⟩, .slice none 0 0] 39] := ⟨_, rfl⟩
  have HX : Hid (∀ W, Below W0.heap.size W0 W → W.heap[w.heap.size]? = some (.cells #[.string x.name, .slice p x.type.length c] 39 (0, 0)) ∧ W.heap[w.heap.size + 1]? = some (.cells #[.string ⟨#[]⟩, .slice none 0 0] 39 (0, 0)) ∧ Below w.heap.size w W) := Lib.hid (by subst hW0; exact fun W hW => ⟨allocs_box (i := 0) rfl hW, allocs_box (i := 1) rfl hW, allocs_on hW⟩)
  have HZ0 : Hid (W0.heap.size = w.heap.size + 2) := Lib.hid (by rw [hW0, allocs_size]; rfl)
  have H := Lib.hid h
  have HU := Lib.hid hu
  have HSZ := Lib.hid hs
  clear hs h hu
  simp only [allocs] at hW0
  obtain ⟨b0, z0, B0⟩ := HX.out W0 (Below.refl _ _)
  have HY := Lib.hid b0
  have HZ := Lib.hid z0
  have HB := Lib.hid B0
  have HS0 : Hid (w.heap.size + 2 ≤ W0.heap.size) := Lib.hid (Nat.le_of_eq HZ0.out.symm)
  clear b0 z0 B0 HX HZ0
  go_enter Tryz.func104, Tryz.ntmps104
  go_upto_region 1 with fail
  rw [← hW0]
  clear hW0
  obtain ⟨x0, x1⟩ := cells2 HY.out
  go_wp2_with fail
  refine (clone_any _ _ (by have : x.name.size ≤ 1000 := HSZ.out.1; omega)).mono ?_
  rintro e w1 ⟨rfl, hb1⟩
  have hy := box_keep hb1 HY.out
  have hz := box_keep hb1 HZ.out
  have hB := HB.out.trans (hb1.mono HB.out.size)
  have hs := Nat.le_trans HS0.out hb1.size
  obtain ⟨W1, hW⟩ : ∃ W, W = w1.setCell ⟨w.heap.size, 0, none⟩ (.string x.name) := ⟨_, rfl⟩
  have HY1 : Hid (W1.heap[w.heap.size]? = some (.cells #[.string x.name, .slice p x.type.length c] 39 (0, 0))) := Lib.hid (by rw [hW]; exact tk_set (i := 0) hy _)
  have HZ1 : Hid (W1.heap[w.heap.size + 1]? = some (.cells #[.string ⟨#[]⟩, .slice none 0 0] 39 (0, 0))) := Lib.hid (by rw [hW]; exact (Below.heap_setCell _ _ _ _ (by show w.heap.size + 1 ≠ w.heap.size; omega)).trans hz)
  have HB1 : Hid (Below w.heap.size w W1) := Lib.hid (by rw [hW]; exact hB.setCell (Nat.le_refl _) _)
  have HS11 : Hid (w.heap.size + 2 ≤ W1.heap.size) := Lib.hid (by rw [hW, World.size_setCell]; exact hs)
  have f := frozen2 hy 0
  clear x0 x1
  obtain ⟨x0, x1⟩ := cells2 hy
  clear hy hz hB hs hb1 HY HZ HB HS0
  go_upto_region 2 with fail
  rw [← hW]
  clear hW f x0 x1
  have HY := HY1; have HZ := HZ1; have HB := HB1; have HS0 := HS11
  clear HY1 HZ1 HB1 HS11
  obtain ⟨x0, x1⟩ := cells2 HY.out
  go_wp2_with fail
  refine (ownSs_any H.out (HU.out.go (HU.out.size) HB.out) HSZ.out.2.1 HSZ.out.2.2).mono ?_
  rintro e w3 ⟨p2, c2, rfl, hR, hb3⟩
  have hy := box_keep hb3 HY.out
  have hz := box_keep hb3 HZ.out
  have hB := HB.out.trans (hb3.mono HB.out.size)
  clear x0 x1
  obtain ⟨x0, x1⟩ := cells2 hy
  have f := frozen2 hy 1
  obtain ⟨V, hW⟩ : ∃ W, W = w3.setCell ⟨w.heap.size, 1, none⟩ (.slice p2 x.type.length c2) := ⟨_, rfl⟩
  have HY2 : Hid (V.heap[w.heap.size]? = some (.cells #[.string x.name, .slice p2 x.type.length c2] 39 (0, 0))) := Lib.hid (by rw [hW]; exact tk_set (i := 1) hy _)
  have HZ2 : Hid (V.heap[w.heap.size + 1]? = some (.cells #[.string ⟨#[]⟩, .slice none 0 0] 39 (0, 0))) := Lib.hid (by rw [hW]; exact (Below.heap_setCell _ _ _ _ (by show w.heap.size + 1 ≠ w.heap.size; omega)).trans hz)
  have HB2 : Hid (Below w.heap.size w V) := Lib.hid (by rw [hW]; exact hB.setCell (Nat.le_refl _) _)
  have HR2 : Hid (RowIs kSo V W1.heap.size (.slice p2 x.type.length c2) x.type) := Lib.hid (by rw [hW]; exact row_above okSo hR (Nat.le_refl _) fun j hj => Below.heap_setCell _ _ _ _ (by have := HS0.out; show j ≠ w.heap.size; omega))
  clear hy hz hB hb3 hR HY HZ HB
  go_upto_region 3 with fail
  rw [← hW]
  clear hW f x0 x1
  have HY := HY2; have HZ := HZ2; have HB := HB2
  clear HY2 HZ2 HB2
  obtain ⟨x0, x1⟩ := cells2 HY.out
  obtain ⟨z0, z1⟩ := cells2 HZ.out
  have f0 := frozen2 HZ.out 0
  have f1 := frozen2 HZ.out 1
  go_wp2_with fail
  refine bodyPost_ret (ownF_res rfl (set_two _ _ HZ.out)) rfl ?_
  exact ⟨_, _, rfl, row_above okSo HR2.out (Nat.le_trans (Nat.le_add_right _ 2) HS0.out) fun j hj => (Below.heap_setCell _ _ _ _ (by have := HS0.out; show j ≠ w.heap.size + 1; omega)).trans (Below.heap_setCell _ _ _ _ (by have := HS0.out; show j ≠ w.heap.size + 1; omega)), (HB.out.setCell (Nat.le_succ _) _).setCell (Nat.le_succ _) _⟩
set_option maxRecDepth 100000 in
set_option maxHeartbeats 8000000 in
theorem ownFs_any {u w : World} {v : Value} {L : List Ip.Fld} (h : RoFld u v L) (hu : Kp u w) (hl : L.length ≤ 1000) (hs : ∀ y ∈ L, SzF y) : Calls Tryz.prog 103 #[v, .func (.func 104) #[] #[]] w fun e w' => ∃ p c, e = .returned (.slice p L.length c) ∧ RowIs kFld w' w.heap.size (.slice p L.length c) L ∧ Below w.heap.size w w' := by
  have H := Lib.hid h
  have HU := Lib.hid hu
  have HSZ := Lib.hid hs
  obtain ⟨p0, k0, rfl, -⟩ := ro_len h
  clear h hu hs
  go_enter Tryz.func103, Tryz.ntmps103
  go_wp2_with fail
  go_loopw [5, 10] (fun lv kv wr => ∃ k : Nat, k ≤ L.length ∧ kv = .int .i64 (k : Nat) ∧ Hid (Below w.heap.size w wr ∧ RowIs kFld wr w.heap.size lv (L.take k))) (fun _ kv _ => L.length - (intOf kv).toNat)
  case atStart => exact ⟨0, Nat.zero_le _, rfl, Lib.hid ⟨Below.refl _ _, RowIs.nil _ _ _⟩⟩
  case round =>
    obtain ⟨k, hk, rfl, HR⟩ := hrel
    have hlen : (L.take k).length = k := by rw [List.length_take]; omega
    obtain ⟨pl, cl, hlv, -, -⟩ := HR.out.2.shape
    rw [hlen] at hlv
    subst hlv
    have HLEN := Lib.hid hlen
    clear hlen
    by_cases hlt : k < L.length
    · have i1 : (k : Int) < (L.length : Int) := by omega
      have i2 : (0 : Int) ≤ (k : Int) := by omega
      obtain ⟨A, cc, p, c, e3, hA, c0, c1, hin, hsub, -⟩ := fld_at (H.out.kp (Kp.go HU.out HU.out.size HR.out.1)) hlt
      cases e3
      have HT : Hid (L.take (k + 1) = L.take k ++ [L[k]]) := Lib.hid (List.take_succ_eq_append_getElem hlt)
      have HSX := Lib.hid (HSZ.out _ (List.getElem_mem hlt))
      have HSUB := Lib.hid hsub
      clear hsub
      generalize L[k] = x at *
      obtain ⟨W1, hW1⟩ : ∃ W1, W1 = wr.alloc (.cells #[.string x.name, .slice p x.type.length c] 39) := ⟨_, rfl⟩
      have hn1 : W1.heap[wr.heap.size]? = some (.cells #[.string x.name, .slice p x.type.length c] 39 (0, 0)) := by rw [hW1]; exact heap_alloc_new wr _
      have hb1 : Below wr.heap.size wr W1 := by rw [hW1]; exact tk_alloc wr _
      obtain ⟨y0, y1⟩ := cells2 hn1
      have HB1 : Hid (Below w.heap.size w W1) := Lib.hid (HR.out.1.trans (hb1.mono HR.out.1.size))
      have HR1 : Hid (RowIs kFld W1 w.heap.size (.slice pl k cl) (L.take k)) := Lib.hid (HR.out.2.below okFld hb1)
      have HK1 := Lib.hid (Kp.of_below hb1)
      clear hn1 hb1 hA hin
      go_upto_region 5 with fail
      rw [← hW1]
      clear hW1
      go_wp2_with fail
      refine (ownF_any (x := x) HSUB.out HK1.out HSX.out).mono ?_
      rintro e w2 ⟨p2, c2, rfl, hr2, hb2⟩
      obtain ⟨pv, cv, V, hrun, hL5, hG, -⟩ := append_ref okFld (HR1.out.below okFld hb2) (HB1.out.trans (hb2.mono HB1.out.size)) x (.slice p2 x.type.length c2) (hr2.mono okSo (HB1.out.size)) (by rw [HLEN.out]; omega) 32
      rw [HLEN.out] at hrun hL5
      rw [show (kFld.cells x (.slice p2 x.type.length c2)).toArray = #[.string x.name, .slice p2 x.type.length c2] from rfl] at hrun
      rw [← HT.out] at hL5
      have HG := Lib.hid hG
      have HL := Lib.hid hL5
      clear hL5 hG hb2 y0 y1 c0 c1 hr2
      go_wp2_with (at_builtin; refine Lib.wpList_append_run _ rfl (.tmp 14) (.tmp 18) _ _ rfl _ _ rfl rfl _ _ hrun ?_)
      go_roundw
      case rel => exact ⟨k + 1, by omega, by go_num, Lib.hid ⟨HG.out, HL.out⟩⟩
      case measure => simp [intOf]; omega
    · obtain rfl : k = L.length := by omega
      have i1 : ¬ (L.length : Int) < (L.length : Int) := by omega
      have HL : Hid (RowIs kFld wr w.heap.size (.slice pl L.length cl) L) := Lib.hid (by have := HR.out.2; rwa [List.take_length] at this)
      go_wp2_with fail
      go_ret
      exact ⟨_, _, rfl, HL.out, HR.out.1⟩
def SzR (x : Ip.Rcd) : Prop := x.name.size ≤ 1000 ∧ x.fields.length ≤ 1000 ∧ ∀ y ∈ x.fields, SzF y
theorem ownR_res {W : World} {tmps : Array Value} {b : Nat} {x0 x1 x2 : Value} (h2 : tmps[2]? = some (.pointer (some ⟨b, 0, none⟩))) (h : W.heap[b]? = some (.cells #[x0, x1, x2] 34 (0, 0))) :
    (results Tryz.f53 tmps).run Tryz.prog W = .ok (.agg #[x0, x1, x2]) W := by
  obtain ⟨c0, c1, c2⟩ := cells3 h
  simp [results, Tryz.results53, h2, go_sem, c0, c1, c2]
set_option maxRecDepth 100000 in
set_option maxHeartbeats 8000000 in
theorem ownR_any {u w : World} {x : Ip.Rcd} {p : Option Addr} {c : Nat} (h : RoFld u (.slice p x.fields.length c) x.fields) (hu : Kp u w) (hs : SzR x) : Calls Tryz.prog 53 #[.agg #[.string x.name, .bool x.choice, .slice p x.fields.length c]] w fun e w' => ∃ p c, e = .returned (.agg #[.string x.name, .bool x.choice, .slice p x.fields.length c]) ∧ RowIs kFld w' w.heap.size (.slice p x.fields.length c) x.fields ∧ Below w.heap.size w w' := by
  obtain ⟨W0, hW0⟩ : ∃ W0, W0 = allocs w [.cells #[.string x.name, .bool x.choice, .slice p x.fields.length c] 34, .cells #[.string ⟨#[]⟩, .bool false, .slice none 0 0] 34] := ⟨_, rfl⟩
  have HX : Hid (∀ W, Below W0.heap.size W0 W → W.heap[w.heap.size]? = some (.cells #[.string x.name, .bool x.choice, .slice p x.fields.length c] 34 (0, 0)) ∧ W.heap[w.heap.size + 1]? = some (.cells #[.string ⟨#[]⟩, .bool false, .slice none 0 0] 34 (0, 0)) ∧ Below w.heap.size w W) := Lib.hid (by subst hW0; exact fun W hW => ⟨allocs_box (i := 0) rfl hW, allocs_box (i := 1) rfl hW, allocs_on hW⟩)
  have HZ0 : Hid (W0.heap.size = w.heap.size + 2) := Lib.hid (by rw [hW0, allocs_size]; rfl)
  have H := Lib.hid h
  have HU := Lib.hid hu
  have HSZ := Lib.hid hs
  clear hs h hu
  simp only [allocs] at hW0
  obtain ⟨b0, z0, B0⟩ := HX.out W0 (Below.refl _ _)
  have HY := Lib.hid b0
  have HZ := Lib.hid z0
  have HB := Lib.hid B0
  have HS0 : Hid (w.heap.size + 2 ≤ W0.heap.size) := Lib.hid (Nat.le_of_eq HZ0.out.symm)
  clear b0 z0 B0 HX HZ0
  go_enter Tryz.func53, Tryz.ntmps53
  go_upto_region 1 with fail
  rw [← hW0]
  clear hW0
  obtain ⟨x0, x1, x2⟩ := cells3 HY.out
  go_wp2_with fail
  refine (clone_any _ _ (by have : x.name.size ≤ 1000 := HSZ.out.1; omega)).mono ?_
  rintro e w1 ⟨rfl, hb1⟩
  have hy := box_keep hb1 HY.out
  have hz := box_keep hb1 HZ.out
  have hB := HB.out.trans (hb1.mono HB.out.size)
  have hs := Nat.le_trans HS0.out hb1.size
  obtain ⟨W1, hW⟩ : ∃ W, W = w1.setCell ⟨w.heap.size, 0, none⟩ (.string x.name) := ⟨_, rfl⟩
  have HY1 : Hid (W1.heap[w.heap.size]? = some (.cells #[.string x.name, .bool x.choice, .slice p x.fields.length c] 34 (0, 0))) := Lib.hid (by rw [hW]; exact tk_set (i := 0) hy _)
  have HZ1 : Hid (W1.heap[w.heap.size + 1]? = some (.cells #[.string ⟨#[]⟩, .bool false, .slice none 0 0] 34 (0, 0))) := Lib.hid (by rw [hW]; exact (Below.heap_setCell _ _ _ _ (by show w.heap.size + 1 ≠ w.heap.size; omega)).trans hz)
  have HB1 : Hid (Below w.heap.size w W1) := Lib.hid (by rw [hW]; exact hB.setCell (Nat.le_refl _) _)
  have HS11 : Hid (w.heap.size + 2 ≤ W1.heap.size) := Lib.hid (by rw [hW, World.size_setCell]; exact hs)
  have f := frozen2 hy 0
  clear x0 x1 x2
  obtain ⟨x0, x1, x2⟩ := cells3 hy
  clear hy hz hB hs hb1 HY HZ HB HS0
  go_upto_region 2 with fail
  rw [← hW]
  clear hW f x0 x1 x2
  have HY := HY1; have HZ := HZ1; have HB := HB1; have HS0 := HS11
  clear HY1 HZ1 HB1 HS11
  obtain ⟨x0, x1, x2⟩ := cells3 HY.out
  go_wp2_with fail
  refine (ownFs_any H.out (HU.out.go (HU.out.size) HB.out) HSZ.out.2.1 HSZ.out.2.2).mono ?_
  rintro e w3 ⟨p2, c2, rfl, hR, hb3⟩
  have hy := box_keep hb3 HY.out
  have hz := box_keep hb3 HZ.out
  have hB := HB.out.trans (hb3.mono HB.out.size)
  clear x0 x1 x2
  obtain ⟨x0, x1, x2⟩ := cells3 hy
  have f := frozen2 hy 2
  obtain ⟨V, hW⟩ : ∃ W, W = w3.setCell ⟨w.heap.size, 2, none⟩ (.slice p2 x.fields.length c2) := ⟨_, rfl⟩
  have HY2 : Hid (V.heap[w.heap.size]? = some (.cells #[.string x.name, .bool x.choice, .slice p2 x.fields.length c2] 34 (0, 0))) := Lib.hid (by rw [hW]; exact tk_set (i := 2) hy _)
  have HZ2 : Hid (V.heap[w.heap.size + 1]? = some (.cells #[.string ⟨#[]⟩, .bool false, .slice none 0 0] 34 (0, 0))) := Lib.hid (by rw [hW]; exact (Below.heap_setCell _ _ _ _ (by show w.heap.size + 1 ≠ w.heap.size; omega)).trans hz)
  have HB2 : Hid (Below w.heap.size w V) := Lib.hid (by rw [hW]; exact hB.setCell (Nat.le_refl _) _)
  have HR2 : Hid (RowIs kFld V W1.heap.size (.slice p2 x.fields.length c2) x.fields) := Lib.hid (by rw [hW]; exact row_above okFld hR (Nat.le_refl _) fun j hj => Below.heap_setCell _ _ _ _ (by have := HS0.out; show j ≠ w.heap.size; omega))
  clear hy hz hB hb3 hR HY HZ HB
  go_upto_region 3 with fail
  rw [← hW]
  clear hW f x0 x1 x2
  have HY := HY2; have HZ := HZ2; have HB := HB2
  clear HY2 HZ2 HB2
  obtain ⟨x0, x1, x2⟩ := cells3 HY.out
  obtain ⟨z0, z1, z2⟩ := cells3 HZ.out
  have f0 := frozen2 HZ.out 0
  have f1 := frozen2 HZ.out 1
  have f2 := frozen2 HZ.out 2
  go_wp2_with fail
  refine bodyPost_ret (ownR_res rfl (set_three _ _ _ HZ.out)) rfl ?_
  exact ⟨_, _, rfl, row_above okFld HR2.out (Nat.le_trans (Nat.le_add_right _ 2) HS0.out) fun j hj => (Below.heap_setCell _ _ _ _ (by have := HS0.out; show j ≠ w.heap.size + 1; omega)).trans ((Below.heap_setCell _ _ _ _ (by have := HS0.out; show j ≠ w.heap.size + 1; omega)).trans (Below.heap_setCell _ _ _ _ (by have := HS0.out; show j ≠ w.heap.size + 1; omega))), ((HB.out.setCell (Nat.le_succ _) _).setCell (Nat.le_succ _) _).setCell (Nat.le_succ _) _⟩
def SzP (x : Ip.Stp) : Prop := x.service.size ≤ 1000 ∧ x.method.size ≤ 1000
theorem ownP_res {W : World} {tmps : Array Value} {b : Nat} {x0 x1 x2 : Value} (h2 : tmps[2]? = some (.pointer (some ⟨b, 0, none⟩))) (h : W.heap[b]? = some (.cells #[x0, x1, x2] 48 (0, 0))) :
    (results Tryz.f107 tmps).run Tryz.prog W = .ok (.agg #[x0, x1, x2]) W := by
  obtain ⟨c0, c1, c2⟩ := cells3 h
  simp [results, Tryz.results107, h2, go_sem, c0, c1, c2]
set_option maxRecDepth 100000 in
set_option maxHeartbeats 8000000 in
theorem ownP_any (w : World) {x : Ip.Stp} (hs : SzP x) : Calls Tryz.prog 107 #[.agg #[.string x.service, .string x.method, .int .i64 x.at_]] w fun e w' => e = .returned (.agg #[.string x.service, .string x.method, .int .i64 x.at_]) ∧ Below w.heap.size w w' := by
  obtain ⟨W0, hW0⟩ : ∃ W0, W0 = allocs w [.cells #[.string x.service, .string x.method, .int .i64 x.at_] 48, .cells #[.string ⟨#[]⟩, .string ⟨#[]⟩, .int .i64 0] 48] := ⟨_, rfl⟩
  have HX : Hid (∀ W, Below W0.heap.size W0 W → W.heap[w.heap.size]? = some (.cells #[.string x.service, .string x.method, .int .i64 x.at_] 48 (0, 0)) ∧ W.heap[w.heap.size + 1]? = some (.cells #[.string ⟨#[]⟩, .string ⟨#[]⟩, .int .i64 0] 48 (0, 0)) ∧ Below w.heap.size w W) := Lib.hid (by subst hW0; exact fun W hW => ⟨allocs_box (i := 0) rfl hW, allocs_box (i := 1) rfl hW, allocs_on hW⟩)
  have HZ0 : Hid (W0.heap.size = w.heap.size + 2) := Lib.hid (by rw [hW0, allocs_size]; rfl)
  have HSZ := Lib.hid hs
  clear hs
  simp only [allocs] at hW0
  obtain ⟨b0, z0, B0⟩ := HX.out W0 (Below.refl _ _)
  have HY := Lib.hid b0
  have HZ := Lib.hid z0
  have HB := Lib.hid B0
  have HS0 : Hid (w.heap.size + 2 ≤ W0.heap.size) := Lib.hid (Nat.le_of_eq HZ0.out.symm)
  clear b0 z0 B0 HX HZ0
  go_enter Tryz.func107, Tryz.ntmps107
  go_upto_region 1 with fail
  rw [← hW0]
  clear hW0
  obtain ⟨x0, x1, x2⟩ := cells3 HY.out
  go_wp2_with fail
  refine (clone_any _ _ (by have : x.service.size ≤ 1000 := HSZ.out.1; omega)).mono ?_
  rintro e w1 ⟨rfl, hb1⟩
  have hy := box_keep hb1 HY.out
  have hz := box_keep hb1 HZ.out
  have hB := HB.out.trans (hb1.mono HB.out.size)
  have hs := Nat.le_trans HS0.out hb1.size
  obtain ⟨W1, hW⟩ : ∃ W, W = w1.setCell ⟨w.heap.size, 0, none⟩ (.string x.service) := ⟨_, rfl⟩
  have HY1 : Hid (W1.heap[w.heap.size]? = some (.cells #[.string x.service, .string x.method, .int .i64 x.at_] 48 (0, 0))) := Lib.hid (by rw [hW]; exact tk_set (i := 0) hy _)
  have HZ1 : Hid (W1.heap[w.heap.size + 1]? = some (.cells #[.string ⟨#[]⟩, .string ⟨#[]⟩, .int .i64 0] 48 (0, 0))) := Lib.hid (by rw [hW]; exact (Below.heap_setCell _ _ _ _ (by show w.heap.size + 1 ≠ w.heap.size; omega)).trans hz)
  have HB1 : Hid (Below w.heap.size w W1) := Lib.hid (by rw [hW]; exact hB.setCell (Nat.le_refl _) _)
  have HS11 : Hid (w.heap.size + 2 ≤ W1.heap.size) := Lib.hid (by rw [hW, World.size_setCell]; exact hs)
  have f := frozen2 hy 0
  clear x0 x1 x2
  obtain ⟨x0, x1, x2⟩ := cells3 hy
  clear hy hz hB hs hb1 HY HZ HB HS0
  go_upto_region 2 with fail
  rw [← hW]
  clear hW f x0 x1 x2
  have HY := HY1; have HZ := HZ1; have HB := HB1; have HS0 := HS11
  clear HY1 HZ1 HB1 HS11
  obtain ⟨x0, x1, x2⟩ := cells3 HY.out
  go_wp2_with fail
  refine (clone_any _ _ (by have : x.method.size ≤ 1000 := HSZ.out.2; omega)).mono ?_
  rintro e w1 ⟨rfl, hb1⟩
  have hy := box_keep hb1 HY.out
  have hz := box_keep hb1 HZ.out
  have hB := HB.out.trans (hb1.mono HB.out.size)
  have hs := Nat.le_trans HS0.out hb1.size
  obtain ⟨W2, hW⟩ : ∃ W, W = w1.setCell ⟨w.heap.size, 1, none⟩ (.string x.method) := ⟨_, rfl⟩
  have HY2 : Hid (W2.heap[w.heap.size]? = some (.cells #[.string x.service, .string x.method, .int .i64 x.at_] 48 (0, 0))) := Lib.hid (by rw [hW]; exact tk_set (i := 1) hy _)
  have HZ2 : Hid (W2.heap[w.heap.size + 1]? = some (.cells #[.string ⟨#[]⟩, .string ⟨#[]⟩, .int .i64 0] 48 (0, 0))) := Lib.hid (by rw [hW]; exact (Below.heap_setCell _ _ _ _ (by show w.heap.size + 1 ≠ w.heap.size; omega)).trans hz)
  have HB2 : Hid (Below w.heap.size w W2) := Lib.hid (by rw [hW]; exact hB.setCell (Nat.le_refl _) _)
  have HS12 : Hid (w.heap.size + 2 ≤ W2.heap.size) := Lib.hid (by rw [hW, World.size_setCell]; exact hs)
  have f := frozen2 hy 1
  clear x0 x1 x2
  obtain ⟨x0, x1, x2⟩ := cells3 hy
  clear hy hz hB hs hb1 HY HZ HB HS0
  go_upto_region 3 with fail
  rw [← hW]
  clear hW f x0 x1 x2
  have HY := HY2; have HZ := HZ2; have HB := HB2; have HS0 := HS12
  clear HY2 HZ2 HB2 HS12
  obtain ⟨x0, x1, x2⟩ := cells3 HY.out
  obtain ⟨z0, z1, z2⟩ := cells3 HZ.out
  have f0 := frozen2 HZ.out 0
  have f1 := frozen2 HZ.out 1
  have f2 := frozen2 HZ.out 2
  go_wp2_with fail
  refine bodyPost_ret (ownP_res rfl (set_three _ _ _ HZ.out)) rfl ?_
  exact ⟨rfl, ((HB.out.setCell (Nat.le_succ _) _).setCell (Nat.le_succ _) _).setCell (Nat.le_succ _) _⟩
set_option maxRecDepth 100000 in
set_option maxHeartbeats 8000000 in
theorem ownPs_any {u w : World} {v : Value} {L : List Ip.Stp} (h : RoStp u v L) (hu : Kp u w) (hl : L.length ≤ 1000) (hs : ∀ y ∈ L, SzP y) : Calls Tryz.prog 106 #[v, .func (.func 107) #[] #[]] w fun e w' => ∃ p c, e = .returned (.slice p L.length c) ∧ RowIs kStp w' w.heap.size (.slice p L.length c) L ∧ Below w.heap.size w w' := by
  have H := Lib.hid h
  have HU := Lib.hid hu
  have HSZ := Lib.hid hs
  obtain ⟨p0, k0, rfl, -⟩ := ro_len h
  clear h hu hs
  go_enter Tryz.func106, Tryz.ntmps106
  go_wp2_with fail
  go_loopw [5, 10] (fun lv kv wr => ∃ k : Nat, k ≤ L.length ∧ kv = .int .i64 (k : Nat) ∧ Hid (Below w.heap.size w wr ∧ RowIs kStp wr w.heap.size lv (L.take k))) (fun _ kv _ => L.length - (intOf kv).toNat)
  case atStart => exact ⟨0, Nat.zero_le _, rfl, Lib.hid ⟨Below.refl _ _, RowIs.nil _ _ _⟩⟩
  case round =>
    obtain ⟨k, hk, rfl, HR⟩ := hrel
    have hlen : (L.take k).length = k := by rw [List.length_take]; omega
    obtain ⟨pl, cl, hlv, -, -⟩ := HR.out.2.shape
    rw [hlen] at hlv
    subst hlv
    have HLEN := Lib.hid hlen
    clear hlen
    by_cases hlt : k < L.length
    · have i1 : (k : Int) < (L.length : Int) := by omega
      have i2 : (0 : Int) ≤ (k : Int) := by omega
      obtain ⟨A, cc, e3, hA, c0, c1, c2, hin⟩ := stp_at (H.out.kp (Kp.go HU.out HU.out.size HR.out.1)) hlt
      cases e3
      have HT : Hid (L.take (k + 1) = L.take k ++ [L[k]]) := Lib.hid (List.take_succ_eq_append_getElem hlt)
      have HSX := Lib.hid (HSZ.out _ (List.getElem_mem hlt))
      generalize L[k] = x at *
      obtain ⟨W1, hW1⟩ : ∃ W1, W1 = wr.alloc (.cells #[.string x.service, .string x.method, .int .i64 x.at_] 48) := ⟨_, rfl⟩
      have hn1 : W1.heap[wr.heap.size]? = some (.cells #[.string x.service, .string x.method, .int .i64 x.at_] 48 (0, 0)) := by rw [hW1]; exact heap_alloc_new wr _
      have hb1 : Below wr.heap.size wr W1 := by rw [hW1]; exact tk_alloc wr _
      obtain ⟨y0, y1, y2⟩ := cells3 hn1
      have HB1 : Hid (Below w.heap.size w W1) := Lib.hid (HR.out.1.trans (hb1.mono HR.out.1.size))
      have HR1 : Hid (RowIs kStp W1 w.heap.size (.slice pl k cl) (L.take k)) := Lib.hid (HR.out.2.below okStp hb1)
      have HK1 := Lib.hid (Kp.of_below hb1)
      clear hn1 hb1 hA hin
      go_upto_region 5 with fail
      rw [← hW1]
      clear hW1
      go_wp2_with fail
      refine (ownP_any W1 (x := x) HSX.out).mono ?_
      rintro e w2 ⟨rfl, hb2⟩
      obtain ⟨pv, cv, V, hrun, hL5, hG, -⟩ := append_ref okStp (HR1.out.below okStp hb2) (HB1.out.trans (hb2.mono HB1.out.size)) x (.bool false) trivial (by rw [HLEN.out]; omega) 42
      rw [HLEN.out] at hrun hL5
      rw [show (kStp.cells x (.bool false)).toArray = #[.string x.service, .string x.method, .int .i64 x.at_] from rfl] at hrun
      rw [← HT.out] at hL5
      have HG := Lib.hid hG
      have HL := Lib.hid hL5
      clear hL5 hG hb2 y0 y1 y2 c0 c1 c2
      go_wp2_with (at_builtin; refine Lib.wpList_append_run _ rfl (.tmp 14) (.tmp 18) _ _ rfl _ _ rfl rfl _ _ hrun ?_)
      go_roundw
      case rel => exact ⟨k + 1, by omega, by go_num, Lib.hid ⟨HG.out, HL.out⟩⟩
      case measure => simp [intOf]; omega
    · obtain rfl : k = L.length := by omega
      have i1 : ¬ (L.length : Int) < (L.length : Int) := by omega
      have HL : Hid (RowIs kStp wr w.heap.size (.slice pl L.length cl) L) := Lib.hid (by have := HR.out.2; rwa [List.take_length] at this)
      go_wp2_with fail
      go_ret
      exact ⟨_, _, rfl, HL.out, HR.out.1⟩
def SzG (x : Ip.Sga) : Prop := x.name.size ≤ 1000 ∧ x.arg.size ≤ 1000 ∧ x.steps.length ≤ 1000 ∧ ∀ y ∈ x.steps, SzP y
theorem ownG_res {W : World} {tmps : Array Value} {b : Nat} {x0 x1 x2 : Value} (h2 : tmps[2]? = some (.pointer (some ⟨b, 0, none⟩))) (h : W.heap[b]? = some (.cells #[x0, x1, x2] 44 (0, 0))) :
    (results Tryz.f56 tmps).run Tryz.prog W = .ok (.agg #[x0, x1, x2]) W := by
  obtain ⟨c0, c1, c2⟩ := cells3 h
  simp [results, Tryz.results56, h2, go_sem, c0, c1, c2]
set_option maxRecDepth 100000 in
set_option maxHeartbeats 8000000 in
theorem ownG_any {u w : World} {x : Ip.Sga} {p : Option Addr} {c : Nat} (h : RoStp u (.slice p x.steps.length c) x.steps) (hu : Kp u w) (hs : SzG x) : Calls Tryz.prog 56 #[.agg #[.string x.name, .string x.arg, .slice p x.steps.length c]] w fun e w' => ∃ p c, e = .returned (.agg #[.string x.name, .string x.arg, .slice p x.steps.length c]) ∧ RowIs kStp w' w.heap.size (.slice p x.steps.length c) x.steps ∧ Below w.heap.size w w' := by
  obtain ⟨W0, hW0⟩ : ∃ W0, W0 = allocs w [.cells #[.string x.name, .string x.arg, .slice p x.steps.length c] 44, .cells #[.string ⟨#[]⟩, .string ⟨#[]⟩, .slice none 0 0] 44] := ⟨_, rfl⟩
  have HX : Hid (∀ W, Below W0.heap.size W0 W → W.heap[w.heap.size]? = some (.cells #[.string x.name, .string x.arg, .slice p x.steps.length c] 44 (0, 0)) ∧ W.heap[w.heap.size + 1]? = some (.cells #[.string ⟨#[]⟩, .string ⟨#[]⟩, .slice none 0 0] 44 (0, 0)) ∧ Below w.heap.size w W) := Lib.hid (by subst hW0; exact fun W hW => ⟨allocs_box (i := 0) rfl hW, allocs_box (i := 1) rfl hW, allocs_on hW⟩)
  have HZ0 : Hid (W0.heap.size = w.heap.size + 2) := Lib.hid (by rw [hW0, allocs_size]; rfl)
  have H := Lib.hid h
  have HU := Lib.hid hu
  have HSZ := Lib.hid hs
  clear hs h hu
  simp only [allocs] at hW0
  obtain ⟨b0, z0, B0⟩ := HX.out W0 (Below.refl _ _)
  have HY := Lib.hid b0
  have HZ := Lib.hid z0
  have HB := Lib.hid B0
  have HS0 : Hid (w.heap.size + 2 ≤ W0.heap.size) := Lib.hid (Nat.le_of_eq HZ0.out.symm)
  clear b0 z0 B0 HX HZ0
  go_enter Tryz.func56, Tryz.ntmps56
  go_upto_region 1 with fail
  rw [← hW0]
  clear hW0
  obtain ⟨x0, x1, x2⟩ := cells3 HY.out
  go_wp2_with fail
  refine (clone_any _ _ (by have : x.name.size ≤ 1000 := HSZ.out.1; omega)).mono ?_
  rintro e w1 ⟨rfl, hb1⟩
  have hy := box_keep hb1 HY.out
  have hz := box_keep hb1 HZ.out
  have hB := HB.out.trans (hb1.mono HB.out.size)
  have hs := Nat.le_trans HS0.out hb1.size
  obtain ⟨W1, hW⟩ : ∃ W, W = w1.setCell ⟨w.heap.size, 0, none⟩ (.string x.name) := ⟨_, rfl⟩
  have HY1 : Hid (W1.heap[w.heap.size]? = some (.cells #[.string x.name, .string x.arg, .slice p x.steps.length c] 44 (0, 0))) := Lib.hid (by rw [hW]; exact tk_set (i := 0) hy _)
  have HZ1 : Hid (W1.heap[w.heap.size + 1]? = some (.cells #[.string ⟨#[]⟩, .string ⟨#[]⟩, .slice none 0 0] 44 (0, 0))) := Lib.hid (by rw [hW]; exact (Below.heap_setCell _ _ _ _ (by show w.heap.size + 1 ≠ w.heap.size; omega)).trans hz)
  have HB1 : Hid (Below w.heap.size w W1) := Lib.hid (by rw [hW]; exact hB.setCell (Nat.le_refl _) _)
  have HS11 : Hid (w.heap.size + 2 ≤ W1.heap.size) := Lib.hid (by rw [hW, World.size_setCell]; exact hs)
  have f := frozen2 hy 0
  clear x0 x1 x2
  obtain ⟨x0, x1, x2⟩ := cells3 hy
  clear hy hz hB hs hb1 HY HZ HB HS0
  go_upto_region 2 with fail
  rw [← hW]
  clear hW f x0 x1 x2
  have HY := HY1; have HZ := HZ1; have HB := HB1; have HS0 := HS11
  clear HY1 HZ1 HB1 HS11
  obtain ⟨x0, x1, x2⟩ := cells3 HY.out
  go_wp2_with fail
  refine (clone_any _ _ (by have : x.arg.size ≤ 1000 := HSZ.out.2.1; omega)).mono ?_
  rintro e w1 ⟨rfl, hb1⟩
  have hy := box_keep hb1 HY.out
  have hz := box_keep hb1 HZ.out
  have hB := HB.out.trans (hb1.mono HB.out.size)
  have hs := Nat.le_trans HS0.out hb1.size
  obtain ⟨W2, hW⟩ : ∃ W, W = w1.setCell ⟨w.heap.size, 1, none⟩ (.string x.arg) := ⟨_, rfl⟩
  have HY2 : Hid (W2.heap[w.heap.size]? = some (.cells #[.string x.name, .string x.arg, .slice p x.steps.length c] 44 (0, 0))) := Lib.hid (by rw [hW]; exact tk_set (i := 1) hy _)
  have HZ2 : Hid (W2.heap[w.heap.size + 1]? = some (.cells #[.string ⟨#[]⟩, .string ⟨#[]⟩, .slice none 0 0] 44 (0, 0))) := Lib.hid (by rw [hW]; exact (Below.heap_setCell _ _ _ _ (by show w.heap.size + 1 ≠ w.heap.size; omega)).trans hz)
  have HB2 : Hid (Below w.heap.size w W2) := Lib.hid (by rw [hW]; exact hB.setCell (Nat.le_refl _) _)
  have HS12 : Hid (w.heap.size + 2 ≤ W2.heap.size) := Lib.hid (by rw [hW, World.size_setCell]; exact hs)
  have f := frozen2 hy 1
  clear x0 x1 x2
  obtain ⟨x0, x1, x2⟩ := cells3 hy
  clear hy hz hB hs hb1 HY HZ HB HS0
  go_upto_region 3 with fail
  rw [← hW]
  clear hW f x0 x1 x2
  have HY := HY2; have HZ := HZ2; have HB := HB2; have HS0 := HS12
  clear HY2 HZ2 HB2 HS12
  obtain ⟨x0, x1, x2⟩ := cells3 HY.out
  go_wp2_with fail
  refine (ownPs_any H.out (HU.out.go (HU.out.size) HB.out) HSZ.out.2.2.1 HSZ.out.2.2.2).mono ?_
  rintro e w3 ⟨p2, c2, rfl, hR, hb3⟩
  have hy := box_keep hb3 HY.out
  have hz := box_keep hb3 HZ.out
  have hB := HB.out.trans (hb3.mono HB.out.size)
  clear x0 x1 x2
  obtain ⟨x0, x1, x2⟩ := cells3 hy
  have f := frozen2 hy 2
  obtain ⟨V, hW⟩ : ∃ W, W = w3.setCell ⟨w.heap.size, 2, none⟩ (.slice p2 x.steps.length c2) := ⟨_, rfl⟩
  have HY2 : Hid (V.heap[w.heap.size]? = some (.cells #[.string x.name, .string x.arg, .slice p2 x.steps.length c2] 44 (0, 0))) := Lib.hid (by rw [hW]; exact tk_set (i := 2) hy _)
  have HZ2 : Hid (V.heap[w.heap.size + 1]? = some (.cells #[.string ⟨#[]⟩, .string ⟨#[]⟩, .slice none 0 0] 44 (0, 0))) := Lib.hid (by rw [hW]; exact (Below.heap_setCell _ _ _ _ (by show w.heap.size + 1 ≠ w.heap.size; omega)).trans hz)
  have HB2 : Hid (Below w.heap.size w V) := Lib.hid (by rw [hW]; exact hB.setCell (Nat.le_refl _) _)
  have HR2 : Hid (RowIs kStp V W2.heap.size (.slice p2 x.steps.length c2) x.steps) := Lib.hid (by rw [hW]; exact row_above okStp hR (Nat.le_refl _) fun j hj => Below.heap_setCell _ _ _ _ (by have := HS0.out; show j ≠ w.heap.size; omega))
  clear hy hz hB hb3 hR HY HZ HB
  go_upto_region 4 with fail
  rw [← hW]
  clear hW f x0 x1 x2
  have HY := HY2; have HZ := HZ2; have HB := HB2
  clear HY2 HZ2 HB2
  obtain ⟨x0, x1, x2⟩ := cells3 HY.out
  obtain ⟨z0, z1, z2⟩ := cells3 HZ.out
  have f0 := frozen2 HZ.out 0
  have f1 := frozen2 HZ.out 1
  have f2 := frozen2 HZ.out 2
  go_wp2_with fail
  refine bodyPost_ret (ownG_res rfl (set_three _ _ _ HZ.out)) rfl ?_
  exact ⟨_, _, rfl, row_above okStp HR2.out (Nat.le_trans (Nat.le_add_right _ 2) HS0.out) fun j hj => (Below.heap_setCell _ _ _ _ (by have := HS0.out; show j ≠ w.heap.size + 1; omega)).trans ((Below.heap_setCell _ _ _ _ (by have := HS0.out; show j ≠ w.heap.size + 1; omega)).trans (Below.heap_setCell _ _ _ _ (by have := HS0.out; show j ≠ w.heap.size + 1; omega))), ((HB.out.setCell (Nat.le_succ _) _).setCell (Nat.le_succ _) _).setCell (Nat.le_succ _) _⟩
def SzM (x : Ip.Mth) : Prop := x.name.size ≤ 1000 ∧ x.arg.size ≤ 1000 ∧ x.effect.size ≤ 1000 ∧ x.undo.size ≤ 1000
end Go.Proofs.YtnkdhmoocomjfaaGreatDoor
/-! ## CkFind -/
namespace Go.Proofs.YtnkdhmoocomjfaaGreatDoor
open Go.RowKit
theorem szF_of {f : Ip.Fld} (h : Ck.SmF f) : SzF f := ⟨Nat.le_trans h.1 (by decide), Nat.le_trans h.2.1 (by decide), fun y hy => Nat.le_trans (h.2.2 y hy) (by decide)⟩
theorem szR_of {r : Ip.Rcd} (h : Ck.SmR r) : SzR r := ⟨Nat.le_trans h.1 (by decide), Nat.le_trans h.2.1 (by decide), fun y hy => szF_of (h.2.2 y hy)⟩
theorem szP_of {p : Ip.Stp} (h : Ck.SmP p) : SzP p := ⟨Nat.le_trans h.1 (by decide), Nat.le_trans h.2 (by decide)⟩
theorem szG_of {g : Ip.Sga} (h : Ck.SmG g) : SzG g := ⟨Nat.le_trans h.1 (by decide), Nat.le_trans h.2.1 (by decide), Nat.le_trans h.2.2.1 (by decide), fun y hy => szP_of (h.2.2.2 y hy)⟩
theorem szM_of {m : Ip.Mth} (h : Ck.SmM m) : SzM m := ⟨Nat.le_trans h.1 (by decide), Nat.le_trans h.2.1 (by decide), Nat.le_trans h.2.2.1 (by decide), Nat.le_trans h.2.2.2 (by decide)⟩
theorem small_find {s : Ip.Sch} (hS : Ck.Small s) (n : ByteArray) : Ck.SmR ((Ck.find s n).getD noRcd) := by
  cases h : Ck.find s n with
  | none => exact ⟨Nat.zero_le _, Nat.zero_le _, fun y hy => by cases hy⟩
  | some r => exact hS.r r (List.mem_of_find?_eq_some h)
theorem small_saga {s : Ip.Sch} (hS : Ck.Small s) (n : ByteArray) : Ck.SmG ((Ck.saga s n).getD noSga) := by
  cases h : Ck.saga s n with
  | none => exact ⟨Nat.zero_le _, Nat.zero_le _, Nat.zero_le _, fun y hy => by cases hy⟩
  | some r => exact hS.g r (List.mem_of_find?_eq_some h)
theorem small_method {s : Ip.Sch} (hS : Ck.Small s) (n m : ByteArray) : Ck.SmM ((Ck.method s n m).getD noMth) := by
  cases h : Ck.method s n m with
  | none => exact ⟨Nat.zero_le _, Nat.zero_le _, Nat.zero_le _, Nat.zero_le _⟩
  | some r =>
    obtain ⟨v, hv, -, hm, -⟩ := Ck.method_in h
    exact (hS.v v hv).2.2 r hm
theorem Find_res {W : World} {tmps : Array Value} {b : Nat} {x0 x1 x2 x9 : Value} (h4 : tmps[4]? = some (.pointer (some ⟨b, 0, none⟩))) (h5 : tmps[5]? = some x9) (h : W.heap[b]? = some (.cells #[x0, x1, x2] 34 (0, 0))) :
    (results Tryz.f19 tmps).run Tryz.prog W = .ok (.tuple #[.agg #[x0, x1, x2], x9]) W := by
  obtain ⟨c0, c1, c2⟩ := cells3 h
  simp [results, Tryz.results19, h4, h5, go_sem, c0, c1, c2]
def FindP (s : Ip.Sch) (n : ByteArray) (w : World) (e : Ending) (w' : World) : Prop := ∃ p c, e = .returned (.tuple #[.agg #[.string ((Ck.find s n).getD noRcd).name, .bool ((Ck.find s n).getD noRcd).choice, .slice p ((Ck.find s n).getD noRcd).fields.length c], .bool (Ck.find s n).isSome]) ∧ RowIs kFld w' w.heap.size (.slice p ((Ck.find s n).getD noRcd).fields.length c) ((Ck.find s n).getD noRcd).fields ∧ Below w.heap.size w w'
set_option maxRecDepth 100000 in
set_option maxHeartbeats 8000000 in
theorem Find_any {u w : World} {sv : Value} {s : Ip.Sch} (h : RoSch u sv s) (hu : Kp u w) (hS : Ck.Small s) (n : ByteArray) : Calls Tryz.prog 19 #[sv, .string n] w (FindP s n w) := by
  unfold FindP
  obtain ⟨p1, c1, p2, c2, p3, c3, rfl, -, hr, -, hg, l1, l2, l3⟩ := sch_parts h
  obtain ⟨W0, hW0⟩ : ∃ W0, W0 = allocs w [schO s p1 c1 p2 c2 p3 c3, .cells #[.string ⟨#[]⟩, .bool false, .slice none 0 0] 34] := ⟨_, rfl⟩
  have HX : Hid (∀ W, Below W0.heap.size W0 W → W.heap[w.heap.size]? = some (schO s p1 c1 p2 c2 p3 c3) ∧ W.heap[w.heap.size + 1]? = some (.cells #[.string ⟨#[]⟩, .bool false, .slice none 0 0] 34 (0, 0)) ∧ Below w.heap.size w W) := Lib.hid (by subst hW0; exact fun W hW => ⟨allocs_box (i := 0) rfl hW, allocs_box (i := 1) rfl hW, allocs_on hW⟩)
  have hsz := szR_of (small_find hS n)
  obtain ⟨b0, z0, B0⟩ := HX.out W0 (Below.refl _ _)
  obtain ⟨x0, x1, x2, x3⟩ := cells4' b0
  have q := ckRecord_any h (hu.below B0) n
  have HU0 := Lib.hid (hu.below B0)
  unfold Fnd at q
  generalize Ck.find s n = oo at *
  obtain ⟨x, hx⟩ : ∃ x, x = oo.getD noRcd := ⟨_, rfl⟩
  rw [← hx] at q hsz ⊢
  clear hx
  have HQ := Lib.hid q
  have HSZ := Lib.hid hsz
  clear h hr hg hu hS q hsz b0 z0 B0
  simp only [allocs, schO] at hW0
  go_enter Tryz.func19, Tryz.ntmps19
  go_upto_region 1 with fail
  rw [← hW0]
  clear hW0
  go_wp2_with fail
  refine HQ.out.mono ?_
  rintro e w1 ⟨v, rfl, hv, hb1⟩
  obtain ⟨q, k, rfl, hin, hf⟩ := hv
  have HF := Lib.hid hf
  obtain ⟨W2, hW2⟩ : ∃ W2, W2 = w1.alloc (.cells #[.string x.name, .bool x.choice, .slice q x.fields.length k] 34) := ⟨_, rfl⟩
  have hn2 : W2.heap[w1.heap.size]? = some (.cells #[.string x.name, .bool x.choice, .slice q x.fields.length k] 34 (0, 0)) := by rw [hW2]; exact heap_alloc_new w1 _
  have HB2 : Hid (Below W0.heap.size W0 W2) := Lib.hid (hb1.trans (by rw [hW2]; exact (tk_alloc w1 _).mono hb1.size))
  have HK2 := Lib.hid (HU0.out.go HU0.out.size HB2.out)
  obtain ⟨y0, y1, y2⟩ := cells3 hn2
  clear hn2 hb1 hin hf x0 x1 x2 x3
  go_upto_region 2 with fail
  rw [← hW2]
  clear hW2
  go_wp2_with fail
  refine (ownR_any HF.out HK2.out HSZ.out).mono ?_
  rintro e w3 ⟨p4, c4, rfl, hR, hb3⟩
  obtain ⟨-, hz, hB⟩ := HX.out _ (HB2.out.trans (hb3.mono HB2.out.size))
  obtain ⟨z0, z1, z2⟩ := cells3 hz
  have f0 := frozen2 hz 0
  have f1 := frozen2 hz 1
  have f2 := frozen2 hz 2
  have HZ := Lib.hid hz
  have HB := Lib.hid hB
  have HR := Lib.hid hR
  have HS2 : Hid (w.heap.size + 1 < W2.heap.size) := Lib.hid (Nat.lt_of_lt_of_le (Array.getElem?_eq_some_iff.1 (HX.out _ (Below.refl _ _)).2.1).1 HB2.out.size)
  clear hR
  clear hz hB hb3 y0 y1 y2
  go_wp2_with fail
  refine bodyPost_ret (Find_res rfl rfl (set_three _ _ _ HZ.out)) rfl ?_
  exact ⟨_, _, rfl, row_above okFld HR.out (by have := HS2.out; omega) fun j hj => (Below.heap_setCell _ _ _ _ (by have := HS2.out; show j ≠ w.heap.size + 1; omega)).trans ((Below.heap_setCell _ _ _ _ (by have := HS2.out; show j ≠ w.heap.size + 1; omega)).trans (Below.heap_setCell _ _ _ _ (by have := HS2.out; show j ≠ w.heap.size + 1; omega))), ((HB.out.setCell (by dsimp only; omega) _).setCell (by dsimp only; omega) _).setCell (by dsimp only; omega) _⟩
theorem Saga_res {W : World} {tmps : Array Value} {b : Nat} {x0 x1 x2 x9 : Value} (h4 : tmps[4]? = some (.pointer (some ⟨b, 0, none⟩))) (h5 : tmps[5]? = some x9) (h : W.heap[b]? = some (.cells #[x0, x1, x2] 44 (0, 0))) :
    (results Tryz.f20 tmps).run Tryz.prog W = .ok (.tuple #[.agg #[x0, x1, x2], x9]) W := by
  obtain ⟨c0, c1, c2⟩ := cells3 h
  simp [results, Tryz.results20, h4, h5, go_sem, c0, c1, c2]
def SagaP (s : Ip.Sch) (n : ByteArray) (w : World) (e : Ending) (w' : World) : Prop := ∃ p c, e = .returned (.tuple #[.agg #[.string ((Ck.saga s n).getD noSga).name, .string ((Ck.saga s n).getD noSga).arg, .slice p ((Ck.saga s n).getD noSga).steps.length c], .bool (Ck.saga s n).isSome]) ∧ RowIs kStp w' w.heap.size (.slice p ((Ck.saga s n).getD noSga).steps.length c) ((Ck.saga s n).getD noSga).steps ∧ Below w.heap.size w w'
set_option maxRecDepth 100000 in
set_option maxHeartbeats 8000000 in
theorem Saga_any {u w : World} {sv : Value} {s : Ip.Sch} (h : RoSch u sv s) (hu : Kp u w) (hS : Ck.Small s) (n : ByteArray) : Calls Tryz.prog 20 #[sv, .string n] w (SagaP s n w) := by
  unfold SagaP
  obtain ⟨p1, c1, p2, c2, p3, c3, rfl, -, hr, -, hg, l1, l2, l3⟩ := sch_parts h
  obtain ⟨W0, hW0⟩ : ∃ W0, W0 = allocs w [schO s p1 c1 p2 c2 p3 c3, .cells #[.string n] 9, .cells #[.string ⟨#[]⟩, .string ⟨#[]⟩, .slice none 0 0] 44] := ⟨_, rfl⟩
  have HX : Hid (∀ W, Below W0.heap.size W0 W → W.heap[w.heap.size]? = some (schO s p1 c1 p2 c2 p3 c3) ∧ W.heap[w.heap.size + 1]? = some (.cells #[.string n] 9 (0, 0)) ∧ W.heap[w.heap.size + 2]? = some (.cells #[.string ⟨#[]⟩, .string ⟨#[]⟩, .slice none 0 0] 44 (0, 0)) ∧ Below w.heap.size w W) := Lib.hid (by subst hW0; exact fun W hW => ⟨allocs_box (i := 0) rfl hW, allocs_box (i := 1) rfl hW, allocs_box (i := 2) rfl hW, allocs_on hW⟩)
  have hsz := szG_of (small_saga hS n)
  obtain ⟨b0, bn, z0, B0⟩ := HX.out W0 (Below.refl _ _)
  obtain ⟨x0, x1, x2, x3⟩ := cells4' b0
  have q := firstG_any hg (hu.below B0) n bn
  have HU0 := Lib.hid (hu.below B0)
  rw [show Ck.saga s n = s.sagas.find? (fun r => Ip.eqB r.name n) from rfl] at hsz ⊢
  unfold Fnd at q
  generalize (s.sagas.find? fun r => Ip.eqB r.name n) = oo at *
  obtain ⟨x, hx⟩ : ∃ x, x = oo.getD noSga := ⟨_, rfl⟩
  rw [← hx] at q hsz ⊢
  clear hx
  have HQ := Lib.hid q
  have HSZ := Lib.hid hsz
  clear h hr hg hu hS q hsz b0 bn z0 B0
  simp only [allocs, schO] at hW0
  go_enter Tryz.func20, Tryz.ntmps20
  go_upto_region 1 with fail
  rw [← hW0]
  clear hW0
  go_wp2_with fail
  refine HQ.out.mono ?_
  rintro e w1 ⟨v, rfl, hv, hb1⟩
  obtain ⟨q, k, rfl, hin, hf⟩ := hv
  have HF := Lib.hid hf
  obtain ⟨W2, hW2⟩ : ∃ W2, W2 = w1.alloc (.cells #[.string x.name, .string x.arg, .slice q x.steps.length k] 44) := ⟨_, rfl⟩
  have hn2 : W2.heap[w1.heap.size]? = some (.cells #[.string x.name, .string x.arg, .slice q x.steps.length k] 44 (0, 0)) := by rw [hW2]; exact heap_alloc_new w1 _
  have HB2 : Hid (Below W0.heap.size W0 W2) := Lib.hid (hb1.trans (by rw [hW2]; exact (tk_alloc w1 _).mono hb1.size))
  have HK2 := Lib.hid (HU0.out.go HU0.out.size HB2.out)
  obtain ⟨y0, y1, y2⟩ := cells3 hn2
  clear hn2 hb1 hin hf x0 x1 x2 x3
  go_upto_region 2 with fail
  rw [← hW2]
  clear hW2
  go_wp2_with fail
  refine (ownG_any HF.out HK2.out HSZ.out).mono ?_
  rintro e w3 ⟨p4, c4, rfl, hR, hb3⟩
  obtain ⟨-, -, hz, hB⟩ := HX.out _ (HB2.out.trans (hb3.mono HB2.out.size))
  obtain ⟨z0, z1, z2⟩ := cells3 hz
  have f0 := frozen2 hz 0
  have f1 := frozen2 hz 1
  have f2 := frozen2 hz 2
  have HZ := Lib.hid hz
  have HB := Lib.hid hB
  have HR := Lib.hid hR
  have HS2 : Hid (w.heap.size + 2 < W2.heap.size) := Lib.hid (Nat.lt_of_lt_of_le (Array.getElem?_eq_some_iff.1 (HX.out _ (Below.refl _ _)).2.2.1).1 HB2.out.size)
  clear hR
  clear hz hB hb3 y0 y1 y2
  go_wp2_with fail
  refine bodyPost_ret (Saga_res rfl rfl (set_three _ _ _ HZ.out)) rfl ?_
  exact ⟨_, _, rfl, row_above okStp HR.out (by have := HS2.out; omega) fun j hj => (Below.heap_setCell _ _ _ _ (by have := HS2.out; show j ≠ w.heap.size + 2; omega)).trans ((Below.heap_setCell _ _ _ _ (by have := HS2.out; show j ≠ w.heap.size + 2; omega)).trans (Below.heap_setCell _ _ _ _ (by have := HS2.out; show j ≠ w.heap.size + 2; omega))), ((HB.out.setCell (by dsimp only; omega) _).setCell (by dsimp only; omega) _).setCell (by dsimp only; omega) _⟩
def MethodP (s : Ip.Sch) (n m : ByteArray) (w : World) (e : Ending) (w' : World) : Prop := e = .returned (.tuple #[.agg #[.string ((Ck.method s n m).getD noMth).name, .string ((Ck.method s n m).getD noMth).arg, .int .u8 (((Ck.method s n m).getD noMth).result : Nat), .string ((Ck.method s n m).getD noMth).effect, .string ((Ck.method s n m).getD noMth).undo], .bool (Ck.method s n m).isSome]) ∧ Below w.heap.size w w'
end Go.Proofs.YtnkdhmoocomjfaaGreatDoor
/-! ## CkRefFind -/
namespace Go.Proofs.YtnkdhmoocomjfaaGreatDoor
open Go.RowKit
theorem find_at {α : Type} {p : α → Bool} {L : List α} {k : Nat} (hk : k < L.length) (h : ∀ j (hj : j < L.length), j < k → p L[j] = false) (hp : p L[k] = true) : L.find? p = some L[k] := by
  obtain ⟨h1, h2⟩ := find_idx (idx_some hk h hp)
  exact h2
theorem find_not {α : Type} {p : α → Bool} {L : List α} (h : ∀ j (hj : j < L.length), p L[j] = false) : L.find? p = none := find_idx_none (idx_none h)
theorem not_next {α : Type} {p : α → Bool} {L : List α} {k : Nat} (h : ∀ j (hj : j < L.length), j < k → p L[j] = false) (hk : k < L.length) (hq : p L[k] = false) : ∀ j (hj : j < L.length), j < k + 1 → p L[j] = false := fun j hj hjk => by
  by_cases e : j < k
  · exact h j hj e
  · obtain rfl : j = k := by omega
    exact hq
theorem RefFind_res {W : World} {tmps : Array Value} {b : Nat} {x0 x1 x2 x9 : Value} (h4 : tmps[4]? = some (.pointer (some ⟨b, 0, none⟩))) (h5 : tmps[5]? = some x9) (h : W.heap[b]? = some (.cells #[x0, x1, x2] 34 (0, 0))) :
    (results Tryz.f79 tmps).run Tryz.prog W = .ok (.tuple #[.agg #[x0, x1, x2], x9]) W := by
  obtain ⟨c0, c1, c2⟩ := cells3 h
  simp [results, Tryz.results79, h4, h5, go_sem, c0, c1, c2]
set_option maxRecDepth 100000 in
set_option maxHeartbeats 8000000 in
theorem RefFind_any {u w : World} {sv : Value} {s : Ip.Sch} (h : RoSch u sv s) (hu : Kp u w) (n : ByteArray) : Calls Tryz.prog 79 #[sv, .string n] w (Fnd RcdV noRcd u (Ck.find s n) w) := by
  obtain ⟨p1, c1, p2, c2, p3, c3, rfl, -, hr, -, hg, l1, l2, l3⟩ := sch_parts h
  obtain ⟨W0, hW0⟩ : ∃ W0, W0 = allocs w [schO s p1 c1 p2 c2 p3 c3, .cells #[.string ⟨#[]⟩, .bool false, .slice none 0 0] 34] := ⟨_, rfl⟩
  have HX : Hid (∀ W, Below W0.heap.size W0 W → W.heap[w.heap.size]? = some (schO s p1 c1 p2 c2 p3 c3) ∧ W.heap[w.heap.size + 1]? = some (.cells #[.string ⟨#[]⟩, .bool false, .slice none 0 0] 34 (0, 0)) ∧ Below w.heap.size w W) := Lib.hid (by subst hW0; exact fun W hW => ⟨allocs_box (i := 0) rfl hW, allocs_box (i := 1) rfl hW, allocs_on hW⟩)
  obtain ⟨b0, z0, B0⟩ := HX.out W0 (Below.refl _ _)
  obtain ⟨x0, x1, x2, x3⟩ := cells4' b0
  obtain ⟨z1, z2, z3⟩ := cells3 z0
  have f0 := frozen2 z0 0; have f1 := frozen2 z0 1; have f2 := frozen2 z0 2
  have H := Lib.hid hr
  have HU := Lib.hid (hu.below B0)
  have HZ := Lib.hid z0
  have HB := Lib.hid B0
  clear h hr hg hu b0 z0 B0
  simp only [allocs, schO] at hW0
  go_enter Tryz.func79, Tryz.ntmps79
  go_upto_region 1 with fail
  rw [← hW0]
  clear hW0
  go_wp2_with fail
  go_loop [6] (fun kv => ∃ k : Nat, k ≤ s.records.length ∧ kv = .int .i64 (k : Nat) ∧ Hid (∀ j (hj : j < s.records.length), j < k → Ip.eqB s.records[j].name n = false)) (fun kv => s.records.length - (intOf kv).toNat)
  case atStart => exact ⟨0, Nat.zero_le _, rfl, Lib.hid fun j _ hj => absurd hj (Nat.not_lt_zero _)⟩
  case round =>
    obtain ⟨k, hk, rfl, HR⟩ := hrel
    by_cases hlt : k < s.records.length
    · have i1 : (k : Int) < (s.records.length : Int) := by omega
      have i2 : (0 : Int) ≤ (k : Int) := by omega
      obtain ⟨A, cc, q, kq, e1, hA, d0, d1, d2, hin, hsub⟩ := rcd_at2 H.out HU.out hlt
      cases e1
      cases hq : Ip.eqB s.records[k].name n with
      | true =>
        have HF : Hid (Ck.find s n = some s.records[k]) := Lib.hid (find_at hlt HR.out hq)
        have hq2 := eqB_list s.records[k].name n
        rw [hq] at hq2
        have HI := Lib.hid hin
        have HS := Lib.hid hsub
        generalize s.records[k] = x at *
        clear hq hin hsub hA
        go_wp2_with fail
        refine bodyPost_ret (RefFind_res rfl rfl (set_three _ _ _ HZ.out)) rfl ?_
        rw [HF.out]
        exact ⟨_, rfl, ⟨_, _, rfl, HI.out, HS.out⟩, (((HB.out).setCell (by dsimp only; omega) _).setCell (by dsimp only; omega) _).setCell (by dsimp only; omega) _⟩
      | false =>
        have HN := Lib.hid (not_next (p := fun r => Ip.eqB r.name n) HR.out hlt hq)
        have hq2 := eqB_list s.records[k].name n
        rw [hq] at hq2
        generalize s.records[k] = x at *
        clear hq hin hsub hA
        go_wp2_with fail
        go_round
        case rel => exact ⟨k + 1, by omega, by go_num, HN⟩
        case measure => simp [intOf]; omega
    · obtain rfl : k = s.records.length := by omega
      have i1 : ¬ (s.records.length : Int) < (s.records.length : Int) := by omega
      have HF : Hid (Ck.find s n = none) := Lib.hid (find_not fun j hj => HR.out j hj hj)
      go_wp2_with fail
      refine bodyPost_ret (RefFind_res rfl rfl (set_three _ _ _ HZ.out)) rfl ?_
      rw [HF.out]
      exact ⟨_, rfl, ⟨none, 0, rfl, Nat.zero_le _, RoIs.nil _ (Nat.zero_le _)⟩, (((HB.out).setCell (by dsimp only; omega) _).setCell (by dsimp only; omega) _).setCell (by dsimp only; omega) _⟩
theorem RefMethod_res {W : World} {tmps : Array Value} {b : Nat} {x0 x1 x2 x3 x4 x9 : Value} (h4 : tmps[6]? = some (.pointer (some ⟨b, 0, none⟩))) (h5 : tmps[7]? = some x9) (h : W.heap[b]? = some (.cells #[x0, x1, x2, x3, x4] 100 (0, 0))) :
    (results Tryz.f98 tmps).run Tryz.prog W = .ok (.tuple #[.agg #[x0, x1, x2, x3, x4], x9]) W := by
  obtain ⟨c0, c1, c2, c3, c4⟩ := cells5 h
  simp [results, Tryz.results98, h4, h5, go_sem, c0, c1, c2, c3, c4]
theorem method_at {s : Ip.Sch} {n m : ByteArray} {v : Ip.Srv} (h : Ck.service s n = some v) : Ck.method s n m = v.methods.find? fun y => Ip.eqB y.name m := by
  unfold Ck.method; rw [h]; rfl
theorem method_not {s : Ip.Sch} {n m : ByteArray} (h : Ck.service s n = none) : Ck.method s n m = none := by
  unfold Ck.method; rw [h]; rfl
set_option maxRecDepth 100000 in
set_option maxHeartbeats 16000000 in
theorem RefMethod_any {u w : World} {sv : Value} {s : Ip.Sch} (h : RoSch u sv s) (hu : Kp u w) (n m : ByteArray) : Calls Tryz.prog 98 #[sv, .string n, .string m] w (Fnd MthV noMth u (Ck.method s n m) w) := by
  obtain ⟨p1, c1, p2, c2, p3, c3, rfl, -, -, hs, -, l1, l2, l3⟩ := sch_parts h
  obtain ⟨W0, hW0⟩ : ∃ W0, W0 = allocs w [schO s p1 c1 p2 c2 p3 c3, .cells #[.string ⟨#[]⟩, .string ⟨#[]⟩, .int .u8 0, .string ⟨#[]⟩, .string ⟨#[]⟩] 100] := ⟨_, rfl⟩
  have HX : Hid (∀ W, Below W0.heap.size W0 W → W.heap[w.heap.size]? = some (schO s p1 c1 p2 c2 p3 c3) ∧ W.heap[w.heap.size + 1]? = some (.cells #[.string ⟨#[]⟩, .string ⟨#[]⟩, .int .u8 0, .string ⟨#[]⟩, .string ⟨#[]⟩] 100 (0, 0)) ∧ Below w.heap.size w W) := Lib.hid (by subst hW0; exact fun W hW => ⟨allocs_box (i := 0) rfl hW, allocs_box (i := 1) rfl hW, allocs_on hW⟩)
  obtain ⟨b0, -, B0⟩ := HX.out W0 (Below.refl _ _)
  obtain ⟨x0, x1, x2, x3⟩ := cells4' b0
  have H := Lib.hid hs
  have HU := Lib.hid (hu.below B0)
  clear h hs hu b0 B0
  simp only [allocs, schO] at hW0
  go_enter Tryz.func98, Tryz.ntmps98
  go_upto_region 1 with fail
  rw [← hW0]
  clear hW0
  go_wp2_with fail
  clear x0 x1 x2 x3
  go_loopw [8] (fun iv wr => ∃ i : Nat, i ≤ s.services.length ∧ iv = .int .i64 (i : Nat) ∧ Hid (Below W0.heap.size W0 wr ∧ ∀ j (hj : j < s.services.length), j < i → Ip.eqB s.services[j].name n = false)) (fun iv _ => s.services.length - (intOf iv).toNat)
  case atStart => exact ⟨0, Nat.zero_le _, rfl, Lib.hid ⟨Below.refl _ _, fun j _ hj => absurd hj (Nat.not_lt_zero _)⟩⟩
  case round =>
    obtain ⟨i, hi, rfl, HR⟩ := hrel
    obtain ⟨b0, z0, B0⟩ := HX.out wr HR.out.1
    obtain ⟨x0, x1, x2, x3⟩ := cells4' b0
    have HB1 := Lib.hid B0
    have HZ := Lib.hid z0
    clear b0 z0 B0
    by_cases hlt : i < s.services.length
    · have i1 : (i : Int) < (s.services.length : Int) := by omega
      have i2 : (0 : Int) ≤ (i : Int) := by omega
      obtain ⟨A, cc, q, kq, e3, hA, d0, d1, hin, hms⟩ := srv_at2 H.out (HU.out.below HR.out.1) hlt
      cases e3
      have HF : Hid (Ip.eqB s.services[i].name n = true → Ck.method s n m = s.services[i].methods.find? fun y => Ip.eqB y.name m) := Lib.hid fun hq => method_at (find_at hlt HR.out.2 hq)
      have HN : Hid (Ip.eqB s.services[i].name n = false → ∀ j (hj : j < s.services.length), j < i + 1 → Ip.eqB s.services[j].name n = false) := Lib.hid fun hq => not_next (p := fun r => Ip.eqB r.name n) HR.out.2 hlt hq
      have HMS := Lib.hid hms
      obtain ⟨_, _, e9, hsl⟩ := ro_len hms
      cases e9
      generalize s.services[i] = x at *
      obtain ⟨W1, hW1⟩ : ∃ W1, W1 = wr.alloc (.cells #[.string x.name, .slice q x.methods.length kq] 98) := ⟨_, rfl⟩
      have hn1 : W1.heap[wr.heap.size]? = some (.cells #[.string x.name, .slice q x.methods.length kq] 98 (0, 0)) := by rw [hW1]; exact heap_alloc_new wr _
      have hb1 : Below W0.heap.size W0 W1 := by rw [hW1]; exact HR.out.1.trans ((tk_alloc wr _).mono HR.out.1.size)
      obtain ⟨y0, y1⟩ := cells2 hn1
      obtain ⟨-, z0, B0⟩ := HX.out W1 hb1
      obtain ⟨z1, z2, z3, z4, z5⟩ := cells5 z0
      have f0 := frozen2 z0 0; have f1 := frozen2 z0 1; have f2 := frozen2 z0 2; have f3 := frozen2 z0 3; have f4 := frozen2 z0 4
      have HZ := Lib.hid z0
      have HB1 := Lib.hid B0
      have HB := Lib.hid hb1
      have HKW := Lib.hid (HU.out.below hb1)
      clear hn1 hb1 hA hin hms z0 B0
      go_upto_region 5 with fail
      rw [← hW1]
      clear hW1 d0 d1 x0 x1 x2 x3
      cases hq : Ip.eqB x.name n with
      | false =>
        have HN := Lib.hid (HN.out hq)
        have hq2 := eqB_list x.name n
        rw [hq] at hq2
        clear hq
        go_wp2_with fail
        go_roundw
        case rel => exact ⟨i + 1, by omega, by go_num, Lib.hid ⟨HB.out, HN.out⟩⟩
        case measure => simp [intOf]; omega
      | true =>
        have HF := Lib.hid (HF.out hq)
        have hq2 := eqB_list x.name n
        rw [hq] at hq2
        clear hq
        go_wp2_with fail
        go_loop [10] (fun kv => ∃ k : Nat, k ≤ x.methods.length ∧ kv = .int .i64 (k : Nat) ∧ Hid (∀ j (hj : j < x.methods.length), j < k → Ip.eqB x.methods[j].name m = false)) (fun kv => x.methods.length - (intOf kv).toNat)
        case atStart => exact ⟨0, Nat.zero_le _, rfl, Lib.hid fun j _ hj => absurd hj (Nat.not_lt_zero _)⟩
        case round =>
          obtain ⟨k, hk, rfl, HM⟩ := hrel
          by_cases hlk : k < x.methods.length
          · have j1 : (k : Int) < (x.methods.length : Int) := by omega
            have j2 : (0 : Int) ≤ (k : Int) := by omega
            obtain ⟨B, cb, e5, hB, d0, d1, d2, d3, d4, hpin⟩ := mth_at (HMS.out.kp HKW.out) hlk
            cases e5
            cases hr : Ip.eqB x.methods[k].name m with
            | true =>
              have HG : Hid (Ck.method s n m = some x.methods[k]) := Lib.hid (HF.out.trans (find_at hlk HM.out hr))
              have hr2 := eqB_list x.methods[k].name m
              rw [hr] at hr2
              have HI := Lib.hid hpin
              generalize x.methods[k] = y at *
              clear hr hpin hB
              go_wp2_with fail
              refine bodyPost_ret (RefMethod_res rfl rfl (set_five _ _ _ _ _ HZ.out)) rfl ?_
              rw [HG.out]
              exact ⟨_, rfl, ⟨rfl, HI.out⟩, ((((HB1.out.setCell (by dsimp only; omega) _).setCell (by dsimp only; omega) _).setCell (by dsimp only; omega) _).setCell (by dsimp only; omega) _).setCell (by dsimp only; omega) _⟩
            | false =>
              have HNX := Lib.hid (not_next (p := fun r => Ip.eqB r.name m) HM.out hlk hr)
              have hr2 := eqB_list x.methods[k].name m
              rw [hr] at hr2
              generalize x.methods[k] = y at *
              clear hr hpin hB
              go_wp2_with fail
              go_round
              case rel => exact ⟨k + 1, by omega, by go_num, HNX⟩
              case measure => simp [intOf]; omega
          · obtain rfl : k = x.methods.length := by omega
            have j1 : ¬ (x.methods.length : Int) < (x.methods.length : Int) := by omega
            have HG : Hid (Ck.method s n m = none) := Lib.hid (HF.out.trans (find_not fun j hj => HM.out j hj hj))
            go_wp2_with fail
            refine bodyPost_ret (RefMethod_res rfl rfl (set_five _ _ _ _ _ HZ.out)) rfl ?_
            rw [HG.out]
            exact ⟨_, rfl, MthV.none _, ((((HB1.out.setCell (by dsimp only; omega) _).setCell (by dsimp only; omega) _).setCell (by dsimp only; omega) _).setCell (by dsimp only; omega) _).setCell (by dsimp only; omega) _⟩
    · obtain rfl : i = s.services.length := by omega
      have i1 : ¬ (s.services.length : Int) < (s.services.length : Int) := by omega
      have HG : Hid (Ck.method s n m = none) := Lib.hid (method_not (find_not fun j hj => HR.out.2 j hj hj))
      have z0 := HZ.out
      obtain ⟨z1, z2, z3, z4, z5⟩ := cells5 z0
      have f0 := frozen2 z0 0; have f1 := frozen2 z0 1; have f2 := frozen2 z0 2; have f3 := frozen2 z0 3; have f4 := frozen2 z0 4
      clear z0
      go_wp2_with fail
      refine bodyPost_ret (RefMethod_res rfl rfl (set_five _ _ _ _ _ HZ.out)) rfl ?_
      rw [HG.out]
      exact ⟨_, rfl, MthV.none _, ((((HB1.out.setCell (by dsimp only; omega) _).setCell (by dsimp only; omega) _).setCell (by dsimp only; omega) _).setCell (by dsimp only; omega) _).setCell (by dsimp only; omega) _⟩
end Go.Proofs.YtnkdhmoocomjfaaGreatDoor
namespace Go.Proofs.YtnkdhmoocomjfaaGreatDoor
open Go.RowKit
theorem flds_ro {W : World} {base : Nat} {v : Value} {L : List Ip.Fld} (h : RowIs kFld W base v L) (hin : ∀ f ∈ L, FldIn f ∧ ∀ x ∈ f.type, SoIn x) : RoFld W v L :=
  RowIs.ro' okFld (fun _ y hy k => RowIs.ro' okSo (fun _ _ _ _ => trivial) (fun z hz => (hin y hy).2 z hz) k) (fun y hy => (hin y hy).1) h
theorem stps_ro {W : World} {base : Nat} {v : Value} {L : List Ip.Stp} (h : RowIs kStp W base v L) (hin : ∀ p ∈ L, StpIn p) : RoStp W v L :=
  RowIs.ro' okStp (fun _ _ _ _ => trivial) hin h
/-- What read-only parts are known to be. -/
theorem fld_in {W : World} {v : Value} {L : List Ip.Fld} (h : RoFld W v L) : ∀ f ∈ L, FldIn f ∧ ∀ x ∈ f.type, SoIn x := fun f hf => by
  refine ⟨h.ok f hf, ?_⟩
  obtain ⟨p, c, -, -, -, h4⟩ := h
  obtain ⟨i, hi, rfl⟩ := List.getElem_of_mem hf
  obtain ⟨A, t, -, -, hs, -, -⟩ := h4 i hi
  exact RoIs.ok (show RoSo W t L[i].type from hs)
theorem find_in {W : World} {sv : Value} {s : Ip.Sch} (h : RoSch W sv s) (n : ByteArray) : ∀ f ∈ ((Ck.find s n).getD noRcd).fields, FldIn f ∧ ∀ x ∈ f.type, SoIn x := by
  cases hf : Ck.find s n with
  | none => intro f hf; cases hf
  | some r =>
    obtain ⟨vr, vs, vg, -, -, ⟨p, c, -, -, -, h4⟩, -, -⟩ := h
    obtain ⟨i, hi, rfl⟩ := List.getElem_of_mem (List.mem_of_find?_eq_some hf)
    obtain ⟨A, t, -, -, hs, -, -⟩ := h4 i hi
    exact fld_in (show RoFld W t s.records[i].fields from hs)
theorem saga_in {W : World} {sv : Value} {s : Ip.Sch} (h : RoSch W sv s) (n : ByteArray) : ∀ p ∈ ((Ck.saga s n).getD noSga).steps, StpIn p := by
  cases hf : Ck.saga s n with
  | none => intro f hf; cases hf
  | some r =>
    obtain ⟨vr, vs, vg, -, -, -, -, ⟨p, c, -, -, -, h4⟩⟩ := h
    obtain ⟨i, hi, rfl⟩ := List.getElem_of_mem (List.mem_of_find?_eq_some hf)
    obtain ⟨A, t, -, -, hs, -, -⟩ := h4 i hi
    exact RoIs.ok (show RoStp W t s.sagas[i].steps from hs)
end Go.Proofs.YtnkdhmoocomjfaaGreatDoor
