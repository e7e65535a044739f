/-
  The parts of CkSameRo, CkFoundB that a seat without their package has. Conditions: those in the theorems.
-/
import Derived.Test.YtnkdhmoocomjfaaGreatDoorSchWalk
import Derived.Test.YtnkdhmoocomjfaaGreatDoorCkMath
import Derived.StillTailTactics
import Derived.Deep.QuietTactic
import Derived.BigQuiet
import Derived.Test.YtnkdhmoocomjfaaGreatDoorCkFirst
import Derived.Test.YtnkdhmoocomjfaaGreatDoorCkLook
import Derived.Test.YtnkdhmoocomjfaaGreatDoorBIdlRefB
import Derived.Test.YtnkdhmoocomjfaaGreatDoorCkSeqs
import Derived.Test.YtnkdhmoocomjfaaGreatDoorCkDecl
import Derived.Test.YtnkdhmoocomjfaaGreatDoorCkGreat
import Derived.Test.YtnkdhmoocomjfaaGreatDoorCkWakes
set_option linter.unusedSimpArgs false
set_option linter.unusedVariables false
/-! ## SchSame -/
namespace Go.Proofs.YtnkdhmoocomjfaaGreatDoor
open Go.RowKit
end Go.Proofs.YtnkdhmoocomjfaaGreatDoor
/-! ## CkFirstG -/
namespace Go.Proofs.YtnkdhmoocomjfaaGreatDoor
open Go.RowKit
/-! ### api.Saga -/
end Go.Proofs.YtnkdhmoocomjfaaGreatDoor
/-! ## CkOwn -/
namespace Go.Proofs.YtnkdhmoocomjfaaGreatDoor
open Go.RowKit
end Go.Proofs.YtnkdhmoocomjfaaGreatDoor
/-! ## CkFind -/
namespace Go.Proofs.YtnkdhmoocomjfaaGreatDoor
open Go.RowKit
end Go.Proofs.YtnkdhmoocomjfaaGreatDoor
/-! ## CkRefFind -/
namespace Go.Proofs.YtnkdhmoocomjfaaGreatDoor
open Go.RowKit
theorem find_at {α : Type} {p : α → Bool} {L : List α} {k : Nat} (hk : k < L.length) (h : ∀ j (hj : j < L.length), j < k → p L[j] = false) (hp : p L[k] = true) : L.find? p = some L[k] := by
  obtain ⟨h1, h2⟩ := find_idx (idx_some hk h hp)
  exact h2
theorem find_not {α : Type} {p : α → Bool} {L : List α} (h : ∀ j (hj : j < L.length), p L[j] = false) : L.find? p = none := find_idx_none (idx_none h)
theorem not_next {α : Type} {p : α → Bool} {L : List α} {k : Nat} (h : ∀ j (hj : j < L.length), j < k → p L[j] = false) (hk : k < L.length) (hq : p L[k] = false) : ∀ j (hj : j < L.length), j < k + 1 → p L[j] = false := fun j hj hjk => by
  by_cases e : j < k
  · exact h j hj e
  · obtain rfl : j = k := by omega
    exact hq
theorem RefFind_res {W : World} {tmps : Array Value} {b : Nat} {x0 x1 x2 x9 : Value} (h4 : tmps[4]? = some (.pointer (some ⟨b, 0, none⟩))) (h5 : tmps[5]? = some x9) (h : W.heap[b]? = some (.cells #[x0, x1, x2] 34 (0, 0))) :
    (results Tryz.f79 tmps).run Tryz.prog W = .ok (.tuple #[.agg #[x0, x1, x2], x9]) W := by
  obtain ⟨c0, c1, c2⟩ := cells3 h
  simp [results, Tryz.results79, h4, h5, go_sem, c0, c1, c2]
set_option maxRecDepth 100000 in
set_option maxHeartbeats 8000000 in
theorem RefFind_any {u w : World} {sv : Value} {s : Ip.Sch} (h : RoSch u sv s) (hu : Kp u w) (n : ByteArray) : Calls Tryz.prog 79 #[sv, .string n] w (Fnd RcdV noRcd u (Ck.find s n) w) := by
  obtain ⟨p1, c1, p2, c2, p3, c3, rfl, -, hr, -, hg, l1, l2, l3⟩ := sch_parts h
  obtain ⟨W0, hW0⟩ : ∃ W0, W0 = allocs w [schO s p1 c1 p2 c2 p3 c3, .cells #[.string ⟨#[]⟩, .bool false, .slice none 0 0] 34] := ⟨_, rfl⟩
  have HX : Hid (∀ W, Below W0.heap.size W0 W → W.heap[w.heap.size]? = some (schO s p1 c1 p2 c2 p3 c3) ∧ W.heap[w.heap.size + 1]? = some (.cells #[.string ⟨#[]⟩, .bool false, .slice none 0 0] 34 (0, 0)) ∧ Below w.heap.size w W) := Lib.hid (by subst hW0; exact fun W hW => ⟨allocs_box (i := 0) rfl hW, allocs_box (i := 1) rfl hW, allocs_on hW⟩)
  obtain ⟨b0, z0, B0⟩ := HX.out W0 (Below.refl _ _)
  obtain ⟨x0, x1, x2, x3⟩ := cells4' b0
  obtain ⟨z1, z2, z3⟩ := cells3 z0
  have f0 := frozen2 z0 0; have f1 := frozen2 z0 1; have f2 := frozen2 z0 2
  have H := Lib.hid hr
  have HU := Lib.hid (hu.below B0)
  have HZ := Lib.hid z0
  have HB := Lib.hid B0
  clear h hr hg hu b0 z0 B0
  simp only [allocs, schO] at hW0
  go_enter Tryz.func79, Tryz.ntmps79
  go_upto_region 1 with fail
  rw [← hW0]
  clear hW0
  go_wp2_with fail
  go_loop [6] (fun kv => ∃ k : Nat, k ≤ s.records.length ∧ kv = .int .i64 (k : Nat) ∧ Hid (∀ j (hj : j < s.records.length), j < k → Ip.eqB s.records[j].name n = false)) (fun kv => s.records.length - (intOf kv).toNat)
  case atStart => exact ⟨0, Nat.zero_le _, rfl, Lib.hid fun j _ hj => absurd hj (Nat.not_lt_zero _)⟩
  case round =>
    obtain ⟨k, hk, rfl, HR⟩ := hrel
    by_cases hlt : k < s.records.length
    · have i1 : (k : Int) < (s.records.length : Int) := by omega
      have i2 : (0 : Int) ≤ (k : Int) := by omega
      obtain ⟨A, cc, q, kq, e1, hA, d0, d1, d2, hin, hsub⟩ := rcd_at2 H.out HU.out hlt
      cases e1
      cases hq : Ip.eqB s.records[k].name n with
      | true =>
        have HF : Hid (Ck.find s n = some s.records[k]) := Lib.hid (find_at hlt HR.out hq)
        have hq2 := eqB_list s.records[k].name n
        rw [hq] at hq2
        have HI := Lib.hid hin
        have HS := Lib.hid hsub
        generalize s.records[k] = x at *
        clear hq hin hsub hA
        go_wp2_with fail
        refine bodyPost_ret (RefFind_res rfl rfl (set_three _ _ _ HZ.out)) rfl ?_
        rw [HF.out]
        exact ⟨_, rfl, ⟨_, _, rfl, HI.out, HS.out⟩, (((HB.out).setCell (by dsimp only; omega) _).setCell (by dsimp only; omega) _).setCell (by dsimp only; omega) _⟩
      | false =>
        have HN := Lib.hid (not_next (p := fun r => Ip.eqB r.name n) HR.out hlt hq)
        have hq2 := eqB_list s.records[k].name n
        rw [hq] at hq2
        generalize s.records[k] = x at *
        clear hq hin hsub hA
        go_wp2_with fail
        go_round
        case rel => exact ⟨k + 1, by omega, by go_num, HN⟩
        case measure => simp [intOf]; omega
    · obtain rfl : k = s.records.length := by omega
      have i1 : ¬ (s.records.length : Int) < (s.records.length : Int) := by omega
      have HF : Hid (Ck.find s n = none) := Lib.hid (find_not fun j hj => HR.out j hj hj)
      go_wp2_with fail
      refine bodyPost_ret (RefFind_res rfl rfl (set_three _ _ _ HZ.out)) rfl ?_
      rw [HF.out]
      exact ⟨_, rfl, ⟨none, 0, rfl, Nat.zero_le _, RoIs.nil _ (Nat.zero_le _)⟩, (((HB.out).setCell (by dsimp only; omega) _).setCell (by dsimp only; omega) _).setCell (by dsimp only; omega) _⟩
theorem RefMethod_res {W : World} {tmps : Array Value} {b : Nat} {x0 x1 x2 x3 x4 x9 : Value} (h4 : tmps[6]? = some (.pointer (some ⟨b, 0, none⟩))) (h5 : tmps[7]? = some x9) (h : W.heap[b]? = some (.cells #[x0, x1, x2, x3, x4] 100 (0, 0))) :
    (results Tryz.f98 tmps).run Tryz.prog W = .ok (.tuple #[.agg #[x0, x1, x2, x3, x4], x9]) W := by
  obtain ⟨c0, c1, c2, c3, c4⟩ := cells5 h
  simp [results, Tryz.results98, h4, h5, go_sem, c0, c1, c2, c3, c4]
theorem method_at {s : Ip.Sch} {n m : ByteArray} {v : Ip.Srv} (h : Ck.service s n = some v) : Ck.method s n m = v.methods.find? fun y => Ip.eqB y.name m := by
  unfold Ck.method; rw [h]; rfl
theorem method_not {s : Ip.Sch} {n m : ByteArray} (h : Ck.service s n = none) : Ck.method s n m = none := by
  unfold Ck.method; rw [h]; rfl
set_option maxRecDepth 100000 in
set_option maxHeartbeats 16000000 in
theorem RefMethod_any {u w : World} {sv : Value} {s : Ip.Sch} (h : RoSch u sv s) (hu : Kp u w) (n m : ByteArray) : Calls Tryz.prog 98 #[sv, .string n, .string m] w (Fnd MthV noMth u (Ck.method s n m) w) := by
  obtain ⟨p1, c1, p2, c2, p3, c3, rfl, -, -, hs, -, l1, l2, l3⟩ := sch_parts h
  obtain ⟨W0, hW0⟩ : ∃ W0, W0 = allocs w [schO s p1 c1 p2 c2 p3 c3, .cells #[.string ⟨#[]⟩, .string ⟨#[]⟩, .int .u8 0, .string ⟨#[]⟩, .string ⟨#[]⟩] 100] := ⟨_, rfl⟩
  have HX : Hid (∀ W, Below W0.heap.size W0 W → W.heap[w.heap.size]? = some (schO s p1 c1 p2 c2 p3 c3) ∧ W.heap[w.heap.size + 1]? = some (.cells #[.string ⟨#[]⟩, .string ⟨#[]⟩, .int .u8 0, .string ⟨#[]⟩, .string ⟨#[]⟩] 100 (0, 0)) ∧ Below w.heap.size w W) := Lib.hid (by subst hW0; exact fun W hW => ⟨allocs_box (i := 0) rfl hW, allocs_box (i := 1) rfl hW, allocs_on hW⟩)
  obtain ⟨b0, -, B0⟩ := HX.out W0 (Below.refl _ _)
  obtain ⟨x0, x1, x2, x3⟩ := cells4' b0
  have H := Lib.hid hs
  have HU := Lib.hid (hu.below B0)
  clear h hs hu b0 B0
  simp only [allocs, schO] at hW0
  go_enter Tryz.func98, Tryz.ntmps98
  go_upto_region 1 with fail
  rw [← hW0]
  clear hW0
  go_wp2_with fail
  clear x0 x1 x2 x3
  go_loopw [8] (fun iv wr => ∃ i : Nat, i ≤ s.services.length ∧ iv = .int .i64 (i : Nat) ∧ Hid (Below W0.heap.size W0 wr ∧ ∀ j (hj : j < s.services.length), j < i → Ip.eqB s.services[j].name n = false)) (fun iv _ => s.services.length - (intOf iv).toNat)
  case atStart => exact ⟨0, Nat.zero_le _, rfl, Lib.hid ⟨Below.refl _ _, fun j _ hj => absurd hj (Nat.not_lt_zero _)⟩⟩
  case round =>
    obtain ⟨i, hi, rfl, HR⟩ := hrel
    obtain ⟨b0, z0, B0⟩ := HX.out wr HR.out.1
    obtain ⟨x0, x1, x2, x3⟩ := cells4' b0
    have HB1 := Lib.hid B0
    have HZ := Lib.hid z0
    clear b0 z0 B0
    by_cases hlt : i < s.services.length
    · have i1 : (i : Int) < (s.services.length : Int) := by omega
      have i2 : (0 : Int) ≤ (i : Int) := by omega
      obtain ⟨A, cc, q, kq, e3, hA, d0, d1, hin, hms⟩ := srv_at2 H.out (HU.out.below HR.out.1) hlt
      cases e3
      have HF : Hid (Ip.eqB s.services[i].name n = true → Ck.method s n m = s.services[i].methods.find? fun y => Ip.eqB y.name m) := Lib.hid fun hq => method_at (find_at hlt HR.out.2 hq)
      have HN : Hid (Ip.eqB s.services[i].name n = false → ∀ j (hj : j < s.services.length), j < i + 1 → Ip.eqB s.services[j].name n = false) := Lib.hid fun hq => not_next (p := fun r => Ip.eqB r.name n) HR.out.2 hlt hq
      have HMS := Lib.hid hms
      obtain ⟨_, _, e9, hsl⟩ := ro_len hms
      cases e9
      generalize s.services[i] = x at *
      obtain ⟨W1, hW1⟩ : ∃ W1, W1 = wr.alloc (.cells #[.string x.name, .slice q x.methods.length kq] 98) := ⟨_, rfl⟩
      have hn1 : W1.heap[wr.heap.size]? = some (.cells #[.string x.name, .slice q x.methods.length kq] 98 (0, 0)) := by rw [hW1]; exact heap_alloc_new wr _
      have hb1 : Below W0.heap.size W0 W1 := by rw [hW1]; exact HR.out.1.trans ((tk_alloc wr _).mono HR.out.1.size)
      obtain ⟨y0, y1⟩ := cells2 hn1
      obtain ⟨-, z0, B0⟩ := HX.out W1 hb1
      obtain ⟨z1, z2, z3, z4, z5⟩ := cells5 z0
      have f0 := frozen2 z0 0; have f1 := frozen2 z0 1; have f2 := frozen2 z0 2; have f3 := frozen2 z0 3; have f4 := frozen2 z0 4
      have HZ := Lib.hid z0
      have HB1 := Lib.hid B0
      have HB := Lib.hid hb1
      have HKW := Lib.hid (HU.out.below hb1)
      clear hn1 hb1 hA hin hms z0 B0
      go_upto_region 5 with fail
      rw [← hW1]
      clear hW1 d0 d1 x0 x1 x2 x3
      cases hq : Ip.eqB x.name n with
      | false =>
        have HN := Lib.hid (HN.out hq)
        have hq2 := eqB_list x.name n
        rw [hq] at hq2
        clear hq
        go_wp2_with fail
        go_roundw
        case rel => exact ⟨i + 1, by omega, by go_num, Lib.hid ⟨HB.out, HN.out⟩⟩
        case measure => simp [intOf]; omega
      | true =>
        have HF := Lib.hid (HF.out hq)
        have hq2 := eqB_list x.name n
        rw [hq] at hq2
        clear hq
        go_wp2_with fail
        go_loop [10] (fun kv => ∃ k : Nat, k ≤ x.methods.length ∧ kv = .int .i64 (k : Nat) ∧ Hid (∀ j (hj : j < x.methods.length), j < k → Ip.eqB x.methods[j].name m = false)) (fun kv => x.methods.length - (intOf kv).toNat)
        case atStart => exact ⟨0, Nat.zero_le _, rfl, Lib.hid fun j _ hj => absurd hj (Nat.not_lt_zero _)⟩
        case round =>
          obtain ⟨k, hk, rfl, HM⟩ := hrel
          by_cases hlk : k < x.methods.length
          · have j1 : (k : Int) < (x.methods.length : Int) := by omega
            have j2 : (0 : Int) ≤ (k : Int) := by omega
            obtain ⟨B, cb, e5, hB, d0, d1, d2, d3, d4, hpin⟩ := mth_at (HMS.out.kp HKW.out) hlk
            cases e5
            cases hr : Ip.eqB x.methods[k].name m with
            | true =>
              have HG : Hid (Ck.method s n m = some x.methods[k]) := Lib.hid (HF.out.trans (find_at hlk HM.out hr))
              have hr2 := eqB_list x.methods[k].name m
              rw [hr] at hr2
              have HI := Lib.hid hpin
              generalize x.methods[k] = y at *
              clear hr hpin hB
              go_wp2_with fail
              refine bodyPost_ret (RefMethod_res rfl rfl (set_five _ _ _ _ _ HZ.out)) rfl ?_
              rw [HG.out]
              exact ⟨_, rfl, ⟨rfl, HI.out⟩, ((((HB1.out.setCell (by dsimp only; omega) _).setCell (by dsimp only; omega) _).setCell (by dsimp only; omega) _).setCell (by dsimp only; omega) _).setCell (by dsimp only; omega) _⟩
            | false =>
              have HNX := Lib.hid (not_next (p := fun r => Ip.eqB r.name m) HM.out hlk hr)
              have hr2 := eqB_list x.methods[k].name m
              rw [hr] at hr2
              generalize x.methods[k] = y at *
              clear hr hpin hB
              go_wp2_with fail
              go_round
              case rel => exact ⟨k + 1, by omega, by go_num, HNX⟩
              case measure => simp [intOf]; omega
          · obtain rfl : k = x.methods.length := by omega
            have j1 : ¬ (x.methods.length : Int) < (x.methods.length : Int) := by omega
            have HG : Hid (Ck.method s n m = none) := Lib.hid (HF.out.trans (find_not fun j hj => HM.out j hj hj))
            go_wp2_with fail
            refine bodyPost_ret (RefMethod_res rfl rfl (set_five _ _ _ _ _ HZ.out)) rfl ?_
            rw [HG.out]
            exact ⟨_, rfl, MthV.none _, ((((HB1.out.setCell (by dsimp only; omega) _).setCell (by dsimp only; omega) _).setCell (by dsimp only; omega) _).setCell (by dsimp only; omega) _).setCell (by dsimp only; omega) _⟩
    · obtain rfl : i = s.services.length := by omega
      have i1 : ¬ (s.services.length : Int) < (s.services.length : Int) := by omega
      have HG : Hid (Ck.method s n m = none) := Lib.hid (method_not (find_not fun j hj => HR.out.2 j hj hj))
      have z0 := HZ.out
      obtain ⟨z1, z2, z3, z4, z5⟩ := cells5 z0
      have f0 := frozen2 z0 0; have f1 := frozen2 z0 1; have f2 := frozen2 z0 2; have f3 := frozen2 z0 3; have f4 := frozen2 z0 4
      clear z0
      go_wp2_with fail
      refine bodyPost_ret (RefMethod_res rfl rfl (set_five _ _ _ _ _ HZ.out)) rfl ?_
      rw [HG.out]
      exact ⟨_, rfl, MthV.none _, ((((HB1.out.setCell (by dsimp only; omega) _).setCell (by dsimp only; omega) _).setCell (by dsimp only; omega) _).setCell (by dsimp only; omega) _).setCell (by dsimp only; omega) _⟩
end Go.Proofs.YtnkdhmoocomjfaaGreatDoor
namespace Go.Proofs.YtnkdhmoocomjfaaGreatDoor
open Go.RowKit
end Go.Proofs.YtnkdhmoocomjfaaGreatDoor
