/-
  Walks over the document's SameSorts, SameRecord, SameService, SameSaga and Same: they answer false of what is not the same. Conditions: those in the theorems.
  Walks over the document's SameSorts, SameRecord, SameService, SameSaga and Same: they answer false of what is not the same. Conditions: those in the theorems.
  Walks over the document's SameSorts, SameRecord, SameService, SameSaga and Same: they answer false of what is not the same. Conditions: those in the theorems.
  Walks over the document's SameSorts, SameRecord, SameService, SameSaga and Same: they answer false of what is not the same. Conditions: those in the theorems.
  Walks over the document's SameSorts, SameRecord, SameService, SameSaga and Same: they answer false of what is not the same. Conditions: those in the theorems.
-/
import Derived.Test.YtamkkdmbefekmaaGreatDoorPrSame
import Derived.StillTailTactics
set_option linter.unusedSimpArgs false
set_option linter.unusedVariables false
namespace Go.Proofs.YtamkkdmbefekmaaGreatDoor
open Go.RowKit
theorem str_no {a b : ByteArray} (h : a ≠ b) : (a.toList == b.toList) = false := (eqB_list a b).trans (Ip.eqB_no h)
theorem nat_no {a b : Nat} (h : a ≠ b) : (((a : Nat) : Int) == ((b : Nat) : Int)) = false := by rw [beq_eq_false_iff_ne]; omega
theorem bool_no {a b : Bool} (h : a ≠ b) : (a == b) = false := by cases a <;> cases b <;> first | rfl | exact absurd rfl h
theorem int_no {a b : Int} (h : a ≠ b) : (a == b) = false := by rw [beq_eq_false_iff_ne]; exact h
theorem list_ne {α : Type} {L M : List α} (hne : L ≠ M) (hl : L.length = M.length) (h : ∀ j, j < L.length → L[j]? = M[j]?) : False :=
  hne (List.ext_getElem? fun i => by
    by_cases hi : i < L.length
    · exact h i hi
    · rw [List.getElem?_eq_none (by omega), List.getElem?_eq_none (by omega)])
set_option maxRecDepth 100000 in
set_option maxHeartbeats 16000000 in
theorem SameSorts_no {w : World} {v1 v2 : Value}  {L M : List Ip.So} (h1 : RoSo w v1 L) (h2 : RoSo w v2 M) (hne : ¬ (L = M)) :
    Calls Tryz.prog 31 #[v1, v2] w fun e w' => e = .returned (.bool false) ∧ ∃ n, w' = w.drewN n := by
  obtain ⟨p1, k1, rfl, hl1, hl2⟩ := RoIs.shape h1
  obtain ⟨p2, k2, rfl, hm1, hm2⟩ := RoIs.shape h2
  have hlm : L.length ≤ 9223372036854775807 := Nat.le_trans hl1 hl2
  clear hl1 hl2 hm1 hm2
  have H1 := Lib.hid h1
  have H2 := Lib.hid h2
  clear h1 h2
  go_enter Tryz.func31, Tryz.ntmps31
  by_cases hlen : L.length = M.length
  case neg =>
    have e8 := nat_no hlen
    go_wp2_with fail
    go_ret
    exact ⟨rfl, 0, rfl⟩
  have hne2 : L ≠ M := hne
  have HE := Lib.hid (fun h => list_ne hne2 hlen h)
  have HM := Lib.hid hlen
  have e7 : (((L.length : Nat) : Int) != ((M.length : Nat) : Int)) = false := by rw [bne_eq_false_iff_eq]; omega
  clear hne hne2 hlen
  go_wp2_with fail

  go_loopw [5] (fun kv wr => ∃ k : Nat, k ≤ L.length ∧ kv = .int .i64 (k : Nat) ∧ Hid (∃ n, wr = w.drewN n) ∧ Hid (∀ j, j < k → L[j]? = M[j]?)) (fun kv _ => L.length - (intOf kv).toNat)
  case atStart => exact ⟨0, Nat.zero_le _, rfl, Lib.hid ⟨0, rfl⟩, Lib.hid fun j h => absurd h (Nat.not_lt_zero _)⟩
  case round =>
    obtain ⟨k, hk, rfl, H, HS⟩ := hrel
    have HB : Hid (Below w.heap.size w wr) := Lib.hid (by obtain ⟨n, e⟩ := H.out; rw [e]; exact dn_below w n)
    by_cases hlt : k < L.length
    · have i1 : (k : Int) < (L.length : Int) := by omega
      have i2 : (0 : Int) ≤ (k : Int) := by omega
      have hlt2 : k < M.length := by have := HM.out; omega
      obtain ⟨A, c3, t3, e3, hA, s3, a0, a1⟩ := ro_so (H1.out.below HB.out) hlt
      obtain ⟨B, c4, t4, e4, hB, s4, d0, d1⟩ := ro_so (H2.out.below HB.out) hlt2
      cases e3
      have i3 : (k : Int) < (M.length : Int) := by omega
      cases e4
      have HG : Hid (L[k] = M[k] → ∀ j, j < k + 1 → L[j]? = M[j]?) := Lib.hid fun h j hjk => by
        by_cases e : j < k
        · exact HS.out j e
        · obtain rfl : j = k := by omega
          rw [List.getElem?_eq_getElem hlt, List.getElem?_eq_getElem hlt2, h]
      clear HS
      clear s3 s4
      generalize L[k] = x at *
      generalize M[k] = y at *
      obtain ⟨xk, xn⟩ := x
      obtain ⟨yk, yn⟩ := y
      have e0 := a0 _ rfl
      have g0 := d0 _ rfl
      have e1 := a1 1 _ (by decide) rfl
      have g1 := d1 1 _ (by decide) rfl
      simp only [show kSo.k = 2 from rfl] at e0 g0 e1 g1
      clear a0 a1 d0 d1
      by_cases q0 : xk = yk
      case neg =>
        have e9 := nat_no q0
        go_wp2_with fail
        go_quiet (fail)
        go_wp2_with fail
        go_ret
        exact ⟨rfl, by obtain ⟨n, e⟩ := H.out; exact ⟨n + _, by rw [e, World.drewN_drewN]⟩⟩
      subst q0
      by_cases q1 : xn = yn
      case neg =>
        have e9 := str_no q1
        go_wp2_with fail
        go_quiet (fail)
        go_wp2_with fail
        go_ret
        exact ⟨rfl, by obtain ⟨n, e⟩ := H.out; exact ⟨n + _, by rw [e, World.drewN_drewN]⟩⟩
      subst q1
      go_wp2_with fail
      go_quiet (fail)
      go_wp2_with fail
      go_roundw
      case rel => exact ⟨k + 1, by omega, by go_num, Lib.hid (by obtain ⟨n, e⟩ := H.out; exact ⟨n + _, by rw [e, World.drewN_drewN]⟩), Lib.hid (HG.out (by first | rfl | trivial))⟩
      case measure => simp [intOf]; omega
    · obtain rfl : k = L.length := by omega
      exact (HE.out fun j hj => HS.out j hj).elim
end Go.Proofs.YtamkkdmbefekmaaGreatDoor
set_option linter.unusedSimpArgs false
set_option linter.unusedVariables false
namespace Go.Proofs.YtamkkdmbefekmaaGreatDoor
open Go.RowKit
set_option maxRecDepth 100000 in
set_option maxHeartbeats 16000000 in
theorem SameService_no {w : World} {v1 v2 : Value} {n0 m0 : ByteArray} {L M : List Ip.Mth} (h1 : RoMth w v1 L) (h2 : RoMth w v2 M) (hne : ¬ (n0 = m0 ∧ L = M)) :
    Calls Tryz.prog 64 #[.agg #[.string n0, v1], .agg #[.string m0, v2]] w fun e w' => e = .returned (.bool false) ∧ Below w.heap.size w w' := by
  obtain ⟨p1, k1, rfl, hl1, hl2⟩ := RoIs.shape h1
  obtain ⟨p2, k2, rfl, hm1, hm2⟩ := RoIs.shape h2
  have hlm : L.length ≤ 9223372036854775807 := Nat.le_trans hl1 hl2
  clear hl1 hl2 hm1 hm2
  obtain ⟨W0, hW0⟩ : ∃ W0, W0 = (w.alloc (.cells #[.string n0, .slice p1 L.length k1] 91)).alloc (.cells #[.string m0, .slice p2 M.length k2] 91) := ⟨_, rfl⟩
  have hb0 : Below w.heap.size w W0 := by rw [hW0]; exact (tk_alloc w _).trans ((tk_alloc _ _).mono (by rw [World.size_alloc]; omega))
  have hz0 : W0.heap[w.heap.size]? = some (.cells #[.string n0, .slice p1 L.length k1] 91 (0, 0)) := by
    rw [hW0]
    exact ((tk_alloc (w.alloc _) _).block _ (by rw [World.size_alloc]; omega)).trans (heap_alloc_new w _)
  have hn0 : W0.heap[w.heap.size + 1]? = some (.cells #[.string m0, .slice p2 M.length k2] 91 (0, 0)) := by
    rw [hW0]
    have := heap_alloc_new (w.alloc (.cells #[.string n0, .slice p1 L.length k1] 91)) (.cells #[.string m0, .slice p2 M.length k2] 91)
    rw [World.size_alloc] at this; exact this
  have HX : Hid (∀ W, Below W0.heap.size W0 W → W.heap[w.heap.size]? = some (.cells #[.string n0, .slice p1 L.length k1] 91 (0, 0)) ∧ W.heap[w.heap.size + 1]? = some (.cells #[.string m0, .slice p2 M.length k2] 91 (0, 0))) := Lib.hid fun W hW =>
    ⟨(hW.block _ (Array.getElem?_eq_some_iff.1 hz0).1).trans hz0, (hW.block _ (Array.getElem?_eq_some_iff.1 hn0).1).trans hn0⟩
  have H1 := Lib.hid (h1.below hb0)
  have H2 := Lib.hid (h2.below hb0)
  have HB0 := Lib.hid hb0
  obtain ⟨x0, x1⟩ := cells2 hz0
  obtain ⟨y0, y1⟩ := cells2 hn0
  clear h1 h2 hz0 hn0 hb0
  go_enter Tryz.func64, Tryz.ntmps64
  go_upto_region 1 with fail
  rw [← hW0]
  clear hW0
  by_cases qh0 : n0 = m0
  case neg =>
    have e8 := str_no qh0
    go_wp2_with fail
    go_ret
    exact ⟨rfl, HB0.out⟩
  subst qh0
  by_cases hlen : L.length = M.length
  case neg =>
    have e8 := nat_no hlen
    go_wp2_with fail
    go_ret
    exact ⟨rfl, HB0.out⟩
  have hne2 : L ≠ M := fun e => hne ⟨rfl, e⟩
  have HE := Lib.hid (fun h => list_ne hne2 hlen h)
  have HM := Lib.hid hlen
  have e7 : (((L.length : Nat) : Int) != ((M.length : Nat) : Int)) = false := by rw [bne_eq_false_iff_eq]; omega
  clear hne hne2 hlen
  go_wp2_with fail
  clear x0 x1 y0 y1
  go_loopw [5] (fun kv wr => ∃ k : Nat, k ≤ L.length ∧ kv = .int .i64 (k : Nat) ∧ Hid (∃ n, wr = W0.drewN n) ∧ Hid (∀ j, j < k → L[j]? = M[j]?)) (fun kv _ => L.length - (intOf kv).toNat)
  case atStart => exact ⟨0, Nat.zero_le _, rfl, Lib.hid ⟨0, rfl⟩, Lib.hid fun j h => absurd h (Nat.not_lt_zero _)⟩
  case round =>
    obtain ⟨k, hk, rfl, H, HS⟩ := hrel
    have HB : Hid (Below W0.heap.size W0 wr) := Lib.hid (by obtain ⟨n, e⟩ := H.out; rw [e]; exact dn_below W0 n)
    obtain ⟨hz, hn⟩ := HX.out _ HB.out
    obtain ⟨x0, x1⟩ := cells2 hz
    obtain ⟨y0, y1⟩ := cells2 hn
    clear hz hn
    by_cases hlt : k < L.length
    · have i1 : (k : Int) < (L.length : Int) := by omega
      have i2 : (0 : Int) ≤ (k : Int) := by omega
      have hlt2 : k < M.length := by have := HM.out; omega
      obtain ⟨A, c3, t3, e3, hA, s3, a0, a1⟩ := ro_mth (H1.out.below HB.out) hlt
      obtain ⟨B, c4, t4, e4, hB, s4, d0, d1⟩ := ro_mth (H2.out.below HB.out) hlt2
      cases e3
      have i3 : (k : Int) < (M.length : Int) := by omega
      cases e4
      have HG : Hid (L[k] = M[k] → ∀ j, j < k + 1 → L[j]? = M[j]?) := Lib.hid fun h j hjk => by
        by_cases e : j < k
        · exact HS.out j e
        · obtain rfl : j = k := by omega
          rw [List.getElem?_eq_getElem hlt, List.getElem?_eq_getElem hlt2, h]
      clear HS
      clear s3 s4
      generalize L[k] = x at *
      generalize M[k] = y at *
      obtain ⟨xn, xa, xr, xe, xu⟩ := x
      obtain ⟨yn, ya, yr, ye, yu⟩ := y
      have e0 := a0 _ rfl
      have g0 := d0 _ rfl
      have e1 := a1 1 _ (by decide) rfl
      have g1 := d1 1 _ (by decide) rfl
      have e2 := a1 2 _ (by decide) rfl
      have g2 := d1 2 _ (by decide) rfl
      have e3 := a1 3 _ (by decide) rfl
      have g3 := d1 3 _ (by decide) rfl
      have e4 := a1 4 _ (by decide) rfl
      have g4 := d1 4 _ (by decide) rfl
      simp only [show kMth.k = 5 from rfl] at e0 g0 e1 g1 e2 g2 e3 g3 e4 g4
      clear a0 a1 d0 d1
      by_cases q0 : xn = yn
      case neg =>
        have e9 := str_no q0
        go_wp2_with fail
        go_quiet (fail)
        go_wp2_with fail
        go_ret
        exact ⟨rfl, HB0.out.trans ((HB.out.trans (by first | exact Below.refl _ _ | exact (dn_below _ _).mono HB.out.size)).mono HB0.out.size)⟩
      subst q0
      by_cases q1 : xa = ya
      case neg =>
        have e9 := str_no q1
        go_wp2_with fail
        go_quiet (fail)
        go_wp2_with fail
        go_ret
        exact ⟨rfl, HB0.out.trans ((HB.out.trans (by first | exact Below.refl _ _ | exact (dn_below _ _).mono HB.out.size)).mono HB0.out.size)⟩
      subst q1
      by_cases q2 : xr = yr
      case neg =>
        have e9 := nat_no q2
        go_wp2_with fail
        go_quiet (fail)
        go_wp2_with fail
        go_ret
        exact ⟨rfl, HB0.out.trans ((HB.out.trans (by first | exact Below.refl _ _ | exact (dn_below _ _).mono HB.out.size)).mono HB0.out.size)⟩
      subst q2
      by_cases q3 : xe = ye
      case neg =>
        have e9 := str_no q3
        go_wp2_with fail
        go_quiet (fail)
        go_wp2_with fail
        go_ret
        exact ⟨rfl, HB0.out.trans ((HB.out.trans (by first | exact Below.refl _ _ | exact (dn_below _ _).mono HB.out.size)).mono HB0.out.size)⟩
      subst q3
      by_cases q4 : xu = yu
      case neg =>
        have e9 := str_no q4
        go_wp2_with fail
        go_quiet (fail)
        go_wp2_with fail
        go_ret
        exact ⟨rfl, HB0.out.trans ((HB.out.trans (by first | exact Below.refl _ _ | exact (dn_below _ _).mono HB.out.size)).mono HB0.out.size)⟩
      subst q4
      go_wp2_with fail
      go_quiet (fail)
      go_wp2_with fail
      go_roundw
      case rel => exact ⟨k + 1, by omega, by go_num, Lib.hid (by obtain ⟨n, e⟩ := H.out; exact ⟨n + _, by rw [e, World.drewN_drewN]⟩), Lib.hid (HG.out (by first | rfl | trivial))⟩
      case measure => simp [intOf]; omega
    · obtain rfl : k = L.length := by omega
      exact (HE.out fun j hj => HS.out j hj).elim
end Go.Proofs.YtamkkdmbefekmaaGreatDoor
set_option linter.unusedSimpArgs false
set_option linter.unusedVariables false
namespace Go.Proofs.YtamkkdmbefekmaaGreatDoor
open Go.RowKit
set_option maxRecDepth 100000 in
set_option maxHeartbeats 16000000 in
theorem SameSaga_no {w : World} {v1 v2 : Value} {n0 m0 : ByteArray} {n1 m1 : ByteArray} {L M : List Ip.Stp} (h1 : RoStp w v1 L) (h2 : RoStp w v2 M) (hne : ¬ (n0 = m0 ∧ n1 = m1 ∧ L = M)) :
    Calls Tryz.prog 16 #[.agg #[.string n0, .string n1, v1], .agg #[.string m0, .string m1, v2]] w fun e w' => e = .returned (.bool false) ∧ Below w.heap.size w w' := by
  obtain ⟨p1, k1, rfl, hl1, hl2⟩ := RoIs.shape h1
  obtain ⟨p2, k2, rfl, hm1, hm2⟩ := RoIs.shape h2
  have hlm : L.length ≤ 9223372036854775807 := Nat.le_trans hl1 hl2
  clear hl1 hl2 hm1 hm2
  obtain ⟨W0, hW0⟩ : ∃ W0, W0 = (w.alloc (.cells #[.string n0, .string n1, .slice p1 L.length k1] 34)).alloc (.cells #[.string m0, .string m1, .slice p2 M.length k2] 34) := ⟨_, rfl⟩
  have hb0 : Below w.heap.size w W0 := by rw [hW0]; exact (tk_alloc w _).trans ((tk_alloc _ _).mono (by rw [World.size_alloc]; omega))
  have hz0 : W0.heap[w.heap.size]? = some (.cells #[.string n0, .string n1, .slice p1 L.length k1] 34 (0, 0)) := by
    rw [hW0]
    exact ((tk_alloc (w.alloc _) _).block _ (by rw [World.size_alloc]; omega)).trans (heap_alloc_new w _)
  have hn0 : W0.heap[w.heap.size + 1]? = some (.cells #[.string m0, .string m1, .slice p2 M.length k2] 34 (0, 0)) := by
    rw [hW0]
    have := heap_alloc_new (w.alloc (.cells #[.string n0, .string n1, .slice p1 L.length k1] 34)) (.cells #[.string m0, .string m1, .slice p2 M.length k2] 34)
    rw [World.size_alloc] at this; exact this
  have HX : Hid (∀ W, Below W0.heap.size W0 W → W.heap[w.heap.size]? = some (.cells #[.string n0, .string n1, .slice p1 L.length k1] 34 (0, 0)) ∧ W.heap[w.heap.size + 1]? = some (.cells #[.string m0, .string m1, .slice p2 M.length k2] 34 (0, 0))) := Lib.hid fun W hW =>
    ⟨(hW.block _ (Array.getElem?_eq_some_iff.1 hz0).1).trans hz0, (hW.block _ (Array.getElem?_eq_some_iff.1 hn0).1).trans hn0⟩
  have H1 := Lib.hid (h1.below hb0)
  have H2 := Lib.hid (h2.below hb0)
  have HB0 := Lib.hid hb0
  obtain ⟨x0, x1, x2⟩ := cells3 hz0
  obtain ⟨y0, y1, y2⟩ := cells3 hn0
  clear h1 h2 hz0 hn0 hb0
  go_enter Tryz.func16, Tryz.ntmps16
  go_upto_region 1 with fail
  rw [← hW0]
  clear hW0
  by_cases qh0 : n0 = m0
  case neg =>
    have e8 := str_no qh0
    go_wp2_with fail
    go_ret
    exact ⟨rfl, HB0.out⟩
  subst qh0
  by_cases qh1 : n1 = m1
  case neg =>
    have e8 := str_no qh1
    go_wp2_with fail
    go_ret
    exact ⟨rfl, HB0.out⟩
  subst qh1
  by_cases hlen : L.length = M.length
  case neg =>
    have e8 := nat_no hlen
    go_wp2_with fail
    go_ret
    exact ⟨rfl, HB0.out⟩
  have hne2 : L ≠ M := fun e => hne ⟨rfl, rfl, e⟩
  have HE := Lib.hid (fun h => list_ne hne2 hlen h)
  have HM := Lib.hid hlen
  have e7 : (((L.length : Nat) : Int) != ((M.length : Nat) : Int)) = false := by rw [bne_eq_false_iff_eq]; omega
  clear hne hne2 hlen
  go_wp2_with fail
  clear x0 x1 x2 y0 y1 y2
  go_loopw [5] (fun kv wr => ∃ k : Nat, k ≤ L.length ∧ kv = .int .i64 (k : Nat) ∧ Hid (∃ n, wr = W0.drewN n) ∧ Hid (∀ j, j < k → L[j]? = M[j]?)) (fun kv _ => L.length - (intOf kv).toNat)
  case atStart => exact ⟨0, Nat.zero_le _, rfl, Lib.hid ⟨0, rfl⟩, Lib.hid fun j h => absurd h (Nat.not_lt_zero _)⟩
  case round =>
    obtain ⟨k, hk, rfl, H, HS⟩ := hrel
    have HB : Hid (Below W0.heap.size W0 wr) := Lib.hid (by obtain ⟨n, e⟩ := H.out; rw [e]; exact dn_below W0 n)
    obtain ⟨hz, hn⟩ := HX.out _ HB.out
    obtain ⟨x0, x1, x2⟩ := cells3 hz
    obtain ⟨y0, y1, y2⟩ := cells3 hn
    clear hz hn
    by_cases hlt : k < L.length
    · have i1 : (k : Int) < (L.length : Int) := by omega
      have i2 : (0 : Int) ≤ (k : Int) := by omega
      have hlt2 : k < M.length := by have := HM.out; omega
      obtain ⟨A, c3, t3, e3, hA, s3, a0, a1⟩ := ro_stp (H1.out.below HB.out) hlt
      obtain ⟨B, c4, t4, e4, hB, s4, d0, d1⟩ := ro_stp (H2.out.below HB.out) hlt2
      cases e3
      have i3 : (k : Int) < (M.length : Int) := by omega
      cases e4
      have HG : Hid (L[k] = M[k] → ∀ j, j < k + 1 → L[j]? = M[j]?) := Lib.hid fun h j hjk => by
        by_cases e : j < k
        · exact HS.out j e
        · obtain rfl : j = k := by omega
          rw [List.getElem?_eq_getElem hlt, List.getElem?_eq_getElem hlt2, h]
      clear HS
      clear s3 s4
      generalize L[k] = x at *
      generalize M[k] = y at *
      obtain ⟨xs, xm, xa⟩ := x
      obtain ⟨ys, ym, ya⟩ := y
      have e0 := a0 _ rfl
      have g0 := d0 _ rfl
      have e1 := a1 1 _ (by decide) rfl
      have g1 := d1 1 _ (by decide) rfl
      have e2 := a1 2 _ (by decide) rfl
      have g2 := d1 2 _ (by decide) rfl
      simp only [show kStp.k = 3 from rfl] at e0 g0 e1 g1 e2 g2
      clear a0 a1 d0 d1
      by_cases q0 : xs = ys
      case neg =>
        have e9 := str_no q0
        go_wp2_with fail
        go_quiet (fail)
        go_wp2_with fail
        go_ret
        exact ⟨rfl, HB0.out.trans ((HB.out.trans (by first | exact Below.refl _ _ | exact (dn_below _ _).mono HB.out.size)).mono HB0.out.size)⟩
      subst q0
      by_cases q1 : xm = ym
      case neg =>
        have e9 := str_no q1
        go_wp2_with fail
        go_quiet (fail)
        go_wp2_with fail
        go_ret
        exact ⟨rfl, HB0.out.trans ((HB.out.trans (by first | exact Below.refl _ _ | exact (dn_below _ _).mono HB.out.size)).mono HB0.out.size)⟩
      subst q1
      by_cases q2 : xa = ya
      case neg =>
        have e9 := int_no q2
        go_wp2_with fail
        go_quiet (fail)
        go_wp2_with fail
        go_ret
        exact ⟨rfl, HB0.out.trans ((HB.out.trans (by first | exact Below.refl _ _ | exact (dn_below _ _).mono HB.out.size)).mono HB0.out.size)⟩
      subst q2
      go_wp2_with fail
      go_quiet (fail)
      go_wp2_with fail
      go_roundw
      case rel => exact ⟨k + 1, by omega, by go_num, Lib.hid (by obtain ⟨n, e⟩ := H.out; exact ⟨n + _, by rw [e, World.drewN_drewN]⟩), Lib.hid (HG.out (by first | rfl | trivial))⟩
      case measure => simp [intOf]; omega
    · obtain rfl : k = L.length := by omega
      exact (HE.out fun j hj => HS.out j hj).elim
end Go.Proofs.YtamkkdmbefekmaaGreatDoor
set_option linter.unusedSimpArgs false
set_option linter.unusedVariables false
namespace Go.Proofs.YtamkkdmbefekmaaGreatDoor
open Go.RowKit
set_option maxRecDepth 100000 in
set_option maxHeartbeats 16000000 in
theorem SameRecord_no {w : World} {v1 v2 : Value} {n0 m0 : ByteArray} {n1 m1 : Bool} {L M : List Ip.Fld} (h1 : RoFld w v1 L) (h2 : RoFld w v2 M) (hls : ∀ x ∈ L, x.type.length ≤ 1000000) (hne : ¬ (n0 = m0 ∧ n1 = m1 ∧ L = M)) :
    Calls Tryz.prog 19 #[.agg #[.string n0, .bool n1, v1], .agg #[.string m0, .bool m1, v2]] w fun e w' => e = .returned (.bool false) ∧ Below w.heap.size w w' := by
  obtain ⟨p1, k1, rfl, hl1, hl2⟩ := RoIs.shape h1
  obtain ⟨p2, k2, rfl, hm1, hm2⟩ := RoIs.shape h2
  have hlm : L.length ≤ 9223372036854775807 := Nat.le_trans hl1 hl2
  clear hl1 hl2 hm1 hm2
  have HLS := Lib.hid hls
  clear hls
  obtain ⟨W0, hW0⟩ : ∃ W0, W0 = (w.alloc (.cells #[.string n0, .bool n1, .slice p1 L.length k1] 46)).alloc (.cells #[.string m0, .bool m1, .slice p2 M.length k2] 46) := ⟨_, rfl⟩
  have hb0 : Below w.heap.size w W0 := by rw [hW0]; exact (tk_alloc w _).trans ((tk_alloc _ _).mono (by rw [World.size_alloc]; omega))
  have hz0 : W0.heap[w.heap.size]? = some (.cells #[.string n0, .bool n1, .slice p1 L.length k1] 46 (0, 0)) := by
    rw [hW0]
    exact ((tk_alloc (w.alloc _) _).block _ (by rw [World.size_alloc]; omega)).trans (heap_alloc_new w _)
  have hn0 : W0.heap[w.heap.size + 1]? = some (.cells #[.string m0, .bool m1, .slice p2 M.length k2] 46 (0, 0)) := by
    rw [hW0]
    have := heap_alloc_new (w.alloc (.cells #[.string n0, .bool n1, .slice p1 L.length k1] 46)) (.cells #[.string m0, .bool m1, .slice p2 M.length k2] 46)
    rw [World.size_alloc] at this; exact this
  have HX : Hid (∀ W, Below W0.heap.size W0 W → W.heap[w.heap.size]? = some (.cells #[.string n0, .bool n1, .slice p1 L.length k1] 46 (0, 0)) ∧ W.heap[w.heap.size + 1]? = some (.cells #[.string m0, .bool m1, .slice p2 M.length k2] 46 (0, 0))) := Lib.hid fun W hW =>
    ⟨(hW.block _ (Array.getElem?_eq_some_iff.1 hz0).1).trans hz0, (hW.block _ (Array.getElem?_eq_some_iff.1 hn0).1).trans hn0⟩
  have H1 := Lib.hid (h1.below hb0)
  have H2 := Lib.hid (h2.below hb0)
  have HB0 := Lib.hid hb0
  obtain ⟨x0, x1, x2⟩ := cells3 hz0
  obtain ⟨y0, y1, y2⟩ := cells3 hn0
  clear h1 h2 hz0 hn0 hb0
  go_enter Tryz.func19, Tryz.ntmps19
  go_upto_region 1 with fail
  rw [← hW0]
  clear hW0
  by_cases qh0 : n0 = m0
  case neg =>
    have e8 := str_no qh0
    go_wp2_with fail
    go_ret
    exact ⟨rfl, HB0.out⟩
  subst qh0
  by_cases qh1 : n1 = m1
  case neg =>
    have e8 := bool_no qh1
    go_wp2_with fail
    go_ret
    exact ⟨rfl, HB0.out⟩
  subst qh1
  by_cases hlen : L.length = M.length
  case neg =>
    have e8 := nat_no hlen
    go_wp2_with fail
    go_ret
    exact ⟨rfl, HB0.out⟩
  have hne2 : L ≠ M := fun e => hne ⟨rfl, rfl, e⟩
  have HE := Lib.hid (fun h => list_ne hne2 hlen h)
  have HM := Lib.hid hlen
  have e7 : (((L.length : Nat) : Int) != ((M.length : Nat) : Int)) = false := by rw [bne_eq_false_iff_eq]; omega
  clear hne hne2 hlen
  go_wp2_with fail
  clear x0 x1 x2 y0 y1 y2
  go_loopw [5] (fun kv wr => ∃ k : Nat, k ≤ L.length ∧ kv = .int .i64 (k : Nat) ∧ Hid (∃ n, wr = W0.drewN n) ∧ Hid (∀ j, j < k → L[j]? = M[j]?)) (fun kv _ => L.length - (intOf kv).toNat)
  case atStart => exact ⟨0, Nat.zero_le _, rfl, Lib.hid ⟨0, rfl⟩, Lib.hid fun j h => absurd h (Nat.not_lt_zero _)⟩
  case round =>
    obtain ⟨k, hk, rfl, H, HS⟩ := hrel
    have HB : Hid (Below W0.heap.size W0 wr) := Lib.hid (by obtain ⟨n, e⟩ := H.out; rw [e]; exact dn_below W0 n)
    obtain ⟨hz, hn⟩ := HX.out _ HB.out
    obtain ⟨x0, x1, x2⟩ := cells3 hz
    obtain ⟨y0, y1, y2⟩ := cells3 hn
    clear hz hn
    by_cases hlt : k < L.length
    · have i1 : (k : Int) < (L.length : Int) := by omega
      have i2 : (0 : Int) ≤ (k : Int) := by omega
      have hlt2 : k < M.length := by have := HM.out; omega
      obtain ⟨A, c3, t3, e3, hA, s3, a0, a1⟩ := ro_fld (H1.out.below HB.out) hlt
      obtain ⟨B, c4, t4, e4, hB, s4, d0, d1⟩ := ro_fld (H2.out.below HB.out) hlt2
      cases e3
      have i3 : (k : Int) < (M.length : Int) := by omega
      cases e4
      have HG : Hid (L[k] = M[k] → ∀ j, j < k + 1 → L[j]? = M[j]?) := Lib.hid fun h j hjk => by
        by_cases e : j < k
        · exact HS.out j e
        · obtain rfl : j = k := by omega
          rw [List.getElem?_eq_getElem hlt, List.getElem?_eq_getElem hlt2, h]
      clear HS
      have hlx := HLS.out _ (List.getElem_mem hlt)
      generalize L[k] = x at *
      generalize M[k] = y at *
      obtain ⟨xn, xt⟩ := x
      obtain ⟨yn, yt⟩ := y
      have e0 := a0 _ rfl
      have g0 := d0 _ rfl
      have e1 := a1 1 _ (by decide) rfl
      have g1 := d1 1 _ (by decide) rfl
      simp only [show kFld.k = 2 from rfl] at e0 g0 e1 g1
      clear a0 a1 d0 d1
      obtain ⟨q3, l3, rfl, -, -⟩ := RoIs.shape s3
      obtain ⟨q4, l4, rfl, -, -⟩ := RoIs.shape s4
      by_cases q0 : xn = yn
      case neg =>
        have e9 := str_no q0
        clear s3 s4
        go_wp2_with fail
        go_quiet (fail)
        go_wp2_with fail
        go_ret
        exact ⟨rfl, HB0.out.trans ((HB.out.trans (by first | exact Below.refl _ _ | exact (dn_below _ _).mono HB.out.size)).mono HB0.out.size)⟩
      subst q0
      by_cases q1 : xt = yt
      case neg =>
        have HQ := Lib.hid (fun m => SameSorts_no (RoSo.below s3 (dn_below wr m)) (RoSo.below s4 (dn_below wr m)) q1)
        clear s3 s4
        go_wp2_with fail
        go_quiet ((go_at_call 31; exact Calls.quiet_of (HQ.out _)))
        go_wp2_with fail
        go_ret
        exact ⟨rfl, HB0.out.trans ((HB.out.trans (by first | exact Below.refl _ _ | exact (dn_below _ _).mono HB.out.size)).mono HB0.out.size)⟩
      subst q1
      have HQ := Lib.hid (fun m => SameSorts_ro (RoSo.below s3 (dn_below wr m)) (RoSo.below s4 (dn_below wr m)) hlx)
      clear s3 s4
      go_wp2_with fail
      go_quiet ((go_at_call 31; exact Calls.quiet_of (HQ.out _)))
      go_wp2_with fail
      go_roundw
      case rel => exact ⟨k + 1, by omega, by go_num, Lib.hid (by obtain ⟨n, e⟩ := H.out; exact ⟨n + _, by rw [e, World.drewN_drewN]⟩), Lib.hid (HG.out (by first | rfl | trivial))⟩
      case measure => simp [intOf]; omega
    · obtain rfl : k = L.length := by omega
      exact (HE.out fun j hj => HS.out j hj).elim
end Go.Proofs.YtamkkdmbefekmaaGreatDoor
set_option linter.unusedSimpArgs false
set_option linter.unusedVariables false
namespace Go.Proofs.YtamkkdmbefekmaaGreatDoor
open Go.RowKit
set_option maxRecDepth 100000 in
set_option maxHeartbeats 16000000 in
theorem Same_no {w : World} {v1 v2 : Value} {s s2 : Ip.Sch} (h1 : RoSch w v1 s) (h2 : RoSch w v2 s2) (hf : Ip.Few 1000000 s) (hne : s ≠ s2) :
    Calls Tryz.prog 29 #[v1, v2] w fun e w' => e = .returned (.bool false) ∧ Below w.heap.size w w' := by
  obtain ⟨vr, vs, vg, rfl, -, r1, s1, g1⟩ := h1
  obtain ⟨ur, us, ug, rfl, -, r2, s2_, g2⟩ := h2
  obtain ⟨p1, k1, rfl, b1, b2⟩ := RoIs.shape r1
  obtain ⟨p2, k2, rfl, b3, b4⟩ := RoIs.shape s1
  obtain ⟨p3, k3, rfl, b5, b6⟩ := RoIs.shape g1
  obtain ⟨p4, k4, rfl, -, -⟩ := RoIs.shape r2
  obtain ⟨p5, k5, rfl, -, -⟩ := RoIs.shape s2_
  obtain ⟨p6, k6, rfl, -, -⟩ := RoIs.shape g2
  have m1 := Nat.le_trans b1 b2
  have m2 := Nat.le_trans b3 b4
  have m3 := Nat.le_trans b5 b6
  unfold maxLen at m1 m2 m3
  clear b1 b2 b3 b4 b5 b6
  obtain ⟨nm, R, Sv, G⟩ := s
  obtain ⟨nm2, R2, Sv2, G2⟩ := s2
  simp only at r1 s1 g1 r2 s2_ g2 m1 m2 m3
  obtain ⟨W0, hW0⟩ : ∃ W0, W0 = (w.alloc (.cells #[.string nm, .slice p1 R.length k1, .slice p2 Sv.length k2, .slice p3 G.length k3] 26)).alloc (.cells #[.string nm2, .slice p4 R2.length k4, .slice p5 Sv2.length k5, .slice p6 G2.length k6] 26) := ⟨_, rfl⟩
  have hb0 : Below w.heap.size w W0 := by rw [hW0]; exact (tk_alloc w _).trans ((tk_alloc _ _).mono (by rw [World.size_alloc]; omega))
  have hz0 : W0.heap[w.heap.size]? = some (.cells #[.string nm, .slice p1 R.length k1, .slice p2 Sv.length k2, .slice p3 G.length k3] 26 (0, 0)) := by
    rw [hW0]
    exact ((tk_alloc (w.alloc _) _).block _ (by rw [World.size_alloc]; omega)).trans (heap_alloc_new w _)
  have hn0 : W0.heap[w.heap.size + 1]? = some (.cells #[.string nm2, .slice p4 R2.length k4, .slice p5 Sv2.length k5, .slice p6 G2.length k6] 26 (0, 0)) := by
    rw [hW0]
    have := heap_alloc_new (w.alloc (.cells #[.string nm, .slice p1 R.length k1, .slice p2 Sv.length k2, .slice p3 G.length k3] 26)) (.cells #[.string nm2, .slice p4 R2.length k4, .slice p5 Sv2.length k5, .slice p6 G2.length k6] 26)
    rw [World.size_alloc] at this; exact this
  have HX : Hid (∀ W, Below W0.heap.size W0 W → W.heap[w.heap.size]? = some (.cells #[.string nm, .slice p1 R.length k1, .slice p2 Sv.length k2, .slice p3 G.length k3] 26 (0, 0)) ∧ W.heap[w.heap.size + 1]? = some (.cells #[.string nm2, .slice p4 R2.length k4, .slice p5 Sv2.length k5, .slice p6 G2.length k6] 26 (0, 0))) := Lib.hid fun W hW =>
    ⟨(hW.block _ (Array.getElem?_eq_some_iff.1 hz0).1).trans hz0, (hW.block _ (Array.getElem?_eq_some_iff.1 hn0).1).trans hn0⟩
  have HR1 := Lib.hid (r1.below hb0)
  have HR2 := Lib.hid (r2.below hb0)
  have HS1 := Lib.hid (s1.below hb0)
  have HS2 := Lib.hid (s2_.below hb0)
  have HG1 := Lib.hid (g1.below hb0)
  have HG2 := Lib.hid (g2.below hb0)
  have HB0 := Lib.hid hb0
  have HF := Lib.hid hf
  obtain ⟨x0, x1, x2, x3⟩ := cells4 hz0
  obtain ⟨y0, y1, y2, y3⟩ := cells4 hn0
  clear r1 r2 s1 s2_ g1 g2 hz0 hn0 hb0 hf
  go_enter Tryz.func29, Tryz.ntmps29
  go_upto_region 1 with fail
  rw [← hW0]
  clear hW0
  by_cases qn : nm = nm2
  case neg =>
    have e8 := str_no qn
    go_wp2_with fail
    go_ret
    exact ⟨rfl, HB0.out⟩
  subst qn
  by_cases qr : R.length = R2.length
  case neg =>
    have e8 := nat_no qr
    go_wp2_with fail
    go_ret
    exact ⟨rfl, HB0.out⟩
  have eqr : (((R.length : Nat) : Int) != ((R2.length : Nat) : Int)) = false := by rw [bne_eq_false_iff_eq]; omega
  by_cases qs : Sv.length = Sv2.length
  case neg =>
    have e8 := nat_no qs
    go_wp2_with fail
    go_ret
    exact ⟨rfl, HB0.out⟩
  have eqs : (((Sv.length : Nat) : Int) != ((Sv2.length : Nat) : Int)) = false := by rw [bne_eq_false_iff_eq]; omega
  by_cases qg : G.length = G2.length
  case neg =>
    have e8 := nat_no qg
    go_wp2_with fail
    go_ret
    exact ⟨rfl, HB0.out⟩
  have eqg : (((G.length : Nat) : Int) != ((G2.length : Nat) : Int)) = false := by rw [bne_eq_false_iff_eq]; omega
  have HE : Hid (R = R2 → Sv = Sv2 → G = G2 → False) := Lib.hid fun a b c => hne (by rw [a, b, c])
  have HQR := Lib.hid qr
  have HQS := Lib.hid qs
  have HQG := Lib.hid qg
  clear hne qr qs qg
  go_wp2_with fail
  clear x0 x1 x2 x3 y0 y1 y2 y3
  go_loopw [5] (fun kv wr => ∃ k : Nat, k ≤ R.length ∧ kv = .int .i64 (k : Nat) ∧ Hid (Below W0.heap.size W0 wr) ∧ Hid (∀ j, j < k → R[j]? = R2[j]?)) (fun kv _ => R.length - (intOf kv).toNat)
  case atStart => exact ⟨0, Nat.zero_le _, rfl, Lib.hid (Below.refl _ _), Lib.hid fun j h => absurd h (Nat.not_lt_zero _)⟩
  case round =>
    obtain ⟨k, hk, rfl, HB, HS⟩ := hrel
    obtain ⟨hz, hn⟩ := HX.out _ HB.out
    obtain ⟨x0, x1, x2, x3⟩ := cells4 hz
    obtain ⟨y0, y1, y2, y3⟩ := cells4 hn
    clear hz hn
    by_cases hlt : k < R.length
    · have i1 : (k : Int) < (R.length : Int) := by omega
      have i2 : (0 : Int) ≤ (k : Int) := by omega
      have hlt2 : k < R2.length := by have := HQR.out; omega
      have i3 : (k : Int) < (R2.length : Int) := by omega
      obtain ⟨A, c3, t3, e3, hA, s3, a0, a1⟩ := ro_rcd (HR1.out.below HB.out) hlt
      obtain ⟨B, c4, t4, e4, hB, s4, d0, d1⟩ := ro_rcd (HR2.out.below HB.out) hlt2
      cases e3
      cases e4
      have hfx := HF.out.recX _ (List.getElem_mem hlt)
      have HGG : Hid (R[k] = R2[k] → ∀ j, j < k + 1 → R[j]? = R2[j]?) := Lib.hid fun h j hjk => by
        by_cases e : j < k
        · exact HS.out j e
        · obtain rfl : j = k := by omega
          rw [List.getElem?_eq_getElem hlt, List.getElem?_eq_getElem hlt2, h]
      clear HS
      generalize R[k] = x at *
      generalize R2[k] = y at *
      by_cases hxy : x = y
      · have HGO := Lib.hid (HGG.out hxy)
        subst hxy
        clear HGG
        obtain ⟨xn, xc, xf⟩ := x
        obtain ⟨q3, l3, rfl, -, -⟩ := RoIs.shape s3
        obtain ⟨q4, l4, rfl, -, -⟩ := RoIs.shape s4
        have e0 := a0 _ rfl
        have g0 := d0 _ rfl
        have e1 := a1 1 _ (by decide) rfl
        have g1 := d1 1 _ (by decide) rfl
        have e2 := a1 2 _ (by decide) rfl
        have g2 := d1 2 _ (by decide) rfl
        simp only [show kRcd.k = 3 from rfl] at e0 g0 e1 g1 e2 g2
        have HQ := Lib.hid (fun W (hW : Below wr.heap.size wr W) => SameRecord_ro (n := xn) (ch := xc) (RoFld.below s3 hW) (RoFld.below s4 hW) hfx.1 hfx.2)
        clear a0 a1 d0 d1 s3 s4 hfx
        go_wp2_with fail
        go_still_tail 10, (by kernel_rfl)
        change wpList _ _ _ _ _ wr.drew
        have hdr : Below wr.heap.size wr wr.drew := (Below.refl _ _).drew
        generalize wr.drew = w5 at *
        have HD := Lib.hid hdr
        clear hdr
        go_wp2_with fail
        refine (HQ.out _ HD.out).mono ?_
        rintro e w6 ⟨rfl, hb6⟩
        have HB6 := Lib.hid (HB.out.trans ((HD.out.trans (hb6.mono HD.out.size)).mono HB.out.size))
        clear hb6
        go_wp2_with fail
        go_roundw
        case rel => exact ⟨k + 1, by omega, by go_num, HB6, HGO⟩
        case measure => simp [intOf]; omega
      · clear HGG
        obtain ⟨xn, xc, xf⟩ := x
        obtain ⟨yn, yc, yf⟩ := y
        obtain ⟨q3, l3, rfl, -, -⟩ := RoIs.shape s3
        obtain ⟨q4, l4, rfl, -, -⟩ := RoIs.shape s4
        have e0 := a0 _ rfl
        have g0 := d0 _ rfl
        have e1 := a1 1 _ (by decide) rfl
        have g1 := d1 1 _ (by decide) rfl
        have e2 := a1 2 _ (by decide) rfl
        have g2 := d1 2 _ (by decide) rfl
        simp only [show kRcd.k = 3 from rfl] at e0 g0 e1 g1 e2 g2
        have HQ := Lib.hid (fun W (hW : Below wr.heap.size wr W) => SameRecord_no (n0 := xn) (m0 := yn) (n1 := xc) (m1 := yc) (RoFld.below s3 hW) (RoFld.below s4 hW) hfx.2 (fun e => hxy (by have c : xf = yf := e.2.2; rw [e.1, e.2.1, c])))
        clear a0 a1 d0 d1 s3 s4 hfx hxy
        go_wp2_with fail
        go_still_tail 10, (by kernel_rfl)
        change wpList _ _ _ _ _ wr.drew
        have hdr : Below wr.heap.size wr wr.drew := (Below.refl _ _).drew
        generalize wr.drew = w5 at *
        have HD := Lib.hid hdr
        clear hdr
        go_wp2_with fail
        refine (HQ.out _ HD.out).mono ?_
        rintro e w6 ⟨rfl, hb6⟩
        have HB6 := Lib.hid (HB.out.trans ((HD.out.trans (hb6.mono HD.out.size)).mono HB.out.size))
        clear hb6
        go_wp2_with fail
        go_ret
        exact ⟨rfl, HB0.out.trans (HB6.out.mono HB0.out.size)⟩
    · obtain rfl : k = R.length := by omega
      have i1 : ¬ (R.length : Int) < (R.length : Int) := by omega
      have HEQ5 : Hid (R = R2) := Lib.hid (Classical.byContradiction fun h => list_ne h HQR.out fun j hj => HS.out j hj)
      go_wp2_with fail
      have HBa := HB
      clear x0 x1 x2 x3 y0 y1 y2 y3 HB i1 hk hlt HS
      go_loopw [6] (fun kv wr => ∃ k : Nat, k ≤ Sv.length ∧ kv = .int .i64 (k : Nat) ∧ Hid (Below W0.heap.size W0 wr) ∧ Hid (∀ j, j < k → Sv[j]? = Sv2[j]?)) (fun kv _ => Sv.length - (intOf kv).toNat)
      case atStart => exact ⟨0, Nat.zero_le _, rfl, HBa, Lib.hid fun j h => absurd h (Nat.not_lt_zero _)⟩
      case round =>
        obtain ⟨k, hk, rfl, HB, HS⟩ := hrel
        obtain ⟨hz, hn⟩ := HX.out _ HB.out
        obtain ⟨x0, x1, x2, x3⟩ := cells4 hz
        obtain ⟨y0, y1, y2, y3⟩ := cells4 hn
        clear hz hn
        by_cases hlt : k < Sv.length
        · have i1 : (k : Int) < (Sv.length : Int) := by omega
          have i2 : (0 : Int) ≤ (k : Int) := by omega
          have hlt2 : k < Sv2.length := by have := HQS.out; omega
          have i3 : (k : Int) < (Sv2.length : Int) := by omega
          obtain ⟨A, c3, t3, e3, hA, s3, a0, a1⟩ := ro_srv (HS1.out.below HB.out) hlt
          obtain ⟨B, c4, t4, e4, hB, s4, d0, d1⟩ := ro_srv (HS2.out.below HB.out) hlt2
          cases e3
          cases e4
          have hfx := HF.out.srvX _ (List.getElem_mem hlt)
          have HGG : Hid (Sv[k] = Sv2[k] → ∀ j, j < k + 1 → Sv[j]? = Sv2[j]?) := Lib.hid fun h j hjk => by
            by_cases e : j < k
            · exact HS.out j e
            · obtain rfl : j = k := by omega
              rw [List.getElem?_eq_getElem hlt, List.getElem?_eq_getElem hlt2, h]
          clear HS
          generalize Sv[k] = x at *
          generalize Sv2[k] = y at *
          by_cases hxy : x = y
          · have HGO := Lib.hid (HGG.out hxy)
            subst hxy
            clear HGG
            obtain ⟨xn, xf⟩ := x
            obtain ⟨q3, l3, rfl, -, -⟩ := RoIs.shape s3
            obtain ⟨q4, l4, rfl, -, -⟩ := RoIs.shape s4
            have e0 := a0 _ rfl
            have g0 := d0 _ rfl
            have e1 := a1 1 _ (by decide) rfl
            have g1 := d1 1 _ (by decide) rfl
            simp only [show kSrv.k = 2 from rfl] at e0 g0 e1 g1
            have HQ := Lib.hid (fun W (hW : Below wr.heap.size wr W) => SameService_ro (n := xn) (RoMth.below s3 hW) (RoMth.below s4 hW) hfx)
            clear a0 a1 d0 d1 s3 s4 hfx
            go_wp2_with fail
            go_still_tail 10, (by kernel_rfl)
            change wpList _ _ _ _ _ wr.drew
            have hdr : Below wr.heap.size wr wr.drew := (Below.refl _ _).drew
            generalize wr.drew = w5 at *
            have HD := Lib.hid hdr
            clear hdr
            go_wp2_with fail
            refine (HQ.out _ HD.out).mono ?_
            rintro e w6 ⟨rfl, hb6⟩
            have HB6 := Lib.hid (HB.out.trans ((HD.out.trans (hb6.mono HD.out.size)).mono HB.out.size))
            clear hb6
            go_wp2_with fail
            go_roundw
            case rel => exact ⟨k + 1, by omega, by go_num, HB6, HGO⟩
            case measure => simp [intOf]; omega
          · clear HGG
            obtain ⟨xn, xf⟩ := x
            obtain ⟨yn, yf⟩ := y
            obtain ⟨q3, l3, rfl, -, -⟩ := RoIs.shape s3
            obtain ⟨q4, l4, rfl, -, -⟩ := RoIs.shape s4
            have e0 := a0 _ rfl
            have g0 := d0 _ rfl
            have e1 := a1 1 _ (by decide) rfl
            have g1 := d1 1 _ (by decide) rfl
            simp only [show kSrv.k = 2 from rfl] at e0 g0 e1 g1
            have HQ := Lib.hid (fun W (hW : Below wr.heap.size wr W) => SameService_no (n0 := xn) (m0 := yn) (RoMth.below s3 hW) (RoMth.below s4 hW) (fun e => hxy (by have c : xf = yf := e.2; rw [e.1, c])))
            clear a0 a1 d0 d1 s3 s4 hfx hxy
            go_wp2_with fail
            go_still_tail 10, (by kernel_rfl)
            change wpList _ _ _ _ _ wr.drew
            have hdr : Below wr.heap.size wr wr.drew := (Below.refl _ _).drew
            generalize wr.drew = w5 at *
            have HD := Lib.hid hdr
            clear hdr
            go_wp2_with fail
            refine (HQ.out _ HD.out).mono ?_
            rintro e w6 ⟨rfl, hb6⟩
            have HB6 := Lib.hid (HB.out.trans ((HD.out.trans (hb6.mono HD.out.size)).mono HB.out.size))
            clear hb6
            go_wp2_with fail
            go_ret
            exact ⟨rfl, HB0.out.trans (HB6.out.mono HB0.out.size)⟩
        · obtain rfl : k = Sv.length := by omega
          have i1 : ¬ (Sv.length : Int) < (Sv.length : Int) := by omega
          have HEQ6 : Hid (Sv = Sv2) := Lib.hid (Classical.byContradiction fun h => list_ne h HQS.out fun j hj => HS.out j hj)
          go_wp2_with fail
          have HBb := HB
          clear x0 x1 x2 x3 y0 y1 y2 y3 HB i1 hk hlt HS
          go_loopw [7] (fun kv wr => ∃ k : Nat, k ≤ G.length ∧ kv = .int .i64 (k : Nat) ∧ Hid (Below W0.heap.size W0 wr) ∧ Hid (∀ j, j < k → G[j]? = G2[j]?)) (fun kv _ => G.length - (intOf kv).toNat)
          case atStart => exact ⟨0, Nat.zero_le _, rfl, HBb, Lib.hid fun j h => absurd h (Nat.not_lt_zero _)⟩
          case round =>
            obtain ⟨k, hk, rfl, HB, HS⟩ := hrel
            obtain ⟨hz, hn⟩ := HX.out _ HB.out
            obtain ⟨x0, x1, x2, x3⟩ := cells4 hz
            obtain ⟨y0, y1, y2, y3⟩ := cells4 hn
            clear hz hn
            by_cases hlt : k < G.length
            · have i1 : (k : Int) < (G.length : Int) := by omega
              have i2 : (0 : Int) ≤ (k : Int) := by omega
              have hlt2 : k < G2.length := by have := HQG.out; omega
              have i3 : (k : Int) < (G2.length : Int) := by omega
              obtain ⟨A, c3, t3, e3, hA, s3, a0, a1⟩ := ro_sga (HG1.out.below HB.out) hlt
              obtain ⟨B, c4, t4, e4, hB, s4, d0, d1⟩ := ro_sga (HG2.out.below HB.out) hlt2
              cases e3
              cases e4
              have hfx := HF.out.sgaX _ (List.getElem_mem hlt)
              have HGG : Hid (G[k] = G2[k] → ∀ j, j < k + 1 → G[j]? = G2[j]?) := Lib.hid fun h j hjk => by
                by_cases e : j < k
                · exact HS.out j e
                · obtain rfl : j = k := by omega
                  rw [List.getElem?_eq_getElem hlt, List.getElem?_eq_getElem hlt2, h]
              clear HS
              generalize G[k] = x at *
              generalize G2[k] = y at *
              by_cases hxy : x = y
              · have HGO := Lib.hid (HGG.out hxy)
                subst hxy
                clear HGG
                obtain ⟨xn, xa, xf⟩ := x
                obtain ⟨q3, l3, rfl, -, -⟩ := RoIs.shape s3
                obtain ⟨q4, l4, rfl, -, -⟩ := RoIs.shape s4
                have e0 := a0 _ rfl
                have g0 := d0 _ rfl
                have e1 := a1 1 _ (by decide) rfl
                have g1 := d1 1 _ (by decide) rfl
                have e2 := a1 2 _ (by decide) rfl
                have g2 := d1 2 _ (by decide) rfl
                simp only [show kSga.k = 3 from rfl] at e0 g0 e1 g1 e2 g2
                have HQ := Lib.hid (fun W (hW : Below wr.heap.size wr W) => SameSaga_ro (n := xn) (a := xa) (RoStp.below s3 hW) (RoStp.below s4 hW) hfx)
                clear a0 a1 d0 d1 s3 s4 hfx
                go_wp2_with fail
                go_still_tail 10, (by kernel_rfl)
                change wpList _ _ _ _ _ wr.drew
                have hdr : Below wr.heap.size wr wr.drew := (Below.refl _ _).drew
                generalize wr.drew = w5 at *
                have HD := Lib.hid hdr
                clear hdr
                go_wp2_with fail
                refine (HQ.out _ HD.out).mono ?_
                rintro e w6 ⟨rfl, hb6⟩
                have HB6 := Lib.hid (HB.out.trans ((HD.out.trans (hb6.mono HD.out.size)).mono HB.out.size))
                clear hb6
                go_wp2_with fail
                go_roundw
                case rel => exact ⟨k + 1, by omega, by go_num, HB6, HGO⟩
                case measure => simp [intOf]; omega
              · clear HGG
                obtain ⟨xn, xa, xf⟩ := x
                obtain ⟨yn, ya, yf⟩ := y
                obtain ⟨q3, l3, rfl, -, -⟩ := RoIs.shape s3
                obtain ⟨q4, l4, rfl, -, -⟩ := RoIs.shape s4
                have e0 := a0 _ rfl
                have g0 := d0 _ rfl
                have e1 := a1 1 _ (by decide) rfl
                have g1 := d1 1 _ (by decide) rfl
                have e2 := a1 2 _ (by decide) rfl
                have g2 := d1 2 _ (by decide) rfl
                simp only [show kSga.k = 3 from rfl] at e0 g0 e1 g1 e2 g2
                have HQ := Lib.hid (fun W (hW : Below wr.heap.size wr W) => SameSaga_no (n0 := xn) (m0 := yn) (n1 := xa) (m1 := ya) (RoStp.below s3 hW) (RoStp.below s4 hW) (fun e => hxy (by have c : xf = yf := e.2.2; rw [e.1, e.2.1, c])))
                clear a0 a1 d0 d1 s3 s4 hfx hxy
                go_wp2_with fail
                go_still_tail 10, (by kernel_rfl)
                change wpList _ _ _ _ _ wr.drew
                have hdr : Below wr.heap.size wr wr.drew := (Below.refl _ _).drew
                generalize wr.drew = w5 at *
                have HD := Lib.hid hdr
                clear hdr
                go_wp2_with fail
                refine (HQ.out _ HD.out).mono ?_
                rintro e w6 ⟨rfl, hb6⟩
                have HB6 := Lib.hid (HB.out.trans ((HD.out.trans (hb6.mono HD.out.size)).mono HB.out.size))
                clear hb6
                go_wp2_with fail
                go_ret
                exact ⟨rfl, HB0.out.trans (HB6.out.mono HB0.out.size)⟩
            · obtain rfl : k = G.length := by omega
              have i1 : ¬ (G.length : Int) < (G.length : Int) := by omega
              have HEQ7 : Hid (G = G2) := Lib.hid (Classical.byContradiction fun h => list_ne h HQG.out fun j hj => HS.out j hj)
              exact (HE.out HEQ5.out HEQ6.out HEQ7.out).elim
end Go.Proofs.YtamkkdmbefekmaaGreatDoor
