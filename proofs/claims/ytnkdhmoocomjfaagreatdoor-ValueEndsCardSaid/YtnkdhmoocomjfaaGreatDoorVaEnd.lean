/-
  Walks over package value: where a whole ends; the document's answer. Conditions: those in the theorems.
-/
import Derived.Test.YtnkdhmoocomjfaaGreatDoorVaAt
set_option linter.unusedSimpArgs false
set_option linter.unusedVariables false
namespace Vl
theorem drop_at {v : List Nd} {i : Nat} (h : i < v.length) : v.drop i = v[i] :: v.drop (i + 1) := List.drop_eq_getElem_cons h
theorem endAt_some {v r : List Nd} {i : Nat} (h : skip 1 (v.drop i) = some r) : endAt v i = ((v.length - r.length : Nat) : Int) := by unfold endAt; rw [h]
theorem endAt_none {v : List Nd} {i : Nat} (h : skip 1 (v.drop i) = none) : endAt v i = -1 := by unfold endAt; rw [h]
theorem endAt_stop {v : List Nd} {i j : Nat} (h : skip 1 (v.drop i) = skip 0 (v.drop j)) (hj : j ≤ v.length) : endAt v i = (j : Int) := by
  rw [skip_zero] at h
  rw [endAt_some h, List.length_drop]
  congr 1; omega
theorem skip_next {v : List Nd} {j m : Nat} (hj : j < v.length) (hk : 0 ≤ v[j].kids) : skip (m + 1) (v.drop j) = skip (m + v[j].kids.toNat) (v.drop (j + 1)) := by
  rw [drop_at hj, skip_cons, if_neg (by omega)]
theorem skip_bad {v : List Nd} {j m : Nat} (hj : j < v.length) (hk : v[j].kids < 0) : skip (m + 1) (v.drop j) = none := by
  rw [drop_at hj, skip_cons, if_pos hk]
end Vl
namespace Go.Proofs.YtnkdhmoocomjfaaGreatDoor
open Go.RowKit
set_option maxRecDepth 100000 in
set_option maxHeartbeats 4000000 in
theorem End_any {W : World} {vv : Value} {v : List Vl.Nd} (h : RoNd W vv v) (hl : v.length ≤ 100000) (i : Int) (hi : I64 i) : Calls Tryz.prog 30 #[vv, .int .i64 i] W fun e w' => e = .returned (.int .i64 (Vl.endOf v i)) ∧ w' = W := by
  obtain ⟨p, c, rfl, -, -⟩ := RoIs.shape h
  have H := Lib.hid h
  clear h
  by_cases h0 : i < 0
  · have HE := Lib.hid (Vl.endOf_neg (v := v) h0)
    go_enter Tryz.func30, Tryz.ntmps30
    go_wp2_with fail
    go_ret
    exact ⟨by rw [HE.out]; rfl, rfl⟩
  obtain ⟨a, rfl⟩ := Int.eq_ofNat_of_zero_le (show 0 ≤ i by omega)
  have HE := Lib.hid (Vl.endOf_nat v a)
  by_cases h1 : v.length ≤ a
  · have HE2 := Lib.hid (HE.out.trans (Vl.endAt_out h1))
    have i1 : (v.length : Int) ≤ (a : Int) := by omega
    clear h0 h1
    go_enter Tryz.func30, Tryz.ntmps30
    go_wp2_with fail
    go_ret
    exact ⟨by rw [HE2.out]; rfl, rfl⟩
  have i1 : ¬ (v.length : Int) ≤ (a : Int) := by omega
  have ha : a < v.length := by omega
  clear hi h1
  go_enter Tryz.func30, Tryz.ntmps30
  go_wp2_with fail
  go_loopw [1, 5, 6, 7] (fun av mv _ _ wr => ∃ at_ m : Nat, at_ ≤ v.length ∧ m + at_ ≤ v.length ∧ av = .int .i64 (at_ : Nat) ∧ mv = .int .i64 (m : Nat) ∧ Hid (wr = W ∧ Vl.skip 1 (v.drop a) = Vl.skip m (v.drop at_))) (fun av _ _ _ _ => v.length + 1 - (intOf av).toNat)
  case atStart => exact ⟨a, 1, by omega, by omega, rfl, rfl, Lib.hid ⟨rfl, rfl⟩⟩
  case round =>
  obtain ⟨at_, m, hat, hm, rfl, rfl, HQ⟩ := hrel
  have hwr := HQ.out.1
  rw [hwr]
  clear hwr
  cases m with
  | zero =>
    have HE2 := Lib.hid (HE.out.trans (Vl.endAt_stop HQ.out.2 hat))
    clear i1 ha h0
    go_wp2_with fail
    go_ret
    exact ⟨by rw [HE2.out]; rfl, rfl⟩
  | succ m =>
    have hlt : at_ < v.length := by omega
    obtain ⟨A, cc, e3, hA, d0, d1, d2, d3, hin⟩ := nd_at H.out hlt
    cases e3
    have HNX : Hid (0 ≤ v[at_].kids → Vl.skip 1 (v.drop a) = Vl.skip (m + v[at_].kids.toNat) (v.drop (at_ + 1))) := Lib.hid fun hk => HQ.out.2.trans (Vl.skip_next hlt hk)
    have HBD : Hid (v[at_].kids < 0 → Vl.skip 1 (v.drop a) = none) := Lib.hid fun hk => HQ.out.2.trans (Vl.skip_bad hlt hk)
    have hki := hin.2.2.2
    clear hin hA d0 d1 d2
    generalize v[at_].kids = kd at *
    have j1 : (0 : Int) < ((m + 1 : Nat) : Int) := by omega
    have j2 : (0 : Int) < (m : Int) + 1 := by omega
    have j3 : (at_ : Int) < (v.length : Int) := by omega
    have j4 : (0 : Int) ≤ (at_ : Int) := by omega
    unfold I64 at hki
    by_cases hk0 : kd < 0
    · have HE2 := Lib.hid (HE.out.trans (Vl.endAt_none (HBD.out hk0)))
      clear i1 ha h0
      go_wp2_with fail
      go_ret
      exact ⟨by rw [HE2.out]; rfl, rfl⟩
    · obtain ⟨q, rfl⟩ := Int.eq_ofNat_of_zero_le (show 0 ≤ kd by omega)
      have HN2 := Lib.hid (HNX.out (by omega))
      by_cases hsp : v.length < at_ + (m + 1) + q
      · have HE2 : Hid (Vl.endOf v (a : Int) = -1) := Lib.hid (HE.out.trans (Vl.endAt_none (HN2.out.trans (Vl.skip_few (by rw [List.length_drop]; show _ < m + q; omega)))))
        have j5 : (v.length : Int) - (at_ : Int) - ((m : Int) + 1) < (q : Int) := by omega
        clear i1 ha h0 hsp hk0
        go_wp2_with fail
        go_ret
        exact ⟨by rw [HE2.out]; rfl, rfl⟩
      · have j5 : ¬ (v.length : Int) - (at_ : Int) - ((m : Int) + 1) < (q : Int) := by omega
        have hb : at_ + (m + 1) + q ≤ v.length := by omega
        clear i1 ha h0 hsp hk0
        go_wp2_with fail
        go_roundw
        case rel => exact ⟨at_ + 1, m + q, by omega, by omega, by go_num, by go_num, Lib.hid ⟨by first | rfl | trivial, HN2.out⟩⟩
        case measure => simp [intOf]; omega
theorem Vl.skip_end {v : List Vl.Nd} {t n : Nat} {r : List Vl.Nd} (h : Vl.skip 1 (v.drop t) = some r) : Vl.skip (n + 1) (v.drop t) = Vl.skip n (v.drop (v.length - r.length)) ∧ v.length - r.length ≤ v.length ∧ t < v.length - r.length := by
  have h1 := Vl.skip_add (v.drop t) 1 n
  have h2 := Vl.skip_at h
  have h3 := Vl.skip_len h
  rw [List.length_drop] at h2 h3
  rw [List.drop_drop] at h2
  have e : t + (v.length - t - r.length) = v.length - r.length := by omega
  rw [e] at h2
  refine ⟨?_, Nat.sub_le _ _, by omega⟩
  rw [Nat.add_comm n 1, h1, h]
  show Vl.skip n r = _
  rw [← h2]
set_option maxRecDepth 100000 in
set_option maxHeartbeats 4000000 in
theorem RefEnd_nat {W : World} {p : Option Addr} {c : Nat} {v : List Vl.Nd} (h : RoNd W (.slice p v.length c) v) (hl : v.length ≤ 100000) : ∀ (z a : Nat), v.length - a ≤ z → a ≤ 4611686018427387904 → Calls Tryz.prog 31 #[.slice p v.length c, .int .i64 (a : Nat)] W fun e w' => e = .returned (.int .i64 (Vl.endAt v a)) ∧ w' = W := by
  intro z
  induction z with
  | zero =>
    intro a hz ha
    have HE2 := Lib.hid (Vl.endAt_out (v := v) (i := a) (by omega))
    have i1 : (v.length : Int) ≤ (a : Int) := by omega
    have i2 : ¬ (a : Int) < 0 := by omega
    clear h hz ha
    go_enter Tryz.func31, Tryz.ntmps31
    go_wp2_with fail
    go_ret
    exact ⟨by rw [HE2.out]; rfl, rfl⟩
  | succ z ih =>
  intro a hz ham
  by_cases h1 : v.length ≤ a
  · have HE2 := Lib.hid (Vl.endAt_out h1)
    have i1 : (v.length : Int) ≤ (a : Int) := by omega
    have i2 : ¬ (a : Int) < 0 := by omega
    clear h hz h1 ih ham
    go_enter Tryz.func31, Tryz.ntmps31
    go_wp2_with fail
    go_ret
    exact ⟨by rw [HE2.out]; rfl, rfl⟩
  have ha : a < v.length := by omega
  have HIH : Hid (∀ t : Nat, a < t → t ≤ v.length → Calls Tryz.prog 31 #[.slice p v.length c, .int .i64 (t : Nat)] W fun e w' => e = .returned (.int .i64 (Vl.endAt v t)) ∧ w' = W) := Lib.hid fun t ht ht2 => ih t (by omega) (by omega)
  have i1 : ¬ (v.length : Int) ≤ (a : Int) := by omega
  have i2 : ¬ (a : Int) < 0 := by omega
  have i3 : (a : Int) < (v.length : Int) := by omega
  have i4 : (0 : Int) ≤ (a : Int) := by omega
  obtain ⟨A, cc, e3, hA, d0, d1, d2, d3, hin⟩ := nd_at h ha
  cases e3
  have HNX : Hid (0 ≤ v[a].kids → Vl.skip 1 (v.drop a) = Vl.skip (0 + v[a].kids.toNat) (v.drop (a + 1))) := Lib.hid fun hk => Vl.skip_next ha hk
  have HBD : Hid (v[a].kids < 0 → Vl.skip 1 (v.drop a) = none) := Lib.hid fun hk => Vl.skip_bad (m := 0) ha hk
  have hki := hin.2.2.2
  unfold I64 at hki
  clear hin hA d0 d1 d2 h ih h1 hz ham
  generalize v[a].kids = kd at *
  by_cases hk0 : kd < 0
  · have HE2 := Lib.hid (Vl.endAt_none (HBD.out hk0))
    go_enter Tryz.func31, Tryz.ntmps31
    go_wp2_with fail
    go_ret
    exact ⟨by rw [HE2.out]; rfl, rfl⟩
  obtain ⟨q, rfl⟩ := Int.eq_ofNat_of_zero_le (show 0 ≤ kd by omega)
  have HN2 : Hid (Vl.skip 1 (v.drop a) = Vl.skip q (v.drop (a + 1))) := Lib.hid (by have := HNX.out (by omega); rwa [Nat.zero_add] at this)
  have j0 : ¬ (q : Int) < 0 := by omega
  clear hk0 HNX HBD
  by_cases hsp : v.length < q
  · have HE2 := Lib.hid (Vl.endAt_none (HN2.out.trans (Vl.skip_few (by rw [List.length_drop]; omega))))
    have j1 : (v.length : Int) < (q : Int) := by omega
    clear hsp
    go_enter Tryz.func31, Tryz.ntmps31
    go_wp2_with fail
    go_ret
    exact ⟨by rw [HE2.out]; rfl, rfl⟩
  have j1 : ¬ (v.length : Int) < (q : Int) := by omega
  go_enter Tryz.func31, Tryz.ntmps31
  go_wp2_with fail
  clear d3 i1 i2 i3 i4 j0 j1
  go_loopw [6, 7] (fun tv kv wr => ∃ t k : Nat, a < t ∧ t ≤ v.length ∧ k ≤ q ∧ tv = .int .i64 (t : Nat) ∧ kv = .int .i64 (k : Nat) ∧ Hid (wr = W ∧ Vl.skip 1 (v.drop a) = Vl.skip (q - k) (v.drop t))) (fun _ kv _ => q - (intOf kv).toNat)
  case atStart => exact ⟨a + 1, 0, by omega, by omega, by omega, by go_num, rfl, Lib.hid ⟨by first | rfl | trivial, by rw [Nat.sub_zero]; exact HN2.out⟩⟩
  case round =>
  obtain ⟨t, k, hat, htl, hk, rfl, rfl, HQ⟩ := hrel
  have hwr := HQ.out.1
  rw [hwr]
  clear hwr
  by_cases hlt : k < q
  · have j2 : (k : Int) < (q : Int) := by omega
    have HS : Hid (∀ r, Vl.skip 1 (v.drop t) = some r → Vl.skip 1 (v.drop a) = Vl.skip (q - (k + 1)) (v.drop (v.length - r.length)) ∧ a < v.length - r.length ∧ v.length - r.length ≤ v.length ∧ Vl.endAt v t = ((v.length - r.length : Nat) : Int)) := Lib.hid fun r hr => by
      obtain ⟨h1, h2, h3⟩ := Vl.skip_end (n := q - (k + 1)) hr
      rw [show q - (k + 1) + 1 = q - k by omega] at h1
      exact ⟨HQ.out.2.trans h1, by omega, h2, Vl.endAt_some hr⟩
    have HSN : Hid (Vl.skip 1 (v.drop t) = none → Vl.endAt v a = -1 ∧ Vl.endAt v t = -1) := Lib.hid fun hr => by
      refine ⟨Vl.endAt_none ?_, Vl.endAt_none hr⟩
      rw [HQ.out.2, show q - k = 1 + (q - (k + 1)) by omega, Vl.skip_add, hr]; rfl
    go_wp2_with fail
    refine (HIH.out t hat htl).mono ?_
    rintro e w' ⟨rfl, hw⟩
    rw [hw]
    clear hw w'
    cases hr : Vl.skip 1 (v.drop t) with
    | none =>
      obtain ⟨e1, e2⟩ := HSN.out hr
      have HE2 := Lib.hid e1
      rw [e2]
      clear e1 e2 hr
      go_wp2_with fail
      go_ret
      exact ⟨by rw [HE2.out]; rfl, rfl⟩
    | some r =>
      obtain ⟨e1, e2, e3, e4⟩ := HS.out r hr
      have HE1 := Lib.hid e1
      rw [e4]
      generalize v.length - r.length = t2 at *
      have j3 : ¬ (t2 : Int) < 0 := by omega
      clear e1 e4 hr
      go_wp2_with fail
      go_roundw
      case rel => exact ⟨t2, k + 1, by omega, by omega, by omega, rfl, by go_num, Lib.hid ⟨by first | rfl | trivial, HE1.out⟩⟩
      case measure => simp [intOf]; omega
  · obtain rfl : k = q := by omega
    have j2 : ¬ (k : Int) < (k : Int) := by omega
    have HE2 : Hid (Vl.endAt v a = (t : Int)) := Lib.hid (Vl.endAt_stop (by rw [HQ.out.2, Nat.sub_self]) htl)
    go_wp2_with fail
    go_ret
    exact ⟨by rw [HE2.out]; rfl, rfl⟩
set_option maxRecDepth 100000 in
set_option maxHeartbeats 4000000 in
theorem RefEnd_any {W : World} {vv : Value} {v : List Vl.Nd} (h : RoNd W vv v) (hl : v.length ≤ 100000) (i : Int) (hi : I64 i) : Calls Tryz.prog 31 #[vv, .int .i64 i] W fun e w' => e = .returned (.int .i64 (Vl.endOf v i)) ∧ w' = W := by
  obtain ⟨p, c, rfl, -, -⟩ := RoIs.shape h
  by_cases h0 : i < 0
  · have HE := Lib.hid (Vl.endOf_neg (v := v) h0)
    clear h
    go_enter Tryz.func31, Tryz.ntmps31
    go_wp2_with fail
    go_ret
    exact ⟨by rw [HE.out]; rfl, rfl⟩
  obtain ⟨a, rfl⟩ := Int.eq_ofNat_of_zero_le (show 0 ≤ i by omega)
  by_cases h1 : v.length ≤ a
  · have HE2 := Lib.hid ((Vl.endOf_nat v a).trans (Vl.endAt_out h1))
    have i1 : (v.length : Int) ≤ (a : Int) := by omega
    have i2 : ¬ (a : Int) < 0 := by omega
    clear h h0 h1 hi
    go_enter Tryz.func31, Tryz.ntmps31
    go_wp2_with fail
    go_ret
    exact ⟨by rw [HE2.out]; rfl, rfl⟩
  rw [Vl.endOf_nat]
  exact RefEnd_nat h hl _ a (Nat.le_refl _) (by omega)
end Go.Proofs.YtnkdhmoocomjfaaGreatDoor
