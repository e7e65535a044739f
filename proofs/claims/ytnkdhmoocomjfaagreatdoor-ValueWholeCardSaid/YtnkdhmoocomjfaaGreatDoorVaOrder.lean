/-
  Walks over package value: where a whole ends; the document's answer. Conditions: those in the theorems.
  Walks over package value: a record's field; an order. Conditions: those in the theorems.
-/
import Derived.Test.YtnkdhmoocomjfaaGreatDoorVaAt
import Derived.Test.YtnkdhmoocomjfaaGreatDoorVaFits
set_option linter.unusedSimpArgs false
set_option linter.unusedVariables false
namespace Vl
theorem drop_at {v : List Nd} {i : Nat} (h : i < v.length) : v.drop i = v[i] :: v.drop (i + 1) := List.drop_eq_getElem_cons h
theorem endAt_some {v r : List Nd} {i : Nat} (h : skip 1 (v.drop i) = some r) : endAt v i = ((v.length - r.length : Nat) : Int) := by unfold endAt; rw [h]
theorem endAt_none {v : List Nd} {i : Nat} (h : skip 1 (v.drop i) = none) : endAt v i = -1 := by unfold endAt; rw [h]
theorem endAt_stop {v : List Nd} {i j : Nat} (h : skip 1 (v.drop i) = skip 0 (v.drop j)) (hj : j ≤ v.length) : endAt v i = (j : Int) := by
  rw [skip_zero] at h
  rw [endAt_some h, List.length_drop]
  congr 1; omega
theorem skip_next {v : List Nd} {j m : Nat} (hj : j < v.length) (hk : 0 ≤ v[j].kids) : skip (m + 1) (v.drop j) = skip (m + v[j].kids.toNat) (v.drop (j + 1)) := by
  rw [drop_at hj, skip_cons, if_neg (by omega)]
theorem skip_bad {v : List Nd} {j m : Nat} (hj : j < v.length) (hk : v[j].kids < 0) : skip (m + 1) (v.drop j) = none := by
  rw [drop_at hj, skip_cons, if_pos hk]
end Vl
namespace Go.Proofs.YtnkdhmoocomjfaaGreatDoor
open Go.RowKit
set_option maxRecDepth 100000 in
set_option maxHeartbeats 4000000 in
theorem End_any {W : World} {vv : Value} {v : List Vl.Nd} (h : RoNd W vv v) (hl : v.length ≤ 100000) (i : Int) (hi : I64 i) : Calls Tryz.prog 30 #[vv, .int .i64 i] W fun e w' => e = .returned (.int .i64 (Vl.endOf v i)) ∧ w' = W := by
  obtain ⟨p, c, rfl, -, -⟩ := RoIs.shape h
  have H := Lib.hid h
  clear h
  by_cases h0 : i < 0
  · have HE := Lib.hid (Vl.endOf_neg (v := v) h0)
    go_enter Tryz.func30, Tryz.ntmps30
    go_wp2_with fail
    go_ret
    exact ⟨by rw [HE.out]; rfl, rfl⟩
  obtain ⟨a, rfl⟩ := Int.eq_ofNat_of_zero_le (show 0 ≤ i by omega)
  have HE := Lib.hid (Vl.endOf_nat v a)
  by_cases h1 : v.length ≤ a
  · have HE2 := Lib.hid (HE.out.trans (Vl.endAt_out h1))
    have i1 : (v.length : Int) ≤ (a : Int) := by omega
    clear h0 h1
    go_enter Tryz.func30, Tryz.ntmps30
    go_wp2_with fail
    go_ret
    exact ⟨by rw [HE2.out]; rfl, rfl⟩
  have i1 : ¬ (v.length : Int) ≤ (a : Int) := by omega
  have ha : a < v.length := by omega
  clear hi h1
  go_enter Tryz.func30, Tryz.ntmps30
  go_wp2_with fail
  go_loopw [1, 5, 6, 7] (fun av mv _ _ wr => ∃ at_ m : Nat, at_ ≤ v.length ∧ m + at_ ≤ v.length ∧ av = .int .i64 (at_ : Nat) ∧ mv = .int .i64 (m : Nat) ∧ Hid (wr = W ∧ Vl.skip 1 (v.drop a) = Vl.skip m (v.drop at_))) (fun av _ _ _ _ => v.length + 1 - (intOf av).toNat)
  case atStart => exact ⟨a, 1, by omega, by omega, rfl, rfl, Lib.hid ⟨rfl, rfl⟩⟩
  case round =>
  obtain ⟨at_, m, hat, hm, rfl, rfl, HQ⟩ := hrel
  have hwr := HQ.out.1
  rw [hwr]
  clear hwr
  cases m with
  | zero =>
    have HE2 := Lib.hid (HE.out.trans (Vl.endAt_stop HQ.out.2 hat))
    clear i1 ha h0
    go_wp2_with fail
    go_ret
    exact ⟨by rw [HE2.out]; rfl, rfl⟩
  | succ m =>
    have hlt : at_ < v.length := by omega
    obtain ⟨A, cc, e3, hA, d0, d1, d2, d3, hin⟩ := nd_at H.out hlt
    cases e3
    have HNX : Hid (0 ≤ v[at_].kids → Vl.skip 1 (v.drop a) = Vl.skip (m + v[at_].kids.toNat) (v.drop (at_ + 1))) := Lib.hid fun hk => HQ.out.2.trans (Vl.skip_next hlt hk)
    have HBD : Hid (v[at_].kids < 0 → Vl.skip 1 (v.drop a) = none) := Lib.hid fun hk => HQ.out.2.trans (Vl.skip_bad hlt hk)
    have hki := hin.2.2.2
    clear hin hA d0 d1 d2
    generalize v[at_].kids = kd at *
    have j1 : (0 : Int) < ((m + 1 : Nat) : Int) := by omega
    have j2 : (0 : Int) < (m : Int) + 1 := by omega
    have j3 : (at_ : Int) < (v.length : Int) := by omega
    have j4 : (0 : Int) ≤ (at_ : Int) := by omega
    unfold I64 at hki
    by_cases hk0 : kd < 0
    · have HE2 := Lib.hid (HE.out.trans (Vl.endAt_none (HBD.out hk0)))
      clear i1 ha h0
      go_wp2_with fail
      go_ret
      exact ⟨by rw [HE2.out]; rfl, rfl⟩
    · obtain ⟨q, rfl⟩ := Int.eq_ofNat_of_zero_le (show 0 ≤ kd by omega)
      have HN2 := Lib.hid (HNX.out (by omega))
      by_cases hsp : v.length < at_ + (m + 1) + q
      · have HE2 : Hid (Vl.endOf v (a : Int) = -1) := Lib.hid (HE.out.trans (Vl.endAt_none (HN2.out.trans (Vl.skip_few (by rw [List.length_drop]; show _ < m + q; omega)))))
        have j5 : (v.length : Int) - (at_ : Int) - ((m : Int) + 1) < (q : Int) := by omega
        clear i1 ha h0 hsp hk0
        go_wp2_with fail
        go_ret
        exact ⟨by rw [HE2.out]; rfl, rfl⟩
      · have j5 : ¬ (v.length : Int) - (at_ : Int) - ((m : Int) + 1) < (q : Int) := by omega
        have hb : at_ + (m + 1) + q ≤ v.length := by omega
        clear i1 ha h0 hsp hk0
        go_wp2_with fail
        go_roundw
        case rel => exact ⟨at_ + 1, m + q, by omega, by omega, by go_num, by go_num, Lib.hid ⟨by first | rfl | trivial, HN2.out⟩⟩
        case measure => simp [intOf]; omega
theorem Vl.skip_end {v : List Vl.Nd} {t n : Nat} {r : List Vl.Nd} (h : Vl.skip 1 (v.drop t) = some r) : Vl.skip (n + 1) (v.drop t) = Vl.skip n (v.drop (v.length - r.length)) ∧ v.length - r.length ≤ v.length ∧ t < v.length - r.length := by
  have h1 := Vl.skip_add (v.drop t) 1 n
  have h2 := Vl.skip_at h
  have h3 := Vl.skip_len h
  rw [List.length_drop] at h2 h3
  rw [List.drop_drop] at h2
  have e : t + (v.length - t - r.length) = v.length - r.length := by omega
  rw [e] at h2
  refine ⟨?_, Nat.sub_le _ _, by omega⟩
  rw [Nat.add_comm n 1, h1, h]
  show Vl.skip n r = _
  rw [← h2]
set_option maxRecDepth 100000 in
set_option maxHeartbeats 4000000 in
theorem RefEnd_nat {W : World} {p : Option Addr} {c : Nat} {v : List Vl.Nd} (h : RoNd W (.slice p v.length c) v) (hl : v.length ≤ 100000) : ∀ (z a : Nat), v.length - a ≤ z → a ≤ 4611686018427387904 → Calls Tryz.prog 31 #[.slice p v.length c, .int .i64 (a : Nat)] W fun e w' => e = .returned (.int .i64 (Vl.endAt v a)) ∧ w' = W := by
  intro z
  induction z with
  | zero =>
    intro a hz ha
    have HE2 := Lib.hid (Vl.endAt_out (v := v) (i := a) (by omega))
    have i1 : (v.length : Int) ≤ (a : Int) := by omega
    have i2 : ¬ (a : Int) < 0 := by omega
    clear h hz ha
    go_enter Tryz.func31, Tryz.ntmps31
    go_wp2_with fail
    go_ret
    exact ⟨by rw [HE2.out]; rfl, rfl⟩
  | succ z ih =>
  intro a hz ham
  by_cases h1 : v.length ≤ a
  · have HE2 := Lib.hid (Vl.endAt_out h1)
    have i1 : (v.length : Int) ≤ (a : Int) := by omega
    have i2 : ¬ (a : Int) < 0 := by omega
    clear h hz h1 ih ham
    go_enter Tryz.func31, Tryz.ntmps31
    go_wp2_with fail
    go_ret
    exact ⟨by rw [HE2.out]; rfl, rfl⟩
  have ha : a < v.length := by omega
  have HIH : Hid (∀ t : Nat, a < t → t ≤ v.length → Calls Tryz.prog 31 #[.slice p v.length c, .int .i64 (t : Nat)] W fun e w' => e = .returned (.int .i64 (Vl.endAt v t)) ∧ w' = W) := Lib.hid fun t ht ht2 => ih t (by omega) (by omega)
  have i1 : ¬ (v.length : Int) ≤ (a : Int) := by omega
  have i2 : ¬ (a : Int) < 0 := by omega
  have i3 : (a : Int) < (v.length : Int) := by omega
  have i4 : (0 : Int) ≤ (a : Int) := by omega
  obtain ⟨A, cc, e3, hA, d0, d1, d2, d3, hin⟩ := nd_at h ha
  cases e3
  have HNX : Hid (0 ≤ v[a].kids → Vl.skip 1 (v.drop a) = Vl.skip (0 + v[a].kids.toNat) (v.drop (a + 1))) := Lib.hid fun hk => Vl.skip_next ha hk
  have HBD : Hid (v[a].kids < 0 → Vl.skip 1 (v.drop a) = none) := Lib.hid fun hk => Vl.skip_bad (m := 0) ha hk
  have hki := hin.2.2.2
  unfold I64 at hki
  clear hin hA d0 d1 d2 h ih h1 hz ham
  generalize v[a].kids = kd at *
  by_cases hk0 : kd < 0
  · have HE2 := Lib.hid (Vl.endAt_none (HBD.out hk0))
    go_enter Tryz.func31, Tryz.ntmps31
    go_wp2_with fail
    go_ret
    exact ⟨by rw [HE2.out]; rfl, rfl⟩
  obtain ⟨q, rfl⟩ := Int.eq_ofNat_of_zero_le (show 0 ≤ kd by omega)
  have HN2 : Hid (Vl.skip 1 (v.drop a) = Vl.skip q (v.drop (a + 1))) := Lib.hid (by have := HNX.out (by omega); rwa [Nat.zero_add] at this)
  have j0 : ¬ (q : Int) < 0 := by omega
  clear hk0 HNX HBD
  by_cases hsp : v.length < q
  · have HE2 := Lib.hid (Vl.endAt_none (HN2.out.trans (Vl.skip_few (by rw [List.length_drop]; omega))))
    have j1 : (v.length : Int) < (q : Int) := by omega
    clear hsp
    go_enter Tryz.func31, Tryz.ntmps31
    go_wp2_with fail
    go_ret
    exact ⟨by rw [HE2.out]; rfl, rfl⟩
  have j1 : ¬ (v.length : Int) < (q : Int) := by omega
  go_enter Tryz.func31, Tryz.ntmps31
  go_wp2_with fail
  clear d3 i1 i2 i3 i4 j0 j1
  go_loopw [6, 7] (fun tv kv wr => ∃ t k : Nat, a < t ∧ t ≤ v.length ∧ k ≤ q ∧ tv = .int .i64 (t : Nat) ∧ kv = .int .i64 (k : Nat) ∧ Hid (wr = W ∧ Vl.skip 1 (v.drop a) = Vl.skip (q - k) (v.drop t))) (fun _ kv _ => q - (intOf kv).toNat)
  case atStart => exact ⟨a + 1, 0, by omega, by omega, by omega, by go_num, rfl, Lib.hid ⟨by first | rfl | trivial, by rw [Nat.sub_zero]; exact HN2.out⟩⟩
  case round =>
  obtain ⟨t, k, hat, htl, hk, rfl, rfl, HQ⟩ := hrel
  have hwr := HQ.out.1
  rw [hwr]
  clear hwr
  by_cases hlt : k < q
  · have j2 : (k : Int) < (q : Int) := by omega
    have HS : Hid (∀ r, Vl.skip 1 (v.drop t) = some r → Vl.skip 1 (v.drop a) = Vl.skip (q - (k + 1)) (v.drop (v.length - r.length)) ∧ a < v.length - r.length ∧ v.length - r.length ≤ v.length ∧ Vl.endAt v t = ((v.length - r.length : Nat) : Int)) := Lib.hid fun r hr => by
      obtain ⟨h1, h2, h3⟩ := Vl.skip_end (n := q - (k + 1)) hr
      rw [show q - (k + 1) + 1 = q - k by omega] at h1
      exact ⟨HQ.out.2.trans h1, by omega, h2, Vl.endAt_some hr⟩
    have HSN : Hid (Vl.skip 1 (v.drop t) = none → Vl.endAt v a = -1 ∧ Vl.endAt v t = -1) := Lib.hid fun hr => by
      refine ⟨Vl.endAt_none ?_, Vl.endAt_none hr⟩
      rw [HQ.out.2, show q - k = 1 + (q - (k + 1)) by omega, Vl.skip_add, hr]; rfl
    go_wp2_with fail
    refine (HIH.out t hat htl).mono ?_
    rintro e w' ⟨rfl, hw⟩
    rw [hw]
    clear hw w'
    cases hr : Vl.skip 1 (v.drop t) with
    | none =>
      obtain ⟨e1, e2⟩ := HSN.out hr
      have HE2 := Lib.hid e1
      rw [e2]
      clear e1 e2 hr
      go_wp2_with fail
      go_ret
      exact ⟨by rw [HE2.out]; rfl, rfl⟩
    | some r =>
      obtain ⟨e1, e2, e3, e4⟩ := HS.out r hr
      have HE1 := Lib.hid e1
      rw [e4]
      generalize v.length - r.length = t2 at *
      have j3 : ¬ (t2 : Int) < 0 := by omega
      clear e1 e4 hr
      go_wp2_with fail
      go_roundw
      case rel => exact ⟨t2, k + 1, by omega, by omega, by omega, rfl, by go_num, Lib.hid ⟨by first | rfl | trivial, HE1.out⟩⟩
      case measure => simp [intOf]; omega
  · obtain rfl : k = q := by omega
    have j2 : ¬ (k : Int) < (k : Int) := by omega
    have HE2 : Hid (Vl.endAt v a = (t : Int)) := Lib.hid (Vl.endAt_stop (by rw [HQ.out.2, Nat.sub_self]) htl)
    go_wp2_with fail
    go_ret
    exact ⟨by rw [HE2.out]; rfl, rfl⟩
set_option maxRecDepth 100000 in
set_option maxHeartbeats 4000000 in
theorem RefEnd_any {W : World} {vv : Value} {v : List Vl.Nd} (h : RoNd W vv v) (hl : v.length ≤ 100000) (i : Int) (hi : I64 i) : Calls Tryz.prog 31 #[vv, .int .i64 i] W fun e w' => e = .returned (.int .i64 (Vl.endOf v i)) ∧ w' = W := by
  obtain ⟨p, c, rfl, -, -⟩ := RoIs.shape h
  by_cases h0 : i < 0
  · have HE := Lib.hid (Vl.endOf_neg (v := v) h0)
    clear h
    go_enter Tryz.func31, Tryz.ntmps31
    go_wp2_with fail
    go_ret
    exact ⟨by rw [HE.out]; rfl, rfl⟩
  obtain ⟨a, rfl⟩ := Int.eq_ofNat_of_zero_le (show 0 ≤ i by omega)
  by_cases h1 : v.length ≤ a
  · have HE2 := Lib.hid ((Vl.endOf_nat v a).trans (Vl.endAt_out h1))
    have i1 : (v.length : Int) ≤ (a : Int) := by omega
    have i2 : ¬ (a : Int) < 0 := by omega
    clear h h0 h1 hi
    go_enter Tryz.func31, Tryz.ntmps31
    go_wp2_with fail
    go_ret
    exact ⟨by rw [HE2.out]; rfl, rfl⟩
  rw [Vl.endOf_nat]
  exact RefEnd_nat h hl _ a (Nat.le_refl _) (by omega)
end Go.Proofs.YtnkdhmoocomjfaaGreatDoor
set_option linter.unusedSimpArgs false
set_option linter.unusedVariables false
namespace Vl
open Ip
/-- The first field's whole, among a record's parts. -/
def fieldV (nm : ByteArray) : List Fld → List Nd → Option (List Nd)
  | [], _ => none
  | f :: fs, v => match skip 1 v with
    | none => none
    | some r => if eqB f.name nm then some (v.take (v.length - r.length)) else fieldV nm fs r
theorem fieldV_cons {nm : ByteArray} {f : Fld} {fs : List Fld} {v r : List Nd} (h : skip 1 v = some r) : fieldV nm (f :: fs) v = if eqB f.name nm then some (v.take (v.length - r.length)) else fieldV nm fs r := by
  show (match skip 1 v with
    | none => none
    | some r => if eqB f.name nm then some (v.take (v.length - r.length)) else fieldV nm fs r) = _
  rw [h]
theorem skip_one {k : Nat} {v : List Nd} (h : skip (k + 1) v = some []) : ∃ r, skip 1 v = some r ∧ skip k r = some [] := by
  rw [Nat.add_comm, skip_add] at h
  cases hr : skip 1 v with
  | none => rw [hr] at h; cases h
  | some r => rw [hr] at h; exact ⟨r, rfl, h⟩
/-- A record's parts, where its value is a value of a record. -/
theorem of_whole {s : Sch} {nm : ByteArray} {q : Rcd} {v : List Nd} {d : Nat} (hq : Ck.find s nm = some q) (hc : q.choice = false) (h : of s [⟨7, nm⟩] v = some ([], d)) : 1 ≤ v.length ∧ skip q.fields.length (v.drop 1) = some [] := by
  cases v with
  | nil => cases h
  | cons n v =>
    cases hk : kidsOf s [⟨7, nm⟩] n with
    | none => rw [of_none hk] at h; cases h
    | some ks =>
      rw [of_cons hk] at h
      cases he : eatD s (ones ks) v with
      | none => rw [he] at h; cases h
      | some p =>
        rw [he] at h
        have hp : p.1 = [] := by simpa using (Prod.mk.inj (Option.some.inj h)).1
        have hs := eat_skip v (ones ks) (r := p.1) (d := p.2) he
        rw [hp] at hs
        have hl : (ones ks).length = q.fields.length := by
          rw [kidsOf_cons] at hk
          have h4 : ¬ (7 : Nat) ≤ 4 := by decide
          simp only [if_neg h4] at hk
          have hk2 := hk
          simp [hq] at hk2
          have hk3 := hk2.2
          unfold wholeOf at hk3
          rw [hc] at hk3
          simp at hk3
          unfold ones; rw [List.length_map, ← hk3.2, List.length_map]
        rw [hl] at hs
        exact ⟨by simp, hs⟩
end Vl
namespace Go.Proofs.YtnkdhmoocomjfaaGreatDoor
open Go.RowKit
/-- A piece of a value, or none. -/
def PieceV (u : World) (o : Option (List Vl.Nd)) (w : World) (e : Ending) (w' : World) : Prop := Below w.heap.size w w' ∧ match o with
  | none => e = .returned (.tuple #[.slice none 0 0, .bool false])
  | some x => x ≠ [] ∧ ∃ pv, e = .returned (.tuple #[pv, .bool true]) ∧ RoNd u pv x
set_option maxRecDepth 100000 in
set_option maxHeartbeats 4000000 in
theorem fieldOf_any {u w : World} {p : Option Addr} {c : Nat} {r : Ip.Rcd} {vv : Value} {v : List Vl.Nd} {nm : ByteArray} (hr : RoFld u (.slice p r.fields.length c) r.fields) (hv : RoNd u vv v) (hu : Kp u w) (hs : Vl.skip r.fields.length (v.drop 1) = some []) (hl : 1 ≤ v.length) (hvl : v.length ≤ 6100) (hrl : r.fields.length ≤ 40) : Calls Tryz.prog 77 #[.agg #[.string r.name, .bool r.choice, .slice p r.fields.length c], vv, .string nm] w (PieceV u (Vl.fieldV nm r.fields (v.drop 1)) w) := by
  obtain ⟨A, cv, rfl, -, -⟩ := nd_at hv (i := 0) (by omega)
  have hcv : v.length ≤ cv ∧ cv ≤ maxLen := by
    obtain ⟨p1, c1, e1, h1, h2⟩ := RoIs.shape hv
    cases e1; exact ⟨h1, h2⟩
  obtain ⟨hc1, hc2⟩ := hcv
  unfold maxLen at hc2
  obtain ⟨W0, hW0⟩ : ∃ W0, W0 = w.alloc (.cells #[.string r.name, .bool r.choice, .slice p r.fields.length c] 34) := ⟨_, rfl⟩
  have hb0 : Below w.heap.size w W0 := by rw [hW0]; exact tk_alloc w _
  obtain ⟨x0, x1, x2⟩ := cells3 (show W0.heap[w.heap.size]? = some (.cells #[.string r.name, .bool r.choice, .slice p r.fields.length c] 34 (0, 0)) by rw [hW0]; exact heap_alloc_new w _)
  have HB0 := Lib.hid hb0
  have HR := Lib.hid hr
  have HV := Lib.hid hv
  have HU := Lib.hid hu
  have HS := Lib.hid hs
  obtain ⟨o, ho⟩ : ∃ o, o = Vl.fieldV nm r.fields (v.drop 1) := ⟨_, rfl⟩
  rw [← ho]
  have HO := Lib.hid ho
  clear hr hv hu hs hb0 ho
  go_enter Tryz.func77, Tryz.ntmps77
  go_upto_region 1 with fail
  rw [← hW0]
  clear hW0
  go_wp2_with fail
  clear x0 x1 x2
  have HVL := Lib.hid hvl
  go_loopw [8, 15] (fun av iv wr => ∃ a i : Nat, 1 ≤ a ∧ a ≤ v.length ∧ i ≤ r.fields.length ∧ av = .int .i64 (a : Nat) ∧ iv = .int .i64 (i : Nat) ∧ Hid (Below w.heap.size w wr ∧ Vl.skip (r.fields.length - i) (v.drop a) = some [] ∧ o = Vl.fieldV nm (r.fields.drop i) (v.drop a))) (fun _ iv _ => r.fields.length - (intOf iv).toNat)
  case atStart => exact ⟨1, 0, Nat.le_refl _, hl, Nat.zero_le _, rfl, rfl, Lib.hid ⟨HB0.out, HS.out, HO.out⟩⟩
  case round =>
  obtain ⟨a, i, ha1, hav, hi, rfl, rfl, HQ⟩ := hrel
  by_cases hlt : i < r.fields.length
  · have i1 : (i : Int) < (r.fields.length : Int) := by omega
    have i2 : (0 : Int) ≤ (i : Int) := by omega
    obtain ⟨h1, h2, h3⟩ := HQ.out
    have hkw : Kp u wr := HU.out.below h1
    obtain ⟨B, cb, pp, kp, e5, hB, g0, g1, -, -, -⟩ := fld_at (HR.out.kp hkw) hlt
    cases e5
    rw [show r.fields.length - i = r.fields.length - (i + 1) + 1 by omega] at h2
    obtain ⟨q, hq1, hq2⟩ := Vl.skip_one h2
    have hql := Vl.skip_len hq1
    have hqd := Vl.skip_at hq1
    rw [List.length_drop] at hql hqd
    rw [List.drop_drop, show a + (v.length - a - q.length) = v.length - q.length by omega] at hqd
    rw [List.drop_eq_getElem_cons hlt, Vl.fieldV_cons hq1] at h3
    obtain ⟨z, hz⟩ : ∃ z, z = v.length - q.length := ⟨_, rfl⟩
    have hza : a < z := by omega
    have hzv : z ≤ v.length := by omega
    have hE : Vl.endOf v (a : Int) = (z : Int) := by rw [Vl.endOf_nat, Vl.endAt_some hq1, hz]
    rw [← hz] at hqd
    rw [List.length_drop, show v.length - a - q.length = z - a by omega, hqd] at h3
    rw [hqd] at hq2
    have HN := Lib.hid hq2
    have HF := Lib.hid h3
    obtain ⟨W3, hW3⟩ : ∃ W, W = wr.alloc (.cells #[.string r.fields[i].name, .slice pp r.fields[i].type.length kp] 39) := ⟨_, rfl⟩
    have hb3 : Below wr.heap.size wr W3 := by rw [hW3]; exact tk_alloc wr _
    have HNB : Hid (W3.heap[wr.heap.size]? = some (.cells #[.string r.fields[i].name, .slice pp r.fields[i].type.length kp] 39 (0, 0))) := Lib.hid (by rw [hW3]; exact heap_alloc_new wr _)
    have HB3 := Lib.hid (h1.trans (hb3.mono h1.size))
    have HE := Lib.hid (End_any (HV.out.kp (HU.out.below HB3.out)) (by omega) (a : Int) (by unfold I64; omega))
    rw [hE] at HE
    clear h1 h2 h3 hq1 hq2 hqd hql hE hz hb3 hB hkw
    generalize r.fields[i] = f at *
    go_upto_region 5 with fail
    rw [← hW3]
    clear hW3 g0 g1
    go_wp2_with fail
    refine Calls.mono HE.out ?_
    rintro e w4 ⟨rfl, hw4⟩
    rw [hw4]
    clear hw4 w4
    obtain ⟨y0, y1⟩ := cells2 HNB.out
    have j1 : (a : Int) ≤ (z : Int) := by omega
    have j2 : (z : Int) ≤ (cv : Int) := by omega
    have j3 : (0 : Int) ≤ (a : Int) := by omega
    have j4 : (0 : Int) ≤ (z : Int) := by omega
    cases hq : Ip.eqB f.name nm with
    | true =>
      have hq1 : (f.name.toList == nm.toList) = true := by rw [eqB_list]; exact hq
      have HP : Hid (PieceV u (o) w (.returned (.tuple #[.slice (some (A.add (a * 4))) (z - a) (cv - a), .bool true])) W3) := Lib.hid (by
        have h3 := HF.out
        rw [if_pos hq] at h3
        refine ⟨HB3.out, ?_⟩
        rw [h3]
        refine ⟨fun e => ?_, _, rfl, ?_⟩
        · have := congrArg List.length e
          rw [List.length_take, List.length_drop] at this
          simp at this; omega
        · exact RoIs.take (K := kNd) (RoIs.drop (K := kNd) HV.out hav) (by omega))
      go_wp2_with fail
      go_ret2
      exact HP.out
    | false =>
      have hq1 : (f.name.toList == nm.toList) = false := by rw [eqB_list]; exact hq
      have HN2 : Hid (o = Vl.fieldV nm (r.fields.drop (i + 1)) (v.drop z)) := Lib.hid (by rw [HF.out, hq]; rfl)
      go_wp2_with fail
      go_roundw
      case rel => exact ⟨z, i + 1, by omega, hzv, by omega, by go_num, by go_num, Lib.hid ⟨HB3.out, HN.out, HN2.out⟩⟩
      case measure => simp [intOf]; omega
  · obtain rfl : i = r.fields.length := by omega
    have i1 : ¬ (r.fields.length : Int) < (r.fields.length : Int) := by omega
    have HP : Hid (PieceV u (o) w (.returned (.tuple #[.slice none 0 0, .bool false])) wr) := Lib.hid (by
      obtain ⟨h1, -, h3⟩ := HQ.out
      refine ⟨h1, ?_⟩
      rw [h3, List.drop_length]; rfl)
    go_wp2_with fail
    go_ret2
    exact HP.out
/-- No part. -/
def noNd : Vl.Nd := ⟨0, 0, ⟨#[]⟩, 0⟩
theorem Vl.fieldV_in {nm : ByteArray} : ∀ {fs : List Ip.Fld} {v x : List Vl.Nd}, Vl.fieldV nm fs v = some x → ∃ a b, x = (v.drop a).take b
  | [], _, _, h => nomatch h
  | f :: fs, v, x, h => by
    cases hs : Vl.skip 1 v with
    | none => unfold Vl.fieldV at h; rw [hs] at h; cases h
    | some r =>
      rw [Vl.fieldV_cons hs] at h
      by_cases e : Ip.eqB f.name nm = true
      · rw [if_pos e] at h
        exact ⟨0, _, (Option.some.inj h).symm⟩
      · rw [if_neg e] at h
        obtain ⟨a, b, rfl⟩ := Vl.fieldV_in h
        have h1 := Vl.skip_at hs
        refine ⟨v.length - r.length + a, b, ?_⟩
        conv => lhs; rw [h1]
        rw [List.drop_drop]
/-- The part of the first field, if it is of a kind. -/
def Vl.plainV (nm : ByteArray) (k : Nat) (fs : List Ip.Fld) (v : List Vl.Nd) : Option Vl.Nd := match Vl.fieldV nm fs v with
  | none => none
  | some x => match x with
    | [] => none
    | n :: _ => if n.kind = k then some n else none
theorem plain_res {W : World} {tmps : Array Value} {b : Nat} {x0 x1 x2 x3 x9 : Value} (h3 : tmps[8]? = some (.pointer (some ⟨b, 0, none⟩))) (h4 : tmps[9]? = some x9) (h : W.heap[b]? = some (.cells #[x0, x1, x2, x3] 71 (0, 0))) :
    (results Tryz.f80 tmps).run Tryz.prog W = .ok (.tuple #[.agg #[x0, x1, x2, x3], x9]) W := by
  obtain ⟨c0, c1, c2, c3⟩ := cells4' h
  simp [results, Tryz.results80, h3, h4, go_sem, c0, c1, c2, c3]
set_option maxRecDepth 100000 in
set_option maxHeartbeats 4000000 in
theorem plainOf_any {u w : World} {p : Option Addr} {c : Nat} {r : Ip.Rcd} {vv : Value} {v : List Vl.Nd} {nm : ByteArray} (k : Nat) (hk : k < 256) (hr : RoFld u (.slice p r.fields.length c) r.fields) (hv : RoNd u vv v) (hu : Kp u w) (hs : Vl.skip r.fields.length (v.drop 1) = some []) (hl : 1 ≤ v.length) (hvl : v.length ≤ 6100) (hrl : r.fields.length ≤ 40) : Calls Tryz.prog 80 #[.agg #[.string r.name, .bool r.choice, .slice p r.fields.length c], vv, .string nm, .int .u8 (k : Nat)] w fun e w' => e = .returned (.tuple #[ndV ((Vl.plainV nm k r.fields (v.drop 1)).getD noNd), .bool (Vl.plainV nm k r.fields (v.drop 1)).isSome]) ∧ Below w.heap.size w w' := by
  obtain ⟨o, ho⟩ : ∃ o, o = Vl.plainV nm k r.fields (v.drop 1) := ⟨_, rfl⟩
  rw [← ho]
  have HO := Lib.hid ho
  clear ho
  obtain ⟨W0, hW0⟩ : ∃ W0, W0 = allocs w [.cells #[.string r.name, .bool r.choice, .slice p r.fields.length c] 34, .cells #[.int .u8 0, .int .i64 0, .string ⟨#[]⟩, .int .i64 0] 71] := ⟨_, rfl⟩
  have HS0 : Hid (W0.heap.size = w.heap.size + 2) := Lib.hid (by rw [hW0, allocs_size]; rfl)
  have HX : Hid (∀ V, Below W0.heap.size W0 V → V.heap[w.heap.size]? = some (.cells #[.string r.name, .bool r.choice, .slice p r.fields.length c] 34 (0, 0)) ∧ V.heap[w.heap.size + 1]? = some (.cells #[.int .u8 0, .int .i64 0, .string ⟨#[]⟩, .int .i64 0] 71 (0, 0)) ∧ Below w.heap.size w V) := Lib.hid (by subst hW0; exact fun V hV => ⟨allocs_box (i := 0) rfl hV, allocs_box (i := 1) rfl hV, allocs_on hV⟩)
  obtain ⟨b0, b1, B0⟩ := HX.out W0 (Below.refl _ _)
  obtain ⟨x0, x1, x2⟩ := cells3 b0
  have HF := Lib.hid (fieldOf_any (nm := nm) hr hv (hu.below B0) hs hl hvl hrl)
  have HV := Lib.hid hv
  have HU := Lib.hid hu
  clear hr hv hu hs b0 b1 B0 hl hvl hrl
  simp only [allocs] at hW0
  go_enter Tryz.func80, Tryz.ntmps80
  go_upto_region 1 with fail
  rw [← hW0]
  clear hW0
  go_wp2_with fail
  refine Calls.mono HF.out ?_
  intro e w1 hp
  have HP := Lib.hid hp
  clear hp HF x0 x1 x2
  have HB1 := Lib.hid HP.out.1
  have HZ := Lib.hid (HX.out w1 HB1.out).2.1
  have HW1 := Lib.hid (HX.out w1 HB1.out).2.2
  have hz := HZ.out
  obtain ⟨z0, z1, z2, z3⟩ := cells4' hz
  have f0 := frozen2 hz 0; have f1 := frozen2 hz 1; have f2 := frozen2 hz 2; have f3 := frozen2 hz 3
  clear hz
  cases hq : Vl.fieldV nm r.fields (v.drop 1) with
  | none =>
    obtain rfl : e = .returned (.tuple #[.slice none 0 0, .bool false]) := by have := HP.out.2; rw [hq] at this; exact this
    have HE : Hid (o = none) := Lib.hid (by rw [HO.out]; unfold Vl.plainV; rw [hq])
    clear HP hq
    go_wp2_with fail
    refine bodyPost_ret (plain_res rfl rfl (set_four _ _ _ _ HZ.out)) rfl ?_
    exact ⟨by rw [HE.out]; rfl, ((((HW1.out).setCell (by dsimp only; omega) _).setCell (by dsimp only; omega) _).setCell (by dsimp only; omega) _).setCell (by dsimp only; omega) _⟩
  | some x =>
    obtain ⟨hx, pv, rfl, hpv⟩ : x ≠ [] ∧ ∃ pv, e = .returned (.tuple #[pv, .bool true]) ∧ RoNd u pv x := by have := HP.out.2; rw [hq] at this; exact this
    cases x with
    | nil => exact absurd rfl hx
    | cons n x =>
    obtain ⟨A, cc, rfl, hA, d0, d1, d2, d3, hin⟩ := nd_at (i := 0) (hpv.kp (HU.out.below HW1.out)) (by simp)
    have e0 : w1.cell? A = some (.int .u8 (n.kind : Nat)) := by have := d0; simpa [Addr.add] using this
    have e1 : w1.cell? ⟨A.block, A.off + 1, none⟩ = some (.int .i64 n.int) := by have := d1; simpa [Addr.add] using this
    have e2 : w1.cell? ⟨A.block, A.off + 2, none⟩ = some (.string n.text) := by have := d2; simpa [Addr.add] using this
    have e3 : w1.cell? ⟨A.block, A.off + 3, none⟩ = some (.int .i64 n.kids) := by have := d3; simpa [Addr.add] using this
    have e0' : w1.cell? (A.add 0) = some (.int .u8 (n.kind : Nat)) := by have := d0; simpa using this
    have i0 : (0 : Int) < ((n :: x).length : Int) := by simp
    by_cases hkk : n.kind = k
    · have HE : Hid (o = some n) := Lib.hid (by rw [HO.out]; unfold Vl.plainV; rw [hq]; show (if n.kind = k then some n else none) = _; rw [if_pos hkk])
      have i1 : ((n.kind : Int) != (k : Int)) = false := by rw [hkk]; simp
      clear HP hq d0 d1 d2 d3 hx hpv hkk
      go_wp2_with fail
      refine bodyPost_ret (plain_res rfl rfl (set_four _ _ _ _ HZ.out)) rfl ?_
      exact ⟨by rw [HE.out]; rfl, ((((HW1.out).setCell (by dsimp only; omega) _).setCell (by dsimp only; omega) _).setCell (by dsimp only; omega) _).setCell (by dsimp only; omega) _⟩
    · have HE : Hid (o = none) := Lib.hid (by rw [HO.out]; unfold Vl.plainV; rw [hq]; show (if n.kind = k then some n else none) = _; rw [if_neg hkk])
      have i1 : ((n.kind : Int) != (k : Int)) = true := by rw [bne_iff_ne]; omega
      clear HP hq d0 d1 d2 d3 hx hpv hkk
      go_wp2_with fail
      refine bodyPost_ret (plain_res rfl rfl (set_four _ _ _ _ HZ.out)) rfl ?_
      exact ⟨by rw [HE.out]; rfl, ((((HW1.out).setCell (by dsimp only; omega) _).setCell (by dsimp only; omega) _).setCell (by dsimp only; omega) _).setCell (by dsimp only; omega) _⟩
theorem so_one {W : World} {b : Nat} {x : Ip.So} {T : TypeId} (h : W.heap[b]? = some (.cells #[.int .u8 (x.kind : Nat), .string x.name] T (0, 0))) (hx : SoIn x) : RoSo W (.slice (some ⟨b, 0, none⟩) 1 1) [x] := by
  obtain ⟨c0, c1⟩ := cells2 h
  refine ⟨_, _, rfl, Nat.le_refl _, by decide, fun i hi => ?_⟩
  obtain rfl : i = 0 := by simpa using hi
  refine ⟨_, .slice none 0 0, rfl, (Array.getElem?_eq_some_iff.1 h).1, trivial, hx, fun j hj => ?_⟩
  have hj2 : j < 2 := hj
  rcases (by omega : j = 0 ∨ j = 1) with rfl | rfl
  · exact c0
  · exact c1
theorem FinderIs.lift {u U W : World} {s : Ip.Sch} {fv : Value} (h : FinderIs u s W fv) (hk : Kp u U) : FinderIs U s W fv := by
  obtain ⟨c, b, n, g, h1, h2, h3, h4⟩ := h
  refine ⟨c, b, n, g, h1, h2, h3, fun x => ?_⟩
  have hx := h4 x
  cases hg : g x with
  | none => rw [hg] at hx; exact hx
  | some v => rw [hg] at hx; obtain ⟨r, h5, h6⟩ := hx; exact ⟨r, h5, h6.kp hk⟩
set_option maxRecDepth 100000 in
set_option maxHeartbeats 4000000 in
theorem finding2_any {u U w : World} {sv v : Value} {s : Ip.Sch} {t : List Ip.So} (h : RoSch u sv s) (ht : RoSo U v t) (hl : Kp u U) (hk : Kp U w) (hkw : KwIs u) (hS : Ck.Small s) : Calls Tryz.prog 66 #[sv, v] w fun e w' => ∃ fv, e = .returned (.tuple #[fv, .int .i64 (Vl.types s t : Nat)]) ∧ (Vl.types s t = 0 → FinderIs u s w' fv) ∧ Below w.heap.size w w' := by
  obtain ⟨p1, c1, p2, c2, p3, c3, rfl, -, hr, -, -, l1, l2, l3⟩ := sch_parts h
  obtain ⟨W0, hW0⟩ : ∃ W0, W0 = allocs w [schO s p1 c1 p2 c2 p3 c3] := ⟨_, rfl⟩
  have HX : Hid (∀ W, Below W0.heap.size W0 W → W.heap[w.heap.size]? = some (schO s p1 c1 p2 c2 p3 c3) ∧ Below w.heap.size w W) := Lib.hid (by subst hW0; exact fun W hW => ⟨allocs_box (i := 0) rfl hW, allocs_on hW⟩)
  obtain ⟨b0, B0⟩ := HX.out W0 (Below.refl _ _)
  obtain ⟨x0, x1, x2, x3⟩ := cells4' b0
  have H := Lib.hid h
  have HT := Lib.hid ht
  have HU := Lib.hid ((hl.trans hk).below B0)
  have HK := Lib.hid (hk.below B0)
  have HL := Lib.hid hl
  have HKW := Lib.hid hkw
  have HSM := Lib.hid hS
  clear h ht hl hk hkw hr hS b0 B0 l1 l2 l3
  simp only [allocs, schO] at hW0
  go_enter Tryz.func66, Tryz.ntmps66
  go_upto_region 1 with fail
  rw [← hW0]
  clear hW0
  go_wp2_with fail
  refine Calls.mono (Check_any H.out HU.out HKW.out HSM.out) ?_
  rintro e w1 ⟨rfl, hb1⟩
  have HB1 := Lib.hid hb1
  clear hb1 x0 x1 x2 x3
  by_cases hz : (Ck.check s).2 = 0
  · have HOK := Lib.hid (Ck.check_ok.1 hz)
    have HTY : Hid (Vl.types s t = if Ck.right s t then 0 else 131) := Lib.hid (by unfold Vl.types; rw [if_pos hz])
    rw [hz]
    clear hz
    generalize (Ck.check s).1 = cp
    obtain ⟨x0, x1, x2, x3⟩ := cells4' (HX.out _ HB1.out).1
    go_wp2_with fail
    refine Calls.mono (finderOf_any H.out (HU.out.below HB1.out) HSM.out (Ck.nodup_recs (HOK.out (130, Ck.doubles) (by simp [Ck.rules])))) ?_
    rintro e w2 ⟨fv, rfl, hf, hb2⟩
    have HF := Lib.hid hf
    have HB2 := Lib.hid (HB1.out.trans (hb2.mono HB1.out.size))
    clear hf hb2 x0 x1 x2 x3
    go_wp2_with fail
    refine Calls.mono (vIsType_any (HF.out.lift HL.out) HT.out (HK.out.below HB2.out)) ?_
    rintro e w3 ⟨rfl, hb3⟩
    have HF3 := Lib.hid (HF.out.below hb3)
    have HB3 := Lib.hid (HB2.out.trans (hb3.mono HB2.out.size))
    clear hb3
    cases hr : Ck.right s t with
    | true =>
      have HE : Hid (Vl.types s t = 0) := Lib.hid (by rw [HTY.out, hr]; rfl)
      clear hr
      go_wp2_with fail
      go_ret2
      exact ⟨_, by rw [HE.out]; rfl, fun _ => HF3.out, (HX.out _ HB3.out).2⟩
    | false =>
      have HE : Hid (Vl.types s t = 131) := Lib.hid (by rw [HTY.out, hr]; rfl)
      clear hr
      go_wp2_with fail
      go_ret2
      exact ⟨_, by rw [HE.out]; rfl, fun h => (by rw [HE.out] at h; cases h), (HX.out _ HB3.out).2⟩
  · have HE : Hid (Vl.types s t = (Ck.check s).2) := Lib.hid (by unfold Vl.types; rw [if_neg hz])
    have HZ : Hid ((Ck.check s).2 ≠ 0) := Lib.hid hz
    generalize (Ck.check s).1 = cp at *
    generalize (Ck.check s).2 = cn at *
    have i1 : ((cn : Int) != 0) = true := by rw [bne_iff_ne]; omega
    clear hz
    go_wp2_with fail
    go_ret2
    exact ⟨_, by rw [HE.out]; rfl, fun h => absurd (HE.out.symm.trans h) HZ.out, (HX.out _ HB1.out).2⟩
/-- What a record's value must be to have fields. -/
def FitsR (u : World) (s : Ip.Sch) (nm : ByteArray) (v : List Vl.Nd) (w : World) (e : Ending) (w' : World) : Prop := Below w.heap.size w w' ∧ ∃ (q : Ip.Rcd) (p : Option Addr) (c : Nat) (b : Bool), e = .returned (.tuple #[.agg #[.string q.name, .bool q.choice, .slice p q.fields.length c], .bool b]) ∧
  (b = true → Vl.fits s [⟨7, nm⟩] v = 0 ∧ Ck.find s nm = some q ∧ q.choice = false ∧ RoFld u (.slice p q.fields.length c) q.fields) ∧ (Vl.fits s [⟨7, nm⟩] v = 0 → Ck.find s nm = some q ∧ b = !q.choice)
theorem fitting_res {W : World} {tmps : Array Value} {b : Nat} {x0 x1 x2 x9 : Value} (h3 : tmps[6]? = some (.pointer (some ⟨b, 0, none⟩))) (h4 : tmps[7]? = some x9) (h : W.heap[b]? = some (.cells #[x0, x1, x2] 34 (0, 0))) :
    (results Tryz.f76 tmps).run Tryz.prog W = .ok (.tuple #[.agg #[x0, x1, x2], x9]) W := by
  obtain ⟨c0, c1, c2⟩ := cells3 h
  simp [results, Tryz.results76, h3, h4, go_sem, c0, c1, c2]
set_option maxRecDepth 100000 in
set_option maxHeartbeats 4000000 in
theorem fitting_any {u w : World} {sv vv : Value} {s : Ip.Sch} {nm : ByteArray} {v : List Vl.Nd} (h : RoSch u sv s) (hv : RoNd u vv v) (hu : Kp u w) (hkw : KwIs u) (hS : Ck.Small s) (hn : nm.size ≤ 6000) (hvl : v.length ≤ 6100) (hvt : ∀ n ∈ v, n.text.size ≤ 100000) : Calls Tryz.prog 76 #[sv, .string nm, vv] w (FitsR u s nm v w) := by
  obtain ⟨p1, c1, p2, c2, p3, c3, rfl, -, -, -, -, l1, l2, l3⟩ := sch_parts h
  obtain ⟨W0, hW0⟩ : ∃ W0, W0 = allocs w [schO s p1 c1 p2 c2 p3 c3, .cells #[.string ⟨#[]⟩, .bool false, .slice none 0 0] 34] := ⟨_, rfl⟩
  have HS0 : Hid (W0.heap.size = w.heap.size + 2) := Lib.hid (by rw [hW0, allocs_size]; rfl)
  have HX : Hid (∀ V, Below W0.heap.size W0 V → V.heap[w.heap.size]? = some (schO s p1 c1 p2 c2 p3 c3) ∧ V.heap[w.heap.size + 1]? = some (.cells #[.string ⟨#[]⟩, .bool false, .slice none 0 0] 34 (0, 0)) ∧ Below w.heap.size w V) := Lib.hid (by subst hW0; exact fun V hV => ⟨allocs_box (i := 0) rfl hV, allocs_box (i := 1) rfl hV, allocs_on hV⟩)
  obtain ⟨b0, -, B0⟩ := HX.out W0 (Below.refl _ _)
  obtain ⟨x0, x1, x2, x3⟩ := cells4' b0
  obtain ⟨W1, hW1⟩ : ∃ V, V = W0.alloc (.cells #[.int .u8 7, .string nm] 41) := ⟨_, rfl⟩
  have hb1 : Below W0.heap.size W0 W1 := by rw [hW1]; exact tk_alloc W0 _
  have HT : Hid (RoSo W1 (.slice (some ⟨W0.heap.size, 0, none⟩) 1 1) [⟨7, nm⟩]) := Lib.hid (so_one (x := ⟨7, nm⟩) (T := 41) (by rw [hW1]; exact heap_alloc_new W0 _) ⟨by show (7 : Nat) < 256; decide, by show nm.size ≤ maxLen; unfold maxLen; omega⟩)
  have hku : Kp u W1 := (hu.below B0).below hb1
  have H := Lib.hid h
  have HV := Lib.hid (hv.kp hku)
  have HKW := Lib.hid hkw
  have HKU := Lib.hid hku
  have HSM := Lib.hid hS
  have HVT := Lib.hid hvt
  have HB1 := Lib.hid hb1
  have HNM := Lib.hid hn
  clear h hv hu hkw hS hvt hb1 b0 B0 l1 l2 l3 hku hn
  simp only [allocs, schO] at hW0
  go_enter Tryz.func76, Tryz.ntmps76
  go_upto_region 1 with fail
  rw [← hW0]
  clear hW0
  go_upto_region 2 with fail
  rw [← hW1]
  clear hW1 x0 x1 x2 x3
  obtain ⟨x0, x1, x2, x3⟩ := cells4' (HX.out _ HB1.out).1
  go_wp2_with fail
  refine Calls.mono (finding2_any H.out HT.out HKU.out (Kp.refl W1) HKW.out HSM.out) ?_
  rintro e w2 ⟨fv, rfl, hfv, hb2⟩
  have HB2 := Lib.hid hb2
  have HB02 := Lib.hid (HB1.out.trans (hb2.mono HB1.out.size))
  have HZ2 := Lib.hid (HX.out _ HB02.out).2.1
  clear hb2 x0 x1 x2 x3
  by_cases hz : Vl.types s [⟨7, nm⟩] = 0
  · have HF := Lib.hid (hfv hz)
    have HE : Hid (Vl.fits s [⟨7, nm⟩] v = Vl.fit s [⟨7, nm⟩] v) := Lib.hid (by unfold Vl.fits; rw [if_pos hz])
    have HRO : Hid (Ck.right s [⟨7, nm⟩] = true ∧ Vl.TyOk s) := Lib.hid (by
      unfold Vl.types at hz
      by_cases hc : (Ck.check s).2 = 0
      · rw [if_pos hc] at hz
        refine ⟨?_, Vl.ok_types (Ck.check_ok.1 hc)⟩
        cases hr : Ck.right s [⟨7, nm⟩] with
        | true => rfl
        | false => rw [hr] at hz; cases hz
      · rw [if_neg hc] at hz; exact absurd hz hc)
    obtain ⟨q, hq⟩ := (Vl.right_head HRO.out.1).2.2.1 rfl
    have hq : Ck.find s nm = some q := hq
    rw [hz]
    clear hz hfv
    go_wp2_with fail
    refine Calls.mono (fits_any (HF.out.lift HKU.out) (HT.out) HV.out ((Kp.refl W1).below HB2.out) HRO.out.1 HSM.out HRO.out.2 hvl HVT.out) ?_
    rintro e w3 ⟨rfl, hb3⟩
    have HB3 := Lib.hid (HB02.out.trans (hb3.mono HB02.out.size))
    have HF3 := Lib.hid (HF.out.below hb3)
    have HZ3 := Lib.hid (HX.out _ HB3.out).2.1
    have HN3 := Lib.hid (HX.out _ HB3.out).2.2
    clear hb3
    by_cases hft : Vl.fit s [⟨7, nm⟩] v = 0
    · have HE0 := Lib.hid (HE.out.trans hft)
      rw [hft]
      clear hft
      obtain ⟨cf, p, k, rfl, hfr, hfi⟩ := HF3.out.fix hq (by have := HNM.out; unfold maxLen; omega)
      have HFR := Lib.hid hfr
      have HFI := Lib.hid (hfi w3 (Below.refl _ _))
      have HQ := Lib.hid hq
      clear hfi hfr hq
      go_wp2_with fail
      refine Calls.mono HFI.out ?_
      rintro e w4 ⟨rfl, hb4⟩
      obtain ⟨W5, hW5⟩ : ∃ V, V = w4.alloc (.cells #[.string q.name, .bool q.choice, .slice p q.fields.length k] 34) := ⟨_, rfl⟩
      have hb5 : Below w4.heap.size w4 W5 := by rw [hW5]; exact tk_alloc w4 _
      have HN5 : Hid (W5.heap[w4.heap.size]? = some (.cells #[.string q.name, .bool q.choice, .slice p q.fields.length k] 34 (0, 0))) := Lib.hid (by rw [hW5]; exact heap_alloc_new w4 _)
      have HB35 := Lib.hid (hb4.trans (hb5.mono hb4.size))
      have HB5 := Lib.hid (HB3.out.trans (HB35.out.mono HB3.out.size))
      have HZ5 := Lib.hid (HX.out _ HB5.out).2.1
      have HW5 := Lib.hid (HX.out _ HB5.out).2.2
      have HNE : Hid (w4.heap.size ≠ w.heap.size + 1) := Lib.hid (by have h1 := hb4.size; have h2 := HB3.out.size; have h3 := HS0.out; omega)
      clear hb4 hb5
      go_upto_region 6 with fail
      rw [← hW5]
      clear hW5
      obtain ⟨y0, y1, y2⟩ := cells3 HN5.out
      have hz := HZ5.out
      obtain ⟨z0, z1, z2⟩ := cells3 hz
      have f0 := frozen2 hz 0; have f1 := frozen2 hz 1; have f2 := frozen2 hz 2
      have hne := HNE.out
      clear hz
      go_region
      all_goals
        go_wp2_with fail
        refine bodyPost_ret (fitting_res rfl rfl (by exact set_three _ _ _ HZ5.out)) rfl ?_
        exact ⟨((((HW5.out).setCell (by dsimp only; omega) _).setCell (by dsimp only; omega) _).setCell (by dsimp only; omega) _).drew, q, p, k, !q.choice, by rfl, fun h => ⟨HE0.out, HQ.out, by simpa using h, HFR.out⟩, fun _ => ⟨HQ.out, rfl⟩⟩
    · have HNZ : Hid (Vl.fits s [⟨7, nm⟩] v ≠ 0) := Lib.hid (by rw [HE.out]; exact hft)
      generalize Vl.fit s [⟨7, nm⟩] v = ft at *
      have i1 : ((ft : Int) != 0) = true := by rw [bne_iff_ne]; omega
      have hz := HZ3.out
      obtain ⟨z0, z1, z2⟩ := cells3 hz
      have f0 := frozen2 hz 0; have f1 := frozen2 hz 1; have f2 := frozen2 hz 2
      clear hz hft
      go_wp2_with fail
      refine bodyPost_ret (fitting_res rfl rfl (set_three _ _ _ HZ3.out)) rfl ?_
      exact ⟨(((HN3.out).setCell (by dsimp only; omega) _).setCell (by dsimp only; omega) _).setCell (by dsimp only; omega) _, noRcd, none, 0, false, by rfl, fun h => absurd h (by decide), fun h => absurd h HNZ.out⟩
  · have HNZ : Hid (Vl.fits s [⟨7, nm⟩] v ≠ 0) := Lib.hid (by unfold Vl.fits; rw [if_neg hz]; exact hz)
    generalize Vl.types s [⟨7, nm⟩] = ty at *
    have i1 : ((ty : Int) != 0) = true := by rw [bne_iff_ne]; omega
    have HN2 := Lib.hid (HX.out _ HB02.out).2.2
    clear hz hfv
    have hz := HZ2.out
    obtain ⟨z0, z1, z2⟩ := cells3 hz
    have f0 := frozen2 hz 0; have f1 := frozen2 hz 1; have f2 := frozen2 hz 2
    clear hz
    go_wp2_with fail
    refine bodyPost_ret (fitting_res rfl rfl (set_three _ _ _ HZ2.out)) rfl ?_
    exact ⟨(((HN2.out).setCell (by dsimp only; omega) _).setCell (by dsimp only; omega) _).setCell (by dsimp only; omega) _, noRcd, none, 0, false, by rfl, fun h => absurd h (by decide), fun h => absurd h HNZ.out⟩
theorem Vl.fit_of {s : Ip.Sch} {t : List Ip.So} {v : List Vl.Nd} (h : Vl.fits s t v = 0) : Vl.types s t = 0 ∧ ∃ d, Vl.of s t v = some ([], d) ∧ d ≤ 12 ∧ Vl.size v ≤ 4096 := by
  unfold Vl.fits at h
  by_cases ht : Vl.types s t = 0
  · rw [if_pos ht] at h
    refine ⟨ht, ?_⟩
    unfold Vl.fit at h
    cases ho : Vl.of s t v with
    | none => rw [ho] at h; cases h
    | some q =>
      obtain ⟨r, d⟩ := q
      rw [ho] at h
      cases r with
      | cons a r => cases h
      | nil =>
        refine ⟨d, rfl, ?_, ?_⟩
        · by_cases hd : 12 < d
          · simp only [if_pos hd] at h; cases h
          · omega
        · by_cases hd : 12 < d
          · simp only [if_pos hd] at h; cases h
          · simp only [if_neg hd] at h
            by_cases hz : 4096 < Vl.size v
            · simp only [if_pos hz] at h; cases h
            · omega
  · rw [if_neg ht] at h; exact absurd h ht
/-- What an order says. -/
def Vl.orderV (s : Ip.Sch) (nm : ByteArray) (v : List Vl.Nd) : Option (ByteArray × Int) :=
  if Vl.fits s [⟨7, nm⟩] v = 0 then (Ck.find s nm).bind fun q => if q.choice then none else (Vl.plainV Ck.nAccount 4 q.fields (v.drop 1)).bind fun a => (Vl.plainV Ck.nAmount 3 q.fields (v.drop 1)).map fun b => (a.text, b.int)
  else none
theorem Vl.plainV_in {nm : ByteArray} {k : Nat} {fs : List Ip.Fld} {v : List Vl.Nd} {n : Vl.Nd} (h : Vl.plainV nm k fs v = some n) : n ∈ v := by
  unfold Vl.plainV at h
  cases hx : Vl.fieldV nm fs v with
  | none => rw [hx] at h; cases h
  | some x =>
    rw [hx] at h
    obtain ⟨a, b, rfl⟩ := Vl.fieldV_in hx
    cases hx2 : (v.drop a).take b with
    | nil => rw [hx2] at h; cases h
    | cons m l =>
      rw [hx2] at h
      simp only at h
      by_cases e : m.kind = k
      · rw [if_pos e] at h; cases h
        have : n ∈ (v.drop a).take b := by rw [hx2]; exact List.mem_cons_self
        exact List.mem_of_mem_drop (List.mem_of_mem_take this)
      · rw [if_neg e] at h; cases h
def OrderR (o : Option (ByteArray × Int)) (w : World) (e : Ending) (w' : World) : Prop := Below w.heap.size w w' ∧ e = .returned (.tuple #[.string (o.getD (⟨#[]⟩, 0)).1, .int .i64 (o.getD (⟨#[]⟩, 0)).2, .bool o.isSome])
set_option maxRecDepth 100000 in
set_option maxHeartbeats 4000000 in
theorem Order_any {u w : World} {sv vv : Value} {s : Ip.Sch} {nm : ByteArray} {v : List Vl.Nd} (h : RoSch u sv s) (hv : RoNd u vv v) (hu : Kp u w) (hkw : KwIs u) (hS : Ck.Small s) (hn : nm.size ≤ 6000) (hvl : v.length ≤ 6100) (hvt : ∀ n ∈ v, n.text.size ≤ 100000) : Calls Tryz.prog 37 #[sv, .string nm, vv] w (OrderR (Vl.orderV s nm v) w) := by
  obtain ⟨p1, c1, p2, c2, p3, c3, rfl, -, -, -, -, l1, l2, l3⟩ := sch_parts h
  obtain ⟨W0, hW0⟩ : ∃ W0, W0 = allocs w [schO s p1 c1 p2 c2 p3 c3] := ⟨_, rfl⟩
  have HX : Hid (∀ V, Below W0.heap.size W0 V → V.heap[w.heap.size]? = some (schO s p1 c1 p2 c2 p3 c3) ∧ Below w.heap.size w V) := Lib.hid (by subst hW0; exact fun V hV => ⟨allocs_box (i := 0) rfl hV, allocs_on hV⟩)
  obtain ⟨b0, B0⟩ := HX.out W0 (Below.refl _ _)
  obtain ⟨x0, x1, x2, x3⟩ := cells4' b0
  have H := Lib.hid (fitting_any h hv (hu.below B0) hkw hS hn hvl hvt)
  have HV := Lib.hid hv
  have HU := Lib.hid (hu.below B0)
  have HVT := Lib.hid hvt
  have HSM := Lib.hid hS
  obtain ⟨o, ho⟩ : ∃ o, o = Vl.orderV s nm v := ⟨_, rfl⟩
  rw [← ho]
  have HO := Lib.hid ho
  clear h hv hu hkw hS hvt b0 B0 l1 l2 l3 ho
  simp only [allocs, schO] at hW0
  go_enter Tryz.func37, Tryz.ntmps37
  go_upto_region 1 with fail
  rw [← hW0]
  clear hW0
  go_wp2_with fail
  refine Calls.mono H.out ?_
  rintro e w1 ⟨hb1, q, p, c, b, rfl, hp, hp2⟩
  have HP := Lib.hid hp
  have HP2 := Lib.hid hp2
  clear x0 x1 x2 x3 hp hp2 H
  obtain ⟨W2, hW2⟩ : ∃ V, V = w1.alloc (.cells #[.string q.name, .bool q.choice, .slice p q.fields.length c] 34) := ⟨_, rfl⟩
  have hb2 : Below w1.heap.size w1 W2 := by rw [hW2]; exact tk_alloc w1 _
  have HN2 : Hid (W2.heap[w1.heap.size]? = some (.cells #[.string q.name, .bool q.choice, .slice p q.fields.length c] 34 (0, 0))) := Lib.hid (by rw [hW2]; exact heap_alloc_new w1 _)
  have HB2 := Lib.hid (hb1.trans (hb2.mono hb1.size))
  clear hb1 hb2
  go_upto_region 2 with fail
  rw [← hW2]
  clear hW2
  cases b with
  | false =>
    have HE : Hid (o = none) := Lib.hid (by
      rw [HO.out]; unfold Vl.orderV
      by_cases hf : Vl.fits s [⟨7, nm⟩] v = 0
      · obtain ⟨h1, h2⟩ := HP2.out hf
        rw [if_pos hf, h1]
        have h3 : q.choice = true := by simpa using h2
        simp [h3]
      · rw [if_neg hf])
    go_wp2_with fail
    go_ret3
    exact ⟨(HX.out _ HB2.out).2, by rw [HE.out]; rfl⟩
  | true =>
  obtain ⟨hf, hq, hc, hfr⟩ := HP.out rfl
  obtain ⟨-, d, hof, -, -⟩ := Vl.fit_of hf
  obtain ⟨hl, hsk⟩ := Vl.of_whole hq hc hof
  have HE : Hid (o = (Vl.plainV Ck.nAccount 4 q.fields (v.drop 1)).bind fun a => (Vl.plainV Ck.nAmount 3 q.fields (v.drop 1)).map fun b => (a.text, b.int)) := Lib.hid (by
    rw [HO.out]; unfold Vl.orderV
    rw [if_pos hf, hq]
    simp [hc])
  have hrl := (HSM.out.r q (Ck.find_name hq).1).2.1
  have HPL : Hid (∀ (nm : ByteArray) (k : Nat), k < 256 → ∀ W, Below W0.heap.size W0 W → Calls Tryz.prog 80 #[.agg #[.string q.name, .bool q.choice, .slice p q.fields.length c], vv, .string nm, .int .u8 (k : Nat)] W fun e w' => e = .returned (.tuple #[ndV ((Vl.plainV nm k q.fields (v.drop 1)).getD noNd), .bool (Vl.plainV nm k q.fields (v.drop 1)).isSome]) ∧ Below W.heap.size W w') := Lib.hid fun nm k hk W hW => plainOf_any k hk hfr HV.out (HU.out.below hW) hsk hl hvl hrl
  have HVA : Hid (∀ n, Vl.plainV Ck.nAccount 4 q.fields (v.drop 1) = some n → n.text.size ≤ 100000) := Lib.hid fun n h => HVT.out n (List.mem_of_mem_drop (Vl.plainV_in h))
  clear hf hq hc hfr hof hsk hl hrl HP HP2
  generalize hoa : Vl.plainV Ck.nAccount 4 q.fields (v.drop 1) = oa at *
  generalize hob : Vl.plainV Ck.nAmount 3 q.fields (v.drop 1) = ob at *
  have HA : Hid (∀ W, Below W0.heap.size W0 W → Calls Tryz.prog 80 #[.agg #[.string q.name, .bool q.choice, .slice p q.fields.length c], vv, .string ⟨#[97, 99, 99, 111, 117, 110, 116]⟩, .int .u8 4] W fun e w' => e = .returned (.tuple #[ndV (oa.getD noNd), .bool oa.isSome]) ∧ Below W.heap.size W w') := Lib.hid fun W hW => by have := HPL.out Ck.nAccount 4 (by decide) W hW; rw [hoa] at this; exact this
  have HB : Hid (∀ W, Below W0.heap.size W0 W → Calls Tryz.prog 80 #[.agg #[.string q.name, .bool q.choice, .slice p q.fields.length c], vv, .string ⟨#[97, 109, 111, 117, 110, 116]⟩, .int .u8 3] W fun e w' => e = .returned (.tuple #[ndV (ob.getD noNd), .bool ob.isSome]) ∧ Below W.heap.size W w') := Lib.hid fun W hW => by have := HPL.out Ck.nAmount 3 (by decide) W hW; rw [hob] at this; exact this
  clear HPL hoa hob
  obtain ⟨x0, x1, x2⟩ := cells3 HN2.out
  go_wp2_with fail
  refine Calls.mono (HA.out _ HB2.out) ?_
  rintro e w3 ⟨rfl, hb3⟩
  obtain ⟨a, ha⟩ : ∃ a, a = oa.getD noNd := ⟨_, rfl⟩
  rw [← ha]
  have HAA := Lib.hid ha
  clear ha
  unfold ndV
  obtain ⟨W4, hW4⟩ : ∃ V, V = w3.alloc (ndO a) := ⟨_, rfl⟩
  have hb4 : Below w3.heap.size w3 W4 := by rw [hW4]; exact tk_alloc w3 _
  have HN4 : Hid (W4.heap[w3.heap.size]? = some (ndO a)) := Lib.hid (by rw [hW4]; exact heap_alloc_new w3 _)
  have HB24 := Lib.hid (hb3.trans (hb4.mono hb3.size))
  have HB4 := Lib.hid (HB2.out.trans (HB24.out.mono HB2.out.size))
  clear hb3 hb4 x0 x1 x2
  unfold ndO at hW4
  go_upto_region 5 with fail
  rw [← hW4]
  clear hW4
  obtain ⟨x0, x1, x2⟩ := cells3 (box_keep HB24.out HN2.out)
  go_wp2_with fail
  refine Calls.mono (HB.out _ HB4.out) ?_
  rintro e w5 ⟨rfl, hb5⟩
  obtain ⟨n, hn'⟩ : ∃ n, n = ob.getD noNd := ⟨_, rfl⟩
  rw [← hn']
  have HNN := Lib.hid hn'
  clear hn'
  unfold ndV
  obtain ⟨W6, hW6⟩ : ∃ V, V = w5.alloc (ndO n) := ⟨_, rfl⟩
  have hb6 : Below w5.heap.size w5 W6 := by rw [hW6]; exact tk_alloc w5 _
  have HN6 : Hid (W6.heap[w5.heap.size]? = some (ndO n)) := Lib.hid (by rw [hW6]; exact heap_alloc_new w5 _)
  have HB46 := Lib.hid (hb5.trans (hb6.mono hb5.size))
  have HN46 := Lib.hid (box_keep HB46.out HN4.out)
  have HB6 := Lib.hid (HX.out _ (HB4.out.trans (HB46.out.mono HB4.out.size))).2
  clear hb5 hb6 x0 x1 x2
  unfold ndO at hW6
  go_upto_region 6 with fail
  rw [← hW6]
  clear hW6
  cases oa with
  | none =>
    have HEE : Hid (o = none) := Lib.hid HE.out
    go_wp2_with fail
    go_ret3
    exact ⟨HB6.out, by rw [HEE.out]; rfl⟩
  | some a' =>
  cases ob with
  | none =>
    have HEE : Hid (o = none) := Lib.hid HE.out
    go_wp2_with fail
    go_ret3
    exact ⟨HB6.out, by rw [HEE.out]; rfl⟩
  | some n' =>
    obtain rfl : a = a' := HAA.out
    obtain rfl : n = n' := HNN.out
    have HEE : Hid (o = some (a.text, n.int)) := Lib.hid HE.out
    have HSZ := Lib.hid (HVA.out a rfl)
    obtain ⟨y0, y1, y2, y3⟩ := cells4' HN46.out
    obtain ⟨z0, z1, z2, z3⟩ := cells4' HN6.out
    clear y0 y1 y3 z0 z2 z3
    have HC : Hid (∀ V, Below W6.heap.size W6 V → V.cell? ⟨w5.heap.size, 1, none⟩ = some (.int .i64 n.int)) := Lib.hid fun V hV => (cells4' (box_keep hV HN6.out)).2.1
    simp only [Option.isSome_some]
    go_upto_region 8 with fail
    go_region_with (go_at_call 44; refine (clone_any a.text _ (by have := HSZ.out; omega)).mono ?_; rintro e w8 ⟨rfl, hb8⟩; have HB8 : Hid (Below W6.heap.size W6 w8) := Lib.hid (Below.trans ((Below.refl W6.heap.size W6).drew) hb8); have hc8 := HC.out _ HB8.out)
    all_goals
      go_wp2_with fail
      go_ret3
      exact ⟨HB6.out.trans (HB8.out.mono HB6.out.size), by rw [HEE.out]; rfl⟩
end Go.Proofs.YtnkdhmoocomjfaaGreatDoor
