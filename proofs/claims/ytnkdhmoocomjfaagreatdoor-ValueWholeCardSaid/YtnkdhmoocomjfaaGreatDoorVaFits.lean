/-
  Walks over package value: which values fit. Conditions: those in the theorems.
-/
import Derived.Test.YtnkdhmoocomjfaaGreatDoorVaTake
set_option linter.unusedSimpArgs false
set_option linter.unusedVariables false
namespace Vl
open Ip
section
variable {s : Sch} {t ty : List So} {v rest : List Nd} {st : List (List So × Nat)} {d dp i : Nat} {n : Nd}
/-- How far the parts have been eaten, and what is to come. -/
def Way (s : Sch) (t : List So) (v : List Nd) (i d : Nat) (st : List (List So × Nat)) : Prop := of s t v = (eatD s st (v.drop i)).map fun q => (q.1, max d q.2)
theorem Way.zero (s : Sch) (t : List So) (v : List Nd) : Way s t v 0 0 [(t, 1)] := by
  unfold Way of
  rw [List.drop_zero]
  cases eatD s [(t, 1)] v with
  | none => rfl
  | some q => simp
theorem Way.next (h : Way s t v i d ((ty, dp) :: st)) (hi : i < v.length) {ks : List (List So)} (hk : kidsOf s ty v[i] = some ks) : Way s t v (i + 1) (max d dp) (ks.map (fun t => (t, dp + 1)) ++ st) := by
  unfold Way at h ⊢
  rw [h, List.drop_eq_getElem_cons hi, eatD_cons, hk]
  simp only
  cases eatD s (ks.map (fun t => (t, dp + 1)) ++ st) (v.drop (i + 1)) with
  | none => rfl
  | some q => simp [Nat.max_assoc]
theorem Way.bad (h : Way s t v i d ((ty, dp) :: st)) (hi : i < v.length) (hk : kidsOf s ty v[i] = none) : fit s t v = 150 := by
  unfold Way at h
  unfold fit
  rw [h, List.drop_eq_getElem_cons hi, eatD_cons, hk]
  rfl
theorem Way.more (h : Way s t v i d []) (hi : i < v.length) : fit s t v = 150 := by
  unfold Way at h
  unfold fit
  rw [h, eatD_nil, List.drop_eq_getElem_cons hi]
  rfl
theorem Way.less (h : Way s t v v.length d ((ty, dp) :: st)) : fit s t v = 150 := by
  unfold Way at h
  unfold fit
  rw [h, List.drop_length]
  rfl
theorem Way.done (h : Way s t v v.length d []) : fit s t v = if 12 < d then 151 else if 4096 < size v then 3 else 0 := by
  unfold Way at h
  unfold fit
  rw [h, List.drop_length]
  show (if 12 < max d 0 then 151 else _) = _
  rw [Nat.max_zero]
end
theorem size_take {v : List Nd} {i : Nat} (hi : i < v.length) : size (v.take (i + 1)) = size (v.take i) + (1 + v[i].text.size) := by
  unfold size
  rw [List.take_succ_eq_append_getElem hi, List.map_append, List.sum_append]; simp
theorem size_ge (v : List Nd) : v.length ≤ size v := by
  unfold size
  induction v with
  | nil => exact Nat.le_refl _
  | cons a l ih => rw [List.map_cons, List.sum_cons, List.length_cons]; omega
theorem comes_pos {R : List Rw} (h : RowsOk R) (hn : R ≠ []) : ∃ p st, comes R = p :: st := by
  obtain ⟨R0, x, rfl⟩ : ∃ R0 x, R = R0 ++ [x] := ⟨R.dropLast, R.getLast hn, (List.dropLast_concat_getLast hn).symm⟩
  exact ⟨_, _, comes_left (h x (by simp)).1⟩
/-- What is to come is right, and not too deep. -/
def Good (s : Sch) (i : Nat) (st : List (List So × Nat)) : Prop := ∀ p ∈ st, Ck.right s p.1 = true ∧ p.2 ≤ i + 1
theorem Good.next {s : Sch} (ho : TyOk s) {i dp : Nat} {ty : List So} {st : List (List So × Nat)} {n : Nd} {ks : List (List So)} (h : Good s i ((ty, dp) :: st)) (hk : kidsOf s ty n = some ks) : Good s (i + 1) (ks.map (fun t => (t, dp + 1)) ++ st) := fun p hp => by
  have h0 := h (ty, dp) List.mem_cons_self
  rcases List.mem_append.1 hp with hp | hp
  · obtain ⟨k, hk', rfl⟩ := List.mem_map.1 hp
    exact ⟨kids_right ho h0.1 hk k hk', by show dp + 1 ≤ _; have := h0.2; simp only at this; omega⟩
  · have := h p (List.mem_cons_of_mem _ hp); exact ⟨this.1, by omega⟩
end Vl
namespace Go.Proofs.YtnkdhmoocomjfaaGreatDoor
open Go.RowKit
/-- Where the walk over the parts stands. -/
def FitW (u w : World) (s : Ip.Sch) (fv : Value) (t : List Ip.So) (v : List Vl.Nd) (i : Nat) (W : World) : Prop := ∃ rv R d z, WalkR u w W fv rv R d z ∧ Vl.RowsOk R ∧ R.length ≤ 1 + 41 * i ∧ Vl.Good s i (Vl.comes R) ∧ d ≤ i + 1 ∧ z = Vl.size (v.take i) ∧ z ≤ i * 100001 ∧ Vl.Way s t v i d (Vl.comes R)
set_option maxRecDepth 100000 in
set_option maxHeartbeats 4000000 in
theorem fits_any {u w : World} {s : Ip.Sch} {fv tv vv : Value} {t : List Ip.So} {v : List Vl.Nd} (hf : FinderIs u s w fv) (ht : RoSo u tv t) (hv : RoNd u vv v) (hu : Kp u w) (hr : Ck.right s t = true) (hS : Ck.Small s) (ho : Vl.TyOk s) (hvl : v.length ≤ 6100) (hvt : ∀ n ∈ v, n.text.size ≤ 100000) : Calls Tryz.prog 67 #[fv, tv, vv] w fun e w' => e = .returned (.int .i64 (Vl.fit s t v : Nat)) ∧ Below w.heap.size w w' := by
  obtain ⟨pv, cv, rfl, -, -⟩ := RoIs.shape hv
  obtain ⟨pt, ct, rfl, -, -⟩ := RoIs.shape ht
  have hf0 := hf
  obtain ⟨cf, bf, nf, gf, rfl, -, -, -⟩ := hf0
  obtain ⟨fv, hfv⟩ : ∃ fv, fv = Value.func (.func 156) #[] #[.pointer (some ⟨cf, 0, none⟩)] := ⟨_, rfl⟩
  rw [← hfv] at hf
  obtain ⟨W1, hW1⟩ : ∃ W, W = w.alloc (.cells #[fv, .slice none 0 0, .int .i64 0, .int .i64 0] 161) := ⟨_, rfl⟩
  have H1 : Hid (WalkR u w W1 fv (.slice none 0 0) [] 0 0) := Lib.hid ⟨by rw [hW1]; exact heap_alloc_new w _, RowIs.nil _ _ _, by rw [hW1]; exact tk_alloc w _⟩
  have HF := Lib.hid hf
  have HT := Lib.hid ht
  have HV := Lib.hid hv
  have HU := Lib.hid hu
  have HR := Lib.hid hr
  have HS := Lib.hid hS
  have HO := Lib.hid ho
  have HVT := Lib.hid hvt
  clear hf ht hv hu hr hS ho hvt
  rw [hfv] at hW1
  go_enter Tryz.func67, Tryz.ntmps67
  go_upto_region 2 with fail
  rw [← hW1]
  clear hW1 hfv
  go_wp2_with fail
  refine Calls.mono (wait_any H1.out HT.out 1 1 (by simp)) ?_
  rintro e w2 ⟨rfl, -, rv2, h2⟩
  rw [if_pos Nat.zero_lt_one] at h2
  have H2 : Hid (FitW u w s fv t v 0 w2) := Lib.hid ⟨rv2, _, 0, 0, h2, (show Vl.RowsOk [] from fun r hr => nomatch hr).snoc (Nat.le_refl 1) (by show 1 ≤ _; omega), by simp, fun p hp => by
    have hp' : p ∈ [(t, 1)] := hp
    rw [List.mem_singleton.1 hp']; exact ⟨HR.out, by show 1 ≤ 0 + 1; omega⟩, by omega, rfl, by omega, Vl.Way.zero s t v⟩
  clear h2
  go_wp2_with fail
  go_loopw [9, 16] (fun _ iv wr => ∃ i : Nat, i ≤ v.length ∧ iv = .int .i64 (i : Nat) ∧ Hid (FitW u w s fv t v i wr)) (fun _ iv _ => v.length - (intOf iv).toNat)
  case atStart => exact ⟨0, Nat.zero_le _, rfl, H2⟩
  case round =>
  obtain ⟨i, hi, rfl, HQ⟩ := hrel
  obtain ⟨rv, R, d, z, h1, h2, h3, h4, h5, h6, h7, h8⟩ := HQ.out
  by_cases hlt : i < v.length
  · have i1 : (i : Int) < (v.length : Int) := by omega
    have i2 : (0 : Int) ≤ (i : Int) := by omega
    have hkw : Kp u wr := HU.out.below h1.on
    obtain ⟨A, cc, e3, hA, d0, d1, d2, d3, hin⟩ := nd_at (HV.out.kp hkw) hlt
    cases e3
    have HIN := Lib.hid hin
    have HTX := Lib.hid (HVT.out _ (List.getElem_mem hlt))
    have HSZ := Lib.hid (Vl.size_take hlt)
    obtain ⟨W3, hW3⟩ : ∃ W, W = wr.alloc (ndO v[i]) := ⟨_, rfl⟩
    have hb3 : Below wr.heap.size wr W3 := by rw [hW3]; exact tk_alloc wr _
    have HNB : Hid (W3.heap[wr.heap.size]? = some (ndO v[i])) := Lib.hid (by rw [hW3]; exact heap_alloc_new wr _)
    have H3 := Lib.hid (h1.below hb3)
    have HW8 := Lib.hid h8
    have HRK := Lib.hid h2
    have HGD := Lib.hid h4
    have HNX : Hid (∀ ty dp st, Vl.Way s t v i d ((ty, dp) :: st) → ∀ ks, Vl.kidsOf s ty v[i] = some ks → Vl.Way s t v (i + 1) (max d dp) (ks.map (fun t => (t, dp + 1)) ++ st)) := Lib.hid fun ty dp st h ks hk => h.next hlt hk
    have HBD : Hid (∀ ty dp st, Vl.Way s t v i d ((ty, dp) :: st) → Vl.kidsOf s ty v[i] = none → Vl.fit s t v = 150) := Lib.hid fun ty dp st h hk => h.bad hlt hk
    have HMO : Hid (Vl.Way s t v i d [] → Vl.fit s t v = 150) := Lib.hid fun h => h.more hlt
    clear h1 h2 h4 h8 hb3 hA hin hkw HQ
    generalize v[i] = n at *
    unfold ndO at hW3
    go_upto_region 6 with fail
    rw [← hW3]
    clear hW3 d0 d1 d2 d3
    obtain ⟨y0, y1, y2, y3⟩ := cells4' HNB.out
    go_wp2_with fail
    clear y0 y1 y2 y3
    rcases List.eq_nil_or_concat R with rfl | ⟨R0, x, rfl⟩
    · have HE := Lib.hid (HMO.out HW8.out)
      have htk := take_none H3.out n
      unfold ndV at htk
      refine Calls.mono htk ?_
      rintro e w4 ⟨rfl, hb4⟩
      have HB4 := Lib.hid hb4
      clear hb4 htk
      go_wp2_with fail
      go_ret
      exact ⟨by rw [HE.out]; rfl, HB4.out⟩
    · rw [List.concat_eq_append] at *
      have hx1 := (HRK.out x (by simp)).1
      have hcm := Vl.comes_left (R := R0) hx1
      have hgx := HGD.out (x.ty, x.depth) (by rw [hcm]; exact List.mem_cons_self)
      have hrl : R0.length + 1 ≤ 1 + 41 * i := by have := h3; rw [List.length_append] at this; simpa using this
      have HTK := Lib.hid (take_some H3.out HF.out HRK.out (by omega) HU.out hgx.1 HS.out n HIN.out (by omega) (by have := hgx.2; simp only at this; omega) (by omega) HTX.out)
      have HCM := Lib.hid hcm
      have HGX := Lib.hid hgx.2
      unfold ndV at HTK
      clear hcm hgx hx1
      refine Calls.mono HTK.out ?_
      intro e w4 hp
      have HP := Lib.hid hp
      clear hp HTK
      cases hk : Vl.kidsOf s x.ty n with
      | none =>
        obtain ⟨rfl, hb4⟩ : e = .returned (.bool false) ∧ Below w.heap.size w w4 := by have := HP.out; rw [hk] at this; exact this
        have HE := Lib.hid (HBD.out x.ty x.depth (Vl.comes (Vl.left R0 x)) (by rw [← HCM.out]; exact HW8.out) hk)
        have HB4 := Lib.hid hb4
        clear hb4 hk HP
        go_wp2_with fail
        go_ret
        exact ⟨by rw [HE.out]; rfl, HB4.out⟩
      | some ks =>
        obtain ⟨rfl, rv', R', a1, a2, a3, a4⟩ : e = .returned (.bool true) ∧ ∃ rv' R', WalkR u w w4 fv rv' R' (max d x.depth) (z + (1 + n.text.size)) ∧ Vl.comes R' = ks.map (fun t => (t, x.depth + 1)) ++ Vl.comes (Vl.left R0 x) ∧ Vl.RowsOk R' ∧ R'.length ≤ R0.length + 41 := by have := HP.out; rw [hk] at this; exact this
        have HW9 : Hid (FitW u w s fv t v (i + 1) w4) := Lib.hid ⟨rv', R', _, _, a1, a3, by omega, by rw [a2]; exact Vl.Good.next HO.out (by rw [← HCM.out]; exact HGD.out) hk, by have := HGX.out; simp only at this; omega, by rw [HSZ.out, h6], by have := HTX.out; rw [Nat.add_mul]; omega, by rw [a2]; exact HNX.out x.ty x.depth _ (by rw [← HCM.out]; exact HW8.out) ks hk⟩
        clear a1 a2 a3 a4 hk HP
        go_wp2_with fail
        go_roundw
        case rel => exact ⟨i + 1, by omega, by go_num, HW9⟩
        case measure => simp [intOf]; omega
  · obtain rfl : i = v.length := by omega
    have i1 : ¬ (v.length : Int) < (v.length : Int) := by omega
    have H1 := Lib.hid h1
    have hsz : z = Vl.size v := by rw [h6, List.take_length]
    obtain ⟨b0, b1, b2, b3⟩ := cells4' h1.box
    obtain ⟨pr, cr, rfl, -, -⟩ := h1.row.shape
    have HON := Lib.hid h1.on
    rcases List.eq_nil_or_concat R with rfl | ⟨R0, x, rfl⟩
    · have HE0 := Lib.hid (Vl.Way.done h8)
      have hlz := Vl.size_ge v
      rw [← hsz] at hlz HE0
      clear h1 h2 h4 h6 h8 hlt hi HQ hsz
      have i0 : ¬ (0 : Int) < (([] : List Vl.Rw).length : Int) := by simp
      by_cases hd : 12 < d
      · have HE : Hid (Vl.fit s t v = 151) := Lib.hid (by rw [HE0.out, if_pos hd])
        have i2 : (12 : Int) < (d : Int) := by omega
        clear hd
        go_wp2_with fail
        go_ret
        exact ⟨by rw [HE.out]; rfl, HON.out⟩
      · have i2 : ¬ (12 : Int) < (d : Int) := by omega
        by_cases hz : 4096 < z
        · have HE : Hid (Vl.fit s t v = 3) := Lib.hid (by rw [HE0.out, if_neg hd, if_pos hz])
          have i3 : (4096 : Int) < (z : Int) := by omega
          by_cases hl : 4096 < v.length
          · have i4 : (4096 : Int) < (v.length : Int) := by omega
            clear hd hz hl
            go_wp2_with fail
            go_ret
            exact ⟨by rw [HE.out]; rfl, HON.out⟩
          · have i4 : ¬ (4096 : Int) < (v.length : Int) := by omega
            clear hd hz hl
            go_wp2_with fail
            go_ret
            exact ⟨by rw [HE.out]; rfl, HON.out⟩
        · have HE : Hid (Vl.fit s t v = 0) := Lib.hid (by rw [HE0.out, if_neg hd, if_neg hz])
          have i3 : ¬ (4096 : Int) < (z : Int) := by omega
          have i4 : ¬ (4096 : Int) < (v.length : Int) := by omega
          clear hd hz
          go_wp2_with fail
          go_ret
          exact ⟨by rw [HE.out]; rfl, HON.out⟩
    · rw [List.concat_eq_append] at *
      have hcm := Vl.comes_left (R := R0) (h2 x (by simp)).1
      rw [hcm] at h8
      have HE := Lib.hid (Vl.Way.less h8)
      have i0 : (0 : Int) < ((R0 ++ [x]).length : Int) := by simp
      clear h1 h2 h4 h6 h8 hlt hi HQ hsz hcm
      go_wp2_with fail
      go_ret
      exact ⟨by rw [HE.out]; rfl, HON.out⟩
set_option maxRecDepth 100000 in
set_option maxHeartbeats 4000000 in
theorem Fits_any {u w : World} {sv tv vv : Value} {s : Ip.Sch} {t : List Ip.So} {v : List Vl.Nd} (h : RoSch u sv s) (ht : RoSo u tv t) (hv : RoNd u vv v) (hu : Kp u w) (hkw : KwIs u) (hS : Ck.Small s) (hvl : v.length ≤ 6100) (hvt : ∀ n ∈ v, n.text.size ≤ 100000) : Calls Tryz.prog 28 #[sv, tv, vv] w fun e w' => e = .returned (.int .i64 (Vl.fits s t v : Nat)) ∧ Below w.heap.size w w' := by
  obtain ⟨p1, c1, p2, c2, p3, c3, rfl, -, -, -, -, l1, l2, l3⟩ := sch_parts h
  obtain ⟨W0, hW0⟩ : ∃ W0, W0 = allocs w [schO s p1 c1 p2 c2 p3 c3] := ⟨_, rfl⟩
  have HX : Hid (∀ W, Below W0.heap.size W0 W → W.heap[w.heap.size]? = some (schO s p1 c1 p2 c2 p3 c3) ∧ Below w.heap.size w W) := Lib.hid (by subst hW0; exact fun W hW => ⟨allocs_box (i := 0) rfl hW, allocs_on hW⟩)
  obtain ⟨b0, B0⟩ := HX.out W0 (Below.refl _ _)
  obtain ⟨x0, x1, x2, x3⟩ := cells4' b0
  have HT := Lib.hid ht
  have HV := Lib.hid hv
  have HU := Lib.hid (hu.below B0)
  have HSM := Lib.hid hS
  have HVT := Lib.hid hvt
  have HFD := Lib.hid (finding_any h ht HU.out hkw hS)
  clear h ht hv hu hkw hS hvt b0 B0 l1 l2 l3
  simp only [allocs, schO] at hW0
  go_enter Tryz.func28, Tryz.ntmps28
  go_upto_region 1 with fail
  rw [← hW0]
  clear hW0
  go_wp2_with fail
  refine Calls.mono HFD.out ?_
  rintro e w1 ⟨fv, rfl, hfv, hb1⟩
  have HB1 := Lib.hid hb1
  clear hb1 x0 x1 x2 x3
  by_cases hz : Vl.types s t = 0
  · have HF := Lib.hid (hfv hz)
    have HE : Hid (Vl.fits s t v = Vl.fit s t v) := Lib.hid (by unfold Vl.fits; rw [if_pos hz])
    have HRO : Hid (Ck.right s t = true ∧ Vl.TyOk s) := Lib.hid (by
      unfold Vl.types at hz
      by_cases hc : (Ck.check s).2 = 0
      · rw [if_pos hc] at hz
        refine ⟨?_, Vl.ok_types (Ck.check_ok.1 hc)⟩
        cases hr : Ck.right s t with
        | true => rfl
        | false => rw [hr] at hz; cases hz
      · rw [if_neg hc] at hz; exact absurd hz hc)
    rw [hz]
    clear hz hfv
    go_wp2_with fail
    refine Calls.mono (fits_any HF.out (HT.out) HV.out (HU.out.below HB1.out) HRO.out.1 HSM.out HRO.out.2 hvl HVT.out) ?_
    rintro e w2 ⟨rfl, hb2⟩
    have HB2 := Lib.hid (HB1.out.trans (hb2.mono HB1.out.size))
    clear hb2
    go_wp2_with fail
    go_ret
    exact ⟨by rw [HE.out]; rfl, (HX.out _ HB2.out).2⟩
  · have HE : Hid (Vl.fits s t v = Vl.types s t) := Lib.hid (by unfold Vl.fits; rw [if_neg hz])
    clear hfv
    generalize Vl.types s t = ty at *
    have i1 : ((ty : Int) != 0) = true := by rw [bne_iff_ne]; omega
    clear hz
    go_wp2_with fail
    go_ret
    exact ⟨by rw [HE.out]; rfl, (HX.out _ HB1.out).2⟩
end Go.Proofs.YtnkdhmoocomjfaaGreatDoor
