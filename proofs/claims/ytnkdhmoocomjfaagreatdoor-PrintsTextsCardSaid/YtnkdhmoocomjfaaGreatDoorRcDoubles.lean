/-
  Walks over the document's check: the names that are declared, and whether one stands ahead of itself. Conditions: those in the theorems.
  Walks over the document's check: the names of a declaration's parts. Conditions: those in the theorems.
  Walks over the document's check: names that stand twice (its third rule). Conditions: those in the theorems.
-/
import Derived.Test.YtnkdhmoocomjfaaGreatDoorRcNames
import Derived.Test.YtnkdhmoocomjfaaGreatDoorCkNames
set_option linter.unusedSimpArgs false
set_option linter.unusedVariables false
namespace Go.Proofs.YtnkdhmoocomjfaaGreatDoor
open Go.RowKit
set_option maxRecDepth 100000 in
set_option maxHeartbeats 4000000 in
theorem refBefore_any {w : World} {p : Option Addr} {c : Nat} {ss : List ByteArray} (h : TextsAt w p ss) (hl : ss.length ≤ 1000000) {i : Nat} (hi : i < ss.length) :
    Calls Tryz.prog 94 #[.slice p ss.length c, .int .i64 (i : Nat)] w fun e w' => e = .returned (.bool (Ck.inB (ss.take i) ss[i])) ∧ Below w.heap.size w w' := by
  have H := Lib.hid h
  obtain ⟨A0, e0, hA0, d0⟩ := h i hi
  cases e0
  obtain ⟨n, hn⟩ : ∃ n, n = ss[i] := ⟨_, rfl⟩
  rw [← hn]
  rw [← hn] at d0
  have i3 : (i : Int) < (ss.length : Int) := by omega
  have i4 : (0 : Int) ≤ (i : Int) := by omega
  have HN := Lib.hid hn
  clear h hn d0
  go_enter Tryz.func94, Tryz.ntmps94
  go_wp2_with fail
  go_loopw [5] (fun kv wr => ∃ k : Nat, k ≤ i ∧ kv = .int .i64 (k : Nat) ∧ Hid (Below w.heap.size w wr ∧ ∀ j (hj : j < ss.length), j < k → Ip.eqB ss[j] n = false)) (fun kv _ => i - (intOf kv).toNat)
  case atStart => exact ⟨0, Nat.zero_le _, rfl, Lib.hid ⟨Below.refl _ _, fun j _ hj => absurd hj (Nat.not_lt_zero _)⟩⟩
  case round =>
    obtain ⟨k, hk, rfl, HR⟩ := hrel
    have HD : Hid (∀ n, Below w.heap.size w (wr.drewN n)) := Lib.hid fun n => HR.out.1.trans ((dn_below wr n).mono HR.out.1.size)
    obtain ⟨A1, e1, hA1, d1⟩ := (H.out.below HR.out.1) i hi
    cases e1
    rw [← HN.out] at d1
    by_cases hlt : k < i
    · have i1 : (k : Int) < (i : Int) := by omega
      have i5 : (k : Int) < (ss.length : Int) := by omega
      have i2 : (0 : Int) ≤ (k : Int) := by omega
      have hkl : k < ss.length := by omega
      obtain ⟨A, e3, hA, c0⟩ := (H.out.below HR.out.1) k hkl
      cases e3
      have hq2 := eqB_list ss[k] n
      cases hq : Ip.eqB ss[k] n with
      | true =>
        rw [hq] at hq2
        have HF : Hid (Ck.inB (ss.take i) n = true) := Lib.hid (Ck.inB_iff.2 (List.mem_iff_getElem.2 ⟨k, by rw [List.length_take]; omega, by rw [List.getElem_take]; exact Ip.eqB_iff.1 hq⟩))
        clear hq
        generalize ss[k] = y at c0 hq2
        go_wp2_with fail
        go_quiet (fail)
        go_wp2_with fail
        go_ret
        exact ⟨by rw [HF.out]; rfl, HD.out _⟩
      | false =>
        rw [hq] at hq2
        have HQ := Lib.hid hq
        clear hq
        generalize hy : ss[k] = y at c0 hq2
        have HY := Lib.hid hy
        clear hy
        go_wp2_with fail
        go_quiet (fail)
        go_wp2_with fail
        go_roundw
        case rel => exact ⟨k + 1, by omega, by go_num, Lib.hid ⟨HD.out _, fun j hj hjk => by
          by_cases e : j < k
          · exact HR.out.2 j hj e
          · obtain rfl : j = k := by omega
            exact HQ.out⟩⟩
        case measure => simp [intOf]; omega
    · obtain rfl : k = i := by omega
      have i1 : ¬ (k : Int) < (k : Int) := by omega
      have HF : Hid (Ck.inB (ss.take k) n = false) := Lib.hid (by
        rw [Bool.eq_false_iff]
        intro e
        obtain ⟨j, hj, he⟩ := List.mem_iff_getElem.1 (Ck.inB_iff.1 e)
        rw [List.length_take] at hj
        rw [List.getElem_take] at he
        have := HR.out.2 j (by omega) (by omega)
        rw [Ip.eqB_iff.2 he] at this
        cases this)
      go_wp2_with fail
      go_ret
      exact ⟨by rw [HF.out]; rfl, HR.out.1⟩
theorem decls_fst (s : Ip.Sch) : (Ck.decls s).map Prod.fst = s.records.map (fun x => x.name) ++ s.services.map (fun x => x.name) ++ s.sagas.map (fun x => x.name) := by
  unfold Ck.decls
  simp only [List.map_append, List.map_map, List.append_assoc]
  rfl
set_option maxRecDepth 100000 in
set_option maxHeartbeats 16000000 in
theorem refDecls_any {u w : World} {sv : Value} {s : Ip.Sch} (h : RoSch u sv s) (hu : Kp u w) (hS : Ck.Small s) : Calls Tryz.prog 93 #[sv] w fun e w' => ∃ tv, e = .returned tv ∧ OwnTx w' w.heap.size tv ((Ck.decls s).map Prod.fst) ∧ Below w.heap.size w w' := by
  obtain ⟨p1, c1, p2, c2, p3, c3, rfl, hsn, hr, hs, hg, l1, l2, l3⟩ := sch_parts h
  obtain ⟨W0, hW0⟩ : ∃ W0, W0 = allocs w [schO s p1 c1 p2 c2 p3 c3] := ⟨_, rfl⟩
  have HX : Hid (W0.heap[w.heap.size]? = some (schO s p1 c1 p2 c2 p3 c3)) := Lib.hid (by rw [hW0]; exact allocs_box (i := 0) rfl (Below.refl _ _))
  have HB0 : Hid (Below w.heap.size w W0) := Lib.hid (by rw [hW0]; exact allocs_on (Below.refl _ _))
  have HXL : Hid (w.heap.size < W0.heap.size) := Lib.hid (Array.getElem?_eq_some_iff.1 HX.out).1
  have HU := Lib.hid (hu.below HB0.out)
  have HR := Lib.hid hr
  have HV := Lib.hid hs
  have HG := Lib.hid hg
  have m1 : s.records.length ≤ 100 := hS.nr
  have m2 : s.services.length ≤ 100 := hS.ns
  have m3 : s.sagas.length ≤ 100 := hS.ng
  clear h hu hr hs hg hS l1 l2 l3
  simp only [allocs, schO] at hW0
  go_enter Tryz.func93, Tryz.ntmps93
  go_upto_region 1 with fail
  rw [← hW0]
  clear hW0
  go_wp2_with fail
  go_loopw [3, 4] (fun lv kv wr => ∃ k : Nat, k ≤ s.records.length ∧ kv = .int .i64 (k : Nat) ∧ Hid (Below W0.heap.size W0 wr ∧ OwnTx wr W0.heap.size lv ((s.records.take k).map (fun x => x.name)))) (fun _ kv _ => s.records.length - (intOf kv).toNat)
  case atStart => exact ⟨0, Nat.zero_le _, rfl, Lib.hid ⟨Below.refl _ _, by rw [List.take_zero, List.map_nil]; exact OwnTx.nil _ _⟩⟩
  case round =>
  obtain ⟨k, hk, rfl, HQ⟩ := hrel
  obtain ⟨m, hm⟩ : ∃ m, ((s.records.take k).map (fun x => x.name)).length = m := ⟨_, rfl⟩
  obtain ⟨pl, cl, hlv, -, -, -⟩ := HQ.out.2.texts
  rw [hm] at hlv
  subst hlv
  have HM : Hid (m ≤ 300) := Lib.hid (by rw [← hm]; simp only [List.length_append, List.length_map, List.length_take]; omega)
  have HLEN := Lib.hid hm
  clear hm
  obtain ⟨x0, x1, x2, x3⟩ := cells4' ((HQ.out.1.block _ HXL.out).trans HX.out)
  by_cases hlt : k < s.records.length
  · have i1 : (k : Int) < (s.records.length : Int) := by omega
    have i2 : (0 : Int) ≤ (k : Int) := by omega
    obtain ⟨A, cc, p, kq, e3, hA, d0, d1, d2, hin, hsub⟩ := rcd_at2 HR.out (HU.out.below HQ.out.1) hlt
    cases e3
    have HT : Hid ((s.records.take (k + 1)).map (fun x => x.name) = (s.records.take k).map (fun x => x.name) ++ [s.records[k].name]) := Lib.hid (by rw [List.take_succ_eq_append_getElem hlt, List.map_append]; simp)
    clear hsub hin hA
    generalize s.records[k] = r at *
    obtain ⟨pv, cv, V, hrun, hL5, hG⟩ := tx_append HQ.out.2 r.name (by rw [HLEN.out]; have := HM.out; omega) HQ.out.1.size 129
    rw [HLEN.out] at hrun hL5 hG
    have HB := Lib.hid (GrewT.below hG HQ.out.1 HQ.out.1.size (fun k hk => (HQ.out.2.lt k hk).1))
    rw [← HT.out] at hL5
    have HO := Lib.hid hL5
    clear hL5 hG
    go_wp2_with (at_builtin; refine Lib.wpList_append_run _ rfl (.tmp 14) (.tmp 21) _ _ rfl _ _ rfl rfl _ _ hrun ?_)
    go_roundw
    case rel => exact ⟨k + 1, by omega, by go_num, Lib.hid ⟨HB.out, HO.out⟩⟩
    case measure => simp [intOf]; omega
  · obtain rfl : k = s.records.length := by omega
    have i1 : ¬ (s.records.length : Int) < (s.records.length : Int) := by omega
    have HArecords : Hid (Below W0.heap.size W0 wr ∧ OwnTx wr W0.heap.size (.slice pl m cl) (s.records.map (fun x => x.name))) := Lib.hid (by have := HQ.out; rwa [List.take_length] at this)
    clear hlt HLEN HM 
    go_wp2_with fail
    go_loopw [3, 5] (fun lv kv wr => ∃ k : Nat, k ≤ s.services.length ∧ kv = .int .i64 (k : Nat) ∧ Hid (Below W0.heap.size W0 wr ∧ OwnTx wr W0.heap.size lv (s.records.map (fun x => x.name) ++ (s.services.take k).map (fun x => x.name)))) (fun _ kv _ => s.services.length - (intOf kv).toNat)
    case atStart => exact ⟨0, Nat.zero_le _, rfl, Lib.hid ⟨HArecords.out.1, by rw [List.take_zero, List.map_nil, List.append_nil]; exact HArecords.out.2⟩⟩
    case round =>
    obtain ⟨k, hk, rfl, HQ⟩ := hrel
    obtain ⟨m, hm⟩ : ∃ m, (s.records.map (fun x => x.name) ++ (s.services.take k).map (fun x => x.name)).length = m := ⟨_, rfl⟩
    obtain ⟨pl, cl, hlv, -, -, -⟩ := HQ.out.2.texts
    rw [hm] at hlv
    subst hlv
    have HM : Hid (m ≤ 300) := Lib.hid (by rw [← hm]; simp only [List.length_append, List.length_map, List.length_take]; omega)
    have HLEN := Lib.hid hm
    clear hm
    obtain ⟨x0, x1, x2, x3⟩ := cells4' ((HQ.out.1.block _ HXL.out).trans HX.out)
    by_cases hlt : k < s.services.length
    · have i1 : (k : Int) < (s.services.length : Int) := by omega
      have i2 : (0 : Int) ≤ (k : Int) := by omega
      obtain ⟨A, cc, p, kq, e3, hA, d0, d1, hin, hsub⟩ := srv_at2 HV.out (HU.out.below HQ.out.1) hlt
      cases e3
      have HT : Hid (s.records.map (fun x => x.name) ++ (s.services.take (k + 1)).map (fun x => x.name) = s.records.map (fun x => x.name) ++ (s.services.take k).map (fun x => x.name) ++ [s.services[k].name]) := Lib.hid (by rw [List.take_succ_eq_append_getElem hlt, List.map_append]; simp)
      clear hsub hin hA
      generalize s.services[k] = r at *
      obtain ⟨pv, cv, V, hrun, hL5, hG⟩ := tx_append HQ.out.2 r.name (by rw [HLEN.out]; have := HM.out; omega) HQ.out.1.size 129
      rw [HLEN.out] at hrun hL5 hG
      have HB := Lib.hid (GrewT.below hG HQ.out.1 HQ.out.1.size (fun k hk => (HQ.out.2.lt k hk).1))
      rw [← HT.out] at hL5
      have HO := Lib.hid hL5
      clear hL5 hG
      go_wp2_with (at_builtin; refine Lib.wpList_append_run _ rfl (.tmp 30) (.tmp 37) _ _ rfl _ _ rfl rfl _ _ hrun ?_)
      go_roundw
      case rel => exact ⟨k + 1, by omega, by go_num, Lib.hid ⟨HB.out, HO.out⟩⟩
      case measure => simp [intOf]; omega
    · obtain rfl : k = s.services.length := by omega
      have i1 : ¬ (s.services.length : Int) < (s.services.length : Int) := by omega
      have HAservices : Hid (Below W0.heap.size W0 wr ∧ OwnTx wr W0.heap.size (.slice pl m cl) (s.records.map (fun x => x.name) ++ s.services.map (fun x => x.name))) := Lib.hid (by have := HQ.out; rwa [List.take_length] at this)
      clear hlt HLEN HM 
      go_wp2_with fail
      go_loopw [3, 6] (fun lv kv wr => ∃ k : Nat, k ≤ s.sagas.length ∧ kv = .int .i64 (k : Nat) ∧ Hid (Below W0.heap.size W0 wr ∧ OwnTx wr W0.heap.size lv (s.records.map (fun x => x.name) ++ s.services.map (fun x => x.name) ++ (s.sagas.take k).map (fun x => x.name)))) (fun _ kv _ => s.sagas.length - (intOf kv).toNat)
      case atStart => exact ⟨0, Nat.zero_le _, rfl, Lib.hid ⟨HAservices.out.1, by rw [List.take_zero, List.map_nil, List.append_nil]; exact HAservices.out.2⟩⟩
      case round =>
      obtain ⟨k, hk, rfl, HQ⟩ := hrel
      obtain ⟨m, hm⟩ : ∃ m, (s.records.map (fun x => x.name) ++ s.services.map (fun x => x.name) ++ (s.sagas.take k).map (fun x => x.name)).length = m := ⟨_, rfl⟩
      obtain ⟨pl, cl, hlv, -, -, -⟩ := HQ.out.2.texts
      rw [hm] at hlv
      subst hlv
      have HM : Hid (m ≤ 300) := Lib.hid (by rw [← hm]; simp only [List.length_append, List.length_map, List.length_take]; omega)
      have HLEN := Lib.hid hm
      clear hm
      obtain ⟨x0, x1, x2, x3⟩ := cells4' ((HQ.out.1.block _ HXL.out).trans HX.out)
      by_cases hlt : k < s.sagas.length
      · have i1 : (k : Int) < (s.sagas.length : Int) := by omega
        have i2 : (0 : Int) ≤ (k : Int) := by omega
        obtain ⟨A, cc, p, kq, e3, hA, d0, d1, d2, hin, hsub⟩ := sga_at2 HG.out (HU.out.below HQ.out.1) hlt
        cases e3
        have HT : Hid (s.records.map (fun x => x.name) ++ s.services.map (fun x => x.name) ++ (s.sagas.take (k + 1)).map (fun x => x.name) = s.records.map (fun x => x.name) ++ s.services.map (fun x => x.name) ++ (s.sagas.take k).map (fun x => x.name) ++ [s.sagas[k].name]) := Lib.hid (by rw [List.take_succ_eq_append_getElem hlt, List.map_append]; simp)
        clear hsub hin hA
        generalize s.sagas[k] = r at *
        obtain ⟨pv, cv, V, hrun, hL5, hG⟩ := tx_append HQ.out.2 r.name (by rw [HLEN.out]; have := HM.out; omega) HQ.out.1.size 129
        rw [HLEN.out] at hrun hL5 hG
        have HB := Lib.hid (GrewT.below hG HQ.out.1 HQ.out.1.size (fun k hk => (HQ.out.2.lt k hk).1))
        rw [← HT.out] at hL5
        have HO := Lib.hid hL5
        clear hL5 hG
        go_wp2_with (at_builtin; refine Lib.wpList_append_run _ rfl (.tmp 46) (.tmp 53) _ _ rfl _ _ rfl rfl _ _ hrun ?_)
        go_roundw
        case rel => exact ⟨k + 1, by omega, by go_num, Lib.hid ⟨HB.out, HO.out⟩⟩
        case measure => simp [intOf]; omega
      · obtain rfl : k = s.sagas.length := by omega
        have i1 : ¬ (s.sagas.length : Int) < (s.sagas.length : Int) := by omega
        have HAsagas : Hid (Below W0.heap.size W0 wr ∧ OwnTx wr W0.heap.size (.slice pl m cl) (s.records.map (fun x => x.name) ++ s.services.map (fun x => x.name) ++ s.sagas.map (fun x => x.name))) := Lib.hid (by have := HQ.out; rwa [List.take_length] at this)
        clear hlt HLEN HM 
        go_wp2_with fail
        go_ret
        refine ⟨_, rfl, ?_, HB0.out.trans (HAsagas.out.1.mono HB0.out.size)⟩
        rw [decls_fst]
        exact HAsagas.out.2.mono HB0.out.size
end Go.Proofs.YtnkdhmoocomjfaaGreatDoor
set_option linter.unusedSimpArgs false
set_option linter.unusedVariables false
namespace Go.Proofs.YtnkdhmoocomjfaaGreatDoor
open Go.RowKit
theorem decls_rec {s : Ip.Sch} {i : Nat} (h : i < s.records.length) : (Ck.decls s)[i]? = some (s.records[i].name, s.records[i].fields.map (fun x => x.name)) := by
  unfold Ck.decls
  rw [List.getElem?_append_left (by rw [List.length_map]; exact h), List.getElem?_map, List.getElem?_eq_getElem h]
  rfl
theorem decls_srv {s : Ip.Sch} {j : Nat} (h : j < s.services.length) : (Ck.decls s)[s.records.length + j]? = some (s.services[j].name, s.services[j].methods.map (fun x => x.name)) := by
  unfold Ck.decls
  rw [List.getElem?_append_right (by rw [List.length_map]; omega), List.length_map, show s.records.length + j - s.records.length = j by omega, List.getElem?_append_left (by rw [List.length_map]; exact h), List.getElem?_map, List.getElem?_eq_getElem h]
  rfl
theorem decls_sga {s : Ip.Sch} {j : Nat} (h : ¬ j < s.services.length) {d : ByteArray × List ByteArray} (hd : (Ck.decls s)[s.records.length + j]? = some d) : d.2 = [] := by
  unfold Ck.decls at hd
  rw [List.getElem?_append_right (by rw [List.length_map]; omega), List.length_map, show s.records.length + j - s.records.length = j by omega, List.getElem?_append_right (by rw [List.length_map]; omega), List.getElem?_map] at hd
  cases hq : s.sagas[j - (s.services.map fun v => (v.name, v.methods.map (·.name))).length]? with
  | none => rw [hq] at hd; cases hd
  | some g => rw [hq] at hd; cases hd; rfl
set_option maxRecDepth 100000 in
set_option maxHeartbeats 16000000 in
theorem refParts_any {u w : World} {sv : Value} {s : Ip.Sch} (h : RoSch u sv s) (hu : Kp u w) (hS : Ck.Small s) {i : Nat} {d : ByteArray × List ByteArray} (hd : (Ck.decls s)[i]? = some d) : Calls Tryz.prog 95 #[sv, .int .i64 (i : Nat)] w fun e w' => ∃ tv, e = .returned tv ∧ OwnTx w' w.heap.size tv d.2 ∧ Below w.heap.size w w' := by
  have hil : i < 400 := by
    have := (List.getElem?_eq_some_iff.1 hd).1
    unfold Ck.decls at this
    simp only [List.length_append, List.length_map] at this
    have := hS.nr
    have := hS.ns
    have := hS.ng
    omega
  obtain ⟨p1, c1, p2, c2, p3, c3, rfl, hsn, hr, hs, hg, l1, l2, l3⟩ := sch_parts h
  obtain ⟨W0, hW0⟩ : ∃ W0, W0 = allocs w [schO s p1 c1 p2 c2 p3 c3] := ⟨_, rfl⟩
  have HX : Hid (W0.heap[w.heap.size]? = some (schO s p1 c1 p2 c2 p3 c3)) := Lib.hid (by rw [hW0]; exact allocs_box (i := 0) rfl (Below.refl _ _))
  have HB0 : Hid (Below w.heap.size w W0) := Lib.hid (by rw [hW0]; exact allocs_on (Below.refl _ _))
  have HXL : Hid (w.heap.size < W0.heap.size) := Lib.hid (Array.getElem?_eq_some_iff.1 HX.out).1
  obtain ⟨x0, x1, x2, x3⟩ := cells4' HX.out
  have HU := Lib.hid (hu.below HB0.out)
  have HR := Lib.hid hr
  have HV := Lib.hid hs
  have HSM := Lib.hid hS
  have HD := Lib.hid hd
  have m1 : s.records.length ≤ 100 := hS.nr
  have m2 : s.services.length ≤ 100 := hS.ns
  have i2 : (0 : Int) ≤ (i : Int) := by omega
  clear h hu hr hs hg hS l1 l2 l3 hd
  simp only [allocs, schO] at hW0
  go_enter Tryz.func95, Tryz.ntmps95
  go_upto_region 1 with fail
  rw [← hW0]
  clear hW0
  by_cases hlt : i < s.records.length
  · have i1 : (i : Int) < (s.records.length : Int) := by omega
    obtain ⟨A, cc, p, kq, e3, hA, d0, d1, d2, hin, hsub⟩ := rcd_at2 HR.out HU.out hlt
    cases e3
    obtain ⟨_, _, e9, hsl⟩ := ro_len hsub
    cases e9
    have HSUB := Lib.hid hsub
    have HC := Lib.hid d2
    have HZ := Lib.hid (HSM.out.r _ (List.getElem_mem hlt)).2.1
    have HDD : Hid (d.2 = s.records[i].fields.map (fun x => x.name)) := Lib.hid (by have := HD.out; rw [decls_rec hlt] at this; cases this; rfl)
    clear hsub hin hA HD
    generalize s.records[i] = r at *
    go_wp2_with fail
    go_loopw [5, 6] (fun lv kv wr => ∃ k : Nat, k ≤ r.fields.length ∧ kv = .int .i64 (k : Nat) ∧ Hid (Below W0.heap.size W0 wr ∧ OwnTx wr W0.heap.size lv ((r.fields.take k).map (fun x => x.name)))) (fun _ kv _ => r.fields.length - (intOf kv).toNat)
    case atStart => exact ⟨0, Nat.zero_le _, rfl, Lib.hid ⟨Below.refl _ _, OwnTx.nil _ _⟩⟩
    case round =>
    obtain ⟨k, hk, rfl, HQ⟩ := hrel
    obtain ⟨m, hm⟩ : ∃ m, ((r.fields.take k).map (fun x => x.name)).length = m := ⟨_, rfl⟩
    obtain ⟨pl, cl, hlv, -, -, -⟩ := HQ.out.2.texts
    rw [hm] at hlv
    subst hlv
    have HM : Hid (m ≤ 300) := Lib.hid (by rw [← hm]; simp only [List.length_map, List.length_take]; have := HZ.out; omega)
    have HLEN := Lib.hid hm
    clear hm
    obtain ⟨y0, y1, y2, y3⟩ := cells4' ((HQ.out.1.block _ HXL.out).trans HX.out)
    have dd := (HQ.out.1.cell (tcell_block HC.out)).trans HC.out
    by_cases hlk : k < r.fields.length
    · have j1 : (k : Int) < (r.fields.length : Int) := by omega
      have j2 : (0 : Int) ≤ (k : Int) := by omega
      obtain ⟨B, cb, pp, kp, e5, hB, g0, g1, hpin, hss, hss2⟩ := fld_at HSUB.out hlk
      cases e5
      replace g0 := ((HU.out.below HQ.out.1).cell (tcell_block g0)).trans g0
      have HT : Hid ((r.fields.take (k + 1)).map (fun x => x.name) = (r.fields.take k).map (fun x => x.name) ++ [r.fields[k].name]) := Lib.hid (by rw [List.take_succ_eq_append_getElem hlk, List.map_append]; simp)
      generalize r.fields[k] = q at *
      obtain ⟨pv, cv, V, hrun, hL5, hG⟩ := tx_append HQ.out.2 q.name (by rw [HLEN.out]; have := HM.out; omega) HQ.out.1.size 129
      rw [HLEN.out] at hrun hL5 hG
      have HB := Lib.hid (GrewT.below hG HQ.out.1 HQ.out.1.size (fun k hk => (HQ.out.2.lt k hk).1))
      rw [← HT.out] at hL5
      have HO := Lib.hid hL5
      clear hL5 hG
      go_wp2_with (at_builtin; refine Lib.wpList_append_run _ rfl (.tmp 24) (.tmp 35) _ _ rfl _ _ rfl rfl _ _ hrun ?_)
      go_roundw
      case rel => exact ⟨k + 1, by omega, by go_num, Lib.hid ⟨HB.out, HO.out⟩⟩
      case measure => simp [intOf]; omega
    · obtain rfl : k = r.fields.length := by omega
      have j1 : ¬ (r.fields.length : Int) < (r.fields.length : Int) := by omega
      have HA : Hid (Below W0.heap.size W0 wr ∧ OwnTx wr W0.heap.size (.slice pl m cl) (r.fields.map (fun x => x.name))) := Lib.hid (by have := HQ.out; rwa [List.take_length] at this)
      clear hlk HLEN HM
      go_wp2_with fail
      go_ret
      exact ⟨_, rfl, by rw [HDD.out]; exact HA.out.2.mono HB0.out.size, HB0.out.trans (HA.out.1.mono HB0.out.size)⟩
  · obtain ⟨j, rfl⟩ : ∃ j, i = s.records.length + j := ⟨i - s.records.length, by omega⟩
    have i3 : ¬ ((s.records.length + j : Nat) : Int) < (s.records.length : Int) := by omega
    have i4 : ((s.records.length + j : Nat) : Int) - (s.records.length : Int) = (j : Int) := by omega
    have i5 : (0 : Int) ≤ (j : Int) := by omega
    by_cases hlt : j < s.services.length
    · have i1 : (j : Int) < (s.services.length : Int) := by omega
      obtain ⟨A, cc, p, kq, e3, hA, d0, d1, hin, hsub⟩ := srv_at2 HV.out HU.out hlt
      cases e3
      obtain ⟨_, _, e9, hsl⟩ := ro_len hsub
      cases e9
      have HSUB := Lib.hid hsub
      have HC := Lib.hid d1
      have HZ := Lib.hid (HSM.out.v _ (List.getElem_mem hlt)).2.1
      have HDD : Hid (d.2 = s.services[j].methods.map (fun x => x.name)) := Lib.hid (by have := HD.out; rw [decls_srv hlt] at this; cases this; rfl)
      clear hsub hin hA HD
      generalize s.services[j] = r at *
      go_wp2_with fail
      go_loopw [5, 7] (fun lv kv wr => ∃ k : Nat, k ≤ r.methods.length ∧ kv = .int .i64 (k : Nat) ∧ Hid (Below W0.heap.size W0 wr ∧ OwnTx wr W0.heap.size lv ((r.methods.take k).map (fun x => x.name)))) (fun _ kv _ => r.methods.length - (intOf kv).toNat)
      case atStart => exact ⟨0, Nat.zero_le _, rfl, Lib.hid ⟨Below.refl _ _, OwnTx.nil _ _⟩⟩
      case round =>
      obtain ⟨k, hk, rfl, HQ⟩ := hrel
      obtain ⟨m, hm⟩ : ∃ m, ((r.methods.take k).map (fun x => x.name)).length = m := ⟨_, rfl⟩
      obtain ⟨pl, cl, hlv, -, -, -⟩ := HQ.out.2.texts
      rw [hm] at hlv
      subst hlv
      have HM : Hid (m ≤ 300) := Lib.hid (by rw [← hm]; simp only [List.length_map, List.length_take]; have := HZ.out; omega)
      have HLEN := Lib.hid hm
      clear hm
      obtain ⟨y0, y1, y2, y3⟩ := cells4' ((HQ.out.1.block _ HXL.out).trans HX.out)
      have dd := (HQ.out.1.cell (tcell_block HC.out)).trans HC.out
      by_cases hlk : k < r.methods.length
      · have j1 : (k : Int) < (r.methods.length : Int) := by omega
        have j2 : (0 : Int) ≤ (k : Int) := by omega
        obtain ⟨B, cb, e5, hB, g0, g1, g2, g3, g4, hpin⟩ := mth_at HSUB.out hlk
        cases e5
        replace g0 := ((HU.out.below HQ.out.1).cell (tcell_block g0)).trans g0
        have HT : Hid ((r.methods.take (k + 1)).map (fun x => x.name) = (r.methods.take k).map (fun x => x.name) ++ [r.methods[k].name]) := Lib.hid (by rw [List.take_succ_eq_append_getElem hlk, List.map_append]; simp)
        generalize r.methods[k] = q at *
        obtain ⟨pv, cv, V, hrun, hL5, hG⟩ := tx_append HQ.out.2 q.name (by rw [HLEN.out]; have := HM.out; omega) HQ.out.1.size 129
        rw [HLEN.out] at hrun hL5 hG
        have HB := Lib.hid (GrewT.below hG HQ.out.1 HQ.out.1.size (fun k hk => (HQ.out.2.lt k hk).1))
        rw [← HT.out] at hL5
        have HO := Lib.hid hL5
        clear hL5 hG
        go_wp2_with (at_builtin; refine Lib.wpList_append_run _ rfl (.tmp 59) (.tmp 70) _ _ rfl _ _ rfl rfl _ _ hrun ?_)
        go_roundw
        case rel => exact ⟨k + 1, by omega, by go_num, Lib.hid ⟨HB.out, HO.out⟩⟩
        case measure => simp [intOf]; omega
      · obtain rfl : k = r.methods.length := by omega
        have j1 : ¬ (r.methods.length : Int) < (r.methods.length : Int) := by omega
        have HA : Hid (Below W0.heap.size W0 wr ∧ OwnTx wr W0.heap.size (.slice pl m cl) (r.methods.map (fun x => x.name))) := Lib.hid (by have := HQ.out; rwa [List.take_length] at this)
        clear hlk HLEN HM
        go_wp2_with fail
        go_ret
        exact ⟨_, rfl, by rw [HDD.out]; exact HA.out.2.mono HB0.out.size, HB0.out.trans (HA.out.1.mono HB0.out.size)⟩
    · have i1 : ¬ (j : Int) < (s.services.length : Int) := by omega
      have HDD : Hid (d.2 = []) := Lib.hid (decls_sga hlt HD.out)
      clear HD hlt
      go_wp2_with fail
      go_ret
      exact ⟨_, rfl, by rw [HDD.out]; exact OwnTx.nil _ _, HB0.out⟩
end Go.Proofs.YtnkdhmoocomjfaaGreatDoor
set_option linter.unusedSimpArgs false
set_option linter.unusedVariables false
namespace Go.Proofs.YtnkdhmoocomjfaaGreatDoor
open Go.RowKit
theorem dbl_hit {s : Ip.Sch} {i : Nat} {d : ByteArray × List ByteArray} {S : List ByteArray} {y : ByteArray} (hd : (Ck.decls s)[i]? = some d) (hy : y = d.1) (H : Ck.doubles s = Ck.doublesF S ((Ck.decls s).drop i)) (hb : Ck.inB S y = true) : Ck.doubles s = some y := by
  obtain ⟨hi, e⟩ := List.getElem?_eq_some_iff.1 hd
  subst hy
  rw [H, List.drop_eq_getElem_cons hi, Ck.doublesF_cons, e, if_pos hb]
theorem dbl_part {s : Ip.Sch} {i : Nat} {d : ByteArray × List ByteArray} {S : List ByteArray} {y p : ByteArray} (hd : (Ck.decls s)[i]? = some d) (hy : y = d.1) (H : Ck.doubles s = Ck.doublesF S ((Ck.decls s).drop i)) (hb : Ck.inB S y = false) (ht : Ck.twice [] d.2 = some p) : Ck.doubles s = some (Ck.dot y p) := by
  obtain ⟨hi, e⟩ := List.getElem?_eq_some_iff.1 hd
  subst hy
  rw [H, List.drop_eq_getElem_cons hi, Ck.doublesF_cons, e, if_neg (by rw [hb]; decide), ht]
theorem dbl_next {s : Ip.Sch} {i : Nat} {d : ByteArray × List ByteArray} {S : List ByteArray} {y : ByteArray} (hd : (Ck.decls s)[i]? = some d) (hy : y = d.1) (H : Ck.doubles s = Ck.doublesF S ((Ck.decls s).drop i)) (hb : Ck.inB S y = false) (ht : Ck.twice [] d.2 = none) : Ck.doubles s = Ck.doublesF (S ++ [y]) ((Ck.decls s).drop (i + 1)) := by
  obtain ⟨hi, e⟩ := List.getElem?_eq_some_iff.1 hd
  subst hy
  rw [H, List.drop_eq_getElem_cons hi, Ck.doublesF_cons, e, if_neg (by rw [hb]; decide), ht]
theorem tw_hit {P : List ByteArray} {j : Nat} (hj : j < P.length) (H : Ck.twice [] P = Ck.twice (P.take j) (P.drop j)) (hb : Ck.inB (P.take j) P[j] = true) : Ck.twice [] P = some P[j] := by
  rw [H, List.drop_eq_getElem_cons hj, Ck.twice_cons, if_pos hb]
theorem tw_next {P : List ByteArray} {j : Nat} (hj : j < P.length) (H : Ck.twice [] P = Ck.twice (P.take j) (P.drop j)) (hb : Ck.inB (P.take j) P[j] = false) : Ck.twice [] P = Ck.twice (P.take (j + 1)) (P.drop (j + 1)) := by
  rw [H, List.drop_eq_getElem_cons hj, Ck.twice_cons, if_neg (by rw [hb]; decide), List.take_succ_eq_append_getElem hj]
theorem decls_small {s : Ip.Sch} (hS : Ck.Small s) : ∀ d ∈ Ck.decls s, d.1.size ≤ 200 ∧ d.2.length ≤ 40 ∧ ∀ x ∈ d.2, x.size ≤ 200 := by
  intro d hd
  unfold Ck.decls at hd
  rcases List.mem_append.1 hd with e | e
  · obtain ⟨r, hr, rfl⟩ := List.mem_map.1 e
    obtain ⟨h1, h2, h3⟩ := hS.r r hr
    refine ⟨h1, by rw [List.length_map]; exact h2, fun x hx => ?_⟩
    obtain ⟨f, hf, rfl⟩ := List.mem_map.1 hx
    exact (h3 f hf).1
  · rcases List.mem_append.1 e with e | e
    · obtain ⟨r, hr, rfl⟩ := List.mem_map.1 e
      obtain ⟨h1, h2, h3⟩ := hS.v r hr
      refine ⟨h1, by rw [List.length_map]; exact h2, fun x hx => ?_⟩
      obtain ⟨f, hf, rfl⟩ := List.mem_map.1 hx
      exact (h3 f hf).1
    · obtain ⟨r, hr, rfl⟩ := List.mem_map.1 e
      exact ⟨(hS.g r hr).1, Nat.zero_le _, fun x hx => by cases hx⟩
theorem decls_many {s : Ip.Sch} (hS : Ck.Small s) : (Ck.decls s).length ≤ 300 := by
  unfold Ck.decls
  simp only [List.length_append, List.length_map]
  have := hS.nr
  have := hS.ns
  have := hS.ng
  omega
set_option maxRecDepth 100000 in
set_option maxHeartbeats 16000000 in
theorem refDoubles_any {u w : World} {sv : Value} {s : Ip.Sch} (h : RoSch u sv s) (hu : Kp u w) (hS : Ck.Small s) : Calls Tryz.prog 47 #[sv] w (RuleR (Ck.doubles s) w) := by
  obtain ⟨p1, c1, p2, c2, p3, c3, rfl, -, -, -, -, l1, l2, l3⟩ := sch_parts h
  obtain ⟨W0, hW0⟩ : ∃ W0, W0 = allocs w [schO s p1 c1 p2 c2 p3 c3] := ⟨_, rfl⟩
  have HX : Hid (∀ W, Below W0.heap.size W0 W → W.heap[w.heap.size]? = some (schO s p1 c1 p2 c2 p3 c3) ∧ Below w.heap.size w W) := Lib.hid (by subst hW0; exact fun W hW => ⟨allocs_box (i := 0) rfl hW, allocs_on hW⟩)
  obtain ⟨b0, B0⟩ := HX.out W0 (Below.refl _ _)
  obtain ⟨x0, x1, x2, x3⟩ := cells4' b0
  have HB0 := Lib.hid B0
  have H := Lib.hid h
  have HU := Lib.hid hu
  have HSM := Lib.hid hS
  have HSD := Lib.hid (decls_small hS)
  have HMANY := Lib.hid (decls_many hS)
  clear h hu hS b0 B0 l1 l2 l3
  simp only [allocs, schO] at hW0
  go_enter Tryz.func47, Tryz.ntmps47
  go_upto_region 1 with fail
  rw [← hW0]
  clear hW0
  go_wp2_with fail
  clear x0 x1 x2 x3
  refine Calls.mono (refDecls_any H.out (HU.out.below HB0.out) HSM.out) ?_
  rintro e w1 ⟨tv, rfl, ho, hb1⟩
  have HB1 := Lib.hid hb1
  obtain ⟨D, hD⟩ : ∃ D, D = (Ck.decls s).map Prod.fst := ⟨_, rfl⟩
  rw [← hD] at ho
  have HDL : Hid (D.length = (Ck.decls s).length) := Lib.hid (by rw [hD, List.length_map])
  have HDA : Hid (∀ i (hi : i < D.length), ∃ d, (Ck.decls s)[i]? = some d ∧ D[i] = d.1) := Lib.hid (by
    subst hD
    intro i hi
    rw [List.length_map] at hi
    exact ⟨_, List.getElem?_eq_getElem hi, List.getElem_map _⟩)
  obtain ⟨p, cap, rfl, -, -, ht⟩ := ho.texts
  have HT := Lib.hid ht
  have hDm : D.length ≤ 300 := by rw [HDL.out]; exact HMANY.out
  clear ho ht hb1 hD
  go_wp2_with fail
  go_loopw [5, 6, 7] (fun iv _ _ wr => ∃ i : Nat, i ≤ D.length ∧ iv = .int .i64 (i : Nat) ∧ Hid (Below w1.heap.size w1 wr ∧ Ck.doubles s = Ck.doublesF (D.take i) ((Ck.decls s).drop i))) (fun iv _ _ _ => D.length - (intOf iv).toNat)
  case atStart => exact ⟨0, Nat.zero_le _, rfl, Lib.hid ⟨Below.refl _ _, by rw [List.take_zero, List.drop_zero]; rfl⟩⟩
  case round =>
  obtain ⟨i, hi, rfl, HQ⟩ := hrel
  have HBW : Hid (Below W0.heap.size W0 wr) := Lib.hid (HB1.out.trans (HQ.out.1.mono HB1.out.size))
  have HTW := Lib.hid (HT.out.below HQ.out.1)
  obtain ⟨x0, x1, x2, x3⟩ := cells4' (HX.out _ HBW.out).1
  by_cases hlt : i < D.length
  · have i1 : (i : Int) < (D.length : Int) := by omega
    have i2 : (0 : Int) ≤ (i : Int) := by omega
    obtain ⟨d, hd, hdy⟩ := HDA.out i hlt
    have HD := Lib.hid hd
    have HY := Lib.hid hdy
    obtain ⟨hsz1, hsz2, hsz3⟩ := HSD.out d (List.mem_of_getElem? hd)
    have HS1 : Hid (D[i].size ≤ 200) := Lib.hid (by rw [hdy]; exact hsz1)
    have HS2 := Lib.hid hsz2
    have HS3 := Lib.hid hsz3
    clear hd hdy hsz1 hsz2 hsz3
    go_wp2_with fail
    refine Calls.mono (refBefore_any HTW.out (by omega) hlt) ?_
    rintro e w2 ⟨rfl, hb2⟩
    have HB2 := Lib.hid (HBW.out.trans (hb2.mono HBW.out.size))
    have HT2 := Lib.hid (HTW.out.below hb2)
    have HQ2 := Lib.hid (HQ.out.1.trans (hb2.mono HQ.out.1.size))
    clear hb2 x0 x1 x2 x3
    cases hb : Ck.inB (D.take i) D[i] with
    | true =>
      have HO := Lib.hid (dbl_hit HD.out HY.out HQ.out.2 hb)
      clear hb
      obtain ⟨A, e3, hA, c0⟩ := HT2.out i hlt
      cases e3
      clear hA
      generalize D[i] = y at c0 HO
      go_wp2_with fail
      go_ret2
      exact ruleR_some HO.out (HX.out _ HB2.out).2
    | false =>
    have HP : Hid (∀ p, Ck.twice [] d.2 = some p → Ck.doubles s = some (Ck.dot D[i] p)) := Lib.hid fun p hp => dbl_part HD.out HY.out HQ.out.2 hb hp
    have HN : Hid (Ck.twice [] d.2 = none → Ck.doubles s = Ck.doublesF (D.take (i + 1)) ((Ck.decls s).drop (i + 1))) := Lib.hid fun hp => by rw [List.take_succ_eq_append_getElem hlt]; exact dbl_next HD.out HY.out HQ.out.2 hb hp
    clear hb
    obtain ⟨x0, x1, x2, x3⟩ := cells4' (HX.out _ HB2.out).1
    go_wp2_with fail
    clear x0 x1 x2 x3
    refine Calls.mono (refParts_any H.out (HU.out.below (HX.out _ HB2.out).2) HSM.out HD.out) ?_
    rintro e w3 ⟨tv, rfl, ho, hb3⟩
    obtain ⟨P, hP⟩ : ∃ P, P = d.2 := ⟨_, rfl⟩
    rw [← hP] at ho
    have HPE := Lib.hid hP
    have hPl : P.length ≤ 40 := by rw [hP]; exact HS2.out
    have HPS : Hid (∀ x ∈ P, x.size ≤ 200) := Lib.hid (by rw [hP]; exact HS3.out)
    obtain ⟨pp, pc, rfl, -, -, ht3⟩ := ho.texts
    have HTP := Lib.hid ht3
    have HB3 := Lib.hid (HB2.out.trans (hb3.mono HB2.out.size))
    have HT3 := Lib.hid (HT2.out.below hb3)
    have HQ3 := Lib.hid (HQ2.out.trans (hb3.mono HQ2.out.size))
    clear ho ht3 hb3 hP
    go_wp2_with fail
    go_loopw [7] (fun jv wq => ∃ j : Nat, j ≤ P.length ∧ jv = .int .i64 (j : Nat) ∧ Hid (Below w3.heap.size w3 wq ∧ Ck.twice [] P = Ck.twice (P.take j) (P.drop j))) (fun jv _ => P.length - (intOf jv).toNat)
    case atStart => exact ⟨0, Nat.zero_le _, rfl, Lib.hid ⟨Below.refl _ _, by rw [List.take_zero, List.drop_zero]⟩⟩
    case round =>
    obtain ⟨j, hj, rfl, HJ⟩ := hrel
    by_cases hlj : j < P.length
    · have j1 : (j : Int) < (P.length : Int) := by omega
      have j2 : (0 : Int) ≤ (j : Int) := by omega
      have HTJ := Lib.hid (HTP.out.below HJ.out.1)
      go_wp2_with fail
      refine Calls.mono (refBefore_any HTJ.out (by omega) hlj) ?_
      rintro e w4 ⟨rfl, hb4⟩
      have HJ4 := Lib.hid (HJ.out.1.trans (hb4.mono HJ.out.1.size))
      clear hb4
      cases hb : Ck.inB (P.take j) P[j] with
      | true =>
        have HO := Lib.hid (HP.out P[j] (by rw [← HPE.out]; exact tw_hit hlj HJ.out.2 hb))
        have HZ1 := HS1.out
        have HZ2 := HPS.out _ (List.getElem_mem hlj)
        clear hb
        obtain ⟨A, e3, hA, c0⟩ := (HT3.out.below HJ4.out) i hlt
        cases e3
        obtain ⟨B, e5, hB, g0⟩ := (HTP.out.below HJ4.out) j hlj
        cases e5
        clear hA hB
        generalize D[i] = y at c0 HO HZ1
        generalize P[j] = q at g0 HO HZ2
        have k4 : ¬ 9223372036854775807 < y.size + 1 := by omega
        have k5 : ¬ 9223372036854775807 < y.size + 1 + q.size := by omega
        have k7 : ¬ 9223372036854775807 < (y ++ ⟨#[46]⟩).size + q.size := by rw [ByteArray.size_append]; show ¬ 9223372036854775807 < y.size + 1 + q.size; omega
        have HBD : Hid (∀ n, Below w.heap.size w (w4.drewN n)) := Lib.hid fun n => (HX.out _ (HB3.out.trans ((HJ4.out.trans ((dn_below w4 n).mono HJ4.out.size)).mono HB3.out.size))).2
        clear HZ1 HZ2
        go_wp2_with fail
        go_quiet (fail)
        go_wp2_with fail
        go_ret2
        exact ruleR_some HO.out (HBD.out _)
      | false =>
        have HO := Lib.hid (tw_next hlj HJ.out.2 hb)
        clear hb
        go_wp2_with fail
        go_roundw
        case rel => exact ⟨j + 1, by omega, by go_num, Lib.hid ⟨HJ4.out, HO.out⟩⟩
        case measure => simp [intOf]; omega
    · obtain rfl : j = P.length := by omega
      have j1 : ¬ (P.length : Int) < (P.length : Int) := by omega
      have HO := Lib.hid (HN.out (by rw [← HPE.out]; have := HJ.out.2; rw [List.drop_length] at this; exact this))
      have HQ4 := Lib.hid (HQ3.out.trans (HJ.out.1.mono HQ3.out.size))
      clear hlj
      go_wp2_with fail
      go_roundw
      case rel => exact ⟨i + 1, by omega, by go_num, Lib.hid ⟨HQ4.out, HO.out⟩⟩
      case measure => simp [intOf]; omega
  · obtain rfl : i = D.length := by omega
    have i1 : ¬ (D.length : Int) < (D.length : Int) := by omega
    have HO : Hid (Ck.doubles s = none) := Lib.hid (by have := HQ.out.2; rw [HDL.out, List.drop_length] at this; exact this)
    clear hlt hi
    go_wp2_with fail
    go_ret2
    exact ruleR_none HO.out (HX.out _ HBW.out).2
end Go.Proofs.YtnkdhmoocomjfaaGreatDoor
