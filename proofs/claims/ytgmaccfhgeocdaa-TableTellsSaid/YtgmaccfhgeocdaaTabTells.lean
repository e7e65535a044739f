/-
  Walks over the laws of package table: TableTells. No condition but those in the theorem.
-/
import Derived.Test.YtgmaccfhgeocdaaTabFromL
import Derived.Test.YtgmaccfhgeocdaaTabEnds
namespace Go.Proofs.Ytgmaccfhgeocdaa
open Go.RowKit Go.Shelf Tb

theorem EntsAt.take {w : World} {p : Option Addr} {l : List En} (h : EntsAt w p l) (k : Nat) : EntsAt w p (l.take k) := fun i hi => by
  rw [List.length_take] at hi
  obtain ⟨A, h1, h2, h3, h4⟩ := h i (by omega)
  exact ⟨A, h1, h2, by rw [List.getElem_take]; exact h3, by rw [List.getElem_take]; exact h4⟩
theorem grew_above {w W' : World} {g : Nat} {v' : Value} {c : Nat} (hg : g = w.heap.size) (o : Obj) (h : Grew (.slice (some ⟨g, 0, none⟩) 0 c) v' (w.alloc o) W') : Below w.heap.size w W' := by
  subst hg
  have hb := below_alloc w o
  refine ⟨h.os.trans hb.os, h.tape.trans hb.tape, h.output.trans hb.output, Nat.le_trans hb.size h.size, fun k hk => (h.block k (by simp; omega) fun e => ?_).trans (hb.block k hk)⟩
  simp [Value.ownBlock] at e
  omega
/-- A list is appended to an empty one. -/
theorem copy_append {w : World} {p : Option Addr} {cap0 : Nat} {l : List En} (hl : EntsAt w p l) (hn : l.length ≤ 5000) (ty : TypeId) :
    ∃ (pv : Option Addr) (cv : Nat) (W' : World), (Builtin.append_ #[25, 25] ty #[.slice (some ⟨w.heap.size, 0, none⟩) 0 0, .slice p l.length cap0]).run Try.prog (w.alloc (.cells #[] 31)) = .ok (.slice pv l.length cv) W' ∧ EntsAt W' pv l ∧ Below w.heap.size w W' := by
  have hin : ∀ x ∈ l, EnIn x := fun x hx => by
    obtain ⟨i, hi, rfl⟩ := List.getElem_of_mem hx
    exact (hl i hi).elim fun _ h => h.2.2.2
  by_cases h0 : l = []
  · subst h0
    refine ⟨some ⟨w.heap.size, 0, none⟩, 0, w.alloc (.cells #[] 31), ?_, (fun i hi => nomatch hi), below_alloc _ _⟩
    cases p <;> simp [Builtin.append_, run_underlying Try.underlying25, loadCellsFrom, storeCells, Builtin.firstCells, Builtin.lenOf, go_sem]
  · have hpos : 0 < l.length := by cases l with
      | nil => exact absurd rfl h0
      | cons _ _ => simp
    obtain ⟨A, rfl⟩ := hl.some hpos
    have hov : OwnEnts (w.alloc (.cells #[] 31)) w.heap.size (.slice (some ⟨w.heap.size, 0, none⟩) 0 0) [] :=
      ⟨rfl, .inr ⟨w.heap.size, 0, #[], rfl, Nat.le_refl _, heap_alloc_new w _, Nat.le_refl _, Nat.zero_le _, rfl, rfl⟩⟩
    have hl2 := hl.below (below_alloc w (.cells #[] 31))
    obtain ⟨pv, cv, W', hrun, ho, hg⟩ := e_append hov (Below.refl _ _) A l l.length cap0 rfl (fun q u hu => by
      have hq := (List.getElem?_eq_some_iff.1 hu).1
      rw [ensCells_length] at hq
      have e := Nat.div_add_mod q 3
      have hm : q % 3 < 3 := Nat.mod_lt _ (by omega)
      have hd : q / 3 < l.length := by omega
      obtain ⟨A', e1, -, h3, -⟩ := hl2 (q / 3) hd
      cases e1
      rw [show q = q / 3 * 3 + q % 3 by omega] at hu ⊢
      rw [h3 _ hm, ← ensCells_get hd hm]; exact hu) (by simp; omega) (by simp) ty
    have hg2 := grew_above rfl _ hg
    rw [List.nil_append] at ho
    simp only [List.length_nil, Nat.zero_add] at hrun ho
    obtain ⟨pw, cw, ew, -, -, hat⟩ := ho.ents hin
    cases ew
    exact ⟨_, _, W', hrun, hat, hg2⟩
set_option maxRecDepth 100000 in
set_option maxHeartbeats 16000000 in
theorem tableTells_any (p : Option Addr) (cap0 : Nat) (l : List En) (key : ByteArray) (lv : Int) (w : World) (hl : EntsAt w p l) (hk : key.size ≤ maxLen) :
    Calls Try.prog 4 #[.slice p l.length cap0, .string key, .int .i64 lv] w fun e w' => e = .returned (.bool true) ∧ Below w.heap.size w w' := by
  have HL := Lib.hid hl
  have HK := Lib.hid hk
  clear hl hk
  go_enter Try.func4, Try.ntmps4
  go_wp2_with fail
  refine (awake_any _).mono ?_
  rintro e w1 ⟨rfl, hb1⟩
  have H1 := Lib.hid hb1
  clear hb1
  go_wp2_with fail
  refine (great_any (HL.out.below H1.out) 5000 (by omega) rfl).mono ?_
  rintro e w2 ⟨b, rfl, hfew, hb2⟩
  have H2 := Lib.hid (H1.out.trans (hb2.mono H1.out.size))
  have HFEW := Lib.hid hfew
  clear hb2 hfew
  cases b with
  | true =>
    go_wp2_with fail
    go_ret
    exact ⟨rfl, H2.out⟩
  | false =>
    have HF : Hid (l.length ≤ 5000) := Lib.hid (HFEW.out (by trivial))
    clear HFEW
    go_wp2_with fail
    refine (entries_any (HL.out.below H2.out) HF.out).mono ?_
    rintro e w3 ⟨q, cq, rfl, hq, hb3, -⟩
    have H3 := Lib.hid (H2.out.trans (hb3.mono H2.out.size))
    have HQ3 := Lib.hid hq
    clear hq hb3
    go_wp2_with fail
    refine (build_any (HL.out.below H3.out)).mono ?_
    rintro e w4 ⟨S, n, rfl, hn, hs, hs2, hb4⟩
    have H4 := Lib.hid (H3.out.trans (hb4.mono H3.out.size))
    have HQ4 := Lib.hid (HQ3.out.below hb4)
    have HRB : Hid (Calls Try.prog 17 #[.slice q l.length cq] w4 fun e w' => e = .returned (.int .i64 (n : Nat)) ∧ Below w4.heap.size w4 w') := Lib.hid (by rw [hn]; exact refbuild_any HQ4.out HF.out)
    by_cases hr : Right l
    · have h0 : n = 0 := hn.trans ((bars_right l).2 hr)
      have HS := Lib.hid (hs hr)
      have HR := Lib.hid hr
      subst h0
      clear hn hs hs2 hr hb4
      go_wp2_with fail
      refine HRB.out.mono ?_
      rintro e w5 ⟨rfl, hb5⟩
      have H5 := Lib.hid (H4.out.trans (hb5.mono H4.out.size))
      have HQ5 := Lib.hid (HQ4.out.below hb5)
      clear hb5
      go_wp2_with fail
      refine (three_any _).mono ?_
      rintro e w6 ⟨p3, rfl, hp3, hb6⟩
      have H6 := Lib.hid (H5.out.trans (hb6.mono H5.out.size))
      have HQ6 := Lib.hid (HQ5.out.below hb6)
      have HP3 := Lib.hid hp3
      clear hb6 hp3
      go_wp2_with fail
      refine (build_any (l := L3) (cap := 3) HP3.out).mono ?_
      rintro e w7 ⟨S3, n3, rfl, hn3, hs3, -, hb7⟩
      obtain rfl : n3 = 0 := hn3.trans ((bars_right _).2 right3)
      have HS3 := Lib.hid (hs3 right3)
      have H7 := Lib.hid (H6.out.trans (hb7.mono H6.out.size))
      have HQ7 := Lib.hid (HQ6.out.below hb7)
      clear hb7 hn3 hs3
      obtain ⟨p8, c8, W8, hrun, hat8, hb8⟩ := copy_append (cap0 := cap0) (HL.out.below H7.out) HF.out 25
      have H8 := Lib.hid (H7.out.trans (hb8.mono H7.out.size))
      have HQ8 := Lib.hid (HQ7.out.below hb8)
      have HP8 := Lib.hid hat8
      clear hb8 hat8
      go_wp2_with (at_builtin; refine Lib.wpList_append_run _ rfl (.tmp 55) (.tmp 56) _ _ rfl _ _ rfl rfl _ _ hrun ?_)
      refine (build_any HP8.out).mono ?_
      rintro e w9 ⟨S9, n9, rfl, hn9, hs9, -, hb9⟩
      obtain rfl : n9 = 0 := hn9.trans ((bars_right _).2 HR.out)
      obtain rfl : S9 = S := (hs9 HR.out).trans HS.out.symm
      have H9 := Lib.hid (H8.out.trans (hb9.mono H8.out.size))
      have HQ9 := Lib.hid (HQ8.out.below hb9)
      have HO : Hid (∀ W, Calls Try.prog 9 #[.string S9] W fun e w' => ∃ a, e = .returned (.tuple #[.pointer (some ⟨a, 0, none⟩), .int .i64 0]) ∧ IsTab w' a l ∧ W.heap.size ≤ a ∧ Below W.heap.size W w') := Lib.hid fun W => by rw [HS.out]; exact open_yes HR.out
      clear hb9 hn9 hs9 hrun
      go_wp2_with fail
      refine (HO.out w9).mono ?_
      rintro e w10 ⟨a, rfl, ht, -, hb10⟩
      have H10 := Lib.hid (H9.out.trans (hb10.mono H9.out.size))
      have HQ10 := Lib.hid (HQ9.out.below hb10)
      have HT10 := Lib.hid ht
      have hsz : S9.size < room l := by rw [HS.out, tsize]; exact text_room l
      have HFT : Hid (Fits l) := Lib.hid ((right_iff l).1 HR.out).1
      have z1 : ¬ (room l : Int) ≤ (S9.size : Int) := by omega
      have z3 : ¬ room l ≤ S9.size := by omega
      have z4 : decide (room l ≤ S9.size) = false := decide_eq_false z3
      have HS3e : Hid (4 ≤ S3.size) := Lib.hid (by rw [HS3.out, tsize, text_len]; omega)
      have z2 : S3.toList.isEmpty = false := by
        rw [List.isEmpty_eq_false_iff]
        intro e
        have h1 := HS3e.out
        have h2 : S3.toList.length = S3.size := by rw [Go.ByteArray.toList_eq]; simp
        rw [e] at h2
        simp at h2
        omega
      clear hb10 ht hsz
      go_wp2_with fail
      refine (room_any HQ10.out HFT.out).mono ?_
      rintro e w11 ⟨rfl, hb11⟩
      have H11 := Lib.hid (H10.out.trans (hb11.mono H10.out.size))
      have HQ11 := Lib.hid (HQ10.out.below hb11)
      have HT11 := Lib.hid (HT10.out.below hb11)
      clear hb11
      go_wp2_with fail
      refine (get_any HT11.out key).mono ?_
      rintro e w12 ⟨rfl, hb12⟩
      unfold getV enV
      obtain ⟨x, hx⟩ : ∃ x, x = (getE l key).getD ⟨⟨#[]⟩, ⟨#[]⟩, false⟩ := ⟨_, rfl⟩
      obtain ⟨bx, hbx⟩ : ∃ bx, bx = (getE l key).isSome := ⟨_, rfl⟩
      rw [← hx, ← hbx]
      have HRG : Hid (∀ W, EntsAt W q l → Calls Try.prog 19 #[.slice q l.length cq, .string key] W fun e w' => e = .returned (.tuple #[.agg #[.string x.key, .string x.value, .bool x.gone], .bool bx]) ∧ Below W.heap.size W w') := Lib.hid fun W hq => (refget_any HR.out key hq).mono fun e w' h => ⟨by rw [h.1]; unfold getV enV; rw [← hx, ← hbx], h.2⟩
      have hb13 := hb12.trans ((below_alloc w12 (.cells #[.string x.key, .string x.value, .bool x.gone] 31)).mono hb12.size)
      have H13 := Lib.hid (H11.out.trans (hb13.mono H11.out.size))
      have HQ13 := Lib.hid (HQ11.out.below hb13)
      have HT13 := Lib.hid (HT11.out.below hb13)
      have HN13 := Lib.hid (heap_alloc_new w12 (.cells #[.string x.key, .string x.value, .bool x.gone] 31))
      clear hx hbx hb12 hb13
      go_wp2_with fail
      refine (HRG.out _ HQ13.out).mono ?_
      rintro e w14 ⟨rfl, hb14⟩
      have hb15 := hb14.trans ((below_alloc w14 (.cells #[.string x.key, .string x.value, .bool x.gone] 46)).mono hb14.size)
      have H15 := Lib.hid (H13.out.trans (hb15.mono H13.out.size))
      have HQ15 := Lib.hid (HQ13.out.below hb15)
      have HT15 := Lib.hid (HT13.out.below hb15)
      have hr1 := (hb15.block w12.heap.size (by simp)).trans HN13.out
      have hr2 := heap_alloc_new w14 (.cells #[.string x.key, .string x.value, .bool x.gone] 46)
      obtain ⟨d0, d1, d2⟩ := cells3 hr1
      obtain ⟨e0, e1, e2⟩ := cells3 hr2
      clear hr1 hr2 hb14 hb15
      go_wp2_with fail
      generalize w14.alloc (.cells #[.string x.key, .string x.value, .bool x.gone] 46) = w15 at *
      refine (len_any HT15.out).mono ?_
      rintro e w16 ⟨rfl, rfl⟩
      clear d0 d1 d2 e0 e1 e2
      go_wp2_with fail
      refine (reffrom_any HQ15.out HF.out key HK.out).mono ?_
      rintro e w17 ⟨m, cm, rfl, hm, hb17, hcm1, hcm2⟩
      have H17 := Lib.hid (H15.out.trans (hb17.mono H15.out.size))
      have HT17 := Lib.hid (HT15.out.below hb17)
      have HM17 := Lib.hid hm
      have HL17 := Lib.hid (HL.out.below H17.out)
      obtain ⟨M, hM⟩ : ∃ M, M = fromE l key := ⟨_, rfl⟩
      have HML : Hid (M.length ≤ 1000000) := Lib.hid (by
        rw [hM]; unfold fromE
        have := List.length_filter_le (fun e => !Mm.lt e.key key) l
        have := HF.out; omega)
      have HFA : Hid (∀ n W, IsTab W a l → Calls Try.prog 22 #[.pointer (some ⟨a, 0, none⟩), .string key, .int .i64 n] W (Made (partE M n) W)) := Lib.hid fun n W h => by rw [hM]; exact froml_any h key n
      rw [← hM] at HM17 ⊢
      have hM0 := Lib.hid hM
      have HF0 : Hid (∀ W, IsTab W a l → Calls Try.prog 22 #[.pointer (some ⟨a, 0, none⟩), .string key, .int .i64 0] W (Made M W)) := Lib.hid fun W h => (HFA.out 0 W h)
      clear hm hb17 hM HQ3 HQ4 HQ5 HQ6 HQ7 HQ8 HQ9 HQ10 HQ11 HQ13 HQ15 HRG HP3 HP8 HO HT10 HT11 HT13
      have HCM : Hid (M.length ≤ cm ∧ cm ≤ maxLen) := Lib.hid ⟨by rw [hM0.out]; exact hcm1, hcm2⟩
      have hcmI : (M.length : Int) ≤ (cm : Int) := by have := HCM.out; omega
      have hcmN : M.length ≤ cm := HCM.out.1
      clear hcm1 hcm2
      by_cases c1 : 0 < lv ∧ lv < (M.length : Int)
      case' pos =>
        obtain ⟨k, rfl⟩ : ∃ k : Nat, lv = (k : Int) := ⟨lv.toNat, by omega⟩
        have i1 : (0 : Int) < (k : Int) := c1.1
        have i2 : (k : Int) < (M.length : Int) := c1.2
        have i3 : 0 < k := by omega
        have i4 : k < M.length := by omega
        have i5 : (0 : Int) ≤ (k : Int) := by omega
        have i6 : (k : Int) ≤ (cm : Int) := by omega
        have i7 : k ≤ cm := by omega
        obtain ⟨PP, hPP⟩ : ∃ PP, PP = M.take k := ⟨_, rfl⟩
        have hkl : PP.length = k := by rw [hPP, List.length_take]; omega
        have HPL : Hid (PP.length ≤ 1000000) := Lib.hid (by have := HML.out; omega)
        have hpe : partE M (k : Int) = PP := by rw [hPP]; unfold partE; rw [if_pos (by omega)]; rfl
        have HFP : Hid (∀ W, IsTab W a l → Calls Try.prog 22 #[.pointer (some ⟨a, 0, none⟩), .string key, .int .i64 (k : Int)] W (Made PP W)) := Lib.hid fun W h => by rw [← hpe]; exact HFA.out k W h
        have HSP : Hid (∀ W q2 c2 cp, EntsAt W q2 PP → EntsAt W m PP → Calls Try.prog 21 #[.slice q2 PP.length c2, .slice m k cp] W fun e w' => e = .returned (.bool true) ∧ Below W.heap.size W w') := Lib.hid fun W q2 c2 cp h1 h2 => by
          have h := same_any (cap := c2) (cap2 := cp) HPL.out h1 h2
          rw [hkl] at h ⊢
          exact h
        have HMP : Hid (EntsAt w17 m PP) := Lib.hid (by rw [hPP]; exact HM17.out.take k)
        clear hPP hkl hpe c1 hcmI hcmN HFA
        go_wp2_with fail
      case' neg =>
        have hpe : partE M lv = M := by
          unfold partE
          split
          · rw [List.take_of_length_le (by omega)]
          · rfl
        have HFP : Hid (∀ W, IsTab W a l → Calls Try.prog 22 #[.pointer (some ⟨a, 0, none⟩), .string key, .int .i64 lv] W (Made M W)) := Lib.hid fun W h => by rw [← hpe]; rw [hpe]; have h2 := HFA.out lv W h; rw [hpe] at h2; exact h2
        have HSP : Hid (∀ W q2 c2 cp, EntsAt W q2 M → EntsAt W m M → Calls Try.prog 21 #[.slice q2 M.length c2, .slice m M.length cp] W fun e w' => e = .returned (.bool true) ∧ Below W.heap.size W w') := Lib.hid fun W q2 c2 cp h1 h2 => same_any (cap := c2) (cap2 := cp) HML.out h1 h2
        have HMP := Lib.hid HM17.out
        clear hpe hcmI hcmN HFA
        by_cases c2 : 0 < lv
        case' pos =>
          have i2 : ¬ lv < (M.length : Int) := fun h => c1 ⟨c2, h⟩
          clear c1
          go_wp2_with fail
        case' neg =>
          clear c1
          go_wp2_with fail
      all_goals
        refine (HFP.out w17 HT17.out).mono ?_
        rintro e w18 ⟨q1, c1, rfl, hq1, hb18, -⟩
        have H18 := Lib.hid (H17.out.trans (hb18.mono H17.out.size))
        have HT18 := Lib.hid (HT17.out.below hb18)
        have HQ18 := Lib.hid hq1
        have HMP18 := Lib.hid (HMP.out.below hb18)
        have HM18 := Lib.hid (HM17.out.below hb18)
        clear hq1 hb18
        go_wp2_with fail
        refine (HSP.out w18 q1 c1 cm HQ18.out HMP18.out).mono ?_
        rintro e w19 ⟨rfl, hb19⟩
        have H19 := Lib.hid (H18.out.trans (hb19.mono H18.out.size))
        have HT19 := Lib.hid (HT18.out.below hb19)
        have HM19 := Lib.hid (HM18.out.below hb19)
        clear hb19
        go_wp2_with fail
        refine (HF0.out w19 HT19.out).mono ?_
        rintro e w20 ⟨q2, c2, rfl, hq2, hb20, -⟩
        have H20 := Lib.hid (H19.out.trans (hb20.mono H19.out.size))
        have HT20 := Lib.hid (HT19.out.below hb20)
        have HM20 := Lib.hid (HM19.out.below hb20)
        have HQ20 := Lib.hid hq2
        clear hq2 hb20
        go_wp2_with fail
        refine (same_any (l := M) (cap := c2) (cap2 := cm) HML.out HQ20.out HM20.out).mono ?_
        rintro e w21 ⟨rfl, hb21⟩
        have H21 := Lib.hid (H20.out.trans (hb21.mono H20.out.size))
        have HT21 := Lib.hid (HT20.out.below hb21)
        clear hb21
        go_wp2_with fail
        refine (ends_any HT21.out).mono ?_
        rintro e w22 ⟨rfl, hb22⟩
        have H22 := Lib.hid (H21.out.trans (hb22.mono H21.out.size))
        clear hb22
        by_cases hnil : l = []
        · have hz : l.length = 0 := by rw [hnil]; rfl
          rw [show endsV l = .tuple #[.string ⟨#[]⟩, .string ⟨#[]⟩] by rw [hnil]; rfl]
          have HZ := Lib.hid hz
          clear hnil
          go_wp2_with fail
          go_ret
          exact ⟨rfl, H22.out⟩
        · have hpos : 0 < l.length := List.length_pos_iff.2 hnil
          have hev : endsV l = .tuple #[.string (l[0]'hpos).key, .string (l[l.length - 1]'(by omega)).key] := by
            unfold endsV
            rw [List.head?_eq_getElem?, List.getElem?_eq_getElem hpos, List.getLast?_eq_getElem?, List.getElem?_eq_getElem (by omega)]
            rfl
          rw [hev]
          obtain ⟨A, rfl, f0, -, -, -⟩ := HL.out.at H22.out hpos
          have g0 := (HL.out.cells H22.out (show l.length - 1 < l.length by omega)).1
          generalize (l[0]'hpos).key = x0 at *
          generalize (l[l.length - 1]'(by omega)).key = x1 at *
          rw [show A.add (0 * 3) = A by unfold Addr.add; simp] at f0
          have hz : l.length ≠ 0 := by omega
          have hzI : ((l.length : Int) == 0) = false := by rw [beq_eq_false_iff_ne]; omega
          have j1 : (0 : Int) < (l.length : Int) := by omega
          have j2 : (0 : Int) ≤ (l.length : Int) - 1 := by omega
          have j3 : (l.length : Int) - 1 < (l.length : Int) := by omega
          have j4 : ((l.length : Int) - 1).toNat = l.length - 1 := by omega
          have j5 : IntKind.i64.wrap ((l.length : Int) - 1) = (l.length : Int) - 1 := IntWalk.i64_in _ (by have := HF.out; omega)
          have j6 : (1 : Int) ≤ (l.length : Int) := by omega
          clear hev hnil
          go_wp2_with fail
          go_ret
          exact ⟨rfl, H22.out⟩
    · have h0 : n ≠ 0 := fun e => hr ((bars_right l).1 (by rw [← hn]; exact e))
      obtain rfl := hs2 hr
      have d0 : ((n : Int) == 0) = false := by rw [beq_eq_false_iff_ne]; omega
      clear hn hs hs2 hr hb4
      go_wp2_with fail
      refine HRB.out.mono ?_
      rintro e w5 ⟨rfl, hb5⟩
      have H5 := Lib.hid (H4.out.trans (hb5.mono H4.out.size))
      clear hb5
      go_wp2_with fail
      go_ret
      exact ⟨rfl, H5.out⟩
end Go.Proofs.Ytgmaccfhgeocdaa
