/-
  Walks over the laws of package table: TableSpoilt. No condition but those in the theorem.
-/
import Derived.Test.YtgmaccfhgeocdaaTabNoTab
import Derived.Sort.QuietIn
namespace Go.Proofs.Ytgmaccfhgeocdaa
open Go.RowKit Go.Shelf Tb
attribute [local go_sem] Oper.semAt_some

theorem eql_seqT (w : World) (fn : Fn) (cs bs : Array Value) : (binOp .eql 35 (.func fn cs bs) .nilFunc).run Try.prog w = .ok (.bool false) w := by
  have h : ∀ d : Nat, (Op.equalIn (d + 1) 35 (.func fn cs bs) .nilFunc).run Try.prog w = .ok false w := fun d => by
    simp [Op.equalIn, run_underlying Try.underlying35]
  simp only [binOp]
  simp [Op.equal, Op.maxDepth, h 9999]
theorem len_quiet {F : Fence} {n k : Nat} {W : World} {a : Nat} {l : List En} (h : IsTab W a l) (hF : F = Fence.wide) : CallsIn F n Try.prog 13 #[.pointer (some ⟨a, 0, none⟩)] (W.drewN k) fun e w'' => e = .returned (.int .i64 (l.length : Nat)) ∧ ∃ m, w'' = W.drewN m := by
  subst hF
  refine (callsIn_wide.2 (len_any (W := W.drewN k) (l := l) h)).mono ?_
  rintro e w' ⟨rfl, rfl⟩
  exact ⟨rfl, k, rfl⟩
set_option maxRecDepth 100000 in
set_option maxHeartbeats 16000000 in
theorem tableSpoilt_any (p : Option Addr) (cap0 : Nat) (l : List En) (at_ ch : Int) (other : ByteArray) (w : World) (hl : EntsAt w p l) (hom : other.size ≤ maxLen) (hc0 : 0 ≤ ch) (hc1 : ch ≤ 255) :
    Calls Try.prog 6 #[.slice p l.length cap0, .int .i64 at_, .int .u8 ch, .string other] w fun e w' => e = .returned (.bool true) ∧ Below w.heap.size w w' := by
  unfold maxLen at hom
  refine (callsIn_wide (n := 9)).1 ?_
  refine callsIn_of_wp_marks Try.func6 rfl trivial ?_ rfl
  simp only [Try.ntmps6, List.size_toArray, List.length_cons, List.length_nil, Nat.reduceAdd, Nat.reduceSub, Array.replicate_succ, Array.replicate_zero, List.push_toArray, List.append_toArray, List.nil_append, List.cons_append]
  have HL := Lib.hid hl
  clear hl
  gi_wp2_with fail
  refine ⟨trivial, ?_⟩
  refine (callsIn_wide.2 (awake_any _)).mono ?_
  rintro e w1 ⟨rfl, hb1⟩
  have H0 := Lib.hid ((now_start w).same hb1)
  clear hb1
  gi_wp2_with fail
  refine ⟨trivial, ?_⟩
  refine (callsIn_wide.2 (great_any (HL.out.below H0.out.below) 100 (by omega) rfl)).mono ?_
  rintro e w2 ⟨b, rfl, hfew, hb2⟩
  have H2 := Lib.hid (H0.out.same hb2)
  have HFEW := Lib.hid hfew
  clear hb2 hfew
  cases b with
  | true =>
    gi_wp2_with fail
    exact leaves_now w (fun W => results_tmp rfl _ _ _) [] w2 H2.out (fun W' hb => ⟨rfl, hb⟩)
  | false =>
    have HF : Hid (l.length ≤ 100) := Lib.hid (HFEW.out (by trivial))
    by_cases hbig : 20000 < other.size
    · have i0 : (20000 : Int) < (other.size : Int) := by omega
      gi_wp2_with fail
      exact leaves_now w (fun W => results_tmp rfl _ _ _) [] w2 H2.out (fun W' hb => ⟨rfl, hb⟩)
    · have i0 : ¬ (20000 : Int) < (other.size : Int) := by omega
      gi_wp2_with fail
      refine ⟨trivial, ?_⟩
      refine (callsIn_wide.2 (open_any other _ (by omega))).mono ?_
      rintro e w3 ⟨hb3, hopen⟩
      have H3 := Lib.hid (H2.out.same hb3)
      clear hb3
      rcases hopen with ⟨a, l0, hl0, rfl, ht, hla⟩ | ⟨hno, rfl⟩
      · have e0 : off l0 (below l0 ⟨#[]⟩) = 0 := by rw [below_empty]; rfl
        have hbA := below_alloc w3 (.cells #[.slice none 0 0] 25)
        have hfr := from_any (ht.below hbA) ⟨#[]⟩
        rw [e0] at hfr
        have HFR := Lib.hid hfr
        have HT := Lib.hid ht
        obtain ⟨gk, hgk⟩ : ∃ gk, gk = w3.heap.size := ⟨_, rfl⟩
        have h3a := H3.out.alloc (.cells #[.slice none 0 0] 25)
        rw [← hgk] at h3a
        have H3A := Lib.hid h3a
        have HGK := Lib.hid hgk
        clear hfr ht hbA e0 hla h3a hgk
        gi_wp2_with fail
        refine ⟨trivial, ?_⟩
        refine (callsIn_wide.2 HFR.out).mono ?_
        rintro e w4 ⟨b1, b2, rfl, hb1, hb2, hl1, hl2, hbe⟩
        have H4 := Lib.hid (H3A.out.same hbe)
        have hT4 := (HT.out.below (below_alloc w3 (.cells #[.slice none 0 0] 25))).below hbe
        have HB34 := Lib.hid ((below_alloc w3 (.cells #[.slice none 0 0] 25)).trans (hbe.mono (by simp)))
        have hen := fun (u : World) => eql_seqT u (.func 42) #[] #[.pointer (some ⟨b1, 0, none⟩), .pointer (some ⟨b2, 0, none⟩)]
        gi_wp2_with fail
        rw [← HGK.out]
        obtain ⟨xs, hx, hxl⟩ := ents_from hT4.2 0 (Nat.zero_le _)
        rw [off_zero] at hx
        rw [List.drop_zero] at hxl
        have hrs := rows_small hT4.2
        have hsq := behind1_seq 8 (rows l0) (by omega) 0 (by omega) xs hx a b1 b2 w4 hT4.1.rows hb1 hb2
        have hgk4 : w4.heap[gk]? = some (.cells #[.slice none 0 0] 25 (0, 0)) := H4.out.head
        have l1 : b1 < w4.heap.size := (Array.getElem?_eq_some_iff.1 hb1).1
        have l2 : b2 < w4.heap.size := (Array.getElem?_eq_some_iff.1 hb2).1
        have l4 : gk < w4.heap.size := (Array.getElem?_eq_some_iff.1 hgk4).1
        have l5 : a < w4.heap.size := hT4.1.cells.2.1
        have la3 : a < gk := by rw [HGK.out]; exact HT.out.1.cells.2.1
        have hn1 : b1 ≠ gk := by have := HGK.out; simp at hl1; omega
        have hn2 : b2 ≠ gk := by have := HGK.out; simp at hl1; omega
        have hwg : w.heap.size ≤ gk := H4.out.new _ List.mem_cons_self
        have hww : w.heap.size ≤ w4.heap.size := H4.out.below.size
        have HXL := Lib.hid hxl
        have HT4 := Lib.hid hT4
        have HGK4 := Lib.hid hgk4
        have hfw := hT4.2.few
        clear hxl hx hT4 hgk4 hb1 hb2 hbe hen hl1
        apply wpIn_rangeZ rfl (by omega) (gf := 42) (lb := #[.pointer (some ⟨b1, 0, none⟩), .pointer (some ⟨b2, 0, none⟩)]) rfl trivial (enters_of Try.func42 (by kernel_rfl) rfl)
          (encs := fun x : En × Nat => #[.agg #[.string x.1.key, .string x.1.value, .bool x.1.gone]]) (xs := xs) (cap := fun k => k = b1 ∨ k = b2 ∨ k = a) hsq (fun k hk => by rcases hk with rfl | rfl | rfl <;> assumption) (fun _ => rfl)
          (fun S i A => Outs [gk] w4 A ∧ (∀ k, S k → w4.heap.size ≤ k) ∧ ∃ v, A.heap[gk]? = some (.cells #[v] 25 (0, 0)) ∧ OwnEnts A w4.heap.size v ((xs.map Prod.fst).take i) ∧ ∀ k, v.ownBlock = some k → ¬ S k)
          (fun _ _ _ _ => False)
          (fun S S' i A C hs st => by
            obtain ⟨q1, q2, v, q4, q5, q6⟩ := hs
            have hz := q1.size
            obtain ⟨q7, q8⟩ := q5.steps st q6
            exact ⟨q1.steps st q2, fun k hk => (st.new k hk).elim (q2 k) fun e => by omega, v, (st.block _ (by omega) fun e => by have := q2 _ e; omega).trans q4, q7, q8⟩)
          (fun _ _ _ _ _ _ hs _ => hs)
          ⟨Outs.refl _ _, fun k hk => hk.elim, _, HGK4.out, OwnEnts.nil _ _, fun k hk => by simp [Value.ownBlock] at hk⟩
          (w₁ := fun x A => A.alloc (.cells #[.string x.1.key, .string x.1.value, .bool x.1.gone] 31)) (hw₁ := fun x A => below_alloc A _)
        case hassign =>
          intro l x W K hK
          gi_wp2
          exact hK
        case hstop =>
          rintro D S cd i A hD hSD hS hi h hK
          exact h.elim
        case hbody =>
          rintro l1 S i hi A0 A hz0 hSA hzA hnew ⟨ho, hS2, v, hgA, hov, hvS⟩
          obtain ⟨pv0, cap, e1, -, -⟩ := hov.shape
          have hsz1 := ho.size
          have hxln : xs.length = l0.length := by rw [← HXL.out, List.length_map]
          have hlen : ((xs.map Prod.fst).take i).length = i := by rw [List.length_take, List.length_map]; omega
          have hbx : A.heap[A0.heap.size]? = some (entO xs[i].1) := (hnew _ (Nat.le_refl _)).trans (heap_alloc_new A0 _)
          have hzA0 : A0.heap.size < A.heap.size := by rw [hzA]; simp
          rw [hlen] at e1
          subst e1
          obtain ⟨cg, fg⟩ := cells1 hgA
          have fg0 := fg 0
          obtain ⟨d0, d1, d2⟩ := cells3 hbx
          have HTK := Lib.hid (List.take_succ_eq_append_getElem (l := xs.map Prod.fst) (i := i) (by rw [List.length_map]; exact hi))
          have HGX : Hid ((xs.map Prod.fst)[i]'(by rw [List.length_map]; exact hi) = xs[i].1) := Lib.hid (by simp)
          obtain ⟨x, hx⟩ : ∃ x, x = xs[i].1 := ⟨_, rfl⟩
          rw [← hx] at d0 d1 d2 HGX ⊢
          obtain ⟨es, hes⟩ : ∃ es, es = (xs.map Prod.fst).take i := ⟨_, rfl⟩
          rw [← hes] at hov HTK hlen
          have hnx : es.length + 1 ≤ 1000000 := by rw [hlen]; omega
          obtain ⟨pv, cv, W', hrun, o2, g2⟩ := e_append hov (below_alloc A (.cells #[.string x.key, .string x.value, .bool x.gone] 31)) ⟨A.heap.size, 0, none⟩ [x] 1 1 rfl (news_three A _ _ _ _) hnx (show w4.heap.size ≤ A.heap.size by omega) 25
          have hst := ents_step (cap := fun k => k = b1 ∨ k = b2 ∨ k = a) (S := S) ho l4 hgA hov hvS (fun k hk => by have := hSA k hk; exact ⟨this.1, by omega⟩) (fun k hk => by rcases hk with rfl | rfl | rfl <;> assumption) (by intro h; rcases h with h | h | h <;> omega) o2 g2
          rw [hlen] at hrun hst
          obtain ⟨q1, q2⟩ := cells1 hst.1
          have q3 := q2 0
          have HST := Lib.hid hst
          have HS2 := Lib.hid hS2
          clear hst o2 g2 q2 hes hlen hov hx hbx hnew hzA hSA hS2 hvS ho hgA fg hxln hnx
          gi_wp2_with (gi_at_builtin; refine tabIn_append _ rfl (.tmp 49) (.tmp 51) 25 25 rfl _ _ rfl rfl _ _ hrun ?_)
          refine ⟨HST.out.2.2.2.2.2, HST.out.2.1, HS2.out, _, HST.out.2.2.1, ?_, HST.out.2.2.2.2.1⟩
          rw [HTK.out, HGX.out]; exact HST.out.2.2.2.1
        case hdone =>
          rintro D S A hD hSD hS ⟨ho, hS2, v, hgA, hov, hvS⟩ hK
          have e1 : (xs.map Prod.fst).take xs.length = l0 := by rw [List.take_of_length_le (by rw [List.length_map]; exact Nat.le_refl _)]; exact HXL.out
          rw [e1] at hov
          obtain ⟨pm, cm, rfl, -, -, hat⟩ := hov.ents (fun e he => by have := HT4.out.2.ok e he; exact ⟨Nat.le_trans this.2.1 (by decide), Nat.le_trans this.2.2.1 (by decide)⟩)
          have hnow : Now w A [(D, MarkO), (gk, .cells #[.slice pm l0.length cm] 25 (0, 0))] := by
            have h := H4.out.outs (G := [(gk, .cells #[.slice none 0 0] 25 (0, 0))]) (G' := [(gk, .cells #[.slice pm l0.length cm] 25 (0, 0))]) (B := []) ho rfl (fun q hq => by rw [List.mem_singleton.1 hq]; exact hgA)
            exact h.add hK (by omega) (fun q hq => by simp at hq; rw [hq]; show gk ≠ D; omega)
          have HNOW := Lib.hid hnow
          have HAT := Lib.hid hat
          have c3 := (cells1 hgA).1
          have HRA : Hid (IsTab A a l0) := Lib.hid (HT.out.below (Outs.upon HB34.out ho (by rw [HGK.out]; exact Nat.le_refl _)))
          clear hnow hat hov ho hgA hvS hS2 hsq hK
          gi_wp2_with fail
          refine ⟨trivial, ?_⟩
          refine (callsIn_wide.2 (build_any HAT.out)).mono ?_
          rintro e w5 ⟨S2, n2, rfl, hn2, hs2, -, hb5⟩
          obtain rfl : n2 = 0 := hn2.trans ((bars_right _).2 HT4.out.2)
          obtain rfl := hs2 HT4.out.2
          have H5 := Lib.hid (HNOW.out.same hb5)
          have HRB := Lib.hid (HRA.out.below hb5)
          clear hn2 hs2 hb5 c3
          gi_wp2_with fail
          refine ⟨trivial, ?_⟩
          refine (callsIn_wide.2 (open_yes HT4.out.2)).mono ?_
          rintro e w6 ⟨a2, rfl, ht2, -, hb6⟩
          have H6 := Lib.hid (H5.out.same hb6)
          have HRC := Lib.hid (HRB.out.below hb6)
          have HRD := Lib.hid ht2
          have c3 := (cells1 (H6.out.box (gk, .cells #[.slice pm l0.length cm] 25 (0, 0)) (by simp))).1
          clear ht2 hb6
          gi_wp2_with fail
          have hfn : Fence.wide.fn 13 = True := rfl
          gi_quiet (first
            | (gi_at_call 13; exact len_quiet HRC.out rfl)
            | (gi_at_call 13; exact len_quiet HRD.out rfl))
          have H1 : Hid (Now w (w6.drewN nq) [(D, MarkO)]) := Lib.hid ((H6.out.sub (B' := [(D, MarkO)]) (by simp)).same (below_drewN (Below.refl _ _) nq))
          clear c3 hfn
          gi_wp2_with fail
          refine ⟨trivial, ?_⟩
          refine (callsIn_wide.2 (build_any (HL.out.below H1.out.below))).mono ?_
          rintro e w5 ⟨S, n, rfl, hn, hr, -, hb5⟩
          have HN := Lib.hid hn
          have HR := Lib.hid hr
          have H5 := Lib.hid (H1.out.same hb5)
          clear hn hr hb5
          by_cases h0 : n = 0
          · have d0 : ((n : Int) == 0) = true := by rw [beq_iff_eq]; omega
            have hright : Right l := (bars_right l).1 (by rw [← HN.out]; exact h0)
            have hS := HR.out hright
            have HRT := Lib.hid hright
            have HS := Lib.hid hS
            have hsz : S.size = (Tb.text l).length := by rw [hS, tsize]
            have hsm := text_small hright
            have hsp : 4 ≤ (Tb.text l).length := by rw [text_len]; omega
            have z0 : 0 < S.size := by omega
            have z1 : S.size ≤ 2000000 := by omega
            obtain ⟨k, hk, k1, k2, k3, k4⟩ := mod_walk at_ S.size z0
            have z2 : (0 : Int) < (S.size : Int) := by omega
            have z3 : ((S.size : Int) == 0) = false := by rw [beq_eq_false_iff_ne]; omega
            have z4 : (0 : Int) ≤ (k : Int) := by omega
            have z5 : (k : Int) ≤ (S.size : Int) := by omega
            have z6 : (k : Int) < (S.size : Int) := by omega
            have HCUT : Hid (¬ ∃ m, IsText (S.extract 0 k) m) := Lib.hid (by rw [hS]; exact cut_no hright (by omega))
            have HZ := Lib.hid hsz
            have HX : Hid ((S.extract 0 k).size ≤ 70000000000000) := Lib.hid (by rw [ByteArray.size_extract]; omega)
            clear h0 hright hS hsz hsm hsp
            gi_wp2_with fail
            refine ⟨trivial, ?_⟩
            refine (callsIn_wide.2 (open_no HX.out HCUT.out)).mono ?_
            rintro e w6 ⟨rfl, hb6⟩
            have H6 := Lib.hid (H5.out.same hb6)
            clear hb6
            by_cases ho : 0 < other.size
            · have i5 : (0 : Int) < (other.size : Int) := by omega
              have hadd := fun u => run_string_add_sum (P := Try.prog) u S other (by omega)
              have HMO : Hid (¬ ∃ m, IsText (S ++ other) m) := Lib.hid (by rw [HS.out]; exact more_no HRT.out other ho)
              have HMS : Hid ((S ++ other).size ≤ 70000000000000) := Lib.hid (by rw [ByteArray.size_append]; omega)
              clear ho
              gi_wp2_with fail
              refine ⟨trivial, ?_⟩
              refine (callsIn_wide.2 (open_no HMS.out HMO.out)).mono ?_
              rintro e w7 ⟨rfl, hb7⟩
              have H7 := Lib.hid (H6.out.same hb7)
              clear hb7 hadd
              by_cases hch : ch = 0
              · subst hch
                gi_wp2_with fail
                exact leaves_now w (fun W => results_tmp rfl _ _ _) [D] w7 H7.out (fun W' hb => ⟨rfl, hb⟩)
              · have c0 : (ch == 0) = false := beq_eq_false_iff_ne.2 hch
                obtain ⟨y, hy, hne⟩ := xor_walk (S.data.toList[k]'(by simpa using hk)) ch hc0 hc1
                have hne := hne hch
                have hSl : S.data.toList = Tb.text l := by rw [HS.out]
                have hkt : k < (Tb.text l).length := by rw [← HZ.out]; exact hk
                have HTN : Hid (¬ ∃ m, IsText (⟨(S.data.toList.set k y).toArray⟩ : ByteArray) m) := Lib.hid (by
                  have h := turned_no (l := l) hkt y (by intro e; apply hne; rw [← e]; congr 1)
                  rwa [← hSl] at h)
                have HTS : Hid ((⟨(S.data.toList.set k y).toArray⟩ : ByteArray).size ≤ 70000000000000) := Lib.hid (by rw [tsize, List.length_set]; simp; omega)
                have hBA := bytesAt_conv w7 S (grownCap w7 S.size 0 5) ((bytesRow S (grownCap w7 S.size 0 5)).size, (bytesRow S (grownCap w7 S.size 0 5)).size + 1)
                have hfz := bytes_frozen w7 S (grownCap w7 S.size 0 5) k hk ((bytesRow S (grownCap w7 S.size 0 5)).size + 1)
                have cv2 := run_bytes_of_string (P := Try.prog) w7 9 39 5 S Try.underlying9 Try.underlying39 Try.underlying5
                generalize grownCap w7 S.size 0 5 = cap at cv2 hBA hfz
                generalize bytesRow S cap = C at cv2 hBA hfz
                have hcl := hBA k (by simpa using hk)
                have HBA := Lib.hid hBA
                clear hBA hne hSl hkt hch
                generalize S.data.toList[k] = x at hcl hy
                gi_wp2_with fail
                have hB2 : BytesAt ((w7.alloc (Obj.cells C 5 (C.size, C.size + 1))).setCell { block := w7.heap.size, off := k } (Value.int IntKind.u8 y.toNat)).drew w7.heap.size (S.data.toList.set k y) :=
                  bytesAt_drew (bytesAt_set HBA.out (by simpa using hk) y)
                have hW9 : Below w7.heap.size w7 ((w7.alloc (Obj.cells C 5 (C.size, C.size + 1))).setCell { block := w7.heap.size, off := k } (Value.int IntKind.u8 y.toNat)).drew :=
                  (((Below.refl _ _).alloc (Nat.le_refl _) _).setCell (Nat.le_refl _) _).drew
                generalize ((w7.alloc (Obj.cells C 5 (C.size, C.size + 1))).setCell { block := w7.heap.size, off := k } (Value.int IntKind.u8 y.toNat)).drew = W9 at hB2 hW9 ⊢
                rw [back_text hB2 S.size cap (by simp)]
                have H9 := Lib.hid (H7.out.same hW9)
                clear hB2 hy hcl hfz cv2 hW9
                gi_wp2_with fail
                refine ⟨trivial, ?_⟩
                refine (callsIn_wide.2 (open_no HTS.out HTN.out)).mono ?_
                rintro e w10 ⟨rfl, hb10⟩
                have H10 := Lib.hid (H9.out.same hb10)
                clear hb10
                gi_wp2_with fail
                exact leaves_now w (fun W => results_tmp rfl _ _ _) [D] w10 H10.out (fun W' hb => ⟨rfl, hb⟩)
            · have i5 : ¬ (0 : Int) < (other.size : Int) := by omega
              have H7 := Lib.hid H6.out
              clear ho
              obtain ⟨w7, hw7⟩ : ∃ w7, w6 = w7 := ⟨_, rfl⟩
              subst hw7
              by_cases hch : ch = 0
              · subst hch
                gi_wp2_with fail
                exact leaves_now w (fun W => results_tmp rfl _ _ _) [D] w6 H7.out (fun W' hb => ⟨rfl, hb⟩)
              · have c0 : (ch == 0) = false := beq_eq_false_iff_ne.2 hch
                obtain ⟨y, hy, hne⟩ := xor_walk (S.data.toList[k]'(by simpa using hk)) ch hc0 hc1
                have hne := hne hch
                have hSl : S.data.toList = Tb.text l := by rw [HS.out]
                have hkt : k < (Tb.text l).length := by rw [← HZ.out]; exact hk
                have HTN : Hid (¬ ∃ m, IsText (⟨(S.data.toList.set k y).toArray⟩ : ByteArray) m) := Lib.hid (by
                  have h := turned_no (l := l) hkt y (by intro e; apply hne; rw [← e]; congr 1)
                  rwa [← hSl] at h)
                have HTS : Hid ((⟨(S.data.toList.set k y).toArray⟩ : ByteArray).size ≤ 70000000000000) := Lib.hid (by rw [tsize, List.length_set]; simp; omega)
                have hBA := bytesAt_conv w6 S (grownCap w6 S.size 0 5) ((bytesRow S (grownCap w6 S.size 0 5)).size, (bytesRow S (grownCap w6 S.size 0 5)).size + 1)
                have hfz := bytes_frozen w6 S (grownCap w6 S.size 0 5) k hk ((bytesRow S (grownCap w6 S.size 0 5)).size + 1)
                have cv2 := run_bytes_of_string (P := Try.prog) w6 9 39 5 S Try.underlying9 Try.underlying39 Try.underlying5
                generalize grownCap w6 S.size 0 5 = cap at cv2 hBA hfz
                generalize bytesRow S cap = C at cv2 hBA hfz
                have hcl := hBA k (by simpa using hk)
                have HBA := Lib.hid hBA
                clear hBA hne hSl hkt hch
                generalize S.data.toList[k] = x at hcl hy
                gi_wp2_with fail
                have hB2 : BytesAt ((w6.alloc (Obj.cells C 5 (C.size, C.size + 1))).setCell { block := w6.heap.size, off := k } (Value.int IntKind.u8 y.toNat)).drew w6.heap.size (S.data.toList.set k y) :=
                  bytesAt_drew (bytesAt_set HBA.out (by simpa using hk) y)
                have hW9 : Below w6.heap.size w6 ((w6.alloc (Obj.cells C 5 (C.size, C.size + 1))).setCell { block := w6.heap.size, off := k } (Value.int IntKind.u8 y.toNat)).drew :=
                  (((Below.refl _ _).alloc (Nat.le_refl _) _).setCell (Nat.le_refl _) _).drew
                generalize ((w6.alloc (Obj.cells C 5 (C.size, C.size + 1))).setCell { block := w6.heap.size, off := k } (Value.int IntKind.u8 y.toNat)).drew = W9 at hB2 hW9 ⊢
                rw [back_text hB2 S.size cap (by simp)]
                have H9 := Lib.hid (H7.out.same hW9)
                clear hB2 hy hcl hfz cv2 hW9
                gi_wp2_with fail
                refine ⟨trivial, ?_⟩
                refine (callsIn_wide.2 (open_no HTS.out HTN.out)).mono ?_
                rintro e w10 ⟨rfl, hb10⟩
                have H10 := Lib.hid (H9.out.same hb10)
                clear hb10
                gi_wp2_with fail
                exact leaves_now w (fun W => results_tmp rfl _ _ _) [D] w10 H10.out (fun W' hb => ⟨rfl, hb⟩)
          · have d0 : ((n : Int) == 0) = false := by rw [beq_eq_false_iff_ne]; omega
            clear h0
            gi_wp2_with fail
            exact leaves_now w (fun W => results_tmp rfl _ _ _) [D] w5 H5.out (fun W' hb => ⟨rfl, hb⟩)
      · clear hno
        have H1 := Lib.hid H3.out
        gi_wp2_with fail
        refine ⟨trivial, ?_⟩
        refine (callsIn_wide.2 (build_any (HL.out.below H1.out.below))).mono ?_
        rintro e w5 ⟨S, n, rfl, hn, hr, -, hb5⟩
        have HN := Lib.hid hn
        have HR := Lib.hid hr
        have H5 := Lib.hid (H1.out.same hb5)
        clear hn hr hb5
        by_cases h0 : n = 0
        · have d0 : ((n : Int) == 0) = true := by rw [beq_iff_eq]; omega
          have hright : Right l := (bars_right l).1 (by rw [← HN.out]; exact h0)
          have hS := HR.out hright
          have HRT := Lib.hid hright
          have HS := Lib.hid hS
          have hsz : S.size = (Tb.text l).length := by rw [hS, tsize]
          have hsm := text_small hright
          have hsp : 4 ≤ (Tb.text l).length := by rw [text_len]; omega
          have z0 : 0 < S.size := by omega
          have z1 : S.size ≤ 2000000 := by omega
          obtain ⟨k, hk, k1, k2, k3, k4⟩ := mod_walk at_ S.size z0
          have z2 : (0 : Int) < (S.size : Int) := by omega
          have z3 : ((S.size : Int) == 0) = false := by rw [beq_eq_false_iff_ne]; omega
          have z4 : (0 : Int) ≤ (k : Int) := by omega
          have z5 : (k : Int) ≤ (S.size : Int) := by omega
          have z6 : (k : Int) < (S.size : Int) := by omega
          have HCUT : Hid (¬ ∃ m, IsText (S.extract 0 k) m) := Lib.hid (by rw [hS]; exact cut_no hright (by omega))
          have HZ := Lib.hid hsz
          have HX : Hid ((S.extract 0 k).size ≤ 70000000000000) := Lib.hid (by rw [ByteArray.size_extract]; omega)
          clear h0 hright hS hsz hsm hsp
          gi_wp2_with fail
          refine ⟨trivial, ?_⟩
          refine (callsIn_wide.2 (open_no HX.out HCUT.out)).mono ?_
          rintro e w6 ⟨rfl, hb6⟩
          have H6 := Lib.hid (H5.out.same hb6)
          clear hb6
          by_cases ho : 0 < other.size
          · have i5 : (0 : Int) < (other.size : Int) := by omega
            have hadd := fun u => run_string_add_sum (P := Try.prog) u S other (by omega)
            have HMO : Hid (¬ ∃ m, IsText (S ++ other) m) := Lib.hid (by rw [HS.out]; exact more_no HRT.out other ho)
            have HMS : Hid ((S ++ other).size ≤ 70000000000000) := Lib.hid (by rw [ByteArray.size_append]; omega)
            clear ho
            gi_wp2_with fail
            refine ⟨trivial, ?_⟩
            refine (callsIn_wide.2 (open_no HMS.out HMO.out)).mono ?_
            rintro e w7 ⟨rfl, hb7⟩
            have H7 := Lib.hid (H6.out.same hb7)
            clear hb7 hadd
            by_cases hch : ch = 0
            · subst hch
              gi_wp2_with fail
              exact leaves_now w (fun W => results_tmp rfl _ _ _) [] w7 H7.out (fun W' hb => ⟨rfl, hb⟩)
            · have c0 : (ch == 0) = false := beq_eq_false_iff_ne.2 hch
              obtain ⟨y, hy, hne⟩ := xor_walk (S.data.toList[k]'(by simpa using hk)) ch hc0 hc1
              have hne := hne hch
              have hSl : S.data.toList = Tb.text l := by rw [HS.out]
              have hkt : k < (Tb.text l).length := by rw [← HZ.out]; exact hk
              have HTN : Hid (¬ ∃ m, IsText (⟨(S.data.toList.set k y).toArray⟩ : ByteArray) m) := Lib.hid (by
                have h := turned_no (l := l) hkt y (by intro e; apply hne; rw [← e]; congr 1)
                rwa [← hSl] at h)
              have HTS : Hid ((⟨(S.data.toList.set k y).toArray⟩ : ByteArray).size ≤ 70000000000000) := Lib.hid (by rw [tsize, List.length_set]; simp; omega)
              have hBA := bytesAt_conv w7 S (grownCap w7 S.size 0 5) ((bytesRow S (grownCap w7 S.size 0 5)).size, (bytesRow S (grownCap w7 S.size 0 5)).size + 1)
              have hfz := bytes_frozen w7 S (grownCap w7 S.size 0 5) k hk ((bytesRow S (grownCap w7 S.size 0 5)).size + 1)
              have cv2 := run_bytes_of_string (P := Try.prog) w7 9 39 5 S Try.underlying9 Try.underlying39 Try.underlying5
              generalize grownCap w7 S.size 0 5 = cap at cv2 hBA hfz
              generalize bytesRow S cap = C at cv2 hBA hfz
              have hcl := hBA k (by simpa using hk)
              have HBA := Lib.hid hBA
              clear hBA hne hSl hkt hch
              generalize S.data.toList[k] = x at hcl hy
              gi_wp2_with fail
              have hB2 : BytesAt ((w7.alloc (Obj.cells C 5 (C.size, C.size + 1))).setCell { block := w7.heap.size, off := k } (Value.int IntKind.u8 y.toNat)).drew w7.heap.size (S.data.toList.set k y) :=
                bytesAt_drew (bytesAt_set HBA.out (by simpa using hk) y)
              have hW9 : Below w7.heap.size w7 ((w7.alloc (Obj.cells C 5 (C.size, C.size + 1))).setCell { block := w7.heap.size, off := k } (Value.int IntKind.u8 y.toNat)).drew :=
                (((Below.refl _ _).alloc (Nat.le_refl _) _).setCell (Nat.le_refl _) _).drew
              generalize ((w7.alloc (Obj.cells C 5 (C.size, C.size + 1))).setCell { block := w7.heap.size, off := k } (Value.int IntKind.u8 y.toNat)).drew = W9 at hB2 hW9 ⊢
              rw [back_text hB2 S.size cap (by simp)]
              have H9 := Lib.hid (H7.out.same hW9)
              clear hB2 hy hcl hfz cv2 hW9
              gi_wp2_with fail
              refine ⟨trivial, ?_⟩
              refine (callsIn_wide.2 (open_no HTS.out HTN.out)).mono ?_
              rintro e w10 ⟨rfl, hb10⟩
              have H10 := Lib.hid (H9.out.same hb10)
              clear hb10
              gi_wp2_with fail
              exact leaves_now w (fun W => results_tmp rfl _ _ _) [] w10 H10.out (fun W' hb => ⟨rfl, hb⟩)
          · have i5 : ¬ (0 : Int) < (other.size : Int) := by omega
            have H7 := Lib.hid H6.out
            clear ho
            obtain ⟨w7, hw7⟩ : ∃ w7, w6 = w7 := ⟨_, rfl⟩
            subst hw7
            by_cases hch : ch = 0
            · subst hch
              gi_wp2_with fail
              exact leaves_now w (fun W => results_tmp rfl _ _ _) [] w6 H7.out (fun W' hb => ⟨rfl, hb⟩)
            · have c0 : (ch == 0) = false := beq_eq_false_iff_ne.2 hch
              obtain ⟨y, hy, hne⟩ := xor_walk (S.data.toList[k]'(by simpa using hk)) ch hc0 hc1
              have hne := hne hch
              have hSl : S.data.toList = Tb.text l := by rw [HS.out]
              have hkt : k < (Tb.text l).length := by rw [← HZ.out]; exact hk
              have HTN : Hid (¬ ∃ m, IsText (⟨(S.data.toList.set k y).toArray⟩ : ByteArray) m) := Lib.hid (by
                have h := turned_no (l := l) hkt y (by intro e; apply hne; rw [← e]; congr 1)
                rwa [← hSl] at h)
              have HTS : Hid ((⟨(S.data.toList.set k y).toArray⟩ : ByteArray).size ≤ 70000000000000) := Lib.hid (by rw [tsize, List.length_set]; simp; omega)
              have hBA := bytesAt_conv w6 S (grownCap w6 S.size 0 5) ((bytesRow S (grownCap w6 S.size 0 5)).size, (bytesRow S (grownCap w6 S.size 0 5)).size + 1)
              have hfz := bytes_frozen w6 S (grownCap w6 S.size 0 5) k hk ((bytesRow S (grownCap w6 S.size 0 5)).size + 1)
              have cv2 := run_bytes_of_string (P := Try.prog) w6 9 39 5 S Try.underlying9 Try.underlying39 Try.underlying5
              generalize grownCap w6 S.size 0 5 = cap at cv2 hBA hfz
              generalize bytesRow S cap = C at cv2 hBA hfz
              have hcl := hBA k (by simpa using hk)
              have HBA := Lib.hid hBA
              clear hBA hne hSl hkt hch
              generalize S.data.toList[k] = x at hcl hy
              gi_wp2_with fail
              have hB2 : BytesAt ((w6.alloc (Obj.cells C 5 (C.size, C.size + 1))).setCell { block := w6.heap.size, off := k } (Value.int IntKind.u8 y.toNat)).drew w6.heap.size (S.data.toList.set k y) :=
                bytesAt_drew (bytesAt_set HBA.out (by simpa using hk) y)
              have hW9 : Below w6.heap.size w6 ((w6.alloc (Obj.cells C 5 (C.size, C.size + 1))).setCell { block := w6.heap.size, off := k } (Value.int IntKind.u8 y.toNat)).drew :=
                (((Below.refl _ _).alloc (Nat.le_refl _) _).setCell (Nat.le_refl _) _).drew
              generalize ((w6.alloc (Obj.cells C 5 (C.size, C.size + 1))).setCell { block := w6.heap.size, off := k } (Value.int IntKind.u8 y.toNat)).drew = W9 at hB2 hW9 ⊢
              rw [back_text hB2 S.size cap (by simp)]
              have H9 := Lib.hid (H7.out.same hW9)
              clear hB2 hy hcl hfz cv2 hW9
              gi_wp2_with fail
              refine ⟨trivial, ?_⟩
              refine (callsIn_wide.2 (open_no HTS.out HTN.out)).mono ?_
              rintro e w10 ⟨rfl, hb10⟩
              have H10 := Lib.hid (H9.out.same hb10)
              clear hb10
              gi_wp2_with fail
              exact leaves_now w (fun W => results_tmp rfl _ _ _) [] w10 H10.out (fun W' hb => ⟨rfl, hb⟩)
        · have d0 : ((n : Int) == 0) = false := by rw [beq_eq_false_iff_ne]; omega
          clear h0
          gi_wp2_with fail
          exact leaves_now w (fun W => results_tmp rfl _ _ _) [] w5 H5.out (fun W' hb => ⟨rfl, hb⟩)
end Go.Proofs.Ytgmaccfhgeocdaa
