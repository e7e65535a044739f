/-
  The law TokenJoins, walked: a text put behind another one, on a new line, has the tokens of both. Conditions: those in the theorems.
-/
import Derived.Test.YthbealndbfboiaaTokJoinMath
import Derived.Test.YthbealndbfboiaaTokenBack
import Derived.Deep.CutRange
set_option linter.unusedSimpArgs false
set_option linter.unusedVariables false
namespace Go.Proofs.Ythbealndbfboiaa
open Go.RowKit

/-- The operation is an append, guarded, its guard struck; its run known. -/
theorem wpList_append_wanted {P : Program} (w : World) {ops : Array Oper} {rest : List Oper} {o : Oper} {a : Act} {Q : Exit → Act → World → Prop} (hw : Region.wanted o (yielded ops a.tmps) = true) (s x : Operand) (t tn : TypeId)
    (ho : o.op = .call { callee := .builtin .append, args := #[s, x], argTypes := #[t, tn] }) (vs vx : Value) (hs : a.eval s = vs) (hx : a.eval x = vx)
    (v' : Value) (w' : World) (hr : (Builtin.append_ #[t, tn] o.type #[vs, vx]).run P w = .ok v' w') (h : wpList P ops Q rest (a.put o.dst v') w') : wpList P ops Q (o :: rest) a w :=
  wpList_step fun K hK => by rw [if_pos hw]; exact Lib.wp_append_run w s x t tn ho vs vx hs hx v' w' hr (hK _ _ h)
theorem toks_news {W : World} {A : Addr} {l : List Tk.Token} (h : ToksAt W (some A) l) : ∀ q u, (toksCells l)[q]? = some u → W.cell? (A.add q) = some u := by
  intro q u hu
  have hq := (List.getElem?_eq_some_iff.1 hu).1
  rw [toksCells_length] at hq
  have hm : q % 4 < 4 := Nat.mod_lt _ (by omega)
  have hd : q / 4 < l.length := by omega
  obtain ⟨A', e1, -, h3, -⟩ := h (q / 4) hd
  cases e1
  rw [show q = q / 4 * 4 + q % 4 by omega] at hu ⊢
  rw [h3 _ hm, ← toksCells_get hd hm]; exact hu
/-- A row of tokens is appended to a row of the call's own. -/
theorem app_toks {W : World} {base n c : Nat} {p q : Option Addr} {c' : Nat} {xs ys : List Tk.Token} (h : OwnTok W base (.slice p n c) xs) (hn : xs.length = n) (hy : ToksAt W q ys) (hs : n + ys.length ≤ 1000000) (hb : base ≤ W.heap.size) (ty : TypeId) :
    ∃ (pv : Option Addr) (cv : Nat) (W' : World), (Builtin.append_ #[22, 22] ty #[.slice p n c, .slice q ys.length c']).run Try.prog W = .ok (.slice pv (n + ys.length) cv) W' ∧ OwnTok W' base (.slice pv (n + ys.length) cv) (xs ++ ys) ∧ Below base W W' := by
  subst hn
  by_cases h0 : ys = []
  · subst h0
    refine ⟨p, c, W, ?_, by rw [List.append_nil]; exact h, Below.refl _ _⟩
    obtain ⟨p', cap, e, h1, h2⟩ := h.shape
    cases e
    cases q <;> cases p <;> simp [Builtin.append_, run_underlying Try.underlying22, loadCellsFrom, storeCells, Builtin.firstCells, Builtin.lenOf, go_sem, h1]
  · have hpos : 0 < ys.length := by cases ys with
      | nil => exact absurd rfl h0
      | cons _ _ => simp
    obtain ⟨A, rfl⟩ := hy.some hpos
    obtain ⟨pv, cv, W', hrun, ho, hg⟩ := t_append h (Below.refl _ _) A ys ys.length c' rfl (toks_news hy) hs hb ty
    exact ⟨pv, cv, W', hrun, ho, hg.below (Below.refl _ _) hb fun j hj => (h.lt j hj).1⟩
theorem own_empty (w : World) (base : Nat) (hb : base ≤ w.heap.size) : OwnTok (w.alloc (.cells #[] 30)) base (.slice (some ⟨w.heap.size, 0, none⟩) 0 0) [] :=
  ⟨rfl, .inr ⟨w.heap.size, 0, #[], rfl, hb, heap_alloc_new w _, Nat.le_refl _, Nat.zero_le _, rfl, rfl⟩⟩
theorem shift_step {us : List Tk.Token} {q k : Nat} (hk : k < us.length) :
    ∃ hx : k < ((us.map (Tk.shiftT q)).take k ++ us.drop k).length, ((us.map (Tk.shiftT q)).take k ++ us.drop k)[k] = us[k] ∧ ((us.map (Tk.shiftT q)).take k ++ us.drop k).set k { us[k] with pos := us[k].pos + (q : Nat) } = (us.map (Tk.shiftT q)).take (k + 1) ++ us.drop (k + 1) := by
  have hlt : ((us.map (Tk.shiftT q)).take k).length = k := by rw [List.length_take, List.length_map]; omega
  have hkm : k < (us.map (Tk.shiftT q)).length := by rw [List.length_map]; exact hk
  refine ⟨by rw [List.length_append, hlt, List.length_drop]; omega, ?_, ?_⟩
  · rw [List.getElem_append_right (by omega)]
    simp only [hlt, Nat.sub_self, List.getElem_drop, Nat.add_zero]
  · rw [List.set_append_right _ _ (by omega), hlt, Nat.sub_self, List.drop_eq_getElem_cons hk, List.set_cons_zero, List.take_succ_eq_append_getElem hkm, List.append_assoc, List.getElem_map]
    rfl
theorem shift_small {t : Tk.Token} {q : Nat} (h : Tk.Small t) (hq : q ≤ 10000) : TokIn (Tk.shiftT q t) := by
  obtain ⟨h1, h2, h3, h4, h5, h6⟩ := h
  unfold Tk.shiftT
  exact ⟨by show t.kind < 256; omega, by show t.text.size ≤ maxLen; unfold maxLen; omega, ⟨by show _ ≤ t.num; omega, by show t.num ≤ _; omega⟩, ⟨by show _ ≤ t.pos + (q : Nat); omega, by show t.pos + (q : Nat) ≤ _; omega⟩⟩

theorem Tk.all_at {a er : Nat} {l : List UInt8} (h : Tk.all 0 l = .no a er) : a ≤ l.length := by
  have key : ∀ (m b : Nat) (l : List UInt8), l.length ≤ m → ∀ a er, Tk.all b l = .no a er → a ≤ b + l.length := by
    intro m
    induction m with
    | zero =>
      intro b l hm a er h
      have : l = [] := List.eq_nil_of_length_eq_zero (by omega)
      subst this; cases h
    | succ m ih =>
      intro b l hm a er h
      have hsl := Tk.skip_le l
      rw [Tk.all_eq] at h
      by_cases he : l.drop (Tk.skip l) = []
      · rw [if_pos he] at h; cases h
      · rw [if_neg he] at h
        cases hf : Tk.first (l.drop (Tk.skip l)) with
        | no e => rw [hf] at h; cases h; omega
        | tok k n v =>
          rw [hf] at h
          have hn := Tk.first_len hf
          rw [List.length_drop] at hn
          have := ih (b + Tk.skip l + n) ((l.drop (Tk.skip l)).drop n) (by rw [List.length_drop, List.length_drop]; omega)
          simp only at h
          rw [List.length_drop, List.length_drop] at this
          generalize Tk.all (b + Tk.skip l + n) ((l.drop (Tk.skip l)).drop n) = o at *
          cases o with
          | no a' e' => rw [Tk.pre_no] at h; cases h; have := this _ _ rfl; omega
          | ok us => cases h
  have := key l.length 0 l (Nat.le_refl _) a er h
  omega
set_option maxRecDepth 100000 in
set_option maxHeartbeats 16000000 in
theorem tokenJoins_any (s r : ByteArray) (w : World) (hm : s.size ≤ maxLen) (hm2 : r.size ≤ maxLen) : Calls Try.prog 6 #[.string s, .string r] w fun e w' => e = .returned (.bool true) ∧ Below w.heap.size w w' := by
  have z1 : s.size ≤ 9223372036854775807 := hm
  have z2 : r.size ≤ 9223372036854775807 := hm2
  go_enter Try.func6, Try.ntmps6
  go_upto_if 17 with fail
  go_cut [0] from 18 to 19 (fun xv wc => ∃ x : ByteArray, xv = .string x ∧ Hid (x.size ≤ 3000) ∧ wc = w)
  case first =>
    by_cases h1 : 3000 < s.size
    · have i1 : (3000 : Int) < (s.size : Int) := by omega
      have HE : Hid ((s.extract 0 3000).size ≤ 3000) := Lib.hid (by rw [ByteArray.size_extract]; omega)
      go_wp2_with fail
      go_meet
      exact ⟨_, rfl, HE, rfl⟩
    · have i1 : ¬ (3000 : Int) < (s.size : Int) := by omega
      have HE : Hid (s.size ≤ 3000) := Lib.hid (by omega)
      go_wp2_with fail
      go_meet
      exact ⟨_, rfl, HE, rfl⟩
  case rest =>
    obtain ⟨x, rfl, HX, rfl⟩ := hcut
    go_upto_if 22 with fail
    go_cut [1] from 23 to 24 (fun yv wd => ∃ y : ByteArray, yv = .string y ∧ Hid (y.size ≤ 3000) ∧ wd = wc)
    case first =>
      by_cases h1 : 3000 < r.size
      · have i1 : (3000 : Int) < (r.size : Int) := by omega
        have HE : Hid ((r.extract 0 3000).size ≤ 3000) := Lib.hid (by rw [ByteArray.size_extract]; omega)
        go_wp2_with fail
        go_meet
        exact ⟨_, rfl, HE, rfl⟩
      · have i1 : ¬ (3000 : Int) < (r.size : Int) := by omega
        have HE : Hid (r.size ≤ 3000) := Lib.hid (by omega)
        go_wp2_with fail
        go_meet
        exact ⟨_, rfl, HE, rfl⟩
    case rest =>
      obtain ⟨y, rfl, HY, hwd⟩ := hcut
      subst hwd
      have QA := fun W => All_any x W (by have := HX.out; omega)
      have QB := fun W => All_any y W (by have := HY.out; omega)
      have QC := fun W => All_any (x ++ ⟨#[10]⟩ ++ y) W (by rw [ByteArray.size_append, ByteArray.size_append]; have := HX.out; have := HY.out; show x.size + 1 + y.size ≤ _; omega)
      have hcat : (x ++ ⟨#[10]⟩ ++ y).data.toList = x.data.toList ++ 10 :: y.data.toList := by
        rw [ByteArray.data_append, ByteArray.data_append, Array.toList_append, Array.toList_append, List.append_assoc]; rfl
      rw [hcat, Tk.all_two] at QC
      have hlx : x.data.toList.length = x.size := list_len x
      rw [hlx] at QC
      have hsa := all_in x (by have := HX.out; omega)
      have hsb := Tk.all_small _ 0 y.data.toList (Nat.le_refl _) (by rw [list_len]; have := HY.out; omega)
      have hca := all_count x (by have := HX.out; omega)
      have hcb := all_count y (by have := HY.out; omega)
      clear hcat hlx
      obtain ⟨oa, hoa⟩ : ∃ oa, Tk.all 0 x.data.toList = oa := ⟨_, rfl⟩
      obtain ⟨ob, hob⟩ : ∃ ob, Tk.all 0 y.data.toList = ob := ⟨_, rfl⟩
      rw [hoa] at QA QC hsa hca
      rw [hob] at QB QC hsb hcb
      have hxs : x.size ≤ 3000 := HX.out
      have hys : y.size ≤ 3000 := HY.out
      cases oa with
      | no pa ea =>
        have her : (((ea : Nat) : Int) != 0) = true := by rw [bne_iff_ne]; have := Tk.all_err hoa; omega
        simp only at QC
        unfold Alls Tk.Out.at_ Tk.Out.err Tk.Out.toks at QA QC
        unfold Alls at QB
        generalize ob.at_ = pb at *
        generalize ob.err = eb at *
        generalize ob.toks = tb at *
        clear hoa hob hsa hsb hca hcb
        go_wp2_with fail
        refine Calls.mono (QA _) ?_
        rintro e w1 ⟨v1, rfl, ho1, hb1⟩
        go_wp2_with fail
        refine Calls.mono (QB _) ?_
        rintro e w2 ⟨v2, rfl, ho2, hb2⟩
        go_wp2_with fail
        refine Calls.mono (QC _) ?_
        rintro e w3 ⟨v3, rfl, ho3, hb3⟩
        obtain ⟨p3, c3, rfl, -, -⟩ := ho3.shape
        have HB := Lib.hid (hb1.trans ((hb2.trans (hb3.mono hb2.size)).mono hb1.size))
        clear ho1 ho2 ho3 hb1 hb2 hb3 QA QB QC
        go_wp2_with (first | (go_at_call 10; refine (wakes_any _).mono ?_; rintro e w4 ⟨rfl, hb4⟩) | fail)
        go_ret
        exact ⟨rfl, HB.out.trans (hb4.mono HB.out.size)⟩
      | ok ts =>
        cases ob with
        | no pb eb =>
          have her : (((eb : Nat) : Int) != 0) = true := by rw [bne_iff_ne]; have := Tk.all_err hob; omega
          have hpb : pb ≤ 3000 := by have := Tk.all_at hob; rw [list_len] at this; omega
          simp only [Tk.Out.shift, Tk.pre_no] at QC
          unfold Alls Tk.Out.at_ Tk.Out.err Tk.Out.toks at QA QB QC
          have hne2 : (((0 : Nat) : Int) != 0) = false := rfl
          obtain ⟨kc, hkc⟩ : ∃ kc, kc = pb + (x.size + 1) := ⟨_, rfl⟩
          rw [← hkc] at QC
          have hk1 : ((kc : Int) == (pb : Int) + (x.size : Int) + 1) = true := by rw [beq_iff_eq]; omega
          have b1 : (pb : Int) ≤ 3000 := by omega
          have b2 : (x.size : Int) ≤ 3000 := by omega
          clear hoa hob hsa hsb hca hcb hkc
          go_wp2_with fail
          refine Calls.mono (QA _) ?_
          rintro e w1 ⟨v1, rfl, ho1, hb1⟩
          go_wp2_with fail
          refine Calls.mono (QB _) ?_
          rintro e w2 ⟨v2, rfl, ho2, hb2⟩
          go_wp2_with fail
          refine Calls.mono (QC _) ?_
          rintro e w3 ⟨v3, rfl, ho3, hb3⟩
          obtain ⟨p3, c3, rfl, -, -⟩ := ho3.shape
          have HB := Lib.hid (hb1.trans ((hb2.trans (hb3.mono hb2.size)).mono hb1.size))
          clear ho1 ho2 ho3 hb1 hb2 hb3 QA QB QC
          go_wp2_with (first | (go_at_call 10; refine (wakes_any _).mono ?_; rintro e w4 ⟨rfl, hb4⟩) | fail)
          go_ret
          exact ⟨rfl, HB.out.trans (hb4.mono HB.out.size)⟩
        | ok us =>
          simp only [Tk.Out.shift, Tk.pre_ok] at QC
          unfold Alls Tk.Out.at_ Tk.Out.err Tk.Out.toks at QA QB QC
          simp only [Tk.Out.toks] at hsa hsb hca hcb
          have hne2 : (((0 : Nat) : Int) != 0) = false := rfl
          obtain ⟨sh, hsh⟩ : ∃ sh, sh = us.map (Tk.shiftT (x.size + 1)) := ⟨_, rfl⟩
          have hshl : sh.length = us.length := by rw [hsh, List.length_map]
          have hshi : ∀ t ∈ sh, TokIn t := fun t ht => by
            rw [hsh] at ht
            obtain ⟨u, hu, rfl⟩ := List.mem_map.1 ht
            exact shift_small (hsb u hu) (by omega)
          have husi : ∀ t ∈ us, TokIn t := fun t ht => small_in (hsb t ht)
          have HST : Hid (∀ k, (hk : k < us.length) → ∃ hx : k < (sh.take k ++ us.drop k).length, (sh.take k ++ us.drop k)[k] = us[k] ∧ (sh.take k ++ us.drop k).set k { us[k] with pos := us[k].pos + ((x.size + 1 : Nat) : Int) } = sh.take (k + 1) ++ us.drop (k + 1)) := Lib.hid fun k hk => by rw [hsh]; exact shift_step hk
          have HPS : Hid (∀ k, (hk : k < us.length) → 0 ≤ us[k].pos ∧ us[k].pos ≤ 65536) := Lib.hid fun k hk => by obtain ⟨-, -, -, -, h5, h6⟩ := hsb _ (List.getElem_mem hk); exact ⟨h5, h6⟩
          rw [← hsh] at QC
          have HIA := Lib.hid hsa
          have HIS := Lib.hid hshi
          have HIU := Lib.hid husi
          have HSL := Lib.hid hshl
          have b2 : (x.size : Int) ≤ 3000 := by omega
          have n1 : ts.length ≤ 65536 := hca
          have n2 : us.length ≤ 65536 := hcb
          clear hoa hob hsa hsb hca hcb hsh hshl hshi husi
          go_wp2_with fail
          refine Calls.mono (QA _) ?_
          rintro e w1 ⟨v1, rfl, ho1, hb1⟩
          obtain ⟨p1, c1, rfl, -, -, t1⟩ := ho1.toks HIA.out
          go_wp2_with fail
          refine Calls.mono (QB _) ?_
          rintro e w2 ⟨v2, rfl, ho2, hb2⟩
          obtain ⟨p2, c2, rfl, -, -⟩ := ho2.shape
          go_wp2_with fail
          refine Calls.mono (QC _) ?_
          rintro e w3 ⟨v3, rfl, ho3, hb3⟩
          obtain ⟨p3, c3, rfl, -, -⟩ := ho3.shape
          rw [List.length_append, HSL.out]
          rw [List.length_append, HSL.out] at ho3
          have HB := Lib.hid (hb1.trans ((hb2.trans (hb3.mono hb2.size)).mono hb1.size))
          have HT1 := Lib.hid t1
          have HB1 := Lib.hid (hb2.trans (hb3.mono hb2.size))
          have HT3 := Lib.hid ho3
          have HO2 := Lib.hid (ho2.below hb3)
          have HZ := Lib.hid (And.intro hb2.size hb3.size)
          have HLT2 := Lib.hid ho2.lt
          have HBA := Lib.hid hb1
          clear ho1 ho2 ho3 hb1 hb2 hb3 t1 QA QB QC
          go_wp2_with fail
          go_loopw [14] (fun kv wr => ∃ k : Nat, k ≤ us.length ∧ kv = .int .i64 (k : Nat) ∧ Hid (OwnTok wr w1.heap.size (.slice p2 us.length c2) (sh.take k ++ us.drop k) ∧ OwnTok wr w2.heap.size (.slice p3 (ts.length + us.length) c3) (ts ++ sh) ∧ Below w1.heap.size w1 wr)) (fun kv _ => us.length - (intOf kv).toNat)
          case atStart => exact ⟨0, Nat.zero_le _, rfl, Lib.hid ⟨by rw [List.take_zero, List.drop_zero, List.nil_append]; exact HO2.out, HT3.out, HB1.out⟩⟩
          case round =>
            obtain ⟨i, hi, rfl, H⟩ := hrel
            by_cases hlt : i < us.length
            · have j1 : (i : Int) < (us.length : Int) := by omega
              have j2 : (0 : Int) ≤ (i : Int) := by omega
              obtain ⟨hx1, hx2, hx3⟩ := HST.out i hlt
              obtain ⟨hq1, hq2⟩ := HPS.out i hlt
              have hmid : ∀ t ∈ sh.take i ++ us.drop i, TokIn t := fun t ht => by
                rcases List.mem_append.1 ht with h | h
                · exact HIS.out t (List.mem_of_mem_take h)
                · exact HIU.out t (List.mem_of_mem_drop h)
              have hlen3 : (sh.take i ++ us.drop i).length = us.length := by
                rw [List.length_append, List.length_take, List.length_drop, HSL.out]; omega
              obtain ⟨g, cap, e3, -, -, hg, hta⟩ := H.out.1.opens hmid (by omega)
              rw [hlen3] at e3
              obtain ⟨e4, -, e5⟩ := Value.slice.inj e3
              subst e4
              subst e5
              have hg2 := (HLT2.out g rfl).2
              obtain ⟨B, eB, b0, b1, b2', b3, -⟩ := hta.at (Below.refl _ _) hx1
              cases eB
              have fr := H.out.1.frozen (i * 4 + 3)
              rw [hx2] at b0 b1 b2' b3
              have eA : (⟨g, 0, none⟩ : Addr).add (i * 4) = ⟨g, i * 4, none⟩ := by unfold Addr.add; split <;> simp_all
              rw [eA] at b0 b1 b2' b3
              have epos : us[i].pos + ((x.size + 1 : Nat) : Int) = us[i].pos + (x.size : Int) + 1 := by omega
              have HSET : Hid (OwnTok (wr.setCell ⟨g, i * 4 + 3, none⟩ (.int .i64 (us[i].pos + (x.size : Int) + 1))) w1.heap.size (.slice (some ⟨g, 0, none⟩) us.length c2) (sh.take (i + 1) ++ us.drop (i + 1))) := Lib.hid (by
                have := OwnTok.setPos H.out.1 hx1 (us[i].pos + ((x.size + 1 : Nat) : Int))
                rw [hx2, hx3, epos] at this
                exact this)
              have HN3 : Hid (OwnTok (wr.setCell ⟨g, i * 4 + 3, none⟩ (.int .i64 (us[i].pos + (x.size : Int) + 1))) w2.heap.size (.slice p3 (ts.length + us.length) c3) (ts ++ sh)) := Lib.hid (own_tok_set H.out.2.1 fun k hk => by have := (H.out.2.1.lt k hk).1; omega)
              have HB5 : Hid (Below w1.heap.size w1 (wr.setCell ⟨g, i * 4 + 3, none⟩ (.int .i64 (us[i].pos + (x.size : Int) + 1)))) := Lib.hid (H.out.2.2.setCell hg _)
              generalize us[i].pos = tp at *
              clear hta hx1 hx2 hx3 hmid hlen3 e3 b0 b1 b2' eA hg hg2 epos
              go_wp2_with fail
              go_roundw
              case rel => exact ⟨i + 1, by omega, by go_num, Lib.hid ⟨HSET.out, HN3.out, HB5.out⟩⟩
              case measure => simp [intOf]; omega
            · have hin : i = us.length := by omega
              have j1 : ¬ (i : Int) < (us.length : Int) := by omega
              have hfin : OwnTok wr w1.heap.size (.slice p2 us.length c2) sh := by
                have := H.out.1
                rw [hin, ← HSL.out, List.take_length, List.drop_of_length_le (by rw [HSL.out]; exact Nat.le_refl _), List.append_nil, HSL.out] at this
                exact this
              obtain ⟨p4, c4, e4, -, -, t4⟩ := hfin.toks HIS.out
              rw [HSL.out] at e4
              obtain ⟨e5, -, e6⟩ := Value.slice.inj e4
              subst e5
              subst e6
              obtain ⟨p5, c5, e7, -, -, t5⟩ := H.out.2.1.toks (by intro t ht; rcases List.mem_append.1 ht with h | h; exact HIA.out t h; exact HIS.out t h)
              rw [List.length_append, HSL.out] at e7
              obtain ⟨e8, -, e9⟩ := Value.slice.inj e7
              subst e8
              subst e9
              have hz := tk_alloc wr (.cells #[] 30)
              obtain ⟨pv1, cv1, W1, r1, o1, bb1⟩ := app_toks (own_empty wr wr.heap.size (Nat.le_refl _)) rfl ((HT1.out.below H.out.2.2).below hz) (c' := c1) (by omega) hz.size 22
              rw [List.nil_append, Nat.zero_add] at o1
              rw [Nat.zero_add] at r1
              have hb1 := hz.trans (bb1.mono (Nat.le_refl _))
              obtain ⟨pv2, cv2, W2, r2, o2, bb2⟩ := app_toks o1 rfl (t4.below hb1) (c' := c2) (by rw [HSL.out]; omega) hb1.size 22
              rw [HSL.out] at r2 o2
              have hb2 := hb1.trans (bb2.mono (Nat.le_refl _))
              obtain ⟨p6, c6, e10, -, -, t6⟩ := o2.toks (by intro t ht; rcases List.mem_append.1 ht with h | h; exact HIA.out t h; exact HIS.out t h)
              rw [List.length_append, HSL.out] at e10
              obtain ⟨e11, -, e12⟩ := Value.slice.inj e10
              subst e11
              subst e12
              have QE := Same_any (cap := cv2) (cap2 := c3) t6 (t5.below hb2) (by rw [List.length_append, HSL.out]; omega)
              rw [List.length_append, HSL.out] at QE
              have HB5 := Lib.hid (HBA.out.trans ((H.out.2.2.trans (hb2.mono H.out.2.2.size)).mono HBA.out.size))
              clear hin hfin e4 t4 t5 t6 o1 o2 bb1 bb2 hb1 hb2 hz e7 e10
              go_wp2_with (first | (at_builtin; refine wpList_append_wanted _ (by rfl) (.tmp 108) (.tmp 109) _ _ rfl _ _ rfl rfl _ _ r1 ?_) | (at_builtin; refine wpList_append_wanted _ (by rfl) (.tmp 110) (.tmp 111) _ _ rfl _ _ rfl rfl _ _ r2 ?_) | (go_at_call 9; refine QE.mono ?_; rintro e w6 ⟨rfl, hb6⟩) | (go_at_call 10; refine (wakes_any _).mono ?_; rintro e w7 ⟨rfl, hb7⟩) | fail)
              go_ret
              exact ⟨rfl, HB5.out.trans ((hb6.trans (hb7.mono hb6.size)).mono HB5.out.size)⟩
end Go.Proofs.Ythbealndbfboiaa
