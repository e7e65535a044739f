/-
  The law TokenBack, walked: a text's tokens stand in order, apart, each as the text says; what is spelled of them has the same tokens. Conditions: those in the theorems.
-/
import Derived.Test.YthbealndbfboiaaTokBackMath
import Derived.Deep.Cut
set_option linter.unusedSimpArgs false
set_option linter.unusedVariables false
namespace Go.Proofs.Ythbealndbfboiaa
open Go.RowKit

theorem toksCells_set (q : Int) : ∀ (xs : List Tk.Token) (k : Nat) (hk : k < xs.length), (toksCells xs).set (k * 4 + 3) (.int .i64 q) = toksCells (xs.set k { xs[k] with pos := q })
  | [], k, hk => absurd hk (Nat.not_lt_zero _)
  | x :: r, 0, _ => by
    show ([Value.int .u8 (x.kind : Nat), .string x.text, .int .i64 x.num, .int .i64 x.pos] ++ toksCells r).set 3 _ = _
    rfl
  | x :: r, k + 1, hk => by
    have ih := toksCells_set q r k (by simpa using hk)
    show ([Value.int .u8 (x.kind : Nat), .string x.text, .int .i64 x.num, .int .i64 x.pos] ++ toksCells r).set ((k + 1) * 4 + 3) _ = _
    rw [show (k + 1) * 4 + 3 = (k * 4 + 3) + 1 + 1 + 1 + 1 by omega]
    simp only [List.cons_append, List.nil_append, List.set_cons_succ, ih]
    rfl
theorem OwnTok.setPos {W : World} {base g n cap : Nat} {xs : List Tk.Token} (h : OwnTok W base (.slice (some ⟨g, 0, none⟩) n cap) xs) {k : Nat} (hk : k < xs.length) (q : Int) :
    OwnTok (W.setCell ⟨g, k * 4 + 3, none⟩ (.int .i64 q)) base (.slice (some ⟨g, 0, none⟩) n cap) (xs.set k { xs[k] with pos := q }) := by
  have hlen : (xs.set k { xs[k] with pos := q }).length = xs.length := List.length_set
  refine ⟨by rw [toksCells_length], ?_⟩
  rcases h.2 with ⟨e, -⟩ | ⟨g', cap', cur, e, h1, h2, h3, h4, h5, h6⟩
  · cases e
  · cases e
    refine .inr ⟨g, cap, cur.setIfInBounds (k * 4 + 3) (.int .i64 q), by rw [hlen], h1, tk_set h2 _, by rw [hlen]; exact h3, h4, by rw [Array.size_setIfInBounds]; exact h5, ?_⟩
    rw [hlen, Array.toList_setIfInBounds, List.take_set, h6, toksCells_set q xs k hk]
theorem OwnTok.frozen {W : World} {base g n cap : Nat} {xs : List Tk.Token} (h : OwnTok W base (.slice (some ⟨g, 0, none⟩) n cap) xs) (i : Nat) : W.frozen? ⟨g, i, none⟩ = false := by
  rcases h.2 with ⟨e, -⟩ | ⟨g', cap', cur, e, h1, h2, -⟩
  · cases e
  · cases e; exact frozen_of_row _ _ _ _ _ h2
/-- What is known of the tokens of a text of at most 6000 bytes. -/
structure Told (s : ByteArray) (ts : List Tk.Token) : Prop where
  all : Tk.all 0 s.data.toList = .ok ts
  inn : ∀ t ∈ ts, TokIn t
  few : ts.length ≤ 6000
  chain : Tk.Chain s.data.toList 0 ts
  right : anyWrong ts = false
  short : (Tk.spelled ts).length ≤ 12000
theorem told_of {s : ByteArray} (hs : s.size ≤ 6000) {ts : List Tk.Token} (h : Tk.all 0 s.data.toList = .ok ts) : Told s ts := by
  have hl := list_len s
  have h1 := all_in s (by omega)
  have h2 := Tk.all_len _ 0 s.data.toList (Nat.le_refl _)
  have h3 := Tk.all_chain s.data.toList _ 0 0 (Nat.le_refl _) (Nat.zero_le _) (Nat.zero_le _)
  have h4 := Tk.all_right _ 0 s.data.toList (Nat.le_refl _)
  have h5 := Tk.all_sizes _ 0 s.data.toList (Nat.le_refl _)
  rw [List.drop_zero] at h3
  rw [h] at h1 h2 h3 h4 h5
  simp only [Tk.Out.toks] at h1 h2 h3 h4 h5
  refine ⟨h, h1, by omega, h3, ?_, ?_⟩
  · unfold anyWrong; rw [List.any_eq_false]; intro t ht; rw [h4 t ht]; simp
  · have := Tk.spelled_len ts; omega
theorem Told.again {s : ByteArray} {ts : List Tk.Token} (h : Told s ts) : ∃ us, Tk.all 0 (Tk.bs (Tk.spelled ts)).data.toList = .ok us ∧ us.map Tk.erase = ts.map Tk.erase := by
  rw [Tk.bs_data]
  refine Tk.all_spelled ts 0 fun t ht => ?_
  have := h.right
  unfold anyWrong at this
  rw [List.any_eq_false] at this
  simpa using this t ht

theorem erase_at {us ts : List Tk.Token} (h : us.map Tk.erase = ts.map Tk.erase) {k : Nat} (hu : k < us.length) (ht : k < ts.length) : { us[k] with pos := ts[k].pos } = ts[k] := by
  have h1 := congrArg (·[k]?) h
  simp only [List.getElem?_map, List.getElem?_eq_getElem hu, List.getElem?_eq_getElem ht, Option.map_some, Option.some.injEq] at h1
  unfold Tk.erase at h1
  generalize us[k] = a at *
  generalize ts[k] = b at *
  obtain ⟨a1, a2, a3, a4⟩ := a
  obtain ⟨b1, b2, b3, b4⟩ := b
  simp only [Tk.Token.mk.injEq] at h1 ⊢
  exact ⟨h1.1, h1.2.1, h1.2.2.1, by first | trivial | rfl⟩
theorem half_step {us ts : List Tk.Token} (hl : us.length = ts.length) (h : us.map Tk.erase = ts.map Tk.erase) {k : Nat} (hk : k < ts.length) :
    ∃ hx : k < (ts.take k ++ us.drop k).length, (ts.take k ++ us.drop k)[k] = us[k] ∧ (ts.take k ++ us.drop k).set k { us[k] with pos := ts[k].pos } = ts.take (k + 1) ++ us.drop (k + 1) := by
  have hlt : (ts.take k).length = k := by rw [List.length_take]; omega
  refine ⟨by rw [List.length_append, hlt, List.length_drop]; omega, ?_, ?_⟩
  · rw [List.getElem_append_right (by omega)]
    simp only [hlt, Nat.sub_self, List.getElem_drop, Nat.add_zero]
  · rw [erase_at h (by omega) hk, List.set_append_right _ _ (by omega), hlt, Nat.sub_self, List.drop_eq_getElem_cons (show k < us.length by omega), List.set_cons_zero, List.take_succ_eq_append_getElem hk, List.append_assoc]
    rfl
theorem Tk.all_err {a er : Nat} {l : List UInt8} (h : Tk.all 0 l = .no a er) : er ≠ 0 := by
  have key : ∀ (m b : Nat) (l : List UInt8), l.length ≤ m → ∀ a er, Tk.all b l = .no a er → er ≠ 0 := by
    intro m
    induction m with
    | zero =>
      intro b l hm a er h
      have : l = [] := List.eq_nil_of_length_eq_zero (by omega)
      subst this; cases h
    | succ m ih =>
      intro b l hm a er h
      rw [Tk.all_eq] at h
      by_cases he : l.drop (Tk.skip l) = []
      · rw [if_pos he] at h; cases h
      · rw [if_neg he] at h
        cases hf : Tk.first (l.drop (Tk.skip l)) with
        | no e => rw [hf] at h; cases h; have := Tk.first_err hf; omega
        | tok k n v =>
          rw [hf] at h
          have hn := Tk.first_len hf
          have hsl := Tk.skip_le l
          rw [List.length_drop] at hn
          have := ih (b + Tk.skip l + n) ((l.drop (Tk.skip l)).drop n) (by rw [List.length_drop, List.length_drop]; omega)
          simp only at h
          generalize Tk.all (b + Tk.skip l + n) ((l.drop (Tk.skip l)).drop n) = o at *
          cases o with
          | no a' e' => rw [Tk.pre_no] at h; cases h; exact this _ _ rfl
          | ok us => cases h
  exact key l.length 0 l (Nat.le_refl _) a er h
set_option maxRecDepth 100000 in
set_option maxHeartbeats 16000000 in
theorem tokenBack_any (s : ByteArray) (w : World) (hm : s.size ≤ maxLen) : Calls Try.prog 5 #[.string s] w fun e w' => e = .returned (.bool true) ∧ Below w.heap.size w w' := by
  by_cases h1 : 6000 < s.size
  · have i1 : (6000 : Int) < (s.size : Int) := by omega
    have hm2 : s.size ≤ 9223372036854775807 := hm
    obtain ⟨x, hxe⟩ : ∃ x, x = s.extract 0 6000 := ⟨_, rfl⟩
    have hx : x.size ≤ 6000 := by rw [hxe, ByteArray.size_extract]; omega
    have QA := fun W => All_any x W (by omega)
    cases hall : Tk.all 0 x.data.toList with
    | no a er =>
      rw [hall] at QA
      unfold Alls Tk.Out.at_ Tk.Out.err Tk.Out.toks at QA
      have her : (((er : Nat) : Int) != 0) = true := by rw [bne_iff_ne]; have := Tk.all_err hall; omega
      go_enter Try.func5, Try.ntmps5
      go_upto_region 3 with fail
      rw [← hxe]
      clear hxe
      go_wp2_with fail
      refine Calls.mono (QA _) ?_
      rintro e w1 ⟨v1, rfl, ho1, hb1⟩
      obtain ⟨p, c, rfl, -, -⟩ := ho1.shape
      clear ho1
      go_wp2_with (first | (go_at_call 10; refine (wakes_any _).mono ?_; rintro e w4 ⟨rfl, hb4⟩) | fail)
      go_ret
      exact ⟨rfl, hb1.trans (hb4.mono hb1.size)⟩
    | ok ts =>
      have hT := told_of hx hall
      rw [hall] at QA
      unfold Alls Tk.Out.at_ Tk.Out.err Tk.Out.toks at QA
      have hne2 : (((0 : Nat) : Int) != 0) = false := rfl
      go_enter Try.func5, Try.ntmps5
      go_upto_region 3 with fail
      rw [← hxe]
      clear hxe
      go_wp2_with fail
      refine Calls.mono (QA _) ?_
      rintro e w1 ⟨v1, rfl, ho1, hb1⟩
      obtain ⟨p, c, rfl, -, -, ht⟩ := ho1.toks hT.inn
      have HTA := Lib.hid ht
      have HB1 := Lib.hid hb1
      have hfew := hT.few
      have HT := Lib.hid hT
      obtain ⟨us, hu1, hu2⟩ := hT.again
      have hul : us.length = ts.length := by have := congrArg List.length hu2; rwa [List.length_map, List.length_map] at this
      have hsz : (Tk.bs (Tk.spelled ts)).size ≤ 65536 := by rw [Tk.bs_size]; have := hT.short; omega
      have huin := all_in (Tk.bs (Tk.spelled ts)) hsz
      rw [hu1] at huin
      have QB := fun W => All_any (Tk.bs (Tk.spelled ts)) W hsz
      rw [hu1] at QB
      unfold Alls Tk.Out.at_ Tk.Out.err Tk.Out.toks at QB
      have HU := Lib.hid (And.intro hul hu2)
      have HUI : Hid (∀ t ∈ us, TokIn t) := Lib.hid huin
      clear ht hb1 ho1 hT hall QA hu1 hu2 huin hsz
      go_wp2_with fail
      go_loopw [6, 7, 8] (fun ev kv _ wr => ∃ (k : Nat) (en : Nat), k ≤ ts.length ∧ kv = .int .i64 (k : Nat) ∧ ev = .int .i64 (en : Nat) ∧ Hid (Tk.Chain x.data.toList en (ts.drop k) ∧ Below w1.heap.size w1 wr)) (fun _ kv _ _ => ts.length - (intOf kv).toNat)
      case atStart => exact ⟨0, 0, Nat.zero_le _, rfl, rfl, Lib.hid ⟨HT.out.chain, Below.refl _ _⟩⟩
      case round =>
        obtain ⟨k, en, hk, rfl, rfl, H⟩ := hrel
        by_cases hlt : k < ts.length
        · have j1 : (k : Int) < (ts.length : Int) := by omega
          have j2 : (0 : Int) ≤ (k : Int) := by omega
          have hch := H.out.1
          rw [List.drop_eq_getElem_cons hlt] at hch
          obtain ⟨A, rfl, c0, c1, c2, c3, hin⟩ := HTA.out.at H.out.2 hlt
          generalize ts[k] = t at *
          obtain ⟨tk, tx, tn, tp⟩ := t
          obtain ⟨q, hq1, hq2, hq3, hq4, hq5, hq6⟩ := hch
          simp only at c0 c1 c2 c3 hq1 hq3 hq4 hq5 hq6
          subst hq1
          rw [list_len] at hq4
          have HN := Lib.hid hq6
          have g4 : (((x).extract q (q + tx.size)).toList == tx.toList) = true := by rw [show (x).extract q (q + tx.size) = tx by rw [ext_mid]; exact hq5]; exact beq_self_eq_true _
          clear hin hq5 hq6
          go_upto_region 11 with fail
          obtain ⟨W1, hW1⟩ : ∃ W1, W1 = wr.alloc (.cells #[.int .u8 (tk : Nat), .string tx, .int .i64 tn, .int .i64 (q : Nat)] 30) := ⟨_, rfl⟩
          rw [← hW1]
          have HB2 : Hid (Below w1.heap.size w1 W1) := Lib.hid (by rw [hW1]; exact H.out.2.alloc H.out.2.size _)
          have hbox : W1.heap[wr.heap.size]? = some (.cells #[.int .u8 (tk : Nat), .string tx, .int .i64 tn, .int .i64 (q : Nat)] 30 (0, 0)) := by rw [hW1]; exact heap_alloc_new _ _
          clear hW1 c0 c1 c2 c3
          obtain ⟨d0, d1, d2, d3⟩ := tok_cells hbox
          clear hbox
          have g1 : decide ((q : Int) < (en : Int)) = false := decide_eq_false (by omega)
          have g1' : decide (q < en) = false := decide_eq_false (by omega)
          have g2 : tx.toList.isEmpty = false := not_empty hq3
          have g3 : decide ((x.size : Int) - (tx.size : Int) < (q : Int)) = false := decide_eq_false (by omega)
          have l1 : (q : Int) + (tx.size : Int) ≤ (x.size : Int) := by omega
          have l2 : (0 : Int) ≤ (q : Int) := by omega
          have l3 : (q : Int) ≤ (q : Int) + (tx.size : Int) := by omega
          go_quiet (fail)
          go_wp2_with fail
          go_roundw
          case rel => exact ⟨k + 1, q + tx.size, by omega, by go_num, by go_num, Lib.hid ⟨HN.out, below_dN HB2.out _⟩⟩
          case measure => simp [intOf]; omega
        · have hkn : k = ts.length := by omega
          clear hlt
          have j1 : ¬ (k : Int) < (ts.length : Int) := by omega
          have QS := Spell_any (cap := c) (HTA.out.below H.out.2) (by omega) HT.out.right (by have := HT.out.short; omega)
          have HK := Lib.hid hkn
          clear hkn
          go_wp2_with fail
          refine QS.mono ?_
          rintro e w2 ⟨rfl, hb2⟩
          have HB2 := Lib.hid (H.out.2.trans (hb2.mono H.out.2.size))
          clear hb2 QS
          go_wp2_with fail
          refine Calls.mono (QB _) ?_
          rintro e w3 ⟨v3, rfl, ho3, hb3⟩
          obtain ⟨p3, c3, rfl, -, -⟩ := ho3.shape
          rw [hul] at ho3 ⊢
          have HB3 := Lib.hid hb3
          have HO3 := Lib.hid ho3
          clear ho3 hb3 QB
          have g7 : ((ts.length : Int) != (ts.length : Int)) = false := by simp
          go_wp2_with fail
          go_loopw [13] (fun kv wr2 => ∃ k : Nat, k ≤ ts.length ∧ kv = .int .i64 (k : Nat) ∧ Hid (OwnTok wr2 w2.heap.size (.slice p3 ts.length c3) (ts.take k ++ us.drop k) ∧ Below w2.heap.size w2 wr2)) (fun kv _ => ts.length - (intOf kv).toNat)
          case atStart => exact ⟨0, Nat.zero_le _, rfl, Lib.hid ⟨by rw [List.take_zero, List.drop_zero, List.nil_append]; exact HO3.out, HB3.out⟩⟩
          case round =>
            obtain ⟨i, hi, rfl, H2⟩ := hrel
            by_cases hlt2 : i < ts.length
            · have j1 : (i : Int) < (ts.length : Int) := by omega
              have j2 : (0 : Int) ≤ (i : Int) := by omega
              obtain ⟨hx1, hx2, hx3⟩ := half_step HU.out.1 HU.out.2 hlt2
              have hmid : ∀ t ∈ ts.take i ++ us.drop i, TokIn t := fun t ht => by
                rcases List.mem_append.1 ht with h | h
                · exact HT.out.inn t (List.mem_of_mem_take h)
                · exact HUI.out t (List.mem_of_mem_drop h)
              have hlen3 : (ts.take i ++ us.drop i).length = ts.length := by
                rw [List.length_append, List.length_take, List.length_drop]; omega
              obtain ⟨g, cap, e3, -, -, hg, hta⟩ := H2.out.1.opens hmid (by omega)
              rw [hlen3] at e3
              obtain ⟨e4, -, e5⟩ := Value.slice.inj e3
              subst e4
              subst e5
              obtain ⟨A, rfl, a0, a1, a2, a3, -⟩ := HTA.out.at (HB2.out.trans (H2.out.2.mono HB2.out.size)) hlt2
              obtain ⟨B, eB, b0, b1, b2, b3, -⟩ := hta.at (Below.refl _ _) hx1
              cases eB
              have fr := H2.out.1.frozen (i * 4 + 3)
              rw [hx2] at b0 b1 b2 b3
              have eA : (⟨g, 0, none⟩ : Addr).add (i * 4) = ⟨g, i * 4, none⟩ := by unfold Addr.add; split <;> simp_all
              rw [eA] at b0 b1 b2 b3
              have HSET : Hid (OwnTok (wr.setCell ⟨g, i * 4 + 3, none⟩ (.int .i64 ts[i].pos)) w2.heap.size (.slice (some ⟨g, 0, none⟩) ts.length c3) (ts.take (i + 1) ++ us.drop (i + 1))) := Lib.hid (by
                have := OwnTok.setPos H2.out.1 hx1 ts[i].pos
                rw [hx2, hx3] at this
                exact this)
              have HB5 : Hid (Below w2.heap.size w2 (wr.setCell ⟨g, i * 4 + 3, none⟩ (.int .i64 ts[i].pos))) := Lib.hid (H2.out.2.setCell hg _)
              generalize ts[i].pos = tp at *
              clear hta hx1 hx2 hx3 hmid hlen3 e3 a0 a1 a2 b0 b1 b2 eA hg
              go_wp2_with fail
              go_roundw
              case rel => exact ⟨i + 1, by omega, by go_num, Lib.hid ⟨HSET.out, HB5.out⟩⟩
              case measure => simp [intOf]; omega
            · have hin : i = ts.length := by omega
              have j1 : ¬ (i : Int) < (ts.length : Int) := by omega
              have hfin : OwnTok wr w2.heap.size (.slice p3 ts.length c3) ts := by
                have := H2.out.1
                rw [hin, List.take_length, List.drop_of_length_le (by rw [HU.out.1]; exact Nat.le_refl _), List.append_nil] at this
                exact this
              obtain ⟨p4, c4, e4, -, -, t4⟩ := hfin.toks HT.out.inn
              obtain ⟨e5, -, e6⟩ := Value.slice.inj e4
              subst e5
              subst e6
              have QE := Same_any (cap := c) (cap2 := c3) (HTA.out.below (HB2.out.trans (H2.out.2.mono HB2.out.size))) t4 (by omega)
              have HB5 := Lib.hid (HB1.out.trans ((HB2.out.trans (H2.out.2.mono HB2.out.size)).mono HB1.out.size))
              clear hin hfin e4 t4
              go_wp2_with (first | (go_at_call 9; refine QE.mono ?_; rintro e w6 ⟨rfl, hb6⟩) | (go_at_call 10; refine (wakes_any _).mono ?_; rintro e w7 ⟨rfl, hb7⟩) | fail)
              go_ret
              exact ⟨rfl, HB5.out.trans ((hb6.trans (hb7.mono hb6.size)).mono HB5.out.size)⟩
  · have i1 : ¬ (6000 : Int) < (s.size : Int) := by omega
    have hx : s.size ≤ 6000 := by omega
    have QA := fun W => All_any s W (by omega)
    cases hall : Tk.all 0 s.data.toList with
    | no a er =>
      rw [hall] at QA
      unfold Alls Tk.Out.at_ Tk.Out.err Tk.Out.toks at QA
      have her : (((er : Nat) : Int) != 0) = true := by rw [bne_iff_ne]; have := Tk.all_err hall; omega
      go_enter Try.func5, Try.ntmps5
      go_wp2_with fail
      refine Calls.mono (QA _) ?_
      rintro e w1 ⟨v1, rfl, ho1, hb1⟩
      obtain ⟨p, c, rfl, -, -⟩ := ho1.shape
      clear ho1
      go_wp2_with (first | (go_at_call 10; refine (wakes_any _).mono ?_; rintro e w4 ⟨rfl, hb4⟩) | fail)
      go_ret
      exact ⟨rfl, hb1.trans (hb4.mono hb1.size)⟩
    | ok ts =>
      have hT := told_of hx hall
      rw [hall] at QA
      unfold Alls Tk.Out.at_ Tk.Out.err Tk.Out.toks at QA
      have hne2 : (((0 : Nat) : Int) != 0) = false := rfl
      go_enter Try.func5, Try.ntmps5
      go_wp2_with fail
      refine Calls.mono (QA _) ?_
      rintro e w1 ⟨v1, rfl, ho1, hb1⟩
      obtain ⟨p, c, rfl, -, -, ht⟩ := ho1.toks hT.inn
      have HTA := Lib.hid ht
      have HB1 := Lib.hid hb1
      have hfew := hT.few
      have HT := Lib.hid hT
      obtain ⟨us, hu1, hu2⟩ := hT.again
      have hul : us.length = ts.length := by have := congrArg List.length hu2; rwa [List.length_map, List.length_map] at this
      have hsz : (Tk.bs (Tk.spelled ts)).size ≤ 65536 := by rw [Tk.bs_size]; have := hT.short; omega
      have huin := all_in (Tk.bs (Tk.spelled ts)) hsz
      rw [hu1] at huin
      have QB := fun W => All_any (Tk.bs (Tk.spelled ts)) W hsz
      rw [hu1] at QB
      unfold Alls Tk.Out.at_ Tk.Out.err Tk.Out.toks at QB
      have HU := Lib.hid (And.intro hul hu2)
      have HUI : Hid (∀ t ∈ us, TokIn t) := Lib.hid huin
      clear ht hb1 ho1 hT hall QA hu1 hu2 huin hsz
      go_wp2_with fail
      go_loopw [6, 7, 8] (fun ev kv _ wr => ∃ (k : Nat) (en : Nat), k ≤ ts.length ∧ kv = .int .i64 (k : Nat) ∧ ev = .int .i64 (en : Nat) ∧ Hid (Tk.Chain s.data.toList en (ts.drop k) ∧ Below w1.heap.size w1 wr)) (fun _ kv _ _ => ts.length - (intOf kv).toNat)
      case atStart => exact ⟨0, 0, Nat.zero_le _, rfl, rfl, Lib.hid ⟨HT.out.chain, Below.refl _ _⟩⟩
      case round =>
        obtain ⟨k, en, hk, rfl, rfl, H⟩ := hrel
        by_cases hlt : k < ts.length
        · have j1 : (k : Int) < (ts.length : Int) := by omega
          have j2 : (0 : Int) ≤ (k : Int) := by omega
          have hch := H.out.1
          rw [List.drop_eq_getElem_cons hlt] at hch
          obtain ⟨A, rfl, c0, c1, c2, c3, hin⟩ := HTA.out.at H.out.2 hlt
          generalize ts[k] = t at *
          obtain ⟨tk, tx, tn, tp⟩ := t
          obtain ⟨q, hq1, hq2, hq3, hq4, hq5, hq6⟩ := hch
          simp only at c0 c1 c2 c3 hq1 hq3 hq4 hq5 hq6
          subst hq1
          rw [list_len] at hq4
          have HN := Lib.hid hq6
          have g4 : (((s).extract q (q + tx.size)).toList == tx.toList) = true := by rw [show (s).extract q (q + tx.size) = tx by rw [ext_mid]; exact hq5]; exact beq_self_eq_true _
          clear hin hq5 hq6
          go_upto_region 11 with fail
          obtain ⟨W1, hW1⟩ : ∃ W1, W1 = wr.alloc (.cells #[.int .u8 (tk : Nat), .string tx, .int .i64 tn, .int .i64 (q : Nat)] 30) := ⟨_, rfl⟩
          rw [← hW1]
          have HB2 : Hid (Below w1.heap.size w1 W1) := Lib.hid (by rw [hW1]; exact H.out.2.alloc H.out.2.size _)
          have hbox : W1.heap[wr.heap.size]? = some (.cells #[.int .u8 (tk : Nat), .string tx, .int .i64 tn, .int .i64 (q : Nat)] 30 (0, 0)) := by rw [hW1]; exact heap_alloc_new _ _
          clear hW1 c0 c1 c2 c3
          obtain ⟨d0, d1, d2, d3⟩ := tok_cells hbox
          clear hbox
          have g1 : decide ((q : Int) < (en : Int)) = false := decide_eq_false (by omega)
          have g1' : decide (q < en) = false := decide_eq_false (by omega)
          have g2 : tx.toList.isEmpty = false := not_empty hq3
          have g3 : decide ((s.size : Int) - (tx.size : Int) < (q : Int)) = false := decide_eq_false (by omega)
          have l1 : (q : Int) + (tx.size : Int) ≤ (s.size : Int) := by omega
          have l2 : (0 : Int) ≤ (q : Int) := by omega
          have l3 : (q : Int) ≤ (q : Int) + (tx.size : Int) := by omega
          go_quiet (fail)
          go_wp2_with fail
          go_roundw
          case rel => exact ⟨k + 1, q + tx.size, by omega, by go_num, by go_num, Lib.hid ⟨HN.out, below_dN HB2.out _⟩⟩
          case measure => simp [intOf]; omega
        · have hkn : k = ts.length := by omega
          clear hlt
          have j1 : ¬ (k : Int) < (ts.length : Int) := by omega
          have QS := Spell_any (cap := c) (HTA.out.below H.out.2) (by omega) HT.out.right (by have := HT.out.short; omega)
          have HK := Lib.hid hkn
          clear hkn
          go_wp2_with fail
          refine QS.mono ?_
          rintro e w2 ⟨rfl, hb2⟩
          have HB2 := Lib.hid (H.out.2.trans (hb2.mono H.out.2.size))
          clear hb2 QS
          go_wp2_with fail
          refine Calls.mono (QB _) ?_
          rintro e w3 ⟨v3, rfl, ho3, hb3⟩
          obtain ⟨p3, c3, rfl, -, -⟩ := ho3.shape
          rw [hul] at ho3 ⊢
          have HB3 := Lib.hid hb3
          have HO3 := Lib.hid ho3
          clear ho3 hb3 QB
          have g7 : ((ts.length : Int) != (ts.length : Int)) = false := by simp
          go_wp2_with fail
          go_loopw [13] (fun kv wr2 => ∃ k : Nat, k ≤ ts.length ∧ kv = .int .i64 (k : Nat) ∧ Hid (OwnTok wr2 w2.heap.size (.slice p3 ts.length c3) (ts.take k ++ us.drop k) ∧ Below w2.heap.size w2 wr2)) (fun kv _ => ts.length - (intOf kv).toNat)
          case atStart => exact ⟨0, Nat.zero_le _, rfl, Lib.hid ⟨by rw [List.take_zero, List.drop_zero, List.nil_append]; exact HO3.out, HB3.out⟩⟩
          case round =>
            obtain ⟨i, hi, rfl, H2⟩ := hrel
            by_cases hlt2 : i < ts.length
            · have j1 : (i : Int) < (ts.length : Int) := by omega
              have j2 : (0 : Int) ≤ (i : Int) := by omega
              obtain ⟨hx1, hx2, hx3⟩ := half_step HU.out.1 HU.out.2 hlt2
              have hmid : ∀ t ∈ ts.take i ++ us.drop i, TokIn t := fun t ht => by
                rcases List.mem_append.1 ht with h | h
                · exact HT.out.inn t (List.mem_of_mem_take h)
                · exact HUI.out t (List.mem_of_mem_drop h)
              have hlen3 : (ts.take i ++ us.drop i).length = ts.length := by
                rw [List.length_append, List.length_take, List.length_drop]; omega
              obtain ⟨g, cap, e3, -, -, hg, hta⟩ := H2.out.1.opens hmid (by omega)
              rw [hlen3] at e3
              obtain ⟨e4, -, e5⟩ := Value.slice.inj e3
              subst e4
              subst e5
              obtain ⟨A, rfl, a0, a1, a2, a3, -⟩ := HTA.out.at (HB2.out.trans (H2.out.2.mono HB2.out.size)) hlt2
              obtain ⟨B, eB, b0, b1, b2, b3, -⟩ := hta.at (Below.refl _ _) hx1
              cases eB
              have fr := H2.out.1.frozen (i * 4 + 3)
              rw [hx2] at b0 b1 b2 b3
              have eA : (⟨g, 0, none⟩ : Addr).add (i * 4) = ⟨g, i * 4, none⟩ := by unfold Addr.add; split <;> simp_all
              rw [eA] at b0 b1 b2 b3
              have HSET : Hid (OwnTok (wr.setCell ⟨g, i * 4 + 3, none⟩ (.int .i64 ts[i].pos)) w2.heap.size (.slice (some ⟨g, 0, none⟩) ts.length c3) (ts.take (i + 1) ++ us.drop (i + 1))) := Lib.hid (by
                have := OwnTok.setPos H2.out.1 hx1 ts[i].pos
                rw [hx2, hx3] at this
                exact this)
              have HB5 : Hid (Below w2.heap.size w2 (wr.setCell ⟨g, i * 4 + 3, none⟩ (.int .i64 ts[i].pos))) := Lib.hid (H2.out.2.setCell hg _)
              generalize ts[i].pos = tp at *
              clear hta hx1 hx2 hx3 hmid hlen3 e3 a0 a1 a2 b0 b1 b2 eA hg
              go_wp2_with fail
              go_roundw
              case rel => exact ⟨i + 1, by omega, by go_num, Lib.hid ⟨HSET.out, HB5.out⟩⟩
              case measure => simp [intOf]; omega
            · have hin : i = ts.length := by omega
              have j1 : ¬ (i : Int) < (ts.length : Int) := by omega
              have hfin : OwnTok wr w2.heap.size (.slice p3 ts.length c3) ts := by
                have := H2.out.1
                rw [hin, List.take_length, List.drop_of_length_le (by rw [HU.out.1]; exact Nat.le_refl _), List.append_nil] at this
                exact this
              obtain ⟨p4, c4, e4, -, -, t4⟩ := hfin.toks HT.out.inn
              obtain ⟨e5, -, e6⟩ := Value.slice.inj e4
              subst e5
              subst e6
              have QE := Same_any (cap := c) (cap2 := c3) (HTA.out.below (HB2.out.trans (H2.out.2.mono HB2.out.size))) t4 (by omega)
              have HB5 := Lib.hid (HB1.out.trans ((HB2.out.trans (H2.out.2.mono HB2.out.size)).mono HB1.out.size))
              clear hin hfin e4 t4
              go_wp2_with (first | (go_at_call 9; refine QE.mono ?_; rintro e w6 ⟨rfl, hb6⟩) | (go_at_call 10; refine (wakes_any _).mono ?_; rintro e w7 ⟨rfl, hb7⟩) | fail)
              go_ret
              exact ⟨rfl, HB5.out.trans ((hb6.trans (hb7.mono hb6.size)).mono HB5.out.size)⟩
end Go.Proofs.Ythbealndbfboiaa
