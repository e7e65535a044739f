/-
  The law IdlBlanks, walked: blanks and remarks between tokens make no difference to what a text declares. Conditions: those in the theorems (the keywords' variable holds what the row lists).
-/
import Derived.Test.YtlmjcnfiolbfpaaDoorIdlWakes
import Derived.Deep.CutRange
set_option linter.unusedSimpArgs false
set_option linter.unusedVariables false
namespace Go.Proofs.YtlmjcnfiolbfpaaDoor
open Go.RowKit

theorem few_of (t : ByteArray) (h : t.size ≤ 65536) : Ip.Few 1000000 (Ip.parse t.data.toList).1 := Ip.parse_few (by rw [list_len]; omega)
theorem sizes_le (x : ByteArray) (ts : List Tk.Token) (h : Tk.all 0 x.data.toList = .ok ts) : Tk.sizes ts ≤ x.size ∧ ts.length ≤ x.size := by
  have h1 := Tk.all_sizes _ 0 x.data.toList (Nat.le_refl _)
  have h2 := Tk.all_len _ 0 x.data.toList (Nat.le_refl _)
  rw [h, list_len] at h1 h2
  exact ⟨h1, h2⟩
theorem spaced_take (ts : List Tk.Token) {k : Nat} (hk : k < ts.length) : Tk.bs (Tk.spaced (ts.take (k + 1))) = Tk.bs (Tk.spaced (ts.take k)) ++ ts[k].text ++ ⟨#[10, 47, 47, 32, 120, 32, 123, 32, 59, 10, 9]⟩ := by
  have h : Tk.spaced (ts.take (k + 1)) = Tk.spaced (ts.take k) ++ ts[k].text.data.toList ++ Tk.sep := by
    rw [List.take_succ_eq_append_getElem hk]
    unfold Tk.spaced
    rw [List.flatMap_append]
    simp
  rw [h]
  have e : ∀ {a b : ByteArray}, a.data.toList = b.data.toList → a = b := fun {a b} h => by
    obtain ⟨⟨a⟩⟩ := a
    obtain ⟨⟨b⟩⟩ := b
    simpa using h
  apply e
  rw [Tk.bs_data, ByteArray.data_append, ByteArray.data_append, Array.toList_append, Array.toList_append, Tk.bs_data]
  rfl
set_option maxRecDepth 100000 in
set_option maxHeartbeats 16000000 in
theorem idlBlanks_any (s : ByteArray) (w : World) (hm : s.size ≤ maxLen) (hk : KwIs w) : Calls Tryd.prog 5 #[.string s] w fun e w' => e = .returned (.bool true) ∧ Below w.heap.size w w' := by
  have z1 : s.size ≤ 9223372036854775807 := hm
  go_enter Tryd.func5, Tryd.ntmps5
  go_upto_if 21 with fail
  go_cut [0] from 22 to 23 (fun xv wc => ∃ x : ByteArray, xv = .string x ∧ Hid (x.size ≤ 5000) ∧ wc = w)
  case first =>
    by_cases h1 : 5000 < s.size
    · have i1 : (5000 : Int) < (s.size : Int) := by omega
      have HE : Hid ((s.extract 0 5000).size ≤ 5000) := Lib.hid (by rw [ByteArray.size_extract]; omega)
      go_wp2_with fail
      go_meet
      exact ⟨_, rfl, HE, rfl⟩
    · have i1 : ¬ (5000 : Int) < (s.size : Int) := by omega
      have HE : Hid (s.size ≤ 5000) := Lib.hid (by omega)
      go_wp2_with fail
      go_meet
      exact ⟨_, rfl, HE, rfl⟩
  case rest =>
    obtain ⟨x, rfl, HX, hwc⟩ := hcut
    subst hwc
    have hxs : x.size ≤ 65536 := by have := HX.out; omega
    have QA := fun W => All_any x W hxs
    have QP := fun W (hW : KwIs W) => Parse_any x W hxs hW
    have hin := all_in x hxs
    have HFX := Lib.hid (few_of x hxs)
    have HK := Lib.hid hk
    obtain ⟨o, ho⟩ : ∃ o, Tk.all 0 x.data.toList = o := ⟨_, rfl⟩
    rw [ho] at QA hin
    cases o with
    | no a er =>
      have hp := Ip.parse_no ho
      have her : (((er : Nat) : Int) != 0) = true := by rw [bne_iff_ne]; have := Tk.all_err ho; omega
      rw [hp] at QP
      unfold Alls Tk.Out.at_ Tk.Out.err Tk.Out.toks at QA
      have HQP := Lib.hid QP
      clear ho hin hp QP hk
      go_wp2_with fail
      refine Calls.mono (QA _) ?_
      rintro e w1 ⟨v1, rfl, ho1, hb1⟩
      obtain ⟨p1, c1, rfl, -, -⟩ := ho1.shape
      have HB1 := Lib.hid hb1
      clear ho1 hb1 QA
      go_wp2_with fail
      refine Calls.mono (HQP.out _ (HK.out.below HB1.out)) ?_
      rintro e w2 ⟨v2, rfl, hV2, hb2⟩
      have hS := fun W (hW : Below w2.heap.size w2 W) => Same_any (hV2.below hW) (SchV.zero W 0) (Ip.few_zero _)
      obtain ⟨vr, vs, vg, rfl, h1, h2, h3⟩ := hV2
      obtain ⟨q1, k1, rfl, -, -⟩ := h1.shape
      obtain ⟨q2, k2, rfl, -, -⟩ := h2.shape
      obtain ⟨q3, k3, rfl, -, -⟩ := h3.shape
      have HS := Lib.hid hS
      have HB2 := Lib.hid (HB1.out.trans (hb2.mono HB1.out.size))
      clear h1 h2 h3 hb2 hS
      go_wp2_with (first | (go_at_call 10; refine (HS.out _ (tk_alloc w2 _)).mono ?_; rintro e w3 ⟨rfl, hb3⟩; have HB3 := Lib.hid (HB2.out.trans (((tk_alloc w2 _).trans (hb3.mono (tk_alloc w2 _).size)).mono HB2.out.size)); clear hb3) | (go_at_call 11; refine (wakes_any _ (HK.out.below HB3.out)).mono ?_; rintro e w4 ⟨rfl, hb4⟩) | fail)
      go_ret
      exact ⟨rfl, HB3.out.trans (hb4.mono HB3.out.size)⟩
    | ok ts =>
      have hsz := sizes_le x ts ho
      have hright : ∀ t ∈ ts, Tk.wrong t = false := fun t ht => Tk.all_right _ 0 x.data.toList (Nat.le_refl _) t (by rw [ho]; exact ht)
      obtain ⟨m, hm1, hm2⟩ := Tk.all_spaced ts 0 hright
      obtain ⟨y, hy⟩ : ∃ y, y = Tk.bs (Tk.spaced ts) := ⟨_, rfl⟩
      have hyd : y.data.toList = Tk.spaced ts := by rw [hy, Tk.bs_data]
      have hys : y.size ≤ 65536 := by
        have h1 := Tk.spaced_len ts
        have h2 := list_len y
        rw [hyd] at h2
        have := HX.out
        omega
      have QP2 := fun W (hW : KwIs W) => Parse_any y W hys hW
      have QA2 := fun W => All_any y W hys
      have hin2 := all_in y hys
      have hct2 := all_count y hys
      rw [hyd] at QP2 QA2 hin2 hct2
      rw [hm1] at QA2 hin2 hct2
      have hal := Ip.parse_alike ho hm1 hm2
      have hfew := HFX.out
      obtain ⟨⟨S, a1, er⟩, hx1⟩ : ∃ z, Ip.parse x.data.toList = z := ⟨_, rfl⟩
      obtain ⟨⟨S2, a2, er2⟩, hx2⟩ : ∃ z, Ip.parse (Tk.spaced ts) = z := ⟨_, rfl⟩
      rw [hx1] at QP hal hfew
      rw [hx2] at QP2 hal
      simp only at hal hfew
      obtain ⟨rfl, rfl, hal0, hal1⟩ := hal
      unfold Alls Tk.Out.at_ Tk.Out.err Tk.Out.toks at QA QA2
      simp only [Tk.Out.toks] at hin hin2 hct2
      have HQP := Lib.hid QP
      have HQP2 := Lib.hid QP2
      have HQA2 := Lib.hid QA2
      have HIN := Lib.hid hin
      have HIN2 := Lib.hid hin2
      have HL1 : Hid (ts.length ≤ 1000000 ∧ m.length ≤ 1000000) := Lib.hid ⟨by have := HX.out; omega, by omega⟩
      have HY : Hid (y = Tk.bs (Tk.spaced (ts.take ts.length))) := Lib.hid (by rw [List.take_length]; exact hy)
      have HTX : Hid (∀ k, (hk : k < ts.length) → ts[k].text.size ≤ 100000) := Lib.hid fun k hk => by
        have h1 := Tk.all_small _ 0 x.data.toList (Nat.le_refl _) (by rw [list_len]; omega) ts[k] (by rw [ho]; exact List.getElem_mem hk)
        have := h1.2.1; omega
      have HSZ : Hid (∀ k, (hk : k < ts.length) → (Tk.bs (Tk.spaced (ts.take k))).size ≤ 100000) := Lib.hid fun k hk => by
        rw [Tk.bs_size, Tk.spaced_len]
        have h1 : Tk.sizes (ts.take k) ≤ Tk.sizes ts := by
          have : ts = ts.take k ++ ts.drop k := (List.take_append_drop k ts).symm
          conv => rhs; rw [this]
          unfold Tk.sizes
          rw [List.map_append, List.sum_append]; omega
        have h2 : (ts.take k).length ≤ ts.length := List.length_take_le' _ _
        have := HX.out
        omega
      have HA0 := Lib.hid hal0
      have HA1 := Lib.hid hal1
      have HF := Lib.hid hfew
      have hn5 : ts.length ≤ 5000 := by have := HX.out; omega
      have hne : (((0 : Nat) : Int) != 0) = false := rfl
      clear ho hin hsz hright hm1 hm2 hy hyd hys QP QP2 QA2 hin2 hct2 hfew hx1 hx2 hal0 hal1 hk HFX
      go_wp2_with fail
      refine Calls.mono (QA _) ?_
      rintro e w1 ⟨v1, rfl, ho1, hb1⟩
      obtain ⟨p1, c1, rfl, -, -, ht1⟩ := ho1.toks HIN.out
      have HT1 := Lib.hid ht1
      have HB1 := Lib.hid hb1
      clear ho1 hb1 ht1 QA
      go_wp2_with fail
      go_loop [9, 10] (fun sv kv => ∃ k : Nat, k ≤ ts.length ∧ kv = .int .i64 (k : Nat) ∧ sv = .string (Tk.bs (Tk.spaced (ts.take k)))) (fun _ kv => ts.length - (intOf kv).toNat)
      case atStart => exact ⟨0, Nat.zero_le _, rfl, rfl⟩
      case round =>
        obtain ⟨k, hk, rfl, rfl⟩ := hrel
        by_cases hlt : k < ts.length
        · have i1 : (k : Int) < (ts.length : Int) := by omega
          have i2 : (0 : Int) ≤ (k : Int) := by omega
          obtain ⟨A, rfl, c0, c1, c2, c3, -⟩ := HT1.out.at (Below.refl _ _) hlt
          have HS := Lib.hid (spaced_take ts hlt)
          have hsk : (Tk.bs (Tk.spaced (ts.take k))).size ≤ 100000 := HSZ.out k hlt
          have htx : ts[k].text.size ≤ 100000 := HTX.out k hlt
          generalize Tk.bs (Tk.spaced (ts.take k)) = sk at *
          generalize ts[k] = t at *
          go_wp2_with fail
          go_round
          case rel => exact ⟨k + 1, by omega, by go_num, by rw [HS.out]⟩
          case measure => simp [intOf]; omega
        · obtain rfl : k = ts.length := by omega
          have i1 : ¬ (ts.length : Int) < (ts.length : Int) := by omega
          rw [← HY.out]
          go_wp2_with fail
          refine Calls.mono (HQP.out _ (HK.out.below HB1.out)) ?_
          rintro e w2 ⟨v2, rfl, hV2, hb2⟩
          have HB2 := Lib.hid (HB1.out.trans (hb2.mono HB1.out.size))
          have HT2 := Lib.hid (HT1.out.below hb2)
          have HV2 := Lib.hid hV2
          obtain ⟨vr, vs, vg, rfl, h1, h2, h3⟩ := hV2
          obtain ⟨q1, k1, rfl, -, -⟩ := h1.shape
          obtain ⟨q2, k2, rfl, -, -⟩ := h2.shape
          obtain ⟨q3, k3, rfl, -, -⟩ := h3.shape
          clear h1 h2 h3 hb2
          go_upto_region 13 with fail
          obtain ⟨W3, hW3⟩ : ∃ W3, W3 = w2.alloc (.cells #[.string S.name, .slice q1 S.records.length k1, .slice q2 S.services.length k2, .slice q3 S.sagas.length k3] 26) := ⟨_, rfl⟩
          have hb3 : Below w2.heap.size w2 W3 := by rw [hW3]; exact tk_alloc _ _
          have hn3 : W3.heap[w2.heap.size]? = some (.cells #[.string S.name, .slice q1 S.records.length k1, .slice q2 S.services.length k2, .slice q3 S.sagas.length k3] 26 (0, 0)) := by rw [hW3]; exact heap_alloc_new _ _
          have HB3 := Lib.hid (HB2.out.trans (hb3.mono HB2.out.size))
          have HT3 := Lib.hid (HT2.out.below hb3)
          have HV3 := Lib.hid (HV2.out.below hb3)
          have HN3 := Lib.hid hn3
          rw [← hW3]
          clear hW3 hb3 hn3
          go_wp2_with fail
          refine Calls.mono (HQP2.out _ (HK.out.below HB3.out)) ?_
          rintro e w4 ⟨v4, rfl, hV4, hb4⟩
          have HB4 := Lib.hid (HB3.out.trans (hb4.mono HB3.out.size))
          have HT4 := Lib.hid (HT3.out.below hb4)
          have hn4 := (hb4.block _ (Array.getElem?_eq_some_iff.1 HN3.out).1).trans HN3.out
          have hS := fun W (hW : Below w4.heap.size w4 W) => Same_any ((HV3.out.below hb4).below hW) (hV4.below hW) HF.out
          obtain ⟨vr, vs, vg, rfl, h1, h2, h3⟩ := hV4
          obtain ⟨q4, k4, rfl, -, -⟩ := h1.shape
          obtain ⟨q5, k5, rfl, -, -⟩ := h2.shape
          obtain ⟨q6, k6, rfl, -, -⟩ := h3.shape
          have HSM := Lib.hid hS
          obtain ⟨n0, n1, n2, n3⟩ := cells4 hn4
          have hl4 := (Array.getElem?_eq_some_iff.1 hn4).1
          clear h1 h2 h3 hb4 hn4 hS
          by_cases h0 : er = 0
          · subst h0
            obtain ⟨rfl, rfl⟩ := HA0.out rfl
            clear HA1
            go_wp2_with (first | (go_at_call 10; refine (HSM.out _ (tk_alloc w4 _)).mono ?_; rintro e w5 ⟨rfl, hb5⟩; have HB5 := Lib.hid (HB4.out.trans (((tk_alloc w4 _).trans (hb5.mono (tk_alloc w4 _).size)).mono HB4.out.size)); have HT5 := Lib.hid ((HT4.out.below (tk_alloc w4 _)).below hb5); clear hb5) | (go_at_call 11; refine (wakes_any _ (HK.out.below HB5.out)).mono ?_; rintro e w6 ⟨rfl, hb6⟩) | fail)
            go_ret
            exact ⟨rfl, HB5.out.trans (hb6.mono HB5.out.size)⟩
          · have HA := Lib.hid (HA1.out h0)
            have her : (((er : Nat) : Int) == 0) = false := by rw [beq_eq_false_iff_ne]; omega
            clear h0
            go_wp2_with (first | (go_at_call 10; refine (HSM.out _ (tk_alloc w4 _)).mono ?_; rintro e w5 ⟨rfl, hb5⟩; have HB5 := Lib.hid (HB4.out.trans (((tk_alloc w4 _).trans (hb5.mono (tk_alloc w4 _).size)).mono HB4.out.size)); have HT5 := Lib.hid ((HT4.out.below (tk_alloc w4 _)).below hb5); clear hb5) | fail)
            refine Calls.mono (HQA2.out _) ?_
            rintro e w6 ⟨v6, rfl, ho6, hb6⟩
            obtain ⟨p6, c6, rfl, -, -, ht6⟩ := ho6.toks HIN2.out
            have HB6 := Lib.hid (HB5.out.trans (hb6.mono HB5.out.size))
            have HN1 := Lib.hid (number_law (cap := c1) a1 (HT5.out.below hb6) HL1.out.1)
            have HN2 := Lib.hid (number_law (cap := c6) a2 ht6 HL1.out.2)
            rw [HA.out] at HN1
            clear ho6 hb6 ht6
            go_wp2_with fail
            refine HN1.out.mono ?_
            rintro e w7 ⟨rfl, hw⟩
            obtain rfl := hw
            go_wp2_with fail
            refine HN2.out.mono ?_
            rintro e w7 ⟨rfl, hw⟩
            obtain rfl := hw
            go_wp2_with (first | (go_at_call 11; refine (wakes_any _ (HK.out.below HB6.out)).mono ?_; rintro e w8 ⟨rfl, hb8⟩) | fail)
            go_ret
            exact ⟨rfl, HB6.out.trans (hb8.mono HB6.out.size)⟩
end Go.Proofs.YtlmjcnfiolbfpaaDoor
