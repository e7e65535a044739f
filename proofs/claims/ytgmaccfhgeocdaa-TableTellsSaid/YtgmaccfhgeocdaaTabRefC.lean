/-
  Walks over the document's answer for tables of entries: what bars a list (Build). Conditions: those in the theorem.
-/
import Derived.Test.YtgmaccfhgeocdaaTabRefB
namespace Go.Proofs.Ytgmaccfhgeocdaa
open Go.RowKit Tb

theorem quietLess (x y : ByteArray) (hx : x.size ≤ 9223372036854775807) (hy : y.size ≤ 9223372036854775807) (W : World) (n : Nat) :
    Calls Try.prog 32 #[.string x, .string y] (W.drewN n) fun e w' => e = .returned (.bool (Mm.lt x y)) ∧ ∃ m, w' = W.drewN m :=
  (refLess_any x y hx hy (W.drewN n)).mono fun e w' h => ⟨h.1, h.2.elim fun m hm => ⟨n + m, by rw [hm, World.drewN_drewN]⟩⟩
theorem long_next {l : List En} {k : Nat} (hk : k < l.length) {b b' : Bool} (h : b = true ↔ 4096 < l.length ∨ ∃ e ∈ l.take k, ¬ Short e) (hb : b' = true ↔ b = true ∨ ¬ Short l[k]) : b' = true ↔ 4096 < l.length ∨ ∃ e ∈ l.take (k + 1), ¬ Short e := by
  rw [hb, h, List.take_succ_eq_append_getElem hk]
  constructor
  · rintro ((h | ⟨e, he, hs⟩) | hs)
    · exact .inl h
    · exact .inr ⟨e, List.mem_append_left _ he, hs⟩
    · exact .inr ⟨_, List.mem_append_right _ List.mem_cons_self, hs⟩
  · rintro (h | ⟨e, he, hs⟩)
    · exact .inl (.inl h)
    · rcases List.mem_append.1 he with he | he
      · exact .inl (.inr ⟨e, he, hs⟩)
      · rw [List.mem_singleton.1 he] at hs; exact .inr hs
/-- Ahead of a round of the first loop: what was counted, and whether an entry was too long. -/
def Counted (l : List En) (k : Nat) (w : World) (z : Int) (b : Bool) (W : World) : Prop := (b = false → z = (weight (l.take k) : Nat)) ∧ (b = true ↔ 4096 < l.length ∨ ∃ e ∈ l.take k, ¬ Short e) ∧ Below w.heap.size w W
set_option maxRecDepth 100000 in
set_option maxHeartbeats 8000000 in
theorem refbuild_any {w : World} {p : Option Addr} {cap : Nat} {l : List En} (hl : EntsAt w p l) (hn : l.length ≤ 5000) :
    Calls Try.prog 17 #[.slice p l.length cap] w fun e w' => e = .returned (.int .i64 (bars l : Nat)) ∧ Below w.heap.size w w' := by
  have HL := Lib.hid hl
  have HIN : Hid (∀ e ∈ l, EnIn e) := Lib.hid fun e he => by
    obtain ⟨i, hi, rfl⟩ := List.getElem_of_mem he
    exact (hl i hi).elim fun _ h => h.2.2.2
  clear hl
  go_enter Try.func17, Try.ntmps17
  go_wp2_with fail
  go_loopw [3, 4, 5] (fun nv lv iv wr => ∃ (k : Nat) (z : Int) (b : Bool), k ≤ l.length ∧ iv = .int .i64 (k : Nat) ∧ nv = .int .i64 z ∧ lv = .bool b ∧ Hid (Counted l k w z b wr)) (fun _ _ iv _ => l.length - (intOf iv).toNat)
  case atStart => exact ⟨0, 0, _, Nat.zero_le _, rfl, rfl, rfl, Lib.hid ⟨fun _ => by simp [weight], by first | (simp; done) | (simp; omega), Below.refl _ _⟩⟩
  case round =>
    obtain ⟨k, z, b, hk, rfl, rfl, rfl, H⟩ := hrel
    by_cases hlt : k < l.length
    · have i1 : (k : Int) < (l.length : Int) := by omega
      have i2 : (0 : Int) ≤ (k : Int) := by omega
      obtain ⟨A, rfl, c0, c1, c2, hin⟩ := HL.out.at H.out.2.2 hlt
      have HWT := Lib.hid (weight_take l hlt)
      have HLN : Hid (∀ b', (b' = true ↔ b = true ∨ ¬ Short l[k]) → (b' = true ↔ 4096 < l.length ∨ ∃ e ∈ l.take (k + 1), ¬ Short e)) := Lib.hid fun b' hb => long_next hlt H.out.2.1 hb
      generalize l[k] = x at *
      clear hin
      cases b with
      | true =>
        have FIN : Hid (∀ n z', Counted l (k + 1) w z' true (wr.drewN n)) := Lib.hid fun n z' => ⟨fun h => Bool.noConfusion h, HLN.out true (by simp), below_drewN H.out.2.2 n⟩
        clear HLN HWT
        go_wp2_with fail
        go_quiet (fail)
        go_wp2_with fail
        exact ⟨⟨k + 1, _, true, by omega, by go_num, rfl, rfl, Lib.hid (FIN.out _ _)⟩, by simp only [intOf]; omega⟩
      | false =>
        have FIN : Hid (¬ Short x → ∀ n z', Counted l (k + 1) w z' true (wr.drewN n)) := Lib.hid fun hs n z' => ⟨fun h => Bool.noConfusion h, HLN.out true (by simp [hs]), below_drewN H.out.2.2 n⟩
        by_cases h1 : 128 < x.key.size
        · have i3 : (128 : Int) < (x.key.size : Int) := by omega
          have hs : ¬ Short x := fun h => by have := h.1; omega
          have FN := Lib.hid (FIN.out hs)
          clear HLN HWT hs FIN
          go_wp2_with fail
          go_quiet (fail)
          go_wp2_with fail
          exact ⟨⟨k + 1, _, true, by omega, by go_num, rfl, rfl, Lib.hid (FN.out _ _)⟩, by simp only [intOf]; omega⟩
        · have i3 : ¬ (128 : Int) < (x.key.size : Int) := by omega
          by_cases h2 : 16384 < x.value.size
          · have i4 : (16384 : Int) < (x.value.size : Int) := by omega
            have hs : ¬ Short x := fun h => by have := h.2; omega
            have FN := Lib.hid (FIN.out hs)
            clear HLN HWT hs FIN
            go_wp2_with fail
            go_quiet (fail)
            go_wp2_with fail
            exact ⟨⟨k + 1, _, true, by omega, by go_num, rfl, rfl, Lib.hid (FN.out _ _)⟩, by simp only [intOf]; omega⟩
          · have i4 : ¬ (16384 : Int) < (x.value.size : Int) := by omega
            obtain ⟨q, hq⟩ : ∃ q : Nat, q = weight (l.take k) := ⟨_, rfl⟩
            have hz := H.out.1 rfl
            rw [← hq] at hz
            have hq2 : q ≤ 90000000 := by
              have h1 := weight_small (l.take k) (fun e he => by
                have h := H.out.2.1
                simp only [Bool.false_eq_true, false_iff, not_or, not_exists, not_and, Classical.not_not] at h
                exact h.2 e he)
              rw [List.length_take, Nat.min_eq_left hk] at h1
              omega
            have hs : Short x := ⟨by omega, by omega⟩
            have FN : Hid (∀ b', b' = false → ∀ n, Counted l (k + 1) w (((q : Nat) : Int) + (x.key.size : Int) + (x.value.size : Int)) b' (wr.drewN n)) := Lib.hid fun b' e n => ⟨fun _ => by rw [HWT.out, ← hq]; omega, HLN.out b' (by rw [e]; simp [hs]), below_drewN H.out.2.2 n⟩
            subst hz
            have w1 : IntKind.i64.wrap ((q : Int) + (x.key.size : Int)) = (q : Int) + (x.key.size : Int) := IntWalk.i64_in _ (by omega)
            have w2 : IntKind.i64.wrap ((q : Int) + (x.key.size : Int) + (x.value.size : Int)) = (q : Int) + (x.key.size : Int) + (x.value.size : Int) := IntWalk.i64_in _ (by omega)
            have DD : Hid ((decide ((128 : Int) < (x.key.size : Int)) || decide ((16384 : Int) < (x.value.size : Int))) = false) := Lib.hid (by simp [i3, i4])
            clear HLN HWT hs FIN hq
            go_wp2_with fail
            go_quiet (fail)
            go_wp2_with fail
            exact ⟨⟨k + 1, _, _, by omega, by go_num, rfl, rfl, Lib.hid (FN.out _ DD.out _)⟩, by simp only [intOf]; omega⟩
    · obtain rfl : k = l.length := by omega
      have i1 : ¬ (l.length : Int) < (l.length : Int) := by omega
      have hh := H.out
      unfold Counted at hh
      rw [List.take_length] at hh
      have H2 := Lib.hid hh
      clear hh H
      have HB3 : Hid (¬ Fits l → bars l = 3) := Lib.hid fun h => by unfold bars; rw [if_neg h]
      cases b with
      | true =>
        have HE : Hid (bars l = 3) := Lib.hid (HB3.out fun hf => by
          rcases H2.out.2.1.1 rfl with h | ⟨e, he, hs⟩
          · have := hf.1; omega
          · exact hs (hf.2.1 e he))
        go_wp2_with fail
        go_ret
        exact ⟨by rw [HE.out]; rfl, H2.out.2.2⟩
      | false =>
        obtain rfl := H2.out.1 rfl
        by_cases h1 : 524288 < weight l
        · have i3 : (524288 : Int) < (weight l : Int) := by omega
          have HE : Hid (bars l = 3) := Lib.hid (HB3.out fun hf => by have := hf.2.2; omega)
          go_wp2_with fail
          go_ret
          exact ⟨by rw [HE.out]; rfl, H2.out.2.2⟩
        · have i3 : ¬ (524288 : Int) < (weight l : Int) := by omega
          have HF : Hid (Fits l) := Lib.hid (by
            have h := H2.out.2.1
            simp only [Bool.false_eq_true, false_iff, not_or, not_exists, not_and, Classical.not_not] at h
            exact ⟨by omega, h.2, by omega⟩)
          have HBF : Hid (¬ (Rises l ∧ ∀ e ∈ l, WholeE e) → bars l = 1) := Lib.hid fun h => by unfold bars; rw [if_pos HF.out, if_neg h]
          have HBT : Hid (Rises l ∧ (∀ e ∈ l, WholeE e) → bars l = 0) := Lib.hid fun h => by unfold bars; rw [if_pos HF.out, if_pos h]
          have HBW := Lib.hid H2.out.2.2
          clear H2 HB3 HF
          go_wp2_with fail
          go_loopw [6] (fun kv wq => ∃ k : Nat, k ≤ l.length ∧ kv = .int .i64 (k : Nat) ∧ Hid ((∀ i (h : i < l.length), i < k → 0 < i → Mm.lt (l[i - 1]'(by omega)).key l[i].key = true) ∧ (∀ e ∈ l.take k, WholeE e) ∧ Below w.heap.size w wq)) (fun kv _ => l.length - (intOf kv).toNat)
          case atStart => exact ⟨0, Nat.zero_le _, rfl, Lib.hid ⟨fun i _ h => by omega, fun e he => by simp at he, HBW.out⟩⟩
          case round =>
            obtain ⟨k, hk, rfl, H⟩ := hrel
            by_cases hlt : k < l.length
            · have i1 : (k : Int) < (l.length : Int) := by omega
              have i2 : (0 : Int) ≤ (k : Int) := by omega
              obtain ⟨A, rfl, c0, c1, c2, hin⟩ := HL.out.at H.out.2.2 hlt
              have HME := Lib.hid (List.getElem_mem hlt)
              have HTK := Lib.hid (List.take_succ_eq_append_getElem hlt)
              have HNW : Hid (¬ WholeE l[k] → bars l = 1) := Lib.hid fun h => HBF.out fun h2 => h (h2.2 _ HME.out)
              by_cases h0 : l[k].key.size = 0
              · have z0 : ((l[k].key.size : Int) == 0) = true := by rw [beq_iff_eq]; omega
                have HE : Hid (bars l = 1) := Lib.hid (HNW.out fun h => by have := h.1; omega)
                clear h0
                generalize l[k] = x at *
                go_wp2_with fail
                go_ret
                exact ⟨by rw [HE.out]; rfl, H.out.2.2⟩
              · have z0 : ((l[k].key.size : Int) == 0) = false := by rw [beq_eq_false_iff_ne]; omega
                cases hg : l[k].gone with
                | true =>
                  rw [hg] at c2
                  by_cases hv : 0 < l[k].value.size
                  · have v0 : (0 : Int) < (l[k].value.size : Int) := by omega
                    have HE : Hid (bars l = 1) := Lib.hid (HNW.out fun h => by have := h.2 hg; omega)
                    clear hv hg h0
                    generalize l[k] = x at *
                    go_wp2_with fail
                    go_ret
                    exact ⟨by rw [HE.out]; rfl, H.out.2.2⟩
                  · have v0 : ¬ (0 : Int) < (l[k].value.size : Int) := by omega
                    have hwh : WholeE l[k] := ⟨by omega, fun _ => by omega⟩
                    clear hv hg h0
                    have HW1 : Hid (∀ e ∈ l.take (k + 1), WholeE e) := Lib.hid fun e he => by
                      rw [HTK.out] at he
                      rcases List.mem_append.1 he with he | he
                      · exact H.out.2.1 e he
                      · rw [List.mem_singleton.1 he]; exact hwh
                    clear hwh
                    by_cases h00 : k = 0
                    · have j0 : ¬ (0 : Int) < (k : Int) := by omega
                      have HS : Hid (∀ i (h : i < l.length), i < k + 1 → 0 < i → Mm.lt (l[i - 1]'(Nat.lt_of_le_of_lt (Nat.sub_le i 1) h)).key l[i].key = true) := Lib.hid fun i h h1 h2 => by omega
                      have j8 : ¬ 0 < k := by omega
                      have j9 : decide (0 < k) = false := decide_eq_false j8
                      have HK0 := Lib.hid h00
                      clear h00
                      generalize l[k] = x at *
                      go_wp2_with fail
                      go_quiet (fail)
                      go_wp2_with fail
                      have hk0 := HK0.out
                      exact ⟨⟨k + 1, by omega, by rw [hk0]; rfl, Lib.hid ⟨HS.out, HW1.out, below_drewN H.out.2.2 _⟩⟩, by rw [hk0]; simp [intOf]; omega⟩
                    · have j0 : (0 : Int) < (k : Int) := by omega
                      have j1 : (0 : Int) ≤ (k : Int) - 1 := by omega
                      have j2 : (k : Int) - 1 < (l.length : Int) := by omega
                      obtain ⟨A', eA, b0, b1, b2, hin2⟩ := HL.out.at H.out.2.2 (show k - 1 < l.length by omega)
                      cases eA
                      have j3 : ((k : Int) - 1).toNat = k - 1 := by omega
                      have j4 : IntKind.i64.wrap ((k : Int) - 1) = (k : Int) - 1 := IntWalk.i64_in _ (by omega)
                      have j5 : (1 : Int) ≤ (k : Int) := by omega
                      have j6 : 0 < k := by omega
                      have j7 : 1 ≤ k := by omega
                      have HQL := Lib.hid (fun n => quietLess (l[k - 1]'(by omega)).key l[k].key (Nat.le_trans hin2.1 (by unfold maxLen; decide)) (Nat.le_trans hin.1 (by unfold maxLen; decide)) wr n)
                      clear hin2
                      cases hcm : Mm.lt (l[k - 1]'(by omega)).key l[k].key with
                      | true =>
                        have HS : Hid (∀ i (h : i < l.length), i < k + 1 → 0 < i → Mm.lt (l[i - 1]'(by omega)).key l[i].key = true) := Lib.hid fun i h h1 h2 => by
                          by_cases e : i = k
                          · subst e; exact hcm
                          · exact H.out.1 i h (by omega) h2
                        rw [hcm] at HQL
                        clear hcm hin HBF HBT HNW
                        generalize l[k] = x at *
                        generalize (l[k - 1]'(by omega)) = y at *
                        go_wp2_with fail
                        go_quiet ((go_at_call 32; exact HQL.out _))
                        go_wp2_with fail
                        exact ⟨⟨k + 1, by omega, by go_num, Lib.hid ⟨HS.out, HW1.out, below_drewN H.out.2.2 _⟩⟩, by simp only [intOf]; omega⟩
                      | false =>
                        have HE : Hid (bars l = 1) := Lib.hid (HBF.out fun h => by have h1 := h.1 k hlt (by omega); rw [hcm] at h1; cases h1)
                        rw [hcm] at HQL
                        clear hcm hin HBF HBT HNW
                        generalize l[k] = x at *
                        generalize (l[k - 1]'(by omega)) = y at *
                        go_wp2_with fail
                        go_quiet ((go_at_call 32; exact HQL.out _))
                        go_wp2_with fail
                        go_ret
                        exact ⟨by rw [HE.out]; rfl, below_drewN H.out.2.2 _⟩
                | false =>
                  rw [hg] at c2
                  have hwh : WholeE l[k] := ⟨by omega, fun h => by rw [hg] at h; cases h⟩
                  clear hg h0
                  have HW1 : Hid (∀ e ∈ l.take (k + 1), WholeE e) := Lib.hid fun e he => by
                    rw [HTK.out] at he
                    rcases List.mem_append.1 he with he | he
                    · exact H.out.2.1 e he
                    · rw [List.mem_singleton.1 he]; exact hwh
                  clear hwh
                  by_cases h00 : k = 0
                  · have j0 : ¬ (0 : Int) < (k : Int) := by omega
                    have HS : Hid (∀ i (h : i < l.length), i < k + 1 → 0 < i → Mm.lt (l[i - 1]'(Nat.lt_of_le_of_lt (Nat.sub_le i 1) h)).key l[i].key = true) := Lib.hid fun i h h1 h2 => by omega
                    have j8 : ¬ 0 < k := by omega
                    have j9 : decide (0 < k) = false := decide_eq_false j8
                    have HK0 := Lib.hid h00
                    clear h00
                    generalize l[k] = x at *
                    go_wp2_with fail
                    go_quiet (fail)
                    go_wp2_with fail
                    have hk0 := HK0.out
                    exact ⟨⟨k + 1, by omega, by rw [hk0]; rfl, Lib.hid ⟨HS.out, HW1.out, below_drewN H.out.2.2 _⟩⟩, by rw [hk0]; simp [intOf]; omega⟩
                  · have j0 : (0 : Int) < (k : Int) := by omega
                    have j1 : (0 : Int) ≤ (k : Int) - 1 := by omega
                    have j2 : (k : Int) - 1 < (l.length : Int) := by omega
                    obtain ⟨A', eA, b0, b1, b2, hin2⟩ := HL.out.at H.out.2.2 (show k - 1 < l.length by omega)
                    cases eA
                    have j3 : ((k : Int) - 1).toNat = k - 1 := by omega
                    have j4 : IntKind.i64.wrap ((k : Int) - 1) = (k : Int) - 1 := IntWalk.i64_in _ (by omega)
                    have j5 : (1 : Int) ≤ (k : Int) := by omega
                    have j6 : 0 < k := by omega
                    have j7 : 1 ≤ k := by omega
                    have HQL := Lib.hid (fun n => quietLess (l[k - 1]'(by omega)).key l[k].key (Nat.le_trans hin2.1 (by unfold maxLen; decide)) (Nat.le_trans hin.1 (by unfold maxLen; decide)) wr n)
                    clear hin2
                    cases hcm : Mm.lt (l[k - 1]'(by omega)).key l[k].key with
                    | true =>
                      have HS : Hid (∀ i (h : i < l.length), i < k + 1 → 0 < i → Mm.lt (l[i - 1]'(by omega)).key l[i].key = true) := Lib.hid fun i h h1 h2 => by
                        by_cases e : i = k
                        · subst e; exact hcm
                        · exact H.out.1 i h (by omega) h2
                      rw [hcm] at HQL
                      clear hcm hin HBF HBT HNW
                      generalize l[k] = x at *
                      generalize (l[k - 1]'(by omega)) = y at *
                      go_wp2_with fail
                      go_quiet ((go_at_call 32; exact HQL.out _))
                      go_wp2_with fail
                      exact ⟨⟨k + 1, by omega, by go_num, Lib.hid ⟨HS.out, HW1.out, below_drewN H.out.2.2 _⟩⟩, by simp only [intOf]; omega⟩
                    | false =>
                      have HE : Hid (bars l = 1) := Lib.hid (HBF.out fun h => by have h1 := h.1 k hlt (by omega); rw [hcm] at h1; cases h1)
                      rw [hcm] at HQL
                      clear hcm hin HBF HBT HNW
                      generalize l[k] = x at *
                      generalize (l[k - 1]'(by omega)) = y at *
                      go_wp2_with fail
                      go_quiet ((go_at_call 32; exact HQL.out _))
                      go_wp2_with fail
                      go_ret
                      exact ⟨by rw [HE.out]; rfl, below_drewN H.out.2.2 _⟩
            · obtain rfl : k = l.length := by omega
              have i1 : ¬ (l.length : Int) < (l.length : Int) := by omega
              have HE : Hid (bars l = 0) := Lib.hid (HBT.out ⟨fun i h h0 => H.out.1 i h h h0, fun e he => H.out.2.1 e (by rw [List.take_length]; exact he)⟩)
              go_wp2_with fail
              go_ret
              exact ⟨by rw [HE.out]; rfl, H.out.2.2⟩
end Go.Proofs.Ytgmaccfhgeocdaa
