/-
  Walks over the laws of package net: NetPlays. No condition.
-/
import Derived.Test.YtcfhfamdcdkgjaaNetBoth
import Derived.Test.YtcfhfamdcdkgjaaNetGreat
import Derived.Test.YtcfhfamdcdkgjaaNetTrueMath
import Derived.Deep.CutBlock
import Derived.Deep.LoopGhost
namespace Go.Proofs.Ytcfhfamdcdkgjaa
open Go.RowKit Go.Maps

theorem act_five (N : Nm.Net) (p : Nm.Pk) (i : Int) (on : Bool) : Nm.act N ⟨5, p, i, on⟩ = N := by simp [Nm.act]

set_option maxRecDepth 100000 in
set_option maxHeartbeats 16000000 in
theorem netPlays_any (p : Option Addr) (cap : Nat) (xs : List NAct) (none' : Bool) (w : World) (hxs : NActs w p xs) :
    Calls Try.prog 4 #[.slice p xs.length cap, .bool none'] w fun e w' => e = .returned (.bool true) ∧ Below w.heap.size w w' := by
  have HX := Lib.hid hxs
  have hg := pkGuard
  go_enter Try.func4, Try.ntmps4
  go_wp2_with fail
  refine (netAwake_any _).mono ?_
  rintro e w1 ⟨rfl, hb1⟩
  go_wp2_with fail
  refine (ngreat_any p cap xs w1 (hxs.below hb1)).mono ?_
  rintro e w2 ⟨bb, rfl, hb2, hsm⟩
  have hb := hb1.trans (hb2.mono hb1.size)
  clear hb1 hb2 hxs
  cases bb with
  | true =>
    go_wp2
    go_ret
    exact ⟨rfl, hb⟩
  | false =>
    replace hsm : xs.length ≤ 200 := hsm rfl
    go_wp2_with fail
    refine (new_in (B := []) hb (fun _ h => nomatch h)).mono ?_
    rintro e w3 ⟨a, rfl, h3⟩
    have H3 := Lib.hid h3
    clear h3 hb
    go_wp2_with fail
    refine (refNew_any _).mono ?_
    rintro e w4 ⟨rfl, hr4, hb4⟩
    have H4 := Lib.hid (Pair.start H3.out hr4 hb4)
    clear hr4 hb4
    generalize w3.heap.size = r at *
    cases none' with
    | true =>
      have HB4 := Lib.hid H4.out.below
      clear H3 H4
      go_wp2_with fail
      go_loopg [5, 7] xs.length (fun g nv iv wr => ∃ (k : Nat), g = xs.length - k ∧ k ≤ xs.length ∧ iv = .int .i64 (k : Nat) ∧ nv = .pointer none ∧ Hid (Below w.heap.size w wr))
      case atStart => exact ⟨0, rfl, Nat.zero_le _, rfl, rfl, HB4⟩
      case round =>
        obtain ⟨k, rfl, hk, rfl, rfl, HK⟩ := hrel
        by_cases hlt : k < xs.length
        · have i1 : (k : Int) < (xs.length : Int) := by omega
          have i2 : (0 : Int) ≤ (k : Int) := by omega
          have hcl : ∀ W, Below w.heap.size w W → _ := fun W hW => HX.out.at hW hlt
          have HCL := Lib.hid hcl
          obtain ⟨A, eA, c0, c1, c2, c3, c4, c5, -⟩ := HCL.out _ HK.out
          subst eA
          clear hcl
          generalize xs[k] = x at *
          obtain ⟨ac, ⟨pf, pt, pd⟩, ai, on⟩ := x
          try simp only at c0 c1 c2 c3 c4 c5
          by_cases h5 : ac = 5
          · subst h5
            go_wp2_with fail
            refine (twin_none _).mono ?_
            rintro e w5 ⟨rfl, rfl⟩
            go_wp2_with fail
            refine (lose_none ai _).mono ?_
            rintro e w6 ⟨rfl, h6⟩
            have H6 := Lib.hid (HK.out.trans (h6.mono HK.out.size))
            clear h6 c0 c1 c2 c3 c4 c5
            obtain ⟨A', eA, c0, c1, c2, c3, c4, c5, -⟩ := HCL.out _ H6.out
            cases eA
            try simp only at c0 c1 c2 c3 c4 c5
            go_wp2_with fail
            go_region_law (go_simp; go_at_call 16; refine (cut_none pf pt true _).mono ?_; rintro e w7 ⟨rfl, rfl⟩)
            all_goals
              have H7 := Lib.hid (H6.out.drew)
              clear c0 c1 c2 c3 c4 c5
              obtain ⟨A', eA, c0, c1, c2, c3, c4, c5, -⟩ := HCL.out _ H7.out
              cases eA
              try simp only at c0 c1 c2 c3 c4 c5
              go_wp2_with fail
              refine (send_none ⟨pf, pt, pd⟩ _).mono ?_
              rintro e w8 ⟨rfl, h8⟩
              have H8 := Lib.hid (H7.out.trans (h8.mono H7.out.size))
              clear h8 c0 c1 c2 c3 c4 c5
              obtain ⟨A', eA, c0, c1, c2, c3, c4, c5, -⟩ := HCL.out _ H8.out
              cases eA
              try simp only at c0 c1 c2 c3 c4 c5
              go_wp2_with fail
              refine (both_none _ ⟨5, ⟨pf, pt, pd⟩, ai, on⟩).mono ?_
              rintro e w9 ⟨rfl, h9⟩
              have H9 := Lib.hid (H8.out.trans (h9.mono H8.out.size))
              clear h9
              go_wp2_with fail
              refine (waiting_none _).mono ?_
              rintro e w10 ⟨rfl, rfl⟩
              go_wp2_with fail
              refine (refWaiting_none _).mono ?_
              rintro e w10 ⟨rfl, rfl⟩
              go_wp2_with fail
              go_roundg (xs.length - (k + 1))
              case measure => omega
              case rel => exact ⟨k + 1, rfl, by omega, by go_num, rfl, H9⟩
          · have d5 : (ac == 5) = false := by rw [beq_eq_false_iff_ne]; exact h5
            clear h5
            go_wp2_with fail
            refine (both_none _ ⟨ac, ⟨pf, pt, pd⟩, ai, on⟩).mono ?_
            rintro e w9 ⟨rfl, h9⟩
            have H9 := Lib.hid (HK.out.trans (h9.mono HK.out.size))
            clear h9
            go_wp2_with fail
            refine (waiting_none _).mono ?_
            rintro e w10 ⟨rfl, rfl⟩
            go_wp2_with fail
            refine (refWaiting_none _).mono ?_
            rintro e w10 ⟨rfl, rfl⟩
            go_wp2_with fail
            go_roundg (xs.length - (k + 1))
            case measure => omega
            case rel => exact ⟨k + 1, rfl, by omega, by go_num, rfl, H9⟩
        · obtain rfl : k = xs.length := by omega
          have i1 : ¬ (xs.length : Int) < (xs.length : Int) := by omega
          go_wp2_with fail
          go_loopg [] 1 (fun g wr => g = 1 ∧ Hid (Below w.heap.size w wr))
          case atStart => exact ⟨rfl, HK⟩
          case round =>
            obtain ⟨rfl, HM⟩ := hrel
            go_wp2_with fail
            refine (refWaiting_none _).mono ?_
            rintro e w6 ⟨rfl, rfl⟩
            go_wp2_with fail
            refine (waiting_none _).mono ?_
            rintro e w6 ⟨rfl, rfl⟩
            go_wp2_with fail
            go_ret
            exact ⟨rfl, HM.out⟩
    | false =>
      go_wp2_with fail
      go_loopg [5, 7] xs.length (fun g nv iv wr => ∃ (k a : Nat) (N : Nm.Net), g = xs.length - k ∧ k ≤ xs.length ∧ iv = .int .i64 (k : Nat) ∧ nv = .pointer (some ⟨a, 0, none⟩) ∧ Hid (Pair w wr a N r N [] ∧ N.cuts ≤ k))
      case atStart => exact ⟨0, a, Nm.new, rfl, Nat.zero_le _, rfl, rfl, Lib.hid ⟨H4.out, Nat.le_refl _⟩⟩
      case round =>
        obtain ⟨k, a1, N, rfl, hk, rfl, rfl, HK⟩ := hrel
        clear H3 H4
        by_cases hlt : k < xs.length
        · have i1 : (k : Int) < (xs.length : Int) := by omega
          have i2 : (0 : Int) ≤ (k : Int) := by omega
          obtain ⟨A, rfl, c0, c1, c2, c3, c4, c5, hok⟩ := HX.out.at HK.out.1.below hlt
          have HOK := Lib.hid hok
          have hcl : ∀ W, Below w.heap.size w W → _ := fun W hW => HX.out.at hW hlt
          have HCL := Lib.hid hcl
          have HP := Lib.hid HK.out.1
          have hcn := HK.out.2
          have hcuts : N.cuts < 1000000 := by omega
          clear hok hcl HK
          generalize xs[k] = x at *
          obtain ⟨ac, ⟨pf, pt, pd⟩, ai, on⟩ := x
          try simp only at c0 c1 c2 c3 c4 c5
          have hfin : Hid (∀ (M : Nm.Net) (W : World) (b : Nat), Pair w W b (Nm.act N ⟨ac, ⟨pf, pt, pd⟩, ai, on⟩) r (Nm.act N ⟨ac, ⟨pf, pt, pd⟩, ai, on⟩) [] → (Nm.act N ⟨ac, ⟨pf, pt, pd⟩, ai, on⟩).cuts ≤ k + 1) := Lib.hid fun _ _ _ _ => Nat.le_trans (Nm.act_cuts _ _) (by omega)
          by_cases h5 : ac = 5
          · subst h5
            go_wp2_with fail
            refine (twin_p HP.out).mono ?_
            rintro e w5 ⟨t, rfl, h5⟩
            have H5 := Lib.hid h5
            clear h5 c0 c1 c2 c3 c4 c5
            obtain ⟨A', eA, c0, c1, c2, c3, c4, c5, -⟩ := HCL.out _ H5.out.pair.below
            cases eA
            try simp only at c0 c1 c2 c3 c4 c5
            go_wp2_with fail
            refine (lose_t H5.out ai HOK.out.i).mono ?_
            rintro e w6 ⟨rfl, h6⟩
            have H6 := Lib.hid h6
            have H6d := Lib.hid (h6.same (Below.refl _ w6).drew)
            clear h6 c0 c1 c2 c3 c4 c5
            obtain ⟨A', eA, c0, c1, c2, c3, c4, c5, -⟩ := HCL.out _ H6.out.pair.below
            cases eA
            try simp only at c0 c1 c2 c3 c4 c5
            have hcl6 : (Nm.lose N ai).2.cuts < 1000000 := by unfold Nm.lose Nm.drop; split <;> exact hcuts
            go_wp2_with fail
            go_region_law (go_simp; go_at_call 16; refine (cut_t H6d.out pf pt true HOK.out.p.f HOK.out.p.t hcl6).mono ?_; rintro e w7 ⟨rfl, h7⟩)
            all_goals
              have H7 := Lib.hid h7
              clear h7 c0 c1 c2 c3 c4 c5
              obtain ⟨A', eA, c0, c1, c2, c3, c4, c5, -⟩ := HCL.out _ H7.out.pair.below
              cases eA
              try simp only at c0 c1 c2 c3 c4 c5
              go_wp2_with fail
              refine (send_t H7.out pf pt pd HOK.out.p.f HOK.out.p.t HOK.out.p.d).mono ?_
              rintro e w8 ⟨c, rfl, h8⟩
              have H8 := Lib.hid h8
              clear h8 c0 c1 c2 c3 c4 c5
              obtain ⟨A', eA, c0, c1, c2, c3, c4, c5, -⟩ := HCL.out _ H8.out.below
              cases eA
              try simp only at c0 c1 c2 c3 c4 c5
              go_wp2_with fail
              refine (both_any H8.out ⟨5, ⟨pf, pt, pd⟩, ai, on⟩ HOK.out hcuts).mono ?_
              rintro e w9 ⟨rfl, h9⟩
              rw [act_five] at h9
              have H9 := Lib.hid h9
              clear h9
              obtain ⟨n, hn⟩ : ∃ n : Int, (N.row.length : Int) = n := ⟨_, rfl⟩
              have HN := Lib.hid hn
              go_wp2_with fail
              refine (waiting_p H9.out HN.out).mono ?_
              rintro e w10 ⟨rfl, rfl⟩
              go_wp2_with fail
              refine (rwaiting_p H9.out HN.out).mono ?_
              rintro e w10 ⟨rfl, rfl⟩
              go_wp2_with fail
              go_roundg (xs.length - (k + 1))
              case measure => omega
              case rel => exact ⟨k + 1, t, N, rfl, by omega, by go_num, rfl, Lib.hid ⟨H9.out, by omega⟩⟩
          · have d5 : (ac == 5) = false := by rw [beq_eq_false_iff_ne]; exact h5
            clear h5
            go_wp2_with fail
            refine (both_any HP.out ⟨ac, ⟨pf, pt, pd⟩, ai, on⟩ HOK.out hcuts).mono ?_
            rintro e w5 ⟨rfl, h5⟩
            generalize hM : Nm.act N ⟨ac, ⟨pf, pt, pd⟩, ai, on⟩ = M at *
            have hMc : M.cuts ≤ k + 1 := by rw [← hM]; exact Nat.le_trans (Nm.act_cuts _ _) (by omega)
            have H5 := Lib.hid h5
            have HMC := Lib.hid hMc
            clear hM hMc h5
            obtain ⟨n, hn⟩ : ∃ n : Int, (M.row.length : Int) = n := ⟨_, rfl⟩
            have HN := Lib.hid hn
            go_wp2_with fail
            refine (waiting_p H5.out HN.out).mono ?_
            rintro e w6 ⟨rfl, rfl⟩
            go_wp2_with fail
            refine (rwaiting_p H5.out HN.out).mono ?_
            rintro e w6 ⟨rfl, rfl⟩
            go_wp2_with fail
            go_roundg (xs.length - (k + 1))
            case measure => omega
            case rel => exact ⟨k + 1, a1, M, rfl, by omega, by go_num, rfl, Lib.hid ⟨H5.out, HMC.out⟩⟩
        · obtain rfl : k = xs.length := by omega
          have i1 : ¬ (xs.length : Int) < (xs.length : Int) := by omega
          have HP := Lib.hid HK.out.1
          have hcuts : N.cuts ≤ 200 := Nat.le_trans HK.out.2 hsm
          clear HK hg
          have hg := pkGuard
          go_wp2_with fail
          go_loopg [] N.row.length (fun g wr => ∃ M : Nm.Net, g = M.row.length ∧ M.cuts ≤ 200 ∧ Hid (Pair w wr a1 M r M []))
          case atStart => exact ⟨N, rfl, hcuts, HP⟩
          case round =>
            obtain ⟨M, rfl, hM, HM⟩ := hrel
            clear HP hcuts
            obtain ⟨n, hn⟩ : ∃ n : Nat, M.row.length = n := ⟨_, rfl⟩
            have HN := Lib.hid (show (M.row.length : Int) = (n : Int) by rw [hn])
            by_cases h0 : n = 0
            · subst h0
              go_wp2_with fail
              refine (rwaiting_p HM.out HN.out).mono ?_
              rintro e w6 ⟨rfl, rfl⟩
              go_wp2_with fail
              refine (waiting_p HM.out HN.out).mono ?_
              rintro e w6 ⟨rfl, rfl⟩
              have hB := HM.out.below
              go_wp2_with fail
              go_ret
              exact ⟨rfl, hB⟩
            · have j1 : (0 : Int) < (n : Int) := by omega
              have hlen : (Nm.come M 0).2.2.row.length + 1 = n ∧ (Nm.come M 0).2.2.cuts ≤ 200 := by
                have hne : M.row ≠ [] := fun e => h0 (by rw [← hn, e]; rfl)
                rw [← hn]
                rcases Nm.come_cases 0 hne with e | e <;> rw [e] <;> exact ⟨Nm.length_drop 0 hne, hM⟩
              obtain ⟨⟨⟨f, t, d⟩, c, N'⟩, hs⟩ : ∃ y, Nm.come M 0 = y := ⟨_, rfl⟩
              rw [hs] at hlen
              have HS := Lib.hid hs
              have hM' : M.cuts ≤ 1000000 := by omega
              have hee := pk_eq_lit2 f t d
              clear hs
              go_wp2_with fail
              refine (rwaiting_p HM.out HN.out).mono ?_
              rintro e w6 ⟨rfl, rfl⟩
              go_wp2_with fail
              refine (come_p HM.out 0 ⟨by decide, by decide⟩ HS.out).mono ?_
              rintro e w2 ⟨rfl, h2⟩
              obtain ⟨W2, hW2⟩ : ∃ W2, w2.alloc (.cells #[.int .i64 f, .int .i64 t, .string d] 23) = W2 := ⟨_, rfl⟩
              obtain ⟨b2, hb2⟩ : ∃ b2, w2.heap.size = b2 := ⟨_, rfl⟩
              have H2 := Lib.hid (show Pair w W2 a1 N' r M [(b2, .cells #[.int .i64 f, .int .i64 t, .string d] 23 (0, 0))] from by rw [← hW2, ← hb2]; exact h2.alloc _)
              clear h2
              go_wp2_with fail
              refine (rcome_p H2.out 0 ⟨by decide, by decide⟩ hM' HS.out).mono ?_
              rintro e w3 ⟨rfl, h3⟩
              obtain ⟨W3, hW3⟩ : ∃ W3, w3.alloc (.cells #[.int .i64 f, .int .i64 t, .string d] 23) = W3 := ⟨_, rfl⟩
              obtain ⟨b3, hb3⟩ : ∃ b3, w3.heap.size = b3 := ⟨_, rfl⟩
              have h4 : Pair w W3 a1 N' r N' [(b3, .cells #[.int .i64 f, .int .i64 t, .string d] 23 (0, 0)), (b2, .cells #[.int .i64 f, .int .i64 t, .string d] 23 (0, 0))] := by rw [← hW3, ← hb3]; exact h3.alloc _
              clear h3 hW2 hb2
              obtain ⟨y0, y1, y2, -⟩ := cells3 (h4.box _ List.mem_cons_self)
              obtain ⟨z0, z1, z2, -⟩ := cells3 (h4.box _ (List.mem_cons_of_mem _ List.mem_cons_self))
              simp only at y0 y1 y2 z0 z1 z2
              have H4 := Lib.hid (h4.sub (B' := []) fun _ h => nomatch h)
              clear h4
              obtain ⟨m, hm⟩ : ∃ m : Int, (N'.row.length : Int) = m := ⟨_, rfl⟩
              have HM4 := Lib.hid hm
              clear hm
              go_wp2_with fail
              refine (waiting_p H4.out HM4.out).mono ?_
              rintro e w6 ⟨rfl, rfl⟩
              go_wp2_with fail
              refine (rwaiting_p H4.out HM4.out).mono ?_
              rintro e w6 ⟨rfl, rfl⟩
              go_wp2_with fail
              go_roundg N'.row.length
              case measure => have := hlen.1; omega
              case rel => exact ⟨N', rfl, hlen.2, H4⟩
end Go.Proofs.Ytcfhfamdcdkgjaa
