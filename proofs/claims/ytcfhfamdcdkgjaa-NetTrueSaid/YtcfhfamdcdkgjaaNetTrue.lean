/-
  Walks over the laws of package net: NetTrue. No condition.
-/
import Derived.Test.YtcfhfamdcdkgjaaNetGreat
import Derived.Test.YtcfhfamdcdkgjaaNetTrueMath
import Derived.Test.YtcfhfamdcdkgjaaNetRow
import Derived.Deep.CutBlock
import Derived.Deep.LoopGhost
namespace Go.Proofs.Ytcfhfamdcdkgjaa
open Go.RowKit Go.Maps

theorem tcome_na {w0 wk w : World} {a t : Nat} {N M M' : Nm.Net} {K T : Nat → Prop} (h : NAside w0 wk w a N fun k => K k ∨ T k) (ht : Net wk t M T) (hT : ∀ k, T k → w0.heap.size ≤ k) (hKT : ∀ k, K k → ¬ T k) (i : Int) (hi : Nm.Wf i) {f t' : Int} {d : ByteArray} {c : Bool} (e : Nm.come M i = (⟨f, t', d⟩, c, M')) :
    Calls Try.prog 12 #[.pointer (some ⟨t, 0, none⟩), .int .i64 i] w fun e w' => e = .returned (.tuple #[.agg #[.int .i64 f, .int .i64 t', .string d], .bool c]) ∧ NAside w0 wk w' a N K := by
  obtain ⟨S, h1, h2, h3⟩ := h.ex
  have hn : Net w t M T := by
    obtain ⟨rv, mv, hR, hS⟩ := ht
    exact ⟨rv, mv, hR.same hS fun k hk _ => h.kept k (.inr hk), hS⟩
  have := come_net hn i hi
  rw [e] at this
  exact this.mono fun _ _ ⟨he, _, hu⟩ => ⟨he, ⟨⟨S, h1.stay hu fun k hk e => h3 k hk (.inr e), fun k hk => ⟨(h2 k hk).1, Nat.lt_of_lt_of_le (h2 k hk).2 hu.size⟩, fun k hk e => h3 k hk (.inl e)⟩,
    fun k hk => Nat.lt_of_lt_of_le (h.lt k (.inl hk)) hu.size, fun k hk => (hu.block k (h.lt k (.inl hk)) (hKT k hk)).trans (h.kept k (.inl hk)), h.below.trans (hu.below h.below.size hT)⟩⟩

set_option maxRecDepth 100000 in
set_option maxHeartbeats 16000000 in
theorem netTrue_any (p : Option Addr) (cap : Nat) (xs : List NAct) (w : World) (hxs : NActs w p xs) :
    Calls Try.prog 6 #[.slice p xs.length cap] w fun e w' => e = .returned (.bool true) ∧ Below w.heap.size w w' := by
  have HX := Lib.hid hxs
  have hg := pkGuard
  go_enter Try.func6, Try.ntmps6
  go_wp2_with fail
  refine (netAwake_any _).mono ?_
  rintro e w1 ⟨rfl, hb1⟩
  go_wp2_with fail
  refine (ngreat_any p cap xs w1 (hxs.below hb1)).mono ?_
  rintro e w2 ⟨bb, rfl, hb2, hsm⟩
  have hb := hb1.trans (hb2.mono hb1.size)
  clear hb1 hb2 hxs
  cases bb with
  | true =>
    go_wp2
    go_ret
    exact ⟨rfl, hb⟩
  | false =>
    have hsm := hsm rfl
    go_wp2_with fail
    refine (new_in (B := []) hb (fun _ h => nomatch h)).mono ?_
    rintro e w3 ⟨a, rfl, h3⟩
    have H3 := Lib.hid h3.nhead
    clear h3 hb
    go_wp2_with fail
    go_loopg [4, 5] xs.length (fun g sv iv wr => ∃ (k : Nat) (N : Nm.Net) (L : List Nm.Pk) (pv : Option Addr) (cv : Nat), g = xs.length - k ∧ k ≤ xs.length ∧ iv = .int .i64 (k : Nat) ∧ sv = .slice pv L.length cv ∧ L.length ≤ k ∧ Hid (NHead w wr a N (.slice pv L.length cv) L ∧ L.Perm N.row ∧ N.cuts ≤ k))
    case atStart => exact ⟨0, Nm.new, [], none, 0, rfl, Nat.zero_le _, rfl, rfl, Nat.le_refl _, Lib.hid ⟨H3.out, List.Perm.refl _, Nat.le_refl _⟩⟩
    case round =>
      obtain ⟨k, N, L, pv, cv, rfl, hk, rfl, rfl, hL, HK⟩ := hrel
      by_cases hlt : k < xs.length
      · have i1 : (k : Int) < (xs.length : Int) := by omega
        have i2 : (0 : Int) ≤ (k : Int) := by omega
        obtain ⟨A, rfl, c0, c1, c2, c3, c4, c5, hok⟩ := HX.out.at HK.out.1.aside.below hlt
        have HOK := Lib.hid hok
        clear hok
        generalize xs[k] = x at *
        go_wp2_with fail
        obtain ⟨W, hW⟩ : ∃ W, wr.alloc (boxN x) = W := ⟨_, rfl⟩
        have M0 : NMid w W a N (.slice pv L.length cv) L wr.heap.size (boxN x) := by rw [← hW]; exact HK.out.1.box _
        have HM := Lib.hid M0
        have HP := Lib.hid HK.out.2.1
        have HC := Lib.hid HK.out.2.2
        have HLN := Lib.hid (show (N.row.length : Int) = (L.length : Int) by rw [HK.out.2.1.length_eq])
        obtain ⟨b, hb⟩ : ∃ b, wr.heap.size = b := ⟨_, rfl⟩
        rw [hb] at HM
        unfold boxN at hW
        rw [hW]
        refine (waiting_na HM.out.aside HLN.out).mono ?_
        rintro e w5 ⟨rfl, rfl⟩
        obtain ⟨x0, x1, x2, x3, x4, x5⟩ := HM.out.cells
        have hL2 : L.length < 400 := by omega
        rw [hb]
        clear M0 hW hb c0 c1 c2 c3 c4 c5 HK
        have hd := HOK.out.p.d
        unfold maxLen at hd
        go_upto_block 2 with fail
        go_cut [4] from 21 to 175 (fun sv wc => ∃ (N' : Nm.Net) (L' : List Nm.Pk) (pv' : Option Addr) (cv' : Nat), sv = .slice pv' L'.length cv' ∧ L'.length ≤ k + 1 ∧ Hid (NMid w wc a N' (.slice pv' L'.length cv') L' b (boxN x) ∧ L'.Perm N'.row ∧ N'.cuts ≤ k + 1))
        case first =>
          have hlen := HP.out.length_eq
          have hact : x.act = 0 ∨ x.act = 1 ∨ x.act = 3 ∨ x.act = 4 ∨ (x.act ≠ 0 ∧ x.act ≠ 1 ∧ x.act ≠ 3 ∧ x.act ≠ 4) := by omega
          have w1 : IntKind.i64.wrap ((L.length : Int) - 1) = (L.length : Int) - 1 := IntWalk.i64_in _ (by omega)
          have w2 : IntKind.i64.wrap ((L.length : Int) + 1) = (L.length : Int) + 1 := IntWalk.i64_in _ (by omega)
          rcases hact with hact | hact | hact | hact | ⟨n0, n1, n3, n4⟩
          · skip
            have hsc := Nm.send_cases (N := N) x.p (by omega)
            clear hlen w1 w2
            rcases hsc with ⟨h1, h2⟩ | ⟨h1, h2⟩ | ⟨h1, h2⟩
            · have d1 : decide ((x.p.d.size : Int) ≤ 8192) = false := decide_eq_false (by omega)
              have HS := Lib.hid h2
              clear h1 h2
              go_wp2_with fail
              refine (send_na HM.out.aside x.p.f x.p.t x.p.d HOK.out.p.f HOK.out.p.t HOK.out.p.d HS.out).mono ?_
              rintro e w5 ⟨rfl, h5⟩
              have H5 := Lib.hid (HM.out.of h5)
              clear h5 x0 x1 x2 x3 x4 x5
              obtain ⟨x0, x1, x2, x3, x4, x5⟩ := H5.out.cells
              go_wp2_with fail
              refine (waiting_na H5.out.aside HLN.out).mono ?_
              rintro e w6 ⟨rfl, rfl⟩
              go_wp2_with fail
              go_meet
              case rel => exact ⟨N, L, pv, cv, rfl, by omega, Lib.hid ⟨H5.out, HP.out, Nat.le_succ_of_le HC.out⟩⟩
            · have d1 : decide ((x.p.d.size : Int) ≤ 8192) = true := decide_eq_true (by omega)
              have HS := Lib.hid h2
              clear h1 h2
              go_wp2_with fail
              refine (send_na HM.out.aside x.p.f x.p.t x.p.d HOK.out.p.f HOK.out.p.t HOK.out.p.d HS.out).mono ?_
              rintro e w5 ⟨rfl, h5⟩
              have H5 := Lib.hid (HM.out.of h5)
              clear h5 x0 x1 x2 x3 x4 x5
              obtain ⟨x0, x1, x2, x3, x4, x5⟩ := H5.out.cells
              go_wp2_with fail
              refine (waiting_na H5.out.aside HLN.out).mono ?_
              rintro e w6 ⟨rfl, rfl⟩
              go_wp2_with fail
              go_meet
              case rel => exact ⟨N, L, pv, cv, rfl, by omega, Lib.hid ⟨H5.out, HP.out, Nat.le_succ_of_le HC.out⟩⟩
            · have d1 : decide ((x.p.d.size : Int) ≤ 8192) = true := decide_eq_true (by omega)
              have HS := Lib.hid h2
              have HL5 := Lib.hid (show (({ N with row := N.row ++ [x.p] } : Nm.Net).row.length : Int) = (L.length : Int) + 1 from by show ((N.row ++ [x.p]).length : Int) = _; rw [List.length_append]; have := HLN.out; simp; omega)
              have d2 : (L.length : Int) < (L.length : Int) + 1 := by omega
              clear h1 h2
              go_wp2_with fail
              refine (send_na HM.out.aside x.p.f x.p.t x.p.d HOK.out.p.f HOK.out.p.t HOK.out.p.d HS.out).mono ?_
              rintro e w5 ⟨rfl, h5⟩
              have H5 := Lib.hid (HM.out.of h5)
              clear h5 x0 x1 x2 x3 x4 x5
              obtain ⟨x0, x1, x2, x3, x4, x5⟩ := H5.out.cells
              go_wp2_with fail
              refine (waiting_na H5.out.aside HL5.out).mono ?_
              rintro e w6 ⟨rfl, rfl⟩
              obtain ⟨pv', cv', w7, hrun, h7⟩ := H5.out.append x.p.f x.p.t x.p.d (by omega) 43
              have H7 := Lib.hid h7
              clear h7
              go_wp2_with (at_builtin; refine Lib.wpList_append_run _ rfl (.tmp 52) (.tmp 55) _ _ rfl _ _ rfl rfl _ _ hrun ?_)
              go_meet
              case rel => exact ⟨{ N with row := N.row ++ [x.p] }, L ++ [x.p], pv', cv', by rw [List.length_append]; rfl, by simp; omega, Lib.hid ⟨H7.out, HP.out.append_right [x.p], Nat.le_succ_of_le HC.out⟩⟩
          · by_cases h0 : L.length = 0
            · skip
              have hr : N.row = [] := List.length_eq_zero_iff.1 (by omega)
              obtain rfl : L = [] := List.length_eq_zero_iff.1 h0
              have HE := Lib.hid (Nm.come_empty x.i hr).1
              have HL0 := Lib.hid (show (N.row.length : Int) = 0 by rw [hr]; rfl)
              have hee := pk_eq_lit 0 0 ⟨#[]⟩
              clear hr h0 hlen w1 w2
              go_wp2_with fail
              refine (come_na HM.out.aside x.i HOK.out.i (f := 0) (t := 0) (d := ⟨#[]⟩) (b := false) (N' := N) HE.out).mono ?_
              rintro e w5 ⟨rfl, h5⟩
              have H5 := Lib.hid ((HM.out.of h5).alloc (.cells #[.int .i64 0, .int .i64 0, .string ⟨#[]⟩] 23))
              clear h5 x0 x1 x2 x3 x4 x5
              go_wp2_with fail
              refine (waiting_na H5.out.aside HL0.out).mono ?_
              rintro e w6 ⟨rfl, rfl⟩
              go_wp2_with fail
              go_roundg (xs.length - (k + 1))
              case measure => omega
              case rel => exact ⟨k + 1, N, [], pv, cv, rfl, by omega, rfl, rfl, Nat.zero_le _, Lib.hid ⟨H5.out.head, HP.out, Nat.le_succ_of_le HC.out⟩⟩
            · have hne : N.row ≠ [] := fun e => h0 (by rw [hlen, e]; rfl)
              have e1 : (0 : Int) < (L.length : Int) := by omega
              have HLD := Lib.hid (show ((Nm.drop N x.i).row.length : Int) = (L.length : Int) - 1 from by have := Nm.length_drop x.i hne; omega)
              rcases Nm.come_cases x.i hne with hcm | hcm
              · skip
                have HCM := Lib.hid hcm
                have hee := pk_eq_lit 0 0 ⟨#[]⟩
                clear hcm hlen hne
                go_wp2_with fail
                refine (come_na HM.out.aside x.i HOK.out.i (f := 0) (t := 0) (d := ⟨#[]⟩) HCM.out).mono ?_
                rintro e w5 ⟨rfl, h5⟩
                have H5 := Lib.hid ((HM.out.of h5).alloc (.cells #[.int .i64 0, .int .i64 0, .string ⟨#[]⟩] 23))
                clear h5 x0 x1 x2 x3 x4 x5
                go_wp2_with fail
                refine (waiting_na H5.out.aside HLD.out).mono ?_
                rintro e w6 ⟨rfl, rfl⟩
                have hB := H5.out.aside.below
                go_wp2_with fail
                go_ret
                exact ⟨rfl, hB⟩
              · have hmem := HP.out.mem_iff.2 (Nm.at_mem x.i hne)
                obtain ⟨m, hm, hmq, hbef⟩ := Nm.first_of hmem
                have hpm : (L.eraseIdx m).Perm (Nm.drop N x.i).row := Nm.perm_come HP.out hm (Nm.place_lt x.i (Nm.pos_of_ne hne)) (hmq.trans (Nm.at_eq x.i hne))
                have HPM := Lib.hid hpm
                have HBEF := Lib.hid hbef
                have HMQ := Lib.hid hmq
                have HCM := Lib.hid hcm
                clear hmem hmq hbef hpm hcm hne hlen
                generalize Nm.at_ N x.i = q at *
                obtain ⟨f, t, d⟩ := q
                go_wp2_with fail
                refine (come_na HM.out.aside x.i HOK.out.i HCM.out).mono ?_
                rintro e w5 ⟨rfl, h5⟩
                obtain ⟨w6, hw6⟩ : ∃ w6, w5.alloc (.cells #[.int .i64 f, .int .i64 t, .string d] 23) = w6 := ⟨_, rfl⟩
                obtain ⟨z, hz⟩ : ∃ z, w5.heap.size = z := ⟨_, rfl⟩
                have H6 := Lib.hid (show NMid w w6 a (Nm.drop N x.i) (.slice pv L.length cv) L b (boxN x) from by rw [← hw6]; exact (HM.out.of h5).alloc _)
                have HZ := Lib.hid (show w6.heap[z]? = some (.cells #[.int .i64 f, .int .i64 t, .string d] 23 (0, 0)) from by rw [← hw6, ← hz]; exact heap_alloc_new w5 _)
                clear h5 x0 x1 x2 x3 x4 x5
                go_wp2_with fail
                refine (waiting_na H6.out.aside HLD.out).mono ?_
                rintro e w7 ⟨rfl, rfl⟩
                clear hw6 hz
                go_wp2_with fail
                go_loopw [11] (fun iv wq => ∃ j : Nat, j ≤ m ∧ iv = .int .i64 (j : Nat) ∧ Hid (Below w6.heap.size w6 wq)) (fun iv _ => m - (intOf iv).toNat)
                case atStart => exact ⟨0, Nat.zero_le _, rfl, Lib.hid (Below.refl _ _)⟩
                case round =>
                  obtain ⟨j, hj, rfl, HB⟩ := hrel
                  have M8 := Lib.hid (H6.out.same HB.out)
                  have hz8 := (HB.out.block _ (Array.getElem?_eq_some_iff.1 HZ.out).1).trans HZ.out
                  obtain ⟨z0, z1, z2, -⟩ := cells3 hz8
                  have jl : j < L.length := by omega
                  obtain ⟨g, cg, eg, y0, y1, y2⟩ := cells_row M8.out.row jl
                  cases eg
                  have j1 : (j : Int) < (L.length : Int) := by omega
                  have j2 : (0 : Int) ≤ (j : Int) := by omega
                  by_cases hjm : j < m
                  · have hne := HBEF.out j jl hjm
                    generalize L[j] = x' at *
                    obtain ⟨f', t', d'⟩ := x'
                    have hee : ∀ W, (Op.equalIn 10000 23 (.agg #[.int .i64 f', .int .i64 t', .string d']) (.agg #[.int .i64 f, .int .i64 t, .string d])).run Try.prog W = .ok false W := fun W => by
                      have h := pk_eq ⟨f', t', d'⟩ ⟨f, t, d⟩ W
                      rw [Nm.same_ne hne] at h; exact h
                    have HHE := Lib.hid hne
                    clear hne hz8
                    go_wp2_with fail
                    go_quiet (fail)
                    go_wp2_with fail
                    go_roundw
                    case rel => exact ⟨j + 1, by omega, by go_num, Lib.hid (below_drewN HB.out _)⟩
                    case measure => simp [intOf]; omega
                  · obtain rfl : j = m := by omega
                    rw [HMQ.out] at y0 y1 y2
                    have hee := pk_eq_lit f t d
                    have dm : ((j : Int) == (L.length : Int)) = false := by rw [beq_eq_false_iff_ne]; omega
                    simp only at y0 y1 y2
                    clear hz8 hjm
                    go_wp2_with fail
                    go_quiet (fail)
                    go_wp2_with fail
                    obtain ⟨W6, hW6⟩ : ∃ W6, wr.drewN nq = W6 := ⟨_, rfl⟩
                    have H7 := Lib.hid (show NMid w W6 a (Nm.drop N x.i) (.slice (some ⟨g, 0, none⟩) L.length cv) L b (boxN x) from by rw [← hW6]; exact M8.out.drewN _)
                    rw [hW6]
                    obtain ⟨p1, cap1, e9, hcap1, hcap2⟩ := row_shape H7.out.row
                    cases e9
                    unfold maxLen at hcap2
                    clear y0 y1 y2 z0 z1 z2 M8 hW6 hee HMQ HCM HZ H6 HB HBEF dm
                    have k0 : (j : Int) ≤ (cv : Int) := by omega
                    have k0' : j ≤ cv := by omega
                    have k3' : (L.length : Int) ≤ (cv : Int) := by omega
                    obtain ⟨i, hi⟩ : ∃ i, i = j + 1 := ⟨_, rfl⟩
                    have e2 : (j : Int) + 1 = (i : Int) := by omega
                    have e3 : IntKind.i64.wrap (i : Int) = (i : Int) := IntWalk.i64_in _ (by omega)
                    have k1 : (0 : Int) ≤ (i : Int) := by omega
                    have k2 : (i : Int) ≤ (L.length : Int) := by omega
                    have k3 : i ≤ L.length := by omega
                    have k4 : (i : Int) ≤ (cv : Int) := by omega
                    obtain ⟨A2, hA2, hA3⟩ : ∃ A2 : Addr, (if cv = i then some (⟨g, 0, none⟩ : Addr) else some ⟨g, i * 3, none⟩) = some A2 ∧ (L.length - i = 0 ∨ A2 = ⟨g, i * 3, none⟩) := by
                      by_cases h : cv = i
                      · exact ⟨_, if_pos h, .inl (by omega)⟩
                      · exact ⟨_, if_neg h, .inr rfl⟩
                    obtain ⟨p8, c8, W8, hrun8, p9, c9, W9, hrun9, h9⟩ := H7.out.remake (m := j) (by omega) hi (by omega) A2 hA3 cv (cv - i) 43
                    have H9 := Lib.hid h9
                    clear h9 hi hA3
                    go_region_law (first
                      | (refine step_append_run rfl (.tmp 112) (.tmp 115) 43 43 rfl _ _ (by first | rfl | simp [Act.eval, Act.put]) (by first | rfl | simp [Act.eval, Act.put]) _ _ hrun8 ?_)
                      | (refine step_append_run rfl (.tmp 116) (.tmp 120) 43 43 rfl _ _ (by first | rfl | simp [Act.eval, Act.put]) (by first | rfl | simp [Act.eval, Act.put]) _ _ hrun9 ?_))
                    all_goals
                      go_wp2_with fail
                      go_meet
                      case rel => exact ⟨Nm.drop N x.i, L.eraseIdx j, p9, c9, rfl, by rw [List.length_eraseIdx]; split <;> omega, Lib.hid ⟨H9.out, HPM.out, Nat.le_succ_of_le HC.out⟩⟩
          · by_cases h0 : L.length = 0
            · skip
              have hr : N.row = [] := List.length_eq_zero_iff.1 (by omega)
              obtain rfl : L = [] := List.length_eq_zero_iff.1 h0
              have HE := Lib.hid (Nm.come_empty x.i hr).2
              have HL0 := Lib.hid (show (N.row.length : Int) = 0 by rw [hr]; rfl)
              clear hr h0 hlen w1 w2
              go_wp2_with fail
              refine (twin_na HM.out.aside).mono ?_
              rintro e w5 ⟨t, rfl, ht, hk5, h5⟩
              have y4 : w5.cell? ⟨b, 4, none⟩ = some (.int .i64 x.i) := (World.cell?_of_block (hk5 b (.inr rfl))).trans x4
              have HK5 := Lib.hid hk5
              clear ht hk5 x0 x1 x2 x3 x4 x5
              go_wp2_with fail
              refine (dup_na h5 x.i HOK.out.i HE.out).mono ?_
              rintro e w6 ⟨rfl, h6⟩
              have H6 := Lib.hid (HM.out.of (h6.back (W := W) (fun k hk => .inl hk) fun k hk => HK5.out k hk))
              clear h5 h6 y4
              go_wp2_with fail
              refine (waiting_na H6.out.aside HL0.out).mono ?_
              rintro e w7 ⟨rfl, rfl⟩
              go_wp2_with fail
              go_roundg (xs.length - (k + 1))
              case measure => omega
              case rel => exact ⟨k + 1, N, [], pv, cv, rfl, by omega, rfl, rfl, Nat.zero_le _, Lib.hid ⟨H6.out.head, HP.out, Nat.le_succ_of_le HC.out⟩⟩
            · have hne : N.row ≠ [] := fun e => h0 (by rw [hlen, e]; rfl)
              have e1 : (0 : Int) < (L.length : Int) := by omega
              have HDP := Lib.hid (Nm.dup_full x.i hne (by omega))
              have HL5 := Lib.hid (show (({ N with row := N.row ++ [Nm.at_ N x.i] } : Nm.Net).row.length : Int) = (L.length : Int) + 1 from by show ((N.row ++ [Nm.at_ N x.i]).length : Int) = _; rw [List.length_append]; have := HLN.out; simp; omega)
              have HPD := Lib.hid (HP.out.append_right [Nm.at_ N x.i])
              have hcc := Nm.come_cases x.i hne
              clear hne hlen
              go_wp2_with fail
              refine (twin_na HM.out.aside).mono ?_
              rintro e w5 ⟨t, rfl, ht, hk5, h5⟩
              have HT := Lib.hid ht
              have HK5 := Lib.hid hk5
              have y4 : w5.cell? ⟨b, 4, none⟩ = some (.int .i64 x.i) := (World.cell?_of_block (hk5 b (.inr rfl))).trans x4
              clear ht hk5 x0 x1 x2 x3 x4 x5
              go_wp2_with fail
              refine (dup_na h5 x.i HOK.out.i HDP.out).mono ?_
              rintro e w6 ⟨rfl, h6⟩
              have y6 : w6.cell? ⟨b, 4, none⟩ = some (.int .i64 x.i) := (World.cell?_of_block (h6.kept b (.inl (.inr rfl)))).trans y4
              have H6 := Lib.hid h6
              clear h5 h6 y4
              go_wp2_with fail
              refine (waiting_na H6.out HL5.out).mono ?_
              rintro e w7 ⟨rfl, rfl⟩
              have hT : ∀ k, (W.heap.size ≤ k ∧ k < w5.heap.size) → w.heap.size ≤ k := fun k hk => Nat.le_trans HM.out.aside.below.size hk.1
              have hKT : ∀ k, (k ∈ rowBlk (.slice pv L.length cv) ∨ k = b) → ¬ (W.heap.size ≤ k ∧ k < w5.heap.size) := fun k hk e => by have := HM.out.aside.lt k hk; omega
              have HTT := Lib.hid (And.intro hT hKT)
              clear hT hKT
              rcases hcc with hcm | hcm
              · skip
                have HCM := Lib.hid hcm
                clear hcm
                go_wp2_with fail
                refine (tcome_na H6.out HT.out HTT.out.1 HTT.out.2 x.i HOK.out.i (f := 0) (t' := 0) (d := ⟨#[]⟩) HCM.out).mono ?_
                rintro e w7 ⟨rfl, h7⟩
                have hB := (h7.same ((Below.refl _ w7).alloc (Nat.le_refl _) (.cells #[.int .i64 0, .int .i64 0, .string ⟨#[]⟩] 23))).below
                clear h7
                go_wp2_with fail
                go_ret
                exact ⟨rfl, hB⟩
              · skip
                have HCM := Lib.hid hcm
                clear hcm
                generalize Nm.at_ N x.i = q at *
                obtain ⟨f, t', d⟩ := q
                go_wp2_with fail
                refine (tcome_na H6.out HT.out HTT.out.1 HTT.out.2 x.i HOK.out.i HCM.out).mono ?_
                rintro e w7 ⟨rfl, h7⟩
                obtain ⟨w8, hw8⟩ : ∃ w8, w7.alloc (.cells #[.int .i64 f, .int .i64 t', .string d] 23) = w8 := ⟨_, rfl⟩
                obtain ⟨z, hz⟩ : ∃ z, w7.heap.size = z := ⟨_, rfl⟩
                have H8 := Lib.hid (show NMid w w8 a { N with row := N.row ++ [⟨f, t', d⟩] } (.slice pv L.length cv) L b (boxN x) from by rw [← hw8]; exact (HM.out.of (h7.back (W := W) (fun k hk => hk) fun k hk => HK5.out k hk)).alloc _)
                obtain ⟨z0, z1, z2, -⟩ := cells3 (show w8.heap[z]? = some (.cells #[.int .i64 f, .int .i64 t', .string d] 23 (0, 0)) from by rw [← hw8, ← hz]; exact heap_alloc_new w7 _)
                clear h7
                obtain ⟨pv', cv', w9, hrun, h9⟩ := H8.out.append f t' d (by omega) 43
                have H9 := Lib.hid h9
                clear h9
                go_wp2_with (at_builtin; refine Lib.wpList_append_run _ rfl (.tmp 155) (.tmp 157) _ _ rfl _ _ rfl rfl _ _ hrun ?_)
                go_meet
                case rel => exact ⟨{ N with row := N.row ++ [⟨f, t', d⟩] }, L ++ [⟨f, t', d⟩], pv', cv', by rw [List.length_append]; rfl, by simp; omega, Lib.hid ⟨H9.out, HPD.out, Nat.le_succ_of_le HC.out⟩⟩
          · skip
            clear hlen w1 w2
            go_wp2_with fail
            refine (cut_na HM.out.aside x.p.f x.p.t x.on HOK.out.p.f HOK.out.p.t (by have := HC.out; omega)).mono ?_
            rintro e w5 ⟨rfl, h5⟩
            have H5 := Lib.hid (HM.out.of h5)
            clear h5 x0 x1 x2 x3 x4 x5
            go_wp2_with fail
            go_meet
            case rel => exact ⟨Nm.cutTo N x.p.f x.p.t x.on, L, pv, cv, rfl, by omega, Lib.hid ⟨H5.out, HP.out, Nat.succ_le_succ HC.out⟩⟩
          · skip
            go_wp2_with fail
            go_meet
            case rel => exact ⟨N, L, pv, cv, rfl, by omega, Lib.hid ⟨HM.out, HP.out, Nat.le_succ_of_le HC.out⟩⟩
        case rest =>
          skip
          obtain ⟨N', L', pv', cv', rfl, hL3, HM2⟩ := hcut
          have HL6 := Lib.hid (show (N'.row.length : Int) = (L'.length : Int) by rw [HM2.out.2.1.length_eq])
          go_wp2_with fail
          refine (waiting_na HM2.out.1.aside HL6.out).mono ?_
          rintro e w6 ⟨rfl, rfl⟩
          go_wp2_with fail
          go_roundg (xs.length - (k + 1))
          case measure => omega
          case rel => exact ⟨k + 1, N', L', pv', cv', rfl, by omega, rfl, rfl, by omega, Lib.hid ⟨HM2.out.1.head, HM2.out.2.1, HM2.out.2.2⟩⟩
      · obtain rfl : k = xs.length := by omega
        have i1 : ¬ (xs.length : Int) < (xs.length : Int) := by omega
        go_wp2_with fail
        go_ret
        exact ⟨rfl, HK.out.1.aside.below⟩
end Go.Proofs.Ytcfhfamdcdkgjaa
