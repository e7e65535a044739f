/-
  Walks over the laws of package check: in a right schema every step but the last can be undone, and every name is found. Conditions: those in the theorems (the keywords' variable holds what the row lists).
-/
import Derived.Test.YtamkkdmbefekmaaGreatDoorCkFoundB
import Derived.Deep.RegionHeldLaw
set_option linter.unusedSimpArgs false
set_option linter.unusedVariables false
namespace Go.Proofs.YtamkkdmbefekmaaGreatDoor
open Go.RowKit
def sgaO (g : Ip.Sga) (p : Option Addr) (c : Nat) : Obj := .cells #[.string g.name, .string g.arg, .slice p g.steps.length c] 34 (0, 0)
def mthO (m : Ip.Mth) : Obj := .cells #[.string m.name, .string m.arg, .int .u8 (m.result : Nat), .string m.effect, .string m.undo] 39 (0, 0)
theorem below_five {B x : Nat} {w W : World} (h : Below B w W) (hx : B ≤ x) (a b c d e : Value) : Below B w (((((W.setCell ⟨x, 0, none⟩ a).setCell ⟨x, 1, none⟩ b).setCell ⟨x, 2, none⟩ c).setCell ⟨x, 3, none⟩ d).setCell ⟨x, 4, none⟩ e) := ((((h.setCell hx _).setCell hx _).setCell hx _).setCell hx _).setCell hx _
theorem below_three' {B x : Nat} {w W : World} (h : Below B w W) (hx : B ≤ x) (a b c : Value) : Below B w (((W.setCell ⟨x, 0, none⟩ a).setCell ⟨x, 1, none⟩ b).setCell ⟨x, 2, none⟩ c) := ((h.setCell hx _).setCell hx _).setCell hx _
theorem flds_set {W : World} {base z : Nat} {v : Value} {L : List Ip.Fld} (hin : ∀ f ∈ L, FldIn f ∧ ∀ x ∈ f.type, SoIn x) (h : RowIs kFld W base v L) (hz : z < base) {a b c : Value} : RoFld (((W.setCell ⟨z, 0, none⟩ a).setCell ⟨z, 1, none⟩ b).setCell ⟨z, 2, none⟩ c) v L :=
  flds_ro (h.keep okFld (Nat.le_refl _) fun j cs ty hj hc _ => (tn_three W a b c).block j (Array.getElem?_eq_some_iff.1 hc).1 (by omega)) hin
theorem cell_up {W : World} {a : Addr} {v : Value} (h : W.cell? a = some v) : ∀ o, (W.alloc o).cell? a = some v := fun o => ((tk_alloc W o).cell (tcell_block h)).trans h
set_option maxRecDepth 100000 in
set_option maxHeartbeats 100000000 in
theorem checkUndone_any {w : World} {sv : Value} {s : Ip.Sch} (h : RoSch w sv s) (hk : KwIs w) : Calls Tryz.prog 4 #[sv] w fun e w' => e = .returned (.bool true) ∧ Below w.heap.size w w' := by
  obtain ⟨p1, c1, p2, c2, p3, c3, rfl, hsn, hr, hs, hg, l1, l2, l3⟩ := sch_parts h
  obtain ⟨W0, hW0⟩ : ∃ W0, W0 = allocs w [schO s p1 c1 p2 c2 p3 c3] := ⟨_, rfl⟩
  have HX : Hid (∀ W, Below W0.heap.size W0 W → W.heap[w.heap.size]? = some (schO s p1 c1 p2 c2 p3 c3) ∧ Below w.heap.size w W) := Lib.hid (by subst hW0; exact fun W hW => ⟨allocs_box (i := 0) rfl hW, allocs_on hW⟩)
  have HS0 : Hid (W0.heap.size = w.heap.size + 1) := Lib.hid (by rw [hW0, allocs_size]; rfl)
  obtain ⟨b0, B0⟩ := HX.out W0 (Below.refl _ _)
  obtain ⟨x0, x1, x2, x3⟩ := cells4' b0
  have HB0 := Lib.hid B0
  have H := Lib.hid h
  have HR := Lib.hid hr
  have HG := Lib.hid hg
  have HWK : Hid (∀ W, Below w.heap.size w W → Calls Tryz.prog 12 #[] W fun e w' => e = .returned (.bool true) ∧ Below W.heap.size W w') := Lib.hid fun W hW => wakes_any W (kw_kp hk (Kp.of_below hW))
  have HK := Lib.hid hk
  clear h hk hr hs hg b0 B0 hsn
  simp only [allocs, schO] at hW0
  go_enter Tryz.func4, Tryz.ntmps4
  go_upto_region 1 with fail
  rw [← hW0]
  clear hW0
  go_wp2_with fail
  clear x0 x1 x2 x3
  refine Calls.mono (Great_any H.out (Kp.of_below HB0.out)) ?_
  rintro e w1 ⟨gb, rfl, hsm, hb1⟩
  have HB1 := Lib.hid hb1
  clear hb1
  cases gb with
  | true =>
    clear hsm
    go_wp2_with fail
    refine Calls.mono (HWK.out _ (HX.out _ HB1.out).2) ?_
    rintro e w2 ⟨rfl, hb2⟩
    have HB2 := Lib.hid ((HX.out _ HB1.out).2.trans (hb2.mono (HX.out _ HB1.out).2.size))
    clear hb2
    go_wp2_with fail
    go_ret
    exact ⟨rfl, HB2.out⟩
  | false =>
    have HSM := Lib.hid (hsm rfl)
    clear hsm
    obtain ⟨b1, k1⟩ := HX.out _ HB1.out
    obtain ⟨x0, x1, x2, x3⟩ := cells4' b1
    have HK1 := Lib.hid (Kp.of_below k1)
    clear b1 k1
    go_wp2_with fail
    clear x0 x1 x2 x3
    refine Calls.mono (Check_any H.out HK1.out HK.out HSM.out) ?_
    rintro e w2 ⟨rfl, hb2⟩
    have HB2 := Lib.hid (HB1.out.trans (hb2.mono HB1.out.size))
    clear hb2
    have HOK := Lib.hid (Ck.check_ok (s := s))
    generalize Ck.check s = ck at *
    obtain ⟨cw, ce⟩ := ck
    by_cases hce : ce = 0
    case neg =>
      have j1 : (((ce : Nat) : Int) != 0) = true := by rw [bne_iff_ne]; omega
      go_wp2_with fail
      refine Calls.mono (HWK.out _ (HX.out _ HB2.out).2) ?_
      rintro e w3 ⟨rfl, hb3⟩
      have HB3 := Lib.hid ((HX.out _ HB2.out).2.trans (hb3.mono (HX.out _ HB2.out).2.size))
      clear hb3
      go_wp2_with fail
      go_ret
      exact ⟨rfl, HB3.out⟩
    case pos =>
    subst hce
    have HOKS := Lib.hid (HOK.out.1 rfl)
    clear HOK HK1
    have hng : s.sagas.length ≤ 100 := HSM.out.ng
    have hnr : s.records.length ≤ 100 := HSM.out.nr
    obtain ⟨b2, -⟩ := HX.out _ HB2.out
    obtain ⟨x0, x1, x2, x3⟩ := cells4' b2
    clear b2
    go_wp2_with fail
    clear x0 x1 x2 x3
    go_loopw [5] (fun iv wr => ∃ i : Nat, i ≤ s.sagas.length ∧ iv = .int .i64 (i : Nat) ∧ Hid (Below W0.heap.size W0 wr)) (fun iv _ => s.sagas.length - (intOf iv).toNat)
    case atStart => exact ⟨0, Nat.zero_le _, rfl, HB2⟩
    case round =>
      obtain ⟨i, hi, rfl, HB⟩ := hrel
      obtain ⟨b3, k3⟩ := HX.out _ HB.out
      obtain ⟨x0, x1, x2, x3⟩ := cells4' b3
      have HKP := Lib.hid (Kp.of_below k3)
      clear b3 k3
      by_cases hlt : i < s.sagas.length
      · have i1 : (i : Int) < (s.sagas.length : Int) := by omega
        have i2 : (0 : Int) ≤ (i : Int) := by omega
        obtain ⟨A, cc, q, kq, e1, hA, d0, d1, d2, hin, hsub⟩ := sga_at2 HG.out HKP.out hlt
        cases e1
        have HFG := Lib.hid (HOKS.out.saga (List.getElem_mem hlt))
        have HST := Lib.hid fun k hk => HOKS.out.step (List.getElem_mem hlt) (k := k) hk
        have HGS := Lib.hid (HSM.out.g _ (List.getElem_mem hlt))
        have HSUB := Lib.hid hsub
        obtain ⟨_, _, e9, hsl⟩ := ro_len hsub
        cases e9
        have q5 := fun W (hW : Kp w W) => Saga_any H.out hW HSM.out s.sagas[i].name
        unfold SagaP at q5
        rw [HFG.out] at q5
        simp only [Option.getD_some, Option.isSome_some] at q5
        have HQ5 := Lib.hid q5
        have hin2 := saga_in H.out s.sagas[i].name
        rw [HFG.out] at hin2
        have HIN := Lib.hid hin2
        clear hin hsub hA q5 hin2 HFG
        generalize s.sagas[i] = g at *
        obtain ⟨W3, hW3⟩ : ∃ W3, W3 = wr.alloc (sgaO g q kq) := ⟨_, rfl⟩
        have hn3 : W3.heap[wr.heap.size]? = some (sgaO g q kq) := by rw [hW3]; exact heap_alloc_new wr _
        have hb3 : Below wr.heap.size wr W3 := by rw [hW3]; exact tk_alloc wr _
        have HB3 := Lib.hid (HB.out.trans (hb3.mono HB.out.size))
        have HS3 : Hid (W0.heap.size ≤ wr.heap.size) := Lib.hid HB.out.size
        obtain ⟨y0, y1, y2⟩ := cells3 hn3
        have HN3 := Lib.hid hn3
        obtain ⟨z0, z1, z2, z3⟩ := cells4' (HX.out _ HB3.out).1
        clear hn3 hb3
        unfold sgaO at hW3
        go_upto_region 10 with fail
        rw [← hW3]
        clear hW3 x0 x1 x2 x3 d0 d1 d2
        go_wp2_with fail
        clear z0 z1 z2 z3 y0 y1 y2
        refine Calls.mono (HQ5.out _ (Kp.of_below (HX.out _ HB3.out).2)) ?_
        rintro e w4 ⟨pe, ce, rfl, hre, hb4⟩
        obtain ⟨W4, hW4⟩ : ∃ W4, W4 = w4.alloc (sgaO g pe ce) := ⟨_, rfl⟩
        have hn4 : W4.heap[w4.heap.size]? = some (sgaO g pe ce) := by rw [hW4]; exact heap_alloc_new w4 _
        have hb5 : Below w4.heap.size w4 W4 := by rw [hW4]; exact tk_alloc w4 _
        have hb6 := hb4.trans (hb5.mono hb4.size)
        have HB4 := Lib.hid (HB3.out.trans (hb6.mono HB3.out.size))
        have HN4 := Lib.hid (box_keep hb6 HN3.out)
        have HRE := Lib.hid (RoStp.below (stps_ro hre HIN.out) hb5)
        obtain ⟨y0, y1, y2⟩ := cells3 hn4
        obtain ⟨z0, z1, z2⟩ := cells3 HN4.out
        unfold sgaO at hW4
        clear hn4 hb4 hb5 hb6 hre HN3
        go_upto_region 11 with fail
        rw [← hW4]
        clear hW4
        go_wp2_with fail
        clear y0 y1 y2 z0 z1 z2
        refine Calls.mono (SameSaga_ro (HSUB.out.kp (Kp.of_below (HX.out _ HB4.out).2)) HRE.out (Nat.le_trans HGS.out.2.2.1 (by decide))) ?_
        rintro e w5 ⟨rfl, hb7⟩
        have HB5 := Lib.hid (HB4.out.trans (hb7.mono HB4.out.size))
        have HN5 := Lib.hid (box_keep hb7 HN4.out)
        clear hb7 HN4 HRE
        have hgl : g.steps.length ≤ 40 := HGS.out.2.2.1
        generalize wr.heap.size = bz at *
        go_wp2_with fail
        go_loopw [9] (fun kv wx => ∃ k : Nat, k ≤ g.steps.length ∧ kv = .int .i64 (k : Nat) ∧ Hid (Below W0.heap.size W0 wx ∧ wx.heap[bz]? = some (sgaO g q kq))) (fun kv _ => g.steps.length - (intOf kv).toNat)
        case atStart => exact ⟨0, Nat.zero_le _, rfl, Lib.hid ⟨HB5.out, HN5.out⟩⟩
        case round =>
          obtain ⟨k, hk, rfl, HR2⟩ := hrel
          obtain ⟨b6, k6⟩ := HX.out _ HR2.out.1
          obtain ⟨z0, z1, z2, z3⟩ := cells4' b6
          obtain ⟨y0, y1, y2⟩ := cells3 HR2.out.2
          have HKW := Lib.hid (Kp.of_below k6)
          clear b6 k6
          by_cases hlk : k < g.steps.length
          · have i3 : (k : Int) < (g.steps.length : Int) := by omega
            have i4 : (0 : Int) ≤ (k : Int) := by omega
            obtain ⟨B, cb, e5, hB, d0, d1, d2, hpin⟩ := stp_at (HSUB.out.kp HKW.out) hlk
            cases e5
            obtain ⟨m, hm, hma, hun⟩ := HST.out k hlk
            have q3 := fun W (hW : Kp w W) => Method_any H.out hW HSM.out g.steps[k].service g.steps[k].method
            unfold MethodP at q3
            rw [hm] at q3
            simp only [Option.getD_some, Option.isSome_some] at q3
            have HQ3 := Lib.hid q3
            have HMA := Lib.hid hma
            have HUN := Lib.hid hun
            have HKA : Hid (∀ o, Kp w (wr.alloc o)) := Lib.hid fun o => HKW.out.below (tk_alloc wr o)
            generalize g.steps[k] = x at *
            clear hm hma hun q3 hpin hB
            have HC : Hid (∀ W, Below wr.heap.size wr W → W.cell? ⟨w.heap.size, 0, none⟩ = some (.string s.name) ∧ W.cell? ⟨w.heap.size, 1, none⟩ = some (.slice p1 s.records.length c1) ∧ W.cell? ⟨w.heap.size, 2, none⟩ = some (.slice p2 s.services.length c2) ∧ W.cell? ⟨w.heap.size, 3, none⟩ = some (.slice (some A) s.sagas.length c3) ∧ W.cell? ⟨bz, 2, none⟩ = some (.slice (some B) g.steps.length kq) ∧ W.cell? (B.add (k * 3)) = some (.string x.service) ∧ W.cell? ⟨(B.add (k * 3)).block, (B.add (k * 3)).off + 1, none⟩ = some (.string x.method)) := Lib.hid fun W hW =>
              ⟨(hW.cell (tcell_block z0)).trans z0, (hW.cell (tcell_block z1)).trans z1, (hW.cell (tcell_block z2)).trans z2, (hW.cell (tcell_block z3)).trans z3, (hW.cell (tcell_block y2)).trans y2, (hW.cell (tcell_block d0)).trans d0, (hW.cell (tcell_block d1)).trans d1⟩
            have HK2 : Hid (∀ W W2, Below wr.heap.size wr W → Below W.heap.size W W2 → Below wr.heap.size wr W2) := Lib.hid fun W W2 h1 h2 => h1.trans (h2.mono h1.size)
            have HD0 : Hid (Below wr.heap.size wr wr.drew) := Lib.hid (Below.refl _ _).drew
            have HQ4 : Hid (∀ W, Below wr.heap.size wr W → Calls Tryz.prog 17 #[.agg #[.string s.name, .slice p1 s.records.length c1, .slice p2 s.services.length c2, .slice (some A) s.sagas.length c3], .string x.service, .string x.method] W fun e w' => e = .returned (.tuple #[mthV m, .bool true]) ∧ Below W.heap.size W w') := Lib.hid fun W hW => HQ3.out W ((HKW.out).below hW)
            unfold mthV at HQ4
            go_upto_region 16 with fail
            go_cut [10, 11] from 62 to 77 (fun mv ov wx => ∃ z : Nat, mv = .pointer (some ⟨z, 0, none⟩) ∧ ov = .bool true ∧ Hid (wx.heap[z]? = some (mthO m) ∧ wr.heap.size ≤ z ∧ Below wr.heap.size wr wx))
            case first =>
              go_region_held_law (fun W => W.cell? ⟨w.heap.size, 0, none⟩ = some (.string s.name) ∧ W.cell? ⟨w.heap.size, 1, none⟩ = some (.slice p1 s.records.length c1) ∧ W.cell? ⟨w.heap.size, 2, none⟩ = some (.slice p2 s.services.length c2) ∧ W.cell? ⟨w.heap.size, 3, none⟩ = some (.slice (some A) s.sagas.length c3) ∧ W.cell? ⟨bz, 2, none⟩ = some (.slice (some B) g.steps.length kq) ∧ W.cell? (B.add (k * 3)) = some (.string x.service) ∧ W.cell? ⟨(B.add (k * 3)).block, (B.add (k * 3)).off + 1, none⟩ = some (.string x.method))
                (first | exact HC.out _ HD0.out | exact HC.out _ (HK2.out _ _ HD0.out (tk_alloc _ _)) | exact HC.out _ hb7 | exact HC.out _ (HK2.out _ _ hb7 (tk_alloc _ _)) | exact HC.out _ (below_five (HK2.out _ _ hb7 (tk_alloc _ _)) hb7.size _ _ _ _ _) | exact HC.out _ (below_five hb7 (Nat.le_refl _) _ _ _ _ _))
                (first
                  | (go_at_call 17; refine (HQ4.out wr.drew HD0.out).mono ?_; rintro e w6 ⟨rfl, hb6⟩; have hb7 := HK2.out _ _ HD0.out hb6; have hz6 := heap_alloc_new w6 (.cells #[.string ⟨#[]⟩, .string ⟨#[]⟩, .int .u8 0, .string ⟨#[]⟩, .string ⟨#[]⟩] 39); obtain ⟨u0, u1, u2, u3, u4⟩ := cells5 hz6; have f0 := frozen2 hz6 0; have f1 := frozen2 hz6 1; have f2 := frozen2 hz6 2; have f3 := frozen2 hz6 3; have f4 := frozen2 hz6 4; have hwayA : True := trivial)
                  | (go_at_call 17; refine (HQ4.out (wr.drew.alloc _) (HK2.out _ _ HD0.out (tk_alloc _ _))).mono ?_; rintro e w6 ⟨rfl, hb6⟩; have hb7 := HK2.out _ _ (HK2.out _ _ HD0.out (tk_alloc _ _)) hb6; have hz6 : w6.heap[wr.heap.size]? = some (.cells #[.string ⟨#[]⟩, .string ⟨#[]⟩, .int .u8 0, .string ⟨#[]⟩, .string ⟨#[]⟩] 39 (0, 0)) := box_keep hb6 (heap_alloc_new _ _); obtain ⟨u0, u1, u2, u3, u4⟩ := cells5 hz6; have f0 := frozen2 hz6 0; have f1 := frozen2 hz6 1; have f2 := frozen2 hz6 2; have f3 := frozen2 hz6 3; have f4 := frozen2 hz6 4; have hwayB : True := trivial)
                  | fail)
              all_goals
                go_wp2_with fail
                go_meet
                first
                | have := hwayA; exact ⟨_, rfl, rfl, Lib.hid ⟨heap_alloc_new w6 _, hb7.size, HK2.out _ _ hb7 (tk_alloc _ _)⟩⟩
                | have := hwayB; exact ⟨_, rfl, rfl, Lib.hid ⟨set_five _ _ _ _ _ hz6, Nat.le_refl _, below_five hb7 (Nat.le_refl _) _ _ _ _ _⟩⟩
            case rest =>
            obtain ⟨z, rfl, rfl, HM⟩ := hcut
            obtain ⟨wx, hwx⟩ : ∃ wx, wx = wc := ⟨_, rfl⟩
            subst hwx
            obtain ⟨z0, z1, z2, z3, y2, d0, d1⟩ := HC.out _ HM.out.2.2
            have HY := Lib.hid (box_keep HM.out.2.2 HR2.out.2)
            obtain ⟨y0, y1, -⟩ := cells3 HY.out
            obtain ⟨m0, m1, m2, m3, m4⟩ := cells5 HM.out.1
            have HBW : Hid (Below W0.heap.size W0 wx) := Lib.hid (HR2.out.1.trans (HM.out.2.2.mono HR2.out.1.size))
            rw [HMA.out] at m1
            by_cases hla : k + 1 = g.steps.length
            · have j1 : (((k : Nat) : Int) == ((g.steps.length : Nat) : Int) - 1) = true := by rw [beq_iff_eq]; omega
              have j2 : ((k : Nat) : Int) = ((g.steps.length : Nat) : Int) - 1 := by omega
              go_wp2_with fail
              go_roundw
              case rel => exact ⟨k + 1, by omega, by go_num, Lib.hid ⟨HBW.out, HY.out⟩⟩
              case measure => simp [intOf]; omega
            have j1 : (((k : Nat) : Int) == ((g.steps.length : Nat) : Int) - 1) = false := by rw [beq_eq_false_iff_ne]; omega
            have j2 : ¬ ((k : Nat) : Int) = ((g.steps.length : Nat) : Int) - 1 := by omega
            obtain ⟨v, hv, hva, hvu, hvc⟩ := HUN.out hla
            obtain ⟨hn1, hn2⟩ := Ck.contrary_note hvc
            have HVA := Lib.hid hva
            have HVU := Lib.hid hvu
            have HN1 := Lib.hid hn1
            have HN2 := Lib.hid hn2
            have q4 := fun W (hW : Kp w W) => Method_any H.out hW HSM.out x.service m.undo
            unfold MethodP at q4
            rw [hv] at q4
            simp only [Option.getD_some, Option.isSome_some] at q4
            have HQ5 : Hid (∀ W, Below wx.heap.size wx W → Calls Tryz.prog 17 #[.agg #[.string s.name, .slice p1 s.records.length c1, .slice p2 s.services.length c2, .slice (some A) s.sagas.length c3], .string x.service, .string m.undo] W fun e w' => e = .returned (.tuple #[.agg #[.string v.name, .string v.arg, .int .u8 (v.result : Nat), .string v.effect, .string v.undo], .bool true]) ∧ Below W.heap.size W w') := Lib.hid fun W hW => q4 W ((Kp.of_below (HX.out _ HBW.out).2).below hW)
            have HC5 : Hid (∀ W, Below wx.heap.size wx W → W.cell? ⟨w.heap.size, 0, none⟩ = some (.string s.name) ∧ W.cell? ⟨w.heap.size, 1, none⟩ = some (.slice p1 s.records.length c1) ∧ W.cell? ⟨w.heap.size, 2, none⟩ = some (.slice p2 s.services.length c2) ∧ W.cell? ⟨w.heap.size, 3, none⟩ = some (.slice (some A) s.sagas.length c3) ∧ W.cell? ⟨bz, 2, none⟩ = some (.slice (some B) g.steps.length kq) ∧ W.cell? (B.add (k * 3)) = some (.string x.service) ∧ W.cell? ⟨z, 4, none⟩ = some (.string m.undo)) := Lib.hid fun W hW => by
              obtain ⟨k0, k1, k2, k3, k4, k5, -⟩ := HC.out _ (HK2.out _ _ HM.out.2.2 hW)
              exact ⟨k0, k1, k2, k3, k4, k5, (hW.cell (tcell_block m4)).trans m4⟩
            clear hv hva hvu hvc hn1 hn2 q4
            have HK6 : Hid (∀ W W2, Below wx.heap.size wx W → Below W.heap.size W W2 → Below wx.heap.size wx W2) := Lib.hid fun W W2 h1 h2 => h1.trans (h2.mono h1.size)
            have HD5 : Hid (Below wx.heap.size wx wx.drew) := Lib.hid (Below.refl _ _).drew
            go_upto_region 20 with fail
            clear z0 z1 z2 z3 y0 y1 y2 d0 d1 m0 m1 m2 m3 m4
            go_cut [12, 11] from 94 to 105 (fun mv ov wy => ∃ z2 : Nat, mv = .pointer (some ⟨z2, 0, none⟩) ∧ ov = .bool true ∧ Hid (wy.heap[z2]? = some (mthO v) ∧ wx.heap.size ≤ z2 ∧ Below wx.heap.size wx wy))
            case first =>
              go_region_held_law (fun W => W.cell? ⟨w.heap.size, 0, none⟩ = some (.string s.name) ∧ W.cell? ⟨w.heap.size, 1, none⟩ = some (.slice p1 s.records.length c1) ∧ W.cell? ⟨w.heap.size, 2, none⟩ = some (.slice p2 s.services.length c2) ∧ W.cell? ⟨w.heap.size, 3, none⟩ = some (.slice (some A) s.sagas.length c3) ∧ W.cell? ⟨bz, 2, none⟩ = some (.slice (some B) g.steps.length kq) ∧ W.cell? (B.add (k * 3)) = some (.string x.service) ∧ W.cell? ⟨z, 4, none⟩ = some (.string m.undo))
                (first | exact HC5.out _ HD5.out | exact HC5.out _ (HK6.out _ _ HD5.out (tk_alloc _ _)) | exact HC5.out _ hb7 | exact HC5.out _ (HK6.out _ _ hb7 (tk_alloc _ _)) | exact HC5.out _ (below_five (HK6.out _ _ hb7 (tk_alloc _ _)) hb7.size _ _ _ _ _) | exact HC5.out _ (below_five hb7 (Nat.le_refl _) _ _ _ _ _))
                (first
                  | (go_at_call 17; refine (HQ5.out wx.drew HD5.out).mono ?_; rintro e w6 ⟨rfl, hb6⟩; have hb7 := HK6.out _ _ HD5.out hb6; have hz6 := heap_alloc_new w6 (.cells #[.string ⟨#[]⟩, .string ⟨#[]⟩, .int .u8 0, .string ⟨#[]⟩, .string ⟨#[]⟩] 39); obtain ⟨u0, u1, u2, u3, u4⟩ := cells5 hz6; have f0 := frozen2 hz6 0; have f1 := frozen2 hz6 1; have f2 := frozen2 hz6 2; have f3 := frozen2 hz6 3; have f4 := frozen2 hz6 4; have hwayA : True := trivial)
                  | (go_at_call 17; refine (HQ5.out (wx.drew.alloc _) (HK6.out _ _ HD5.out (tk_alloc _ _))).mono ?_; rintro e w6 ⟨rfl, hb6⟩; have hb7 := HK6.out _ _ (HK6.out _ _ HD5.out (tk_alloc _ _)) hb6; have hz6 : w6.heap[wx.heap.size]? = some (.cells #[.string ⟨#[]⟩, .string ⟨#[]⟩, .int .u8 0, .string ⟨#[]⟩, .string ⟨#[]⟩] 39 (0, 0)) := box_keep hb6 (heap_alloc_new _ _); obtain ⟨u0, u1, u2, u3, u4⟩ := cells5 hz6; have f0 := frozen2 hz6 0; have f1 := frozen2 hz6 1; have f2 := frozen2 hz6 2; have f3 := frozen2 hz6 3; have f4 := frozen2 hz6 4; have hwayB : True := trivial)
                  | fail)
              all_goals
                go_wp2_with fail
                go_meet
                first
                | have := hwayA; exact ⟨_, rfl, rfl, Lib.hid ⟨heap_alloc_new w6 _, hb7.size, HK6.out _ _ hb7 (tk_alloc _ _)⟩⟩
                | have := hwayB; exact ⟨_, rfl, rfl, Lib.hid ⟨set_five _ _ _ _ _ hz6, Nat.le_refl _, below_five hb7 (Nat.le_refl _) _ _ _ _ _⟩⟩
            case rest =>
            obtain ⟨z2, rfl, rfl, HV⟩ := hcut
            obtain ⟨wy, hwy⟩ : ∃ wy, wy = wc := ⟨_, rfl⟩
            subst hwy
            obtain ⟨m0, m1, m2, m3, m4⟩ := cells5 (box_keep HV.out.2.2 HM.out.1)
            obtain ⟨v0, v1, v2, v3, v4⟩ := cells5 HV.out.1
            have HYY := Lib.hid (box_keep HV.out.2.2 HY.out)
            have HBV : Hid (Below W0.heap.size W0 wy) := Lib.hid (HBW.out.trans (HV.out.2.2.mono HBW.out.size))
            rw [HVA.out] at v1
            rw [HVU.out] at v4
            have e1 := (is_kNote m.effect).trans HN1.out
            rw [← is_kNote v.effect] at e1
            cases hn : Ip.eqB m.effect Ip.kNote with
            | true =>
              have e2 := (is_kNote m.effect).trans hn
              have e3 := e1.symm.trans e2
              clear e1 hn
              go_wp2_with fail
              go_roundw
              case rel => exact ⟨k + 1, by omega, by go_num, Lib.hid ⟨HBV.out, HYY.out⟩⟩
              case measure => simp [intOf]; omega
            | false =>
              have e2 := (is_kNote m.effect).trans hn
              have e3 := e1.symm.trans e2
              have e4 := (eqB_list v.effect m.effect).trans (HN2.out hn)
              clear e1 hn
              go_wp2_with fail
              go_roundw
              case rel => exact ⟨k + 1, by omega, by go_num, Lib.hid ⟨HBV.out, HYY.out⟩⟩
              case measure => simp [intOf]; omega
          · obtain rfl : k = g.steps.length := by omega
            have i3 : ¬ (g.steps.length : Int) < (g.steps.length : Int) := by omega
            go_wp2_with fail
            go_roundw
            case rel => exact ⟨i + 1, by omega, by go_num, Lib.hid HR2.out.1⟩
            case measure => simp [intOf]; omega
      · obtain rfl : i = s.sagas.length := by omega
        have i1 : ¬ (s.sagas.length : Int) < (s.sagas.length : Int) := by omega
        go_wp2_with fail
        have HBz := HB
        clear HB x0 x1 x2 x3 i1 HKP
        go_loopw [13] (fun iv wr => ∃ k : Nat, k ≤ s.records.length ∧ iv = .int .i64 (k : Nat) ∧ Hid (Below W0.heap.size W0 wr)) (fun iv _ => s.records.length - (intOf iv).toNat)
        case atStart => exact ⟨0, Nat.zero_le _, rfl, HBz⟩
        case round =>
        obtain ⟨k, hk, rfl, HB⟩ := hrel
        obtain ⟨b3, k3⟩ := HX.out _ HB.out
        obtain ⟨x0, x1, x2, x3⟩ := cells4' b3
        have HKP := Lib.hid (Kp.of_below k3)
        clear b3 k3
        by_cases hlt : k < s.records.length
        · have i1 : (k : Int) < (s.records.length : Int) := by omega
          have i2 : (0 : Int) ≤ (k : Int) := by omega
          obtain ⟨A, cc, q, kq, e1, hA, d0, d1, d2, hin, hsub⟩ := rcd_at2 HR.out HKP.out hlt
          cases e1
          have hfr := HOKS.out.find (List.getElem_mem hlt)
          have HSR := Lib.hid (HSM.out.r _ (List.getElem_mem hlt))
          have HSUB := Lib.hid hsub
          obtain ⟨_, _, e9, hsl⟩ := ro_len hsub
          cases e9
          have q5 := fun W (hW : Kp w W) => Find_any H.out hW HSM.out s.records[k].name
          unfold FindP at q5
          rw [hfr] at q5
          simp only [Option.getD_some, Option.isSome_some] at q5
          have hfi := find_in H.out s.records[k].name
          rw [hfr] at hfi
          have HFI := Lib.hid (show ∀ f ∈ s.records[k].fields, FldIn f ∧ ∀ x ∈ f.type, SoIn x from hfi)
          have HQ6 := Lib.hid (fun W (hW : Below wr.heap.size wr W) => q5 W (HKP.out.below hW))
          clear hfr q5 hfi hin hsub hA
          generalize s.records[k] = r at *
          have HK6 : Hid (∀ W W2, Below wr.heap.size wr W → Below W.heap.size W W2 → Below wr.heap.size wr W2) := Lib.hid fun W W2 h1 h2 => h1.trans (h2.mono h1.size)
          have HD6 : Hid (Below wr.heap.size wr wr.drew) := Lib.hid (Below.refl _ _).drew
          have HC7 : Hid (∀ W, Below wr.heap.size wr W → W.cell? ⟨w.heap.size, 1, none⟩ = some (.slice (some A) s.records.length c1) ∧ W.cell? (A.add (k * 3)) = some (.string r.name) ∧ W.cell? ⟨(A.add (k * 3)).block, (A.add (k * 3)).off + 1, none⟩ = some (.bool r.choice) ∧ W.cell? ⟨(A.add (k * 3)).block, (A.add (k * 3)).off + 2, none⟩ = some (.slice q r.fields.length kq)) := Lib.hid fun W hW =>
            ⟨(hW.cell (tcell_block x1)).trans x1, (hW.cell (tcell_block d0)).trans d0, (hW.cell (tcell_block d1)).trans d1, (hW.cell (tcell_block d2)).trans d2⟩
          have HC6 : Hid (∀ W, Below wr.heap.size wr W → W.cell? ⟨w.heap.size, 0, none⟩ = some (.string s.name) ∧ W.cell? ⟨w.heap.size, 1, none⟩ = some (.slice (some A) s.records.length c1) ∧ W.cell? ⟨w.heap.size, 2, none⟩ = some (.slice p2 s.services.length c2) ∧ W.cell? ⟨w.heap.size, 3, none⟩ = some (.slice p3 s.sagas.length c3) ∧ W.cell? (A.add (k * 3)) = some (.string r.name)) := Lib.hid fun W hW =>
            ⟨(hW.cell (tcell_block x0)).trans x0, (hW.cell (tcell_block x1)).trans x1, (hW.cell (tcell_block x2)).trans x2, (hW.cell (tcell_block x3)).trans x3, (hW.cell (tcell_block d0)).trans d0⟩
          go_upto_region 26 with fail
          clear x0 x1 x2 x3 d0 d1 d2
          go_cut [14, 15] from 149 to 158 (fun mv ov wy => ∃ (z : Nat) (pr : Option Addr) (cr : Nat), mv = .pointer (some ⟨z, 0, none⟩) ∧ ov = .bool true ∧ Hid (wy.heap[z]? = some (.cells #[.string r.name, .bool r.choice, .slice pr r.fields.length cr] 46 (0, 0)) ∧ RoFld wy (.slice pr r.fields.length cr) r.fields ∧ Below wr.heap.size wr wy))
          case first =>
            go_region_held_law (fun W => W.cell? ⟨w.heap.size, 0, none⟩ = some (.string s.name) ∧ W.cell? ⟨w.heap.size, 1, none⟩ = some (.slice (some A) s.records.length c1) ∧ W.cell? ⟨w.heap.size, 2, none⟩ = some (.slice p2 s.services.length c2) ∧ W.cell? ⟨w.heap.size, 3, none⟩ = some (.slice p3 s.sagas.length c3) ∧ W.cell? (A.add (k * 3)) = some (.string r.name))
              (first | exact HC6.out _ HD6.out | exact HC6.out _ (HK6.out _ _ HD6.out (tk_alloc _ _)) | exact HC6.out _ hb7 | exact HC6.out _ (HK6.out _ _ hb7 (tk_alloc _ _)) | exact HC6.out _ (below_three' (HK6.out _ _ hb7 (tk_alloc _ _)) hb7.size _ _ _) | exact HC6.out _ (below_three' hb7 (Nat.le_refl _) _ _ _))
              (first
                | (go_at_call 18; refine (HQ6.out wr.drew HD6.out).mono ?_; rintro e w6 ⟨pr, cr, rfl, hrw, hb6⟩; have hb7 := HK6.out _ _ HD6.out hb6; have hz6 := heap_alloc_new w6 (.cells #[.string ⟨#[]⟩, .bool false, .slice none 0 0] 46); obtain ⟨u0, u1, u2⟩ := cells3 hz6; have f0 := frozen2 hz6 0; have f1 := frozen2 hz6 1; have f2 := frozen2 hz6 2; have hwayA : True := trivial)
                | (go_at_call 18; refine (HQ6.out (wr.drew.alloc _) (HK6.out _ _ HD6.out (tk_alloc _ _))).mono ?_; rintro e w6 ⟨pr, cr, rfl, hrw, hb6⟩; have hb7 := HK6.out _ _ (HK6.out _ _ HD6.out (tk_alloc _ _)) hb6; have hz6 : w6.heap[wr.heap.size]? = some (.cells #[.string ⟨#[]⟩, .bool false, .slice none 0 0] 46 (0, 0)) := box_keep hb6 (heap_alloc_new _ _); obtain ⟨u0, u1, u2⟩ := cells3 hz6; have f0 := frozen2 hz6 0; have f1 := frozen2 hz6 1; have f2 := frozen2 hz6 2; have hwayB : True := trivial)
                | fail)
            all_goals
              go_wp2_with fail
              go_meet
              first
              | have := hwayA; exact ⟨_, pr, cr, rfl, rfl, Lib.hid ⟨heap_alloc_new w6 _, (flds_ro hrw HFI.out).below (tk_alloc _ _), HK6.out _ _ hb7 (tk_alloc _ _)⟩⟩
              | have := hwayB; exact ⟨_, pr, cr, rfl, rfl, Lib.hid ⟨set_three _ _ _ hz6, flds_set HFI.out hrw (by rw [World.size_alloc]; exact Nat.lt_succ_self _), below_three' hb7 (Nat.le_refl _) _ _ _⟩⟩
          case rest =>
          obtain ⟨z, pr, cr, rfl, rfl, HM⟩ := hcut
          obtain ⟨wx, hwx⟩ : ∃ wx, wx = wc := ⟨_, rfl⟩
          subst hwx
          have HBW : Hid (Below W0.heap.size W0 wx) := Lib.hid (HB.out.trans (HM.out.2.2.mono HB.out.size))
          have HD7 : Hid (Below wx.heap.size wx wx.drew) := Lib.hid (Below.refl _ _).drew
          have HQ7 : Hid (∀ W, Below wx.heap.size wx W → Calls Tryz.prog 19 #[.agg #[.string r.name, .bool r.choice, .slice pr r.fields.length cr], .agg #[.string r.name, .bool r.choice, .slice q r.fields.length kq]] W fun e w' => e = .returned (.bool true) ∧ Below W.heap.size W w') := Lib.hid fun W hW =>
            SameRecord_ro (HM.out.2.1.below hW) (HSUB.out.kp ((HKP.out.below HM.out.2.2).below hW)) (Nat.le_trans HSR.out.2.1 (by decide)) (fun x hx => Nat.le_trans (HSR.out.2.2 x hx).2.1 (by decide))
          have HC8 : Hid (∀ W, Below wx.heap.size wx W → W.cell? ⟨w.heap.size, 1, none⟩ = some (.slice (some A) s.records.length c1) ∧ W.cell? (A.add (k * 3)) = some (.string r.name) ∧ W.cell? ⟨(A.add (k * 3)).block, (A.add (k * 3)).off + 1, none⟩ = some (.bool r.choice) ∧ W.cell? ⟨(A.add (k * 3)).block, (A.add (k * 3)).off + 2, none⟩ = some (.slice q r.fields.length kq) ∧ W.cell? ⟨z, 0, none⟩ = some (.string r.name) ∧ W.cell? ⟨z, 1, none⟩ = some (.bool r.choice) ∧ W.cell? ⟨z, 2, none⟩ = some (.slice pr r.fields.length cr)) := Lib.hid fun W hW => by
            obtain ⟨k0, k1, k2, k3⟩ := HC7.out _ (HK6.out _ _ HM.out.2.2 hW)
            obtain ⟨y0, y1, y2⟩ := cells3 (box_keep hW HM.out.1)
            exact ⟨k0, k1, k2, k3, y0, y1, y2⟩
          go_upto_region 27 with fail
          go_region_held_law (fun W => W.cell? ⟨w.heap.size, 1, none⟩ = some (.slice (some A) s.records.length c1) ∧ W.cell? (A.add (k * 3)) = some (.string r.name) ∧ W.cell? ⟨(A.add (k * 3)).block, (A.add (k * 3)).off + 1, none⟩ = some (.bool r.choice) ∧ W.cell? ⟨(A.add (k * 3)).block, (A.add (k * 3)).off + 2, none⟩ = some (.slice q r.fields.length kq) ∧ W.cell? ⟨z, 0, none⟩ = some (.string r.name) ∧ W.cell? ⟨z, 1, none⟩ = some (.bool r.choice) ∧ W.cell? ⟨z, 2, none⟩ = some (.slice pr r.fields.length cr))
            (first | exact HC8.out _ HD7.out | exact HC8.out _ hb9)
            (first
              | (go_at_call 19; refine (HQ7.out wx.drew HD7.out).mono ?_; rintro e w8 ⟨rfl, hb8⟩; have hb9 := HD7.out.trans (hb8.mono HD7.out.size))
              | fail)
          all_goals
            have HB9 := Lib.hid (HBW.out.trans (hb9.mono HBW.out.size))
            clear hb8 hb9
            go_wp2_with fail
            go_roundw
            case rel => exact ⟨k + 1, by omega, by go_num, HB9⟩
            case measure => simp [intOf]; omega
        · obtain rfl : k = s.records.length := by omega
          have i1 : ¬ (s.records.length : Int) < (s.records.length : Int) := by omega
          go_wp2_with fail
          refine Calls.mono (HWK.out _ (HX.out _ HB.out).2) ?_
          rintro e w3 ⟨rfl, hb3⟩
          have HB3 := Lib.hid ((HX.out _ HB.out).2.trans (hb3.mono (HX.out _ HB.out).2.size))
          clear hb3
          go_wp2_with fail
          go_ret
          exact ⟨rfl, HB3.out⟩

end Go.Proofs.YtamkkdmbefekmaaGreatDoor
