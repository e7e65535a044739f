/-
  Walks over the document's text of a schema. Conditions: those in the theorems.
-/
import Derived.Test.YtnkdhmoocomjfaaGreatDoorPrRefM
import Derived.Test.YtnkdhmoocomjfaaGreatDoorRcCheck
import Derived.Deep.RegionHeldLaw
set_option linter.unusedSimpArgs false
set_option linter.unusedVariables false
namespace Go.Proofs.YtnkdhmoocomjfaaGreatDoor
open Go.RowKit
set_option maxRecDepth 100000 in
set_option maxHeartbeats 4000000 in
theorem refNum14_any (k : Nat) (hk : k < 10) (w : World) : Calls Tryz.prog 62 #[.int .i64 (k : Nat)] w fun e w' => e = .returned (.string (Ck.num k)) ∧ Below w.heap.size w w' := by
  obtain ⟨x, hx, hxn⟩ : ∃ x : UInt8, (x.toNat : Int) = 48 + (k : Int) ∧ Ck.num k = ⟨#[x]⟩ := by
    have h : ∀ k : Nat, k < 10 → ∃ x : UInt8, (x.toNat : Int) = 48 + (k : Int) ∧ Ck.num k = ⟨#[x]⟩ := by
      intro k hk
      obtain rfl | rfl | rfl | rfl | rfl | rfl | rfl | rfl | rfl | rfl : k = 0 ∨ k = 1 ∨ k = 2 ∨ k = 3 ∨ k = 4 ∨ k = 5 ∨ k = 6 ∨ k = 7 ∨ k = 8 ∨ k = 9 := by omega
      · exact ⟨48, by decide, by decide⟩
      · exact ⟨49, by decide, by decide⟩
      · exact ⟨50, by decide, by decide⟩
      · exact ⟨51, by decide, by decide⟩
      · exact ⟨52, by decide, by decide⟩
      · exact ⟨53, by decide, by decide⟩
      · exact ⟨54, by decide, by decide⟩
      · exact ⟨55, by decide, by decide⟩
      · exact ⟨56, by decide, by decide⟩
      · exact ⟨57, by decide, by decide⟩
    exact h k hk
  rw [hxn]
  have i1 : (k : Int).tmod 10 = (k : Int) := Int.tmod_eq_of_lt (by omega) (by omega)
  have i2 : ¬ (9 : Int) < (k : Int) := by omega
  have hcv := one_text (w.alloc (.cells #[.int .u8 (48 + (k : Int))] 5)) w.heap.size x 1 (by rw [cell_of_row _ _ _ _ _ _ (heap_alloc_new w _), ← hx]; rfl)
  clear hx hxn
  go_enter Tryz.func62, Tryz.ntmps62
  go_wp2_with fail
  go_loopw [0, 3] (fun nv sv wr => nv = .int .i64 (k : Nat) ∧ sv = .string ⟨#[x]⟩ ∧ Hid (Below w.heap.size w wr)) (fun _ _ _ => 0)
  case atStart => exact ⟨rfl, rfl, Lib.hid (tk_alloc w _)⟩
  case round =>
    obtain ⟨rfl, rfl, HB⟩ := hrel
    go_wp2_with fail
    go_ret
    exact ⟨rfl, HB.out⟩
set_option maxRecDepth 100000 in
set_option maxHeartbeats 16000000 in
theorem RefText_any {u w : World} {sv : Value} {s : Ip.Sch} (h : RoSch u sv s) (hu : Kp u w) (hS : Ck.Small s) : Calls Tryz.prog 23 #[sv] w fun e w' => e = .returned (.tuple #[.string (Pp.text s).1, .int .i64 ((Pp.text s).2 : Nat)]) ∧ Below w.heap.size w w' := by
  obtain ⟨p1, c1, p2, c2, p3, c3, rfl, -, hr, hs, hg, l1, l2, l3⟩ := sch_parts h
  obtain ⟨W0, hW0⟩ : ∃ W0, W0 = allocs w [schO s p1 c1 p2 c2 p3 c3] := ⟨_, rfl⟩
  have HX : Hid (∀ W, Below W0.heap.size W0 W → W.heap[w.heap.size]? = some (schO s p1 c1 p2 c2 p3 c3) ∧ Below w.heap.size w W) := Lib.hid (by subst hW0; exact fun W hW => ⟨allocs_box (i := 0) rfl hW, allocs_on hW⟩)
  obtain ⟨b0, B0⟩ := HX.out W0 (Below.refl _ _)
  obtain ⟨x0, x1, x2, x3⟩ := cells4' b0
  have H := Lib.hid h
  have HU := Lib.hid (hu.below B0)
  have HR := Lib.hid hr
  have HV := Lib.hid hs
  have HG := Lib.hid hg
  have HSM := Lib.hid hS
  have m1 : s.records.length ≤ 100 := hS.nr
  have m2 : s.services.length ≤ 100 := hS.ns
  have m3 : s.sagas.length ≤ 100 := hS.ng
  have m4 : s.name.size ≤ 200 := hS.name
  clear h hu hS hr hs hg b0 B0 l1 l2 l3
  simp only [allocs, schO] at hW0
  go_enter Tryz.func23, Tryz.ntmps23
  go_upto_region 1 with fail
  rw [← hW0]
  clear hW0
  go_wp2_with fail
  refine Calls.mono (RefCheck_any H.out HU.out HSM.out) ?_
  rintro e w1 ⟨rfl, hb1⟩
  have HB1 := Lib.hid hb1
  clear hb1 x0 x1 x2 x3
  by_cases hz : (Ck.check s).2 = 0
  rotate_left
  · have HE : Hid (Pp.text s = (⟨#[]⟩, (Ck.check s).2)) := Lib.hid (Pp.text_no hz)
    generalize (Ck.check s).1 = cp at *
    generalize (Ck.check s).2 = cn at *
    have i1 : ((cn : Int) != 0) = true := by rw [bne_iff_ne]; omega
    clear hz
    go_wp2_with fail
    go_ret2
    exact ⟨by rw [HE.out]; rfl, (HX.out _ HB1.out).2⟩
  have HTX := Lib.hid (Pp.text_is hz)
  have HOK := Lib.hid (Pp.ok_read (Ck.check_ok.1 hz))
  rw [hz]
  clear hz
  generalize (Ck.check s).1 = cp at *
  obtain ⟨x0, x1, x2, x3⟩ := cells4' (HX.out _ HB1.out).1
  have h0a : ¬ 9223372036854775807 < 7 + s.name.size := by omega
  have h1a : ¬ 9223372036854775807 < 7 + s.name.size + 2 := by omega
  have h1b : ¬ 9223372036854775807 < ((⟨#[109, 111, 100, 117, 108, 101, 32]⟩ : ByteArray) ++ s.name).size + 2 := by rw [ByteArray.size_append]; exact h1a
  have HHB : Hid ((⟨#[109, 111, 100, 117, 108, 101, 32]⟩ : ByteArray) ++ s.name ++ ⟨#[32, 59]⟩ = Pp.headB s) := Lib.hid (Pp.head_ref s.name)
  have HHZ : Hid ((Pp.headB s).size ≤ 1000) := Lib.hid (by rw [← HHB.out]; simp only [ByteArray.size_append]; show 7 + s.name.size + 2 ≤ _; omega)
  go_upto_region 5 with fail
  rw [HHB.out]
  clear h0a h1a h1b
  go_wp2_with fail
  go_loopw [6, 7, 8, 9] (fun tv iv _ _ wr => ∃ (i : Nat) (m : ByteArray), i ≤ s.records.length ∧ iv = .int .i64 (i : Nat) ∧ tv = .string m ∧ m.size ≤ 1000 + i * 400000 ∧ Hid (m = Pp.headB s ++ Pp.fl ((s.records.take i).flatMap Pp.rcdT) ∧ Below W0.heap.size W0 wr)) (fun _ iv _ _ _ => s.records.length - (intOf iv).toNat)
  case atStart => exact ⟨0, _, Nat.zero_le _, rfl, rfl, by have := HHZ.out; omega, Lib.hid ⟨by rw [List.take_zero]; exact (ByteArray.append_empty).symm, HB1.out⟩⟩
  case round =>
  obtain ⟨i, m, hi, rfl, rfl, hms, HQ⟩ := hrel
  clear x0 x1 x2 x3
  obtain ⟨x0, x1, x2, x3⟩ := cells4' (HX.out _ HQ.out.2).1
  by_cases hlt : i < s.records.length
  · have i1 : (i : Int) < (s.records.length : Int) := by omega
    have i2 : (0 : Int) ≤ (i : Int) := by omega
    obtain ⟨A, cc, p, kq, e3, hA, d0, d1, d2, hin, hsub⟩ := rcd_at2 HR.out (HU.out.below HQ.out.2) hlt
    cases e3
    obtain ⟨_, _, e9, hsl⟩ := ro_len hsub
    cases e9
    have HSUB := Lib.hid hsub
    have HOR := Lib.hid (HOK.out.2.1 _ (List.getElem_mem hlt))
    have HSR := Lib.hid (HSM.out.r _ (List.getElem_mem hlt))
    have HST := Lib.hid (Pp.fl_step Pp.rcdT s.records hlt)
    clear hsub hin hA
    generalize s.records[i] = r at *
    obtain ⟨ch, HCH⟩ : ∃ ch, Hid (r.choice = ch) := ⟨_, Lib.hid rfl⟩
    rw [HCH.out] at d1
    obtain ⟨y, hy⟩ : ∃ y, y = wr.heap.size := ⟨_, rfl⟩
    obtain ⟨W1, hW1⟩ : ∃ W1, W1 = wr.alloc (.cells #[.string r.name, .bool ch, .slice p r.fields.length kq] 34) := ⟨_, rfl⟩
    have HN1 : Hid (W1.heap[y]? = some (.cells #[.string r.name, .bool ch, .slice p r.fields.length kq] 34 (0, 0))) := Lib.hid (by rw [hW1, hy]; exact heap_alloc_new wr _)
    have HB1 : Hid (Below W0.heap.size W0 W1) := Lib.hid (by rw [hW1]; exact HQ.out.2.trans ((tk_alloc wr _).mono HQ.out.2.size))
    have HL1 : Hid (y < W1.heap.size) := Lib.hid (Array.getElem?_eq_some_iff.1 HN1.out).1
    have HM := Lib.hid HQ.out.1
    go_upto_region 9 with fail
    rw [← hW1, ← hy]
    clear hW1 hy x0 x1 x2 x3 d0 d1 d2 HQ
    obtain ⟨y0, y1, y2⟩ := cells3 HN1.out
    obtain ⟨rz1, rz2, rz3⟩ := HSR.out
    have hmb : m.size ≤ 1000000000 := by
      have : i * 400000 ≤ 100 * 400000 := Nat.mul_le_mul_right _ (by omega)
      omega
    have HHS : Hid ((m ++ Pp.fl ([Pp.rcdK r] ++ [r.name, Ip.sOpen]) : ByteArray).size ≤ 1000 + i * 400000 + 1000) := Lib.hid (by
      have h1 : (Pp.rcdK r).size ≤ 6 := by unfold Pp.rcdK; split <;> decide
      rw [ByteArray.size_append, Pp.fl_size]
      show m.size + ((Pp.rcdK r).size + 1 + (r.name.size + 1 + (Ip.sOpen.size + 1 + 0))) ≤ _
      have h2 : Ip.sOpen.size = 1 := rfl
      omega)
    go_upto_if 42 with fail
    go_cut [6] from 43 to 54 (fun tv wx => tv = .string (m ++ Pp.fl ([Pp.rcdK r] ++ [r.name, Ip.sOpen])) ∧ Hid (wx = W1))
    case first =>
      cases ch with
      | true =>
        have HK : Hid (Pp.rcdK r = Ip.kChoice) := Lib.hid (by unfold Pp.rcdK; rw [HCH.out]; rfl)
        have h0a : ¬ 9223372036854775807 < m.size + 8 := by omega
        have h1a : ¬ 9223372036854775807 < m.size + 8 + r.name.size := by omega
        have h1b : ¬ 9223372036854775807 < (m ++ ⟨#[32, 99, 104, 111, 105, 99, 101, 32]⟩).size + r.name.size := by simp only [ByteArray.size_append]; exact h1a
        have h2a : ¬ 9223372036854775807 < m.size + 8 + r.name.size + 2 := by omega
        have h2b : ¬ 9223372036854775807 < (m ++ ⟨#[32, 99, 104, 111, 105, 99, 101, 32]⟩ ++ r.name).size + 2 := by simp only [ByteArray.size_append]; exact h2a
        go_wp2_with fail
        go_meet
        exact ⟨by rw [HK.out]; exact congrArg Value.string (Pp.choice_ref m r.name), Lib.hid rfl⟩
      | false =>
        have HK : Hid (Pp.rcdK r = Ip.kRecord) := Lib.hid (by unfold Pp.rcdK; rw [HCH.out]; rfl)
        have h0a : ¬ 9223372036854775807 < m.size + 8 := by omega
        have h1a : ¬ 9223372036854775807 < m.size + 8 + r.name.size := by omega
        have h1b : ¬ 9223372036854775807 < (m ++ ⟨#[32, 114, 101, 99, 111, 114, 100, 32]⟩).size + r.name.size := by simp only [ByteArray.size_append]; exact h1a
        have h2a : ¬ 9223372036854775807 < m.size + 8 + r.name.size + 2 := by omega
        have h2b : ¬ 9223372036854775807 < (m ++ ⟨#[32, 114, 101, 99, 111, 114, 100, 32]⟩ ++ r.name).size + 2 := by simp only [ByteArray.size_append]; exact h2a
        go_wp2_with fail
        go_meet
        exact ⟨by rw [HK.out]; exact congrArg Value.string (Pp.record_ref m r.name), Lib.hid rfl⟩
    case rest =>
    obtain ⟨rfl, hw⟩ := hcut
    have hw := hw.out
    rw [hw]
    clear hw hmb
    obtain ⟨m', HMM⟩ : ∃ m', Hid (m' = m ++ Pp.fl ([Pp.rcdK r] ++ [r.name, Ip.sOpen])) := ⟨_, Lib.hid rfl⟩
    rw [← HMM.out] at HHS
    rw [← HMM.out]
    go_wp2_with fail
    have hl40 : r.fields.length ≤ 40 := HSR.out.2.1
    clear rz1 rz2 rz3
    go_loopw [6, 9] (fun tv kv wq => ∃ (k : Nat) (q : ByteArray), k ≤ r.fields.length ∧ kv = .int .i64 (k : Nat) ∧ tv = .string q ∧ q.size ≤ 1000 + i * 400000 + 1000 + k * 8300 ∧ Hid (q = m ++ Pp.fl ([Pp.rcdK r] ++ [r.name, Ip.sOpen]) ++ Pp.fl ((r.fields.take k).flatMap Pp.fldT) ∧ Below W1.heap.size W1 wq)) (fun _ kv _ => r.fields.length - (intOf kv).toNat)
    case atStart => exact ⟨0, _, Nat.zero_le _, rfl, rfl, by have := HHS.out; omega, Lib.hid ⟨by rw [List.take_zero, HMM.out]; exact (ByteArray.append_empty).symm, Below.refl _ _⟩⟩
    case round =>
    obtain ⟨k, q, hk, rfl, rfl, hqs, HJ⟩ := hrel
    have HBQ : Hid (Below W0.heap.size W0 wr) := Lib.hid (HB1.out.trans (HJ.out.2.mono HB1.out.size))
    have HY1 : Hid (wr.heap[y]? = some (.cells #[.string r.name, .bool ch, .slice p r.fields.length kq] 34 (0, 0))) := Lib.hid ((HJ.out.2.block _ HL1.out).trans HN1.out)
    clear y0 y1 y2
    obtain ⟨y0, y1, y2⟩ := cells3 HY1.out
    by_cases hlk : k < r.fields.length
    · have j1 : (k : Int) < (r.fields.length : Int) := by omega
      have j2 : (0 : Int) ≤ (k : Int) := by omega
      have HKQ := Lib.hid (HU.out.below HBQ.out)
      obtain ⟨B, cb, pp, kp, e5, hB, g0, g1, hpin, hss, hss2⟩ := fld_at (HSUB.out.kp HKQ.out) hlk
      cases e5
      obtain ⟨_, _, _, _, e5', hB', g0', g1', -, hssu, -⟩ := fld_at HSUB.out hlk
      have hcell := (HKQ.out.cell (tcell_block g1')).trans g1'
      cases e5'
      rw [g1] at hcell
      cases hcell
      have HSO := Lib.hid hssu
      have HFO := Lib.hid (HOR.out.2 _ (List.getElem_mem hlk))
      have HFS := Lib.hid (HSR.out.2.2 _ (List.getElem_mem hlk))
      have HFT := Lib.hid (Pp.fl_step Pp.fldT r.fields hlk)
      clear hB hB' g0' g1' hpin hss hssu hss2
      generalize r.fields[k] = f at *
      obtain ⟨fz1, fz2, fz3⟩ := HFS.out
      have hws : (Pp.wordsB f.type).size ≤ 8040 := by
        have h1 := Pp.wordsB_size f.type ⟨#[]⟩ fz3
        have h2 : f.type.length * 201 ≤ 40 * 201 := Nat.mul_le_mul_right _ fz2
        have h3 : (⟨#[]⟩ : ByteArray).size = 0 := rfl
        unfold Pp.wordsB
        omega
      have hqb : q.size ≤ 1000000000 := by
        have : k * 8300 ≤ 40 * 8300 := Nat.mul_le_mul_right _ (by omega)
        have : i * 400000 ≤ 100 * 400000 := Nat.mul_le_mul_right _ (by omega)
        omega
      have HNQ : Hid ((q ++ ⟨#[32]⟩ ++ f.name ++ ⟨#[32, 58, 32]⟩ ++ Pp.wordsB f.type ++ ⟨#[59]⟩ : ByteArray).size ≤ 1000 + i * 400000 + 1000 + (k + 1) * 8300) := Lib.hid (by
        simp only [ByteArray.size_append]; show q.size + 1 + f.name.size + 3 + (Pp.wordsB f.type).size + 1 ≤ _; omega)
      have HTQ : Hid (q ++ ⟨#[32]⟩ ++ f.name ++ ⟨#[32, 58, 32]⟩ ++ Pp.wordsB f.type ++ ⟨#[59]⟩ = m ++ Pp.fl ([Pp.rcdK r] ++ [r.name, Ip.sOpen]) ++ Pp.fl ((r.fields.take (k + 1)).flatMap Pp.fldT)) := Lib.hid (by
        rw [Pp.field_ref q f.name (Pp.ty_mem HFO.out.2), HFT.out, HJ.out.1]
        simp only [ByteArray.append_assoc]; rfl)
      have c0a : ¬ 9223372036854775807 < q.size + 1 := by omega
      have c1a : ¬ 9223372036854775807 < q.size + 1 + f.name.size := by omega
      have c1b : ¬ 9223372036854775807 < (q ++ ⟨#[32]⟩).size + f.name.size := by simp only [ByteArray.size_append]; exact c1a
      have c2a : ¬ 9223372036854775807 < q.size + 1 + f.name.size + 3 := by omega
      have c2b : ¬ 9223372036854775807 < (q ++ ⟨#[32]⟩ ++ f.name).size + 3 := by simp only [ByteArray.size_append]; exact c2a
      have c3a : ¬ 9223372036854775807 < q.size + 1 + f.name.size + 3 + (Pp.wordsB f.type).size := by omega
      have c3b : ¬ 9223372036854775807 < (q ++ ⟨#[32]⟩ ++ f.name ++ ⟨#[32, 58, 32]⟩).size + (Pp.wordsB f.type).size := by simp only [ByteArray.size_append]; exact c3a
      have c4a : ¬ 9223372036854775807 < q.size + 1 + f.name.size + 3 + (Pp.wordsB f.type).size + 1 := by omega
      have c4b : ¬ 9223372036854775807 < (q ++ ⟨#[32]⟩ ++ f.name ++ ⟨#[32, 58, 32]⟩ ++ (Pp.wordsB f.type)).size + 1 := by simp only [ByteArray.size_append]; exact c4a
      have HC : Hid (∀ W, Below wr.heap.size wr W → W.cell? ⟨y, 2, none⟩ = some (.slice (some B) r.fields.length kq) ∧ W.cell? (B.add (k * 2)) = some (.string f.name) ∧ W.cell? ⟨(B.add (k * 2)).block, (B.add (k * 2)).off + 1, none⟩ = some (.slice pp f.type.length kp)) := Lib.hid fun W hW =>
        ⟨(hW.cell (tcell_block y2)).trans y2, (hW.cell (tcell_block g0)).trans g0, (hW.cell (tcell_block g1)).trans g1⟩
      have HQW : Hid (∀ W, Below wr.heap.size wr W → Calls Tryz.prog 60 #[.slice pp f.type.length kp] W fun e w' => e = .returned (.string (Pp.wordsB f.type)) ∧ Below W.heap.size W w') := Lib.hid fun W hW => refWords_any HSO.out (HKQ.out.below hW) (by omega) fz3
      have HD0 : Hid (Below wr.heap.size wr wr.drew) := Lib.hid (Below.refl _ _).drew
      have HK2 : Hid (∀ W W2, Below wr.heap.size wr W → Below W.heap.size W W2 → Below wr.heap.size wr W2) := Lib.hid fun W W2 h1 h2 => h1.trans (h2.mono h1.size)
      have HJB : Hid (∀ W, Below wr.heap.size wr W → Below W1.heap.size W1 W) := Lib.hid fun W hW => HJ.out.2.trans (hW.mono HJ.out.2.size)
      clear fz1 fz2 fz3 hws hqb
      go_upto_region 15 with fail
      go_region_held_law (fun W => W.cell? ⟨y, 2, none⟩ = some (.slice (some B) r.fields.length kq) ∧ W.cell? (B.add (k * 2)) = some (.string f.name) ∧ W.cell? ⟨(B.add (k * 2)).block, (B.add (k * 2)).off + 1, none⟩ = some (.slice pp f.type.length kp))
        (first | exact HC.out _ HD0.out | exact HC.out _ hb7)
        (first
          | (go_at_call 60; refine (HQW.out wr.drew HD0.out).mono ?_; rintro e w6 ⟨rfl, hb6⟩; have hb7 := HK2.out _ _ HD0.out hb6)
          | fail)
      all_goals
        have HB7 := Lib.hid hb7
        clear hb6 hb7
        go_wp2_with fail
        go_roundw
        case rel => exact ⟨k + 1, _, by omega, by go_num, rfl, HNQ.out, Lib.hid ⟨HTQ.out, HJB.out _ HB7.out⟩⟩
        case measure => simp [intOf]; omega
    · obtain rfl : k = r.fields.length := by omega
      have j1 : ¬ (r.fields.length : Int) < (r.fields.length : Int) := by omega
      have HT : Hid (q ++ ⟨#[32, 125]⟩ = Pp.headB s ++ Pp.fl ((s.records.take (i + 1)).flatMap Pp.rcdT)) := Lib.hid (by
        rw [Pp.shut_ref, HJ.out.1, List.take_length, HST.out, HM.out]
        show _ = _; unfold Pp.rcdT; simp only [Pp.fl_append, ByteArray.append_assoc])
      have HZ : Hid ((q ++ ⟨#[32, 125]⟩ : ByteArray).size ≤ 1000 + (i + 1) * 400000) := Lib.hid (by
        rw [ByteArray.size_append]; show q.size + 2 ≤ _
        have : r.fields.length * 8300 ≤ 40 * 8300 := Nat.mul_le_mul_right _ (by have := HSR.out.2.1; omega)
        omega)
      have hqb : q.size ≤ 1000000000 := by
        have : r.fields.length * 8300 ≤ 40 * 8300 := Nat.mul_le_mul_right _ (by have := HSR.out.2.1; omega)
        have : i * 400000 ≤ 100 * 400000 := Nat.mul_le_mul_right _ (by omega)
        omega
      have z0a : ¬ 9223372036854775807 < q.size + 2 := by omega
      clear hlk
      go_wp2_with fail
      go_roundw
      case rel => exact ⟨i + 1, _, by omega, by go_num, rfl, HZ.out, Lib.hid ⟨HT.out, HBQ.out⟩⟩
      case measure => simp [intOf]; omega
  · obtain rfl : i = s.records.length := by omega
    have i1 : ¬ (s.records.length : Int) < (s.records.length : Int) := by omega
    have HM1 : Hid (m = Pp.headB s ++ Pp.fl (s.records.flatMap Pp.rcdT)) := Lib.hid (by have := HQ.out.1; rwa [List.take_length] at this)
    have HBM1 := Lib.hid HQ.out.2
    have hms1 : m.size ≤ 50000000 := by
      have : s.records.length * 400000 ≤ 100 * 400000 := Nat.mul_le_mul_right _ (by omega)
      omega
    clear hlt hi hms HQ
    go_wp2_with fail
    go_loopw [6, 10, 11, 12, 13] (fun tv iv _ _ _ wr => ∃ (i : Nat) (m : ByteArray), i ≤ s.services.length ∧ iv = .int .i64 (i : Nat) ∧ tv = .string m ∧ m.size ≤ 50000000 + i * 100000 ∧ Hid (m = (Pp.headB s ++ Pp.fl (s.records.flatMap Pp.rcdT)) ++ Pp.fl ((s.services.take i).flatMap Pp.srvT) ∧ Below W0.heap.size W0 wr)) (fun _ iv _ _ _ _ => s.services.length - (intOf iv).toNat)
    case atStart => exact ⟨0, _, Nat.zero_le _, rfl, rfl, by omega, Lib.hid ⟨by rw [List.take_zero, HM1.out]; exact (ByteArray.append_empty).symm, HBM1.out⟩⟩
    case round =>
    obtain ⟨i, m, hi, rfl, rfl, hms, HQ⟩ := hrel
    clear x0 x1 x2 x3
    obtain ⟨x0, x1, x2, x3⟩ := cells4' (HX.out _ HQ.out.2).1
    by_cases hlt : i < s.services.length
    · have i1 : (i : Int) < (s.services.length : Int) := by omega
      have i2 : (0 : Int) ≤ (i : Int) := by omega
      obtain ⟨A, cc, p, kq, e3, hA, d0, d1, hin, hsub⟩ := srv_at2 HV.out (HU.out.below HQ.out.2) hlt
      cases e3
      obtain ⟨_, _, e9, hsl⟩ := ro_len hsub
      cases e9
      have HSUB := Lib.hid hsub
      have HOR := Lib.hid (HOK.out.2.2.1 _ (List.getElem_mem hlt))
      have HSR := Lib.hid (HSM.out.v _ (List.getElem_mem hlt))
      have HST := Lib.hid (Pp.fl_step Pp.srvT s.services hlt)
      clear hsub hin hA
      generalize s.services[i] = r at *
      obtain ⟨y, hy⟩ : ∃ y, y = wr.heap.size := ⟨_, rfl⟩
      obtain ⟨W1, hW1⟩ : ∃ W1, W1 = wr.alloc (.cells #[.string r.name, .slice p r.methods.length kq] 98) := ⟨_, rfl⟩
      have HN1 : Hid (W1.heap[y]? = some (.cells #[.string r.name, .slice p r.methods.length kq] 98 (0, 0))) := Lib.hid (by rw [hW1, hy]; exact heap_alloc_new wr _)
      have HB1 : Hid (Below W0.heap.size W0 W1) := Lib.hid (by rw [hW1]; exact HQ.out.2.trans ((tk_alloc wr _).mono HQ.out.2.size))
      have HL1 : Hid (y < W1.heap.size) := Lib.hid (Array.getElem?_eq_some_iff.1 HN1.out).1
      have HM := Lib.hid HQ.out.1
      go_upto_region 21 with fail
      rw [← hW1, ← hy]
      clear hW1 hy x0 x1 x2 x3 d0 d1 HQ
      obtain ⟨y0, y1⟩ := cells2 HN1.out
      obtain ⟨rz1, rz2, rz3⟩ := HSR.out
      have hmb : m.size ≤ 1000000000 := by
        have : i * 100000 ≤ 100 * 100000 := Nat.mul_le_mul_right _ (by omega)
        omega
      obtain ⟨m', HMM⟩ : ∃ m', Hid (m' = m ++ Pp.fl ([Ip.kService, r.name, Ip.sOpen])) := ⟨_, Lib.hid rfl⟩
      have HH2 : Hid ((m ++ ⟨#[32, 115, 101, 114, 118, 105, 99, 101, 32]⟩ ++ r.name ++ ⟨#[32, 123]⟩ : ByteArray) = m') := Lib.hid (by rw [HMM.out]; exact Pp.service_ref m r.name)
      have HHS : Hid (m'.size ≤ 50000000 + i * 100000 + 1000) := Lib.hid (by
        rw [← HH2.out]
        simp only [ByteArray.size_append]
        show m.size + 9 + r.name.size + 2 ≤ _
        omega)
      have h0a : ¬ 9223372036854775807 < m.size + 9 := by omega
      have h1a : ¬ 9223372036854775807 < m.size + 9 + r.name.size := by omega
      have h1b : ¬ 9223372036854775807 < (m ++ ⟨#[32, 115, 101, 114, 118, 105, 99, 101, 32]⟩).size + r.name.size := by simp only [ByteArray.size_append]; exact h1a
      have h2a : ¬ 9223372036854775807 < m.size + 9 + r.name.size + 2 := by omega
      have h2b : ¬ 9223372036854775807 < (m ++ ⟨#[32, 115, 101, 114, 118, 105, 99, 101, 32]⟩ ++ r.name).size + 2 := by simp only [ByteArray.size_append]; exact h2a
      go_upto_region 22 with fail
      rw [HH2.out]
      clear h0a h1a h1b h2a h2b hmb
      go_wp2_with fail
      have hl40 : r.methods.length ≤ 40 := HSR.out.2.1
      clear rz1 rz2 rz3
      go_loopw [6, 12, 13] (fun tv kv _ wq => ∃ (k : Nat) (q : ByteArray), k ≤ r.methods.length ∧ kv = .int .i64 (k : Nat) ∧ tv = .string q ∧ q.size ≤ 50000000 + i * 100000 + 1000 + k * 2000 ∧ Hid (q = m ++ Pp.fl ([Ip.kService, r.name, Ip.sOpen]) ++ Pp.fl ((r.methods.take k).flatMap Pp.mthT) ∧ Below W1.heap.size W1 wq)) (fun _ kv _ _ => r.methods.length - (intOf kv).toNat)
      case atStart => exact ⟨0, _, Nat.zero_le _, rfl, rfl, by have := HHS.out; omega, Lib.hid ⟨by rw [List.take_zero, HMM.out]; exact (ByteArray.append_empty).symm, Below.refl _ _⟩⟩
      case round =>
      obtain ⟨k, q, hk, rfl, rfl, hqs, HJ⟩ := hrel
      have HBQ : Hid (Below W0.heap.size W0 wr) := Lib.hid (HB1.out.trans (HJ.out.2.mono HB1.out.size))
      have HY1 : Hid (wr.heap[y]? = some (.cells #[.string r.name, .slice p r.methods.length kq] 98 (0, 0))) := Lib.hid ((HJ.out.2.block _ HL1.out).trans HN1.out)
      clear y0 y1
      obtain ⟨y0, y1⟩ := cells2 HY1.out
      by_cases hlk : k < r.methods.length
      · have j1 : (k : Int) < (r.methods.length : Int) := by omega
        have j2 : (0 : Int) ≤ (k : Int) := by omega
        have HKQ := Lib.hid (HU.out.below HBQ.out)
        obtain ⟨B, cb, e5, hB, g0, g1, g2, g3, g4, hpin⟩ := mth_at (HSUB.out.kp HKQ.out) hlk
        cases e5
        have HMO := Lib.hid (HOR.out.2 _ (List.getElem_mem hlk))
        have HMS := Lib.hid (HSR.out.2.2 _ (List.getElem_mem hlk))
        have HFT := Lib.hid (Pp.fl_step Pp.mthT r.methods hlk)
        clear hB hpin
        generalize r.methods[k] = f at *
        obtain ⟨fz1, fz2, fz3, fz4⟩ := HMS.out
        have hws : (Pp.refW ⟨f.result, ⟨#[]⟩⟩).size ≤ 4 := by rw [Pp.word_ref HMO.out.2.2.2.1]; exact Pp.kw_size _
        have hqb : q.size ≤ 1000000000 := by
          have : k * 2000 ≤ 40 * 2000 := Nat.mul_le_mul_right _ (by omega)
          have : i * 100000 ≤ 100 * 100000 := Nat.mul_le_mul_right _ (by omega)
          omega
        obtain ⟨q', HQ1⟩ : ∃ q', Hid ((q ++ ⟨#[32]⟩ ++ f.effect ++ ⟨#[32]⟩ ++ f.name ++ ⟨#[32, 40, 32]⟩ ++ f.arg ++ ⟨#[32, 41, 32, 45, 62, 32]⟩ ++ (Pp.refW ⟨f.result, ⟨#[]⟩⟩) : ByteArray) = q') := ⟨_, Lib.hid rfl⟩
        have HQS : Hid (q'.size ≤ q.size + 620) := Lib.hid (by
          rw [← HQ1.out]
          simp only [ByteArray.size_append]
          show q.size + 1 + f.effect.size + 1 + f.name.size + 3 + f.arg.size + 6 + (Pp.refW ⟨f.result, ⟨#[]⟩⟩).size ≤ _
          omega)
        have HQT : Hid (q' = q ++ Pp.fl [f.effect, f.name, Ip.sIn, f.arg, Ip.sOut, Ip.sArrow, Pp.kw f.result]) := Lib.hid (by
          rw [← HQ1.out, Pp.method_ref q f.effect f.name f.arg, Pp.word_ref HMO.out.2.2.2.1])
        have c0a : ¬ 9223372036854775807 < q.size + 1 := by omega
        have c1a : ¬ 9223372036854775807 < q.size + 1 + f.effect.size := by omega
        have c1b : ¬ 9223372036854775807 < (q ++ ⟨#[32]⟩).size + f.effect.size := by simp only [ByteArray.size_append]; exact c1a
        have c2a : ¬ 9223372036854775807 < q.size + 1 + f.effect.size + 1 := by omega
        have c2b : ¬ 9223372036854775807 < (q ++ ⟨#[32]⟩ ++ f.effect).size + 1 := by simp only [ByteArray.size_append]; exact c2a
        have c3a : ¬ 9223372036854775807 < q.size + 1 + f.effect.size + 1 + f.name.size := by omega
        have c3b : ¬ 9223372036854775807 < (q ++ ⟨#[32]⟩ ++ f.effect ++ ⟨#[32]⟩).size + f.name.size := by simp only [ByteArray.size_append]; exact c3a
        have c4a : ¬ 9223372036854775807 < q.size + 1 + f.effect.size + 1 + f.name.size + 3 := by omega
        have c4b : ¬ 9223372036854775807 < (q ++ ⟨#[32]⟩ ++ f.effect ++ ⟨#[32]⟩ ++ f.name).size + 3 := by simp only [ByteArray.size_append]; exact c4a
        have c5a : ¬ 9223372036854775807 < q.size + 1 + f.effect.size + 1 + f.name.size + 3 + f.arg.size := by omega
        have c5b : ¬ 9223372036854775807 < (q ++ ⟨#[32]⟩ ++ f.effect ++ ⟨#[32]⟩ ++ f.name ++ ⟨#[32, 40, 32]⟩).size + f.arg.size := by simp only [ByteArray.size_append]; exact c5a
        have c6a : ¬ 9223372036854775807 < q.size + 1 + f.effect.size + 1 + f.name.size + 3 + f.arg.size + 6 := by omega
        have c6b : ¬ 9223372036854775807 < (q ++ ⟨#[32]⟩ ++ f.effect ++ ⟨#[32]⟩ ++ f.name ++ ⟨#[32, 40, 32]⟩ ++ f.arg).size + 6 := by simp only [ByteArray.size_append]; exact c6a
        have c7a : ¬ 9223372036854775807 < q.size + 1 + f.effect.size + 1 + f.name.size + 3 + f.arg.size + 6 + (Pp.refW ⟨f.result, ⟨#[]⟩⟩).size := by omega
        have c7b : ¬ 9223372036854775807 < (q ++ ⟨#[32]⟩ ++ f.effect ++ ⟨#[32]⟩ ++ f.name ++ ⟨#[32, 40, 32]⟩ ++ f.arg ++ ⟨#[32, 41, 32, 45, 62, 32]⟩).size + (Pp.refW ⟨f.result, ⟨#[]⟩⟩).size := by simp only [ByteArray.size_append]; exact c7a
        have hq' := HQS.out
        have d0a : ¬ 9223372036854775807 < q'.size + 6 := by omega
        have d1a : ¬ 9223372036854775807 < q'.size + 6 + f.undo.size := by omega
        have d1b : ¬ 9223372036854775807 < (q' ++ ⟨#[32, 117, 110, 100, 111, 32]⟩).size + f.undo.size := by simp only [ByteArray.size_append]; exact d1a
        have e0a : ¬ 9223372036854775807 < (q' ++ ⟨#[32, 117, 110, 100, 111, 32]⟩ ++ f.undo).size + 2 := by simp only [ByteArray.size_append]; show ¬ 9223372036854775807 < q'.size + 6 + f.undo.size + 2; omega
        have e0c : ¬ 9223372036854775807 < q'.size + 6 + f.undo.size + 2 := by omega
        have g0a : ¬ 9223372036854775807 < q'.size + 2 := by omega
        obtain ⟨zb, hzb⟩ : ∃ zb, zb = wr.heap.size := ⟨_, rfl⟩
        obtain ⟨wr0, hwr0⟩ : ∃ W, W = wr.alloc (.cells #[.string f.name, .string f.arg, .int .u8 (f.result : Nat), .string f.effect, .string f.undo] 100) := ⟨_, rfl⟩
        have HN3 : Hid (wr0.heap[zb]? = some (.cells #[.string f.name, .string f.arg, .int .u8 (f.result : Nat), .string f.effect, .string f.undo] 100 (0, 0))) := Lib.hid (by rw [hwr0, hzb]; exact heap_alloc_new wr _)
        have HB3 : Hid (Below wr.heap.size wr wr0) := Lib.hid (by rw [hwr0]; exact tk_alloc wr _)
        have HC : Hid (∀ W, Below wr0.heap.size wr0 W → W.cell? ⟨zb, 3, none⟩ = some (.string f.effect) ∧ W.cell? ⟨zb, 0, none⟩ = some (.string f.name) ∧ W.cell? ⟨zb, 1, none⟩ = some (.string f.arg) ∧ W.cell? ⟨zb, 2, none⟩ = some (.int .u8 (f.result : Nat))) := Lib.hid fun W hW => by
          obtain ⟨a0, a1, a2, a3, a4⟩ := cells5 (box_keep hW HN3.out)
          exact ⟨a3, a0, a1, a2⟩
        have HC4 : Hid (∀ W, Below wr0.heap.size wr0 W → W.cell? ⟨zb, 4, none⟩ = some (.string f.undo)) := Lib.hid fun W hW => (cells5 (box_keep hW HN3.out)).2.2.2.2
        have HQW : Hid (∀ W, Below wr0.heap.size wr0 W → Calls Tryz.prog 61 #[.agg #[.int .u8 (f.result : Nat), .string ⟨#[]⟩]] W fun e w' => e = .returned (.string (Pp.refW ⟨f.result, ⟨#[]⟩⟩)) ∧ Below W.heap.size W w') := Lib.hid fun W _ => refWord_any ⟨f.result, ⟨#[]⟩⟩ W
        have HD0 : Hid (Below wr0.heap.size wr0 wr0.drew) := Lib.hid (Below.refl _ _).drew
        have HK2 : Hid (∀ W W2, Below wr0.heap.size wr0 W → Below W.heap.size W W2 → Below wr0.heap.size wr0 W2) := Lib.hid fun W W2 h1 h2 => h1.trans (h2.mono h1.size)
        have HJB : Hid (∀ W, Below wr0.heap.size wr0 W → Below W1.heap.size W1 W) := Lib.hid fun W hW => HJ.out.2.trans ((HB3.out.trans (hW.mono HB3.out.size)).mono HJ.out.2.size)
        have he := empty_is f.undo
        have HSZ : Hid (q.size + 620 + 6 + f.undo.size + 2 ≤ 50000000 + i * 100000 + 1000 + (k + 1) * 2000) := Lib.hid (by omega)
        have hHJ := Lib.hid HJ.out.1
        clear fz1 fz2 fz3 fz4 hws hqb hq'
        go_upto_region 26 with fail
        rw [← hwr0, ← hzb]
        clear hwr0 hzb g0 g1 g2 g3 g4 y0 y1
        go_region_held_law (fun W => W.cell? ⟨zb, 3, none⟩ = some (.string f.effect) ∧ W.cell? ⟨zb, 0, none⟩ = some (.string f.name) ∧ W.cell? ⟨zb, 1, none⟩ = some (.string f.arg) ∧ W.cell? ⟨zb, 2, none⟩ = some (.int .u8 (f.result : Nat)))
          (first | exact HC.out _ HD0.out | exact HC.out _ hb7)
          (first
            | (go_at_call 61; refine (HQW.out wr0.drew HD0.out).mono ?_; rintro e w6 ⟨rfl, hb6⟩; have hb7 := HK2.out _ _ HD0.out hb6)
            | fail)
        all_goals
          have HB7 := Lib.hid hb7
          clear hb6 hb7
          rw [HQ1.out]
          have a4 := HC4.out _ HB7.out
          clear c0a c1a c1b c2a c2b c3a c3b c4a c4b c5a c5b c6a c6b c7a c7b
          cases qe : Ck.empty f.undo with
          | true =>
            rw [qe] at he
            have HU : Hid (Pp.undoT f.undo = []) := Lib.hid (by unfold Pp.undoT; rw [if_pos (Ip.eqB_iff.1 qe)])
            have HF : Hid (q' ++ ⟨#[32, 59]⟩ = m' ++ Pp.fl ((r.methods.take (k + 1)).flatMap Pp.mthT)) := Lib.hid (by
              rw [Pp.semi_ref, HFT.out, HQT.out, hHJ.out, HMM.out]
              unfold Pp.mthT
              rw [HU.out]
              simp only [Pp.fl_append, ByteArray.append_assoc, List.append_nil])
            have HFZ : Hid ((q' ++ ⟨#[32, 59]⟩ : ByteArray).size ≤ 50000000 + i * 100000 + 1000 + (k + 1) * 2000) := Lib.hid (by rw [ByteArray.size_append]; show q'.size + 2 ≤ _; have := HQS.out; have := HSZ.out; omega)
            rw [HMM.out] at HF
            clear qe
            go_wp2_with fail
            go_roundw
            case rel => exact ⟨k + 1, _, by omega, by go_num, rfl, HFZ.out, Lib.hid ⟨HF.out, HJB.out _ HB7.out⟩⟩
            case measure => simp [intOf]; omega
          | false =>
            rw [qe] at he
            have HU : Hid (Pp.undoT f.undo = [Ip.kUndo, f.undo]) := Lib.hid (by unfold Pp.undoT; rw [if_neg (fun e => by have e2 : Ck.empty f.undo = true := Ip.eqB_iff.2 e; rw [e2] at qe; cases qe)])
            have HF : Hid (q' ++ ⟨#[32, 117, 110, 100, 111, 32]⟩ ++ f.undo ++ ⟨#[32, 59]⟩ = m' ++ Pp.fl ((r.methods.take (k + 1)).flatMap Pp.mthT)) := Lib.hid (by
              rw [Pp.semi_ref, Pp.undo_ref, HFT.out, HQT.out, hHJ.out, HMM.out]
              unfold Pp.mthT
              rw [HU.out]
              simp only [Pp.fl_append, ByteArray.append_assoc])
            have HFZ : Hid ((q' ++ ⟨#[32, 117, 110, 100, 111, 32]⟩ ++ f.undo ++ ⟨#[32, 59]⟩ : ByteArray).size ≤ 50000000 + i * 100000 + 1000 + (k + 1) * 2000) := Lib.hid (by simp only [ByteArray.size_append]; show q'.size + 6 + f.undo.size + 2 ≤ _; have := HQS.out; have := HSZ.out; omega)
            rw [HMM.out] at HF
            clear qe
            go_wp2_with fail
            go_roundw
            case rel => exact ⟨k + 1, _, by omega, by go_num, rfl, HFZ.out, Lib.hid ⟨HF.out, HJB.out _ HB7.out⟩⟩
            case measure => simp [intOf]; omega
      · obtain rfl : k = r.methods.length := by omega
        have j1 : ¬ (r.methods.length : Int) < (r.methods.length : Int) := by omega
        have HT : Hid (q ++ ⟨#[32, 125]⟩ = (Pp.headB s ++ Pp.fl (s.records.flatMap Pp.rcdT)) ++ Pp.fl ((s.services.take (i + 1)).flatMap Pp.srvT)) := Lib.hid (by
          rw [Pp.shut_ref, HJ.out.1, List.take_length, HST.out, HM.out]
          show _ = _; unfold Pp.srvT; simp only [Pp.fl_append, ByteArray.append_assoc])
        have HZ : Hid ((q ++ ⟨#[32, 125]⟩ : ByteArray).size ≤ 50000000 + (i + 1) * 100000) := Lib.hid (by
          rw [ByteArray.size_append]; show q.size + 2 ≤ _
          have : r.methods.length * 2000 ≤ 40 * 2000 := Nat.mul_le_mul_right _ (by have := HSR.out.2.1; omega)
          omega)
        have hqb : q.size ≤ 1000000000 := by
          have : r.methods.length * 2000 ≤ 40 * 2000 := Nat.mul_le_mul_right _ (by have := HSR.out.2.1; omega)
          have : i * 100000 ≤ 100 * 100000 := Nat.mul_le_mul_right _ (by omega)
          omega
        have z0a : ¬ 9223372036854775807 < q.size + 2 := by omega
        clear hlk
        go_wp2_with fail
        go_roundw
        case rel => exact ⟨i + 1, _, by omega, by go_num, rfl, HZ.out, Lib.hid ⟨HT.out, HBQ.out⟩⟩
        case measure => simp [intOf]; omega
    · obtain rfl : i = s.services.length := by omega
      have i1 : ¬ (s.services.length : Int) < (s.services.length : Int) := by omega
      have HM2 : Hid (m = (Pp.headB s ++ Pp.fl (s.records.flatMap Pp.rcdT)) ++ Pp.fl (s.services.flatMap Pp.srvT)) := Lib.hid (by have := HQ.out.1; rwa [List.take_length] at this)
      have HBM2 := Lib.hid HQ.out.2
      have hms2 : m.size ≤ 60000000 := by
        have : s.services.length * 100000 ≤ 100 * 100000 := Nat.mul_le_mul_right _ (by omega)
        omega
      clear hlt hi hms HQ
      go_wp2_with fail
      go_loopw [6, 14, 15, 16] (fun tv iv _ _ wr => ∃ (i : Nat) (m : ByteArray), i ≤ s.sagas.length ∧ iv = .int .i64 (i : Nat) ∧ tv = .string m ∧ m.size ≤ 60000000 + i * 100000 ∧ Hid (m = (Pp.headB s ++ Pp.fl (s.records.flatMap Pp.rcdT) ++ Pp.fl (s.services.flatMap Pp.srvT)) ++ Pp.fl ((s.sagas.take i).flatMap Pp.sgaT) ∧ Below W0.heap.size W0 wr)) (fun _ iv _ _ _ => s.sagas.length - (intOf iv).toNat)
      case atStart => exact ⟨0, _, Nat.zero_le _, rfl, rfl, by omega, Lib.hid ⟨by rw [List.take_zero, HM2.out]; exact (ByteArray.append_empty).symm, HBM2.out⟩⟩
      case round =>
      obtain ⟨i, m, hi, rfl, rfl, hms, HQ⟩ := hrel
      clear x0 x1 x2 x3
      obtain ⟨x0, x1, x2, x3⟩ := cells4' (HX.out _ HQ.out.2).1
      by_cases hlt : i < s.sagas.length
      · have i1 : (i : Int) < (s.sagas.length : Int) := by omega
        have i2 : (0 : Int) ≤ (i : Int) := by omega
        obtain ⟨A, cc, p, kq, e3, hA, d0, d1, d2, hin, hsub⟩ := sga_at2 HG.out (HU.out.below HQ.out.2) hlt
        cases e3
        obtain ⟨_, _, e9, hsl⟩ := ro_len hsub
        cases e9
        have HSUB := Lib.hid hsub
        have HOR := Lib.hid (HOK.out.2.2.2 _ (List.getElem_mem hlt))
        have HSR := Lib.hid (HSM.out.g _ (List.getElem_mem hlt))
        have HST := Lib.hid (Pp.fl_step Pp.sgaT s.sagas hlt)
        clear hsub hin hA
        generalize s.sagas[i] = r at *
        obtain ⟨y, hy⟩ : ∃ y, y = wr.heap.size := ⟨_, rfl⟩
        obtain ⟨W1, hW1⟩ : ∃ W1, W1 = wr.alloc (.cells #[.string r.name, .string r.arg, .slice p r.steps.length kq] 44) := ⟨_, rfl⟩
        have HN1 : Hid (W1.heap[y]? = some (.cells #[.string r.name, .string r.arg, .slice p r.steps.length kq] 44 (0, 0))) := Lib.hid (by rw [hW1, hy]; exact heap_alloc_new wr _)
        have HB1 : Hid (Below W0.heap.size W0 W1) := Lib.hid (by rw [hW1]; exact HQ.out.2.trans ((tk_alloc wr _).mono HQ.out.2.size))
        have HL1 : Hid (y < W1.heap.size) := Lib.hid (Array.getElem?_eq_some_iff.1 HN1.out).1
        have HM := Lib.hid HQ.out.1
        go_upto_region 35 with fail
        rw [← hW1, ← hy]
        clear hW1 hy x0 x1 x2 x3 d0 d1 d2 HQ
        obtain ⟨y0, y1, y2⟩ := cells3 HN1.out
        obtain ⟨rz1, rz1a, rz2, rz3⟩ := HSR.out
        have hmb : m.size ≤ 1000000000 := by
          have : i * 100000 ≤ 100 * 100000 := Nat.mul_le_mul_right _ (by omega)
          omega
        obtain ⟨m', HMM⟩ : ∃ m', Hid (m' = m ++ Pp.fl ([Ip.kSaga, r.name, Ip.sIn, r.arg, Ip.sOut, Ip.sOpen])) := ⟨_, Lib.hid rfl⟩
        have HH2 : Hid ((m ++ ⟨#[32, 115, 97, 103, 97, 32]⟩ ++ r.name ++ ⟨#[32, 40, 32]⟩ ++ r.arg ++ ⟨#[32, 41, 32, 123]⟩ : ByteArray) = m') := Lib.hid (by rw [HMM.out]; exact Pp.saga_ref m r.name r.arg)
        have HHS : Hid (m'.size ≤ 60000000 + i * 100000 + 1000) := Lib.hid (by
          rw [← HH2.out]
          simp only [ByteArray.size_append]
          show m.size + 6 + r.name.size + 3 + r.arg.size + 4 ≤ _
          omega)
        have h0a : ¬ 9223372036854775807 < m.size + 6 := by omega
        have h1a : ¬ 9223372036854775807 < m.size + 6 + r.name.size := by omega
        have h1b : ¬ 9223372036854775807 < (m ++ ⟨#[32, 115, 97, 103, 97, 32]⟩).size + r.name.size := by simp only [ByteArray.size_append]; exact h1a
        have h2a : ¬ 9223372036854775807 < m.size + 6 + r.name.size + 3 := by omega
        have h2b : ¬ 9223372036854775807 < (m ++ ⟨#[32, 115, 97, 103, 97, 32]⟩ ++ r.name).size + 3 := by simp only [ByteArray.size_append]; exact h2a
        have h3a : ¬ 9223372036854775807 < m.size + 6 + r.name.size + 3 + r.arg.size := by omega
        have h3b : ¬ 9223372036854775807 < (m ++ ⟨#[32, 115, 97, 103, 97, 32]⟩ ++ r.name ++ ⟨#[32, 40, 32]⟩).size + r.arg.size := by simp only [ByteArray.size_append]; exact h3a
        have h4a : ¬ 9223372036854775807 < m.size + 6 + r.name.size + 3 + r.arg.size + 4 := by omega
        have h4b : ¬ 9223372036854775807 < (m ++ ⟨#[32, 115, 97, 103, 97, 32]⟩ ++ r.name ++ ⟨#[32, 40, 32]⟩ ++ r.arg).size + 4 := by simp only [ByteArray.size_append]; exact h4a
        go_upto_region 36 with fail
        rw [HH2.out]
        clear h0a h1a h1b h2a h2b h3a h3b h4a h4b hmb
        go_wp2_with fail
        have hl40 : r.steps.length ≤ 40 := HSR.out.2.2.1
        clear rz1 rz1a rz2 rz3
        go_loopw [6, 16] (fun tv kv wq => ∃ (k : Nat) (q : ByteArray), k ≤ r.steps.length ∧ kv = .int .i64 (k : Nat) ∧ tv = .string q ∧ q.size ≤ 60000000 + i * 100000 + 1000 + k * 2000 ∧ Hid (q = m ++ Pp.fl ([Ip.kSaga, r.name, Ip.sIn, r.arg, Ip.sOut, Ip.sOpen]) ++ Pp.fl ((r.steps.take k).flatMap Pp.stpT) ∧ Below W1.heap.size W1 wq)) (fun _ kv _ => r.steps.length - (intOf kv).toNat)
        case atStart => exact ⟨0, _, Nat.zero_le _, rfl, rfl, by have := HHS.out; omega, Lib.hid ⟨by rw [List.take_zero, HMM.out]; exact (ByteArray.append_empty).symm, Below.refl _ _⟩⟩
        case round =>
        obtain ⟨k, q, hk, rfl, rfl, hqs, HJ⟩ := hrel
        have HBQ : Hid (Below W0.heap.size W0 wr) := Lib.hid (HB1.out.trans (HJ.out.2.mono HB1.out.size))
        have HY1 : Hid (wr.heap[y]? = some (.cells #[.string r.name, .string r.arg, .slice p r.steps.length kq] 44 (0, 0))) := Lib.hid ((HJ.out.2.block _ HL1.out).trans HN1.out)
        clear y0 y1 y2
        obtain ⟨y0, y1, y2⟩ := cells3 HY1.out
        by_cases hlk : k < r.steps.length
        · have j1 : (k : Int) < (r.steps.length : Int) := by omega
          have j2 : (0 : Int) ≤ (k : Int) := by omega
          have HKQ := Lib.hid (HU.out.below HBQ.out)
          obtain ⟨B, cb, e5, hB, g0, g1, g2, hpin⟩ := stp_at (HSUB.out.kp HKQ.out) hlk
          cases e5
          have HMO := Lib.hid (HOR.out.2.2 _ (List.getElem_mem hlk))
          have HMS := Lib.hid (HSR.out.2.2.2 _ (List.getElem_mem hlk))
          have HFT := Lib.hid (Pp.fl_step Pp.stpT r.steps hlk)
          clear hB hpin
          generalize r.steps[k] = f at *
          obtain ⟨a, ha⟩ := Int.eq_ofNat_of_zero_le HMO.out.2.2.1
          have ha3 : a < 10 := by have := HMO.out.2.2.2; omega
          rw [ha] at g2
          have HAT : Hid (f.at_.toNat = a) := Lib.hid (by rw [ha]; rfl)
          clear ha
          obtain ⟨fz1, fz2⟩ := HMS.out
          have hws : (Ck.num a).size ≤ 200 := num_len ha3
          have hqb : q.size ≤ 1000000000 := by
            have : k * 2000 ≤ 40 * 2000 := Nat.mul_le_mul_right _ (by omega)
            have : i * 100000 ≤ 100 * 100000 := Nat.mul_le_mul_right _ (by omega)
            omega
          have HNQ : Hid ((q ++ ⟨#[32, 100, 111, 32]⟩ ++ f.service ++ ⟨#[32, 46, 32]⟩ ++ f.method ++ ⟨#[32, 97, 116, 32]⟩ ++ (Ck.num a) ++ ⟨#[32, 59]⟩ : ByteArray).size ≤ 60000000 + i * 100000 + 1000 + (k + 1) * 2000) := Lib.hid (by
            simp only [ByteArray.size_append]
            show q.size + 4 + f.service.size + 3 + f.method.size + 4 + (Ck.num a).size + 2 ≤ _
            omega)
          have HTQ : Hid ((q ++ ⟨#[32, 100, 111, 32]⟩ ++ f.service ++ ⟨#[32, 46, 32]⟩ ++ f.method ++ ⟨#[32, 97, 116, 32]⟩ ++ (Ck.num a) ++ ⟨#[32, 59]⟩ : ByteArray) = m ++ Pp.fl [Ip.kSaga, r.name, Ip.sIn, r.arg, Ip.sOut, Ip.sOpen] ++ Pp.fl ((r.steps.take (k + 1)).flatMap Pp.stpT)) := Lib.hid (by
            rw [Pp.step_ref q f.service f.method, HFT.out, HJ.out.1]
            unfold Pp.stpT
            rw [HAT.out]
            simp only [ByteArray.append_assoc])
          have c0a : ¬ 9223372036854775807 < q.size + 4 := by omega
          have c1a : ¬ 9223372036854775807 < q.size + 4 + f.service.size := by omega
          have c1b : ¬ 9223372036854775807 < (q ++ ⟨#[32, 100, 111, 32]⟩).size + f.service.size := by simp only [ByteArray.size_append]; exact c1a
          have c2a : ¬ 9223372036854775807 < q.size + 4 + f.service.size + 3 := by omega
          have c2b : ¬ 9223372036854775807 < (q ++ ⟨#[32, 100, 111, 32]⟩ ++ f.service).size + 3 := by simp only [ByteArray.size_append]; exact c2a
          have c3a : ¬ 9223372036854775807 < q.size + 4 + f.service.size + 3 + f.method.size := by omega
          have c3b : ¬ 9223372036854775807 < (q ++ ⟨#[32, 100, 111, 32]⟩ ++ f.service ++ ⟨#[32, 46, 32]⟩).size + f.method.size := by simp only [ByteArray.size_append]; exact c3a
          have c4a : ¬ 9223372036854775807 < q.size + 4 + f.service.size + 3 + f.method.size + 4 := by omega
          have c4b : ¬ 9223372036854775807 < (q ++ ⟨#[32, 100, 111, 32]⟩ ++ f.service ++ ⟨#[32, 46, 32]⟩ ++ f.method).size + 4 := by simp only [ByteArray.size_append]; exact c4a
          have c5a : ¬ 9223372036854775807 < q.size + 4 + f.service.size + 3 + f.method.size + 4 + (Ck.num a).size := by omega
          have c5b : ¬ 9223372036854775807 < (q ++ ⟨#[32, 100, 111, 32]⟩ ++ f.service ++ ⟨#[32, 46, 32]⟩ ++ f.method ++ ⟨#[32, 97, 116, 32]⟩).size + (Ck.num a).size := by simp only [ByteArray.size_append]; exact c5a
          have c6a : ¬ 9223372036854775807 < q.size + 4 + f.service.size + 3 + f.method.size + 4 + (Ck.num a).size + 2 := by omega
          have c6b : ¬ 9223372036854775807 < (q ++ ⟨#[32, 100, 111, 32]⟩ ++ f.service ++ ⟨#[32, 46, 32]⟩ ++ f.method ++ ⟨#[32, 97, 116, 32]⟩ ++ (Ck.num a)).size + 2 := by simp only [ByteArray.size_append]; exact c6a
          obtain ⟨wr0, hwr0⟩ : ∃ W, W = wr := ⟨_, rfl⟩
          have HC : Hid (∀ W, Below wr0.heap.size wr0 W → W.cell? ⟨y, 2, none⟩ = some (.slice (some B) r.steps.length kq) ∧ W.cell? (B.add (k * 3)) = some (.string f.service) ∧ W.cell? ⟨(B.add (k * 3)).block, (B.add (k * 3)).off + 1, none⟩ = some (.string f.method) ∧ W.cell? ⟨(B.add (k * 3)).block, (B.add (k * 3)).off + 2, none⟩ = some (.int .i64 (a : Nat))) := Lib.hid (by
            rw [hwr0]
            exact fun W hW => ⟨(hW.cell (tcell_block y2)).trans y2, (hW.cell (tcell_block g0)).trans g0, (hW.cell (tcell_block g1)).trans g1, (hW.cell (tcell_block g2)).trans g2⟩)
          have HQW : Hid (∀ W, Below wr0.heap.size wr0 W → Calls Tryz.prog 62 #[.int .i64 (a : Nat)] W fun e w' => e = .returned (.string (Ck.num a)) ∧ Below W.heap.size W w') := Lib.hid fun W _ => refNum14_any a ha3 W
          have HD0 : Hid (Below wr0.heap.size wr0 wr0.drew) := Lib.hid (Below.refl _ _).drew
          have HK2 : Hid (∀ W W2, Below wr0.heap.size wr0 W → Below W.heap.size W W2 → Below wr0.heap.size wr0 W2) := Lib.hid fun W W2 h1 h2 => h1.trans (h2.mono h1.size)
          have HJB : Hid (∀ W, Below wr0.heap.size wr0 W → Below W1.heap.size W1 W) := Lib.hid (by rw [hwr0]; exact fun W hW => HJ.out.2.trans (hW.mono HJ.out.2.size))
          clear fz1 fz2 hws hqb
          go_upto_region 39 with fail
          rw [← hwr0]
          clear hwr0
          go_region_held_law (fun W => W.cell? ⟨y, 2, none⟩ = some (.slice (some B) r.steps.length kq) ∧ W.cell? (B.add (k * 3)) = some (.string f.service) ∧ W.cell? ⟨(B.add (k * 3)).block, (B.add (k * 3)).off + 1, none⟩ = some (.string f.method) ∧ W.cell? ⟨(B.add (k * 3)).block, (B.add (k * 3)).off + 2, none⟩ = some (.int .i64 (a : Nat)))
            (first | exact HC.out _ HD0.out | exact HC.out _ hb7)
            (first
              | (go_at_call 62; refine (HQW.out wr0.drew HD0.out).mono ?_; rintro e w6 ⟨rfl, hb6⟩; have hb7 := HK2.out _ _ HD0.out hb6)
              | fail)
          all_goals
            have HB7 := Lib.hid hb7
            clear hb6 hb7
            go_wp2_with fail
            go_roundw
            case rel => exact ⟨k + 1, _, by omega, by go_num, rfl, HNQ.out, Lib.hid ⟨HTQ.out, HJB.out _ HB7.out⟩⟩
            case measure => simp [intOf]; omega
        · obtain rfl : k = r.steps.length := by omega
          have j1 : ¬ (r.steps.length : Int) < (r.steps.length : Int) := by omega
          have HT : Hid (q ++ ⟨#[32, 125]⟩ = (Pp.headB s ++ Pp.fl (s.records.flatMap Pp.rcdT) ++ Pp.fl (s.services.flatMap Pp.srvT)) ++ Pp.fl ((s.sagas.take (i + 1)).flatMap Pp.sgaT)) := Lib.hid (by
            rw [Pp.shut_ref, HJ.out.1, List.take_length, HST.out, HM.out]
            show _ = _; unfold Pp.sgaT; simp only [Pp.fl_append, ByteArray.append_assoc])
          have HZ : Hid ((q ++ ⟨#[32, 125]⟩ : ByteArray).size ≤ 60000000 + (i + 1) * 100000) := Lib.hid (by
            rw [ByteArray.size_append]; show q.size + 2 ≤ _
            have : r.steps.length * 2000 ≤ 40 * 2000 := Nat.mul_le_mul_right _ (by have := HSR.out.2.2.1; omega)
            omega)
          have hqb : q.size ≤ 1000000000 := by
            have : r.steps.length * 2000 ≤ 40 * 2000 := Nat.mul_le_mul_right _ (by have := HSR.out.2.2.1; omega)
            have : i * 100000 ≤ 100 * 100000 := Nat.mul_le_mul_right _ (by omega)
            omega
          have z0a : ¬ 9223372036854775807 < q.size + 2 := by omega
          clear hlk
          go_wp2_with fail
          go_roundw
          case rel => exact ⟨i + 1, _, by omega, by go_num, rfl, HZ.out, Lib.hid ⟨HT.out, HBQ.out⟩⟩
          case measure => simp [intOf]; omega
      · obtain rfl : i = s.sagas.length := by omega
        have i1 : ¬ (s.sagas.length : Int) < (s.sagas.length : Int) := by omega
        have HM3 : Hid (m = (Pp.headB s ++ Pp.fl (s.records.flatMap Pp.rcdT) ++ Pp.fl (s.services.flatMap Pp.srvT)) ++ Pp.fl (s.sagas.flatMap Pp.sgaT)) := Lib.hid (by have := HQ.out.1; rwa [List.take_length] at this)
        have HBM3 := Lib.hid HQ.out.2
        have hms3 : m.size ≤ 70000000 := by
          have : s.sagas.length * 100000 ≤ 100 * 100000 := Nat.mul_le_mul_right _ (by omega)
          omega
        clear hlt hi hms HQ
        have HBO : Hid (m = Pp.bodyB s) := Lib.hid (HM3.out.trans rfl)
        have hl : Hid (Pp.text s = if 65536 < m.size then (⟨#[]⟩, 3) else (m, 0)) := Lib.hid (by rw [HTX.out, ← HBO.out])
        by_cases hlong : 65536 < m.size
        · have i5 : (65536 : Int) < (m.size : Int) := by omega
          have HE : Hid (Pp.text s = (⟨#[]⟩, 3)) := Lib.hid (by rw [hl.out, if_pos hlong])
          clear hlong
          go_wp2_with fail
          go_ret2
          exact ⟨by rw [HE.out]; rfl, (HX.out _ HBM3.out).2⟩
        · have i5 : ¬ (65536 : Int) < (m.size : Int) := by omega
          have HE : Hid (Pp.text s = (m, 0)) := Lib.hid (by rw [hl.out, if_neg hlong])
          clear hlong
          go_wp2_with fail
          go_ret2
          exact ⟨by rw [HE.out]; rfl, (HX.out _ HBM3.out).2⟩
end Go.Proofs.YtnkdhmoocomjfaaGreatDoor
