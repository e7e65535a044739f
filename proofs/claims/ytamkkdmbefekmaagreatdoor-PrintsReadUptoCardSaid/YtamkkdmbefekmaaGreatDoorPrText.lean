/-
  Walks over package prints: a schema's text and its fingerprint; the laws' schema. Conditions: those in the theorems (the keywords' variable holds what the row lists).
-/
import Derived.Test.YtamkkdmbefekmaaGreatDoorPrLines
import Derived.Test.YtamkkdmbefekmaaGreatDoorPrLong
import Derived.Test.YtamkkdmbefekmaaGreatDoorCkWakes
set_option linter.unusedSimpArgs false
set_option linter.unusedVariables false
namespace Pp
open Ip
theorem kw_size (k : Nat) : (kw k).size ≤ 4 := by
  unfold kw
  split
  · decide
  split
  · decide
  split
  · decide
  split
  · decide
  split
  · decide
  split
  · decide
  decide
theorem soW_size {x : So} (h : x.name.size ≤ 200) : (soW x).size ≤ 200 := by
  unfold soW
  split
  · exact h
  · have := kw_size x.kind; omega
theorem cost_fld {f : Fld} (h : Ck.SmF f) : cost (fldT f) ≤ 9000 := by
  have h1 : cost (f.type.flatMap soT) ≤ f.type.length * 201 := cost_flat soT fun x hx => by
    have := soW_size (h.2.2 x hx); show cost [soW x] ≤ 201; rw [cost_cons, cost_nil]; omega
  have h2 : f.type.length * 201 ≤ 40 * 201 := Nat.mul_le_mul_right _ h.2.1
  have h3 := h.1
  unfold fldT
  rw [cost_append, cost_append, cost_cons, cost_cons, cost_nil, cost_cons, cost_nil, show sColon.size = 1 from rfl, show sSemi.size = 1 from rfl]
  omega
theorem cost_rcd {r : Rcd} (h : Ck.SmR r) : cost (rcdT r) ≤ 400000 := by
  have h1 : cost (r.fields.flatMap fldT) ≤ r.fields.length * 9000 := cost_flat fldT fun x hx => cost_fld (h.2.2 x hx)
  have h2 : r.fields.length * 9000 ≤ 40 * 9000 := Nat.mul_le_mul_right _ h.2.1
  have h3 := h.1
  have h4 : (rcdK r).size ≤ 6 := by unfold rcdK; split <;> decide
  unfold rcdT
  rw [cost_append, cost_append, cost_append, cost_cons, cost_nil, cost_cons, cost_cons, cost_nil, cost_cons, cost_nil, show sOpen.size = 1 from rfl, show sShut.size = 1 from rfl]
  omega
theorem cost_mth {m : Mth} (h : Ck.SmM m) : cost (mthT m) ≤ 2000 := by
  obtain ⟨h1, h2, h3, h4⟩ := h
  have h5 : cost (undoT m.undo) ≤ 300 := by
    unfold undoT
    split
    · decide
    · rw [cost_cons, cost_cons, cost_nil, show kUndo.size = 4 from rfl]; omega
  have h6 := kw_size m.result
  unfold mthT
  rw [cost_append, cost_append]
  simp only [cost_cons, cost_nil, show sIn.size = 1 from rfl, show sOut.size = 1 from rfl, show sArrow.size = 2 from rfl, show sSemi.size = 1 from rfl]
  omega
theorem cost_srv {v : Srv} (h : Ck.SmV v) : cost (srvT v) ≤ 100000 := by
  have h1 : cost (v.methods.flatMap mthT) ≤ v.methods.length * 2000 := cost_flat mthT fun x hx => cost_mth (h.2.2 x hx)
  have h2 : v.methods.length * 2000 ≤ 40 * 2000 := Nat.mul_le_mul_right _ h.2.1
  have h3 := h.1
  unfold srvT
  rw [cost_append, cost_append]
  simp only [cost_cons, cost_nil, show kService.size = 7 from rfl, show sOpen.size = 1 from rfl, show sShut.size = 1 from rfl]
  omega
theorem num_size {k : Nat} (h : k ≤ 3) : (Ck.num k).size ≤ 10 := by
  obtain rfl | rfl | rfl | rfl : k = 0 ∨ k = 1 ∨ k = 2 ∨ k = 3 := by omega
  all_goals decide
theorem cost_stp {p : Stp} (h : Ck.SmP p) (ha : 0 ≤ p.at_ ∧ p.at_ ≤ 3) : cost (stpT p) ≤ 1000 := by
  obtain ⟨h1, h2⟩ := h
  have h3 := num_size (k := p.at_.toNat) (by omega)
  unfold stpT
  simp only [cost_cons, cost_nil, show kDo.size = 2 from rfl, show sDot.size = 1 from rfl, show kAt.size = 2 from rfl, show sSemi.size = 1 from rfl]
  omega
theorem cost_sga {g : Sga} (h : Ck.SmG g) (ha : ∀ p ∈ g.steps, 0 ≤ p.at_ ∧ p.at_ ≤ 3) : cost (sgaT g) ≤ 100000 := by
  obtain ⟨h1, h2, h3, h4⟩ := h
  have h5 : cost (g.steps.flatMap stpT) ≤ g.steps.length * 1000 := cost_flat stpT fun x hx => cost_stp (h4 x hx) (ha x hx)
  have h6 : g.steps.length * 1000 ≤ 40 * 1000 := Nat.mul_le_mul_right _ h3
  unfold sgaT
  rw [cost_append, cost_append]
  simp only [cost_cons, cost_nil, show kSaga.size = 4 from rfl, show sIn.size = 1 from rfl, show sOut.size = 1 from rfl, show sOpen.size = 1 from rfl, show sShut.size = 1 from rfl]
  omega
theorem cost_sch {s : Sch} (h : Ck.Small s) (ha : ∀ g ∈ s.sagas, ∀ p ∈ g.steps, 0 ≤ p.at_ ∧ p.at_ ≤ 3) : cost (schT s) ≤ 100000000 := by
  have h1 : cost (s.records.flatMap rcdT) ≤ s.records.length * 400000 := cost_flat rcdT fun x hx => cost_rcd (h.r x hx)
  have h2 : cost (s.services.flatMap srvT) ≤ s.services.length * 100000 := cost_flat srvT fun x hx => cost_srv (h.v x hx)
  have h3 : cost (s.sagas.flatMap sgaT) ≤ s.sagas.length * 100000 := cost_flat sgaT fun x hx => cost_sga (h.g x hx) (ha x hx)
  have h4 := Nat.mul_le_mul_right 400000 h.nr
  have h5 := Nat.mul_le_mul_right 100000 h.ns
  have h6 := Nat.mul_le_mul_right 100000 h.ng
  have h7 := h.name
  unfold schT
  rw [cost_append, cost_append, cost_append]
  simp only [cost_cons, cost_nil, show kModule.size = 6 from rfl, show sSemi.size = 1 from rfl]
  omega
end Pp
namespace Go.Proofs.YtamkkdmbefekmaaGreatDoor
open Go.RowKit
set_option maxRecDepth 100000 in
set_option maxHeartbeats 16000000 in
theorem Text_any {u w : World} {sv : Value} {s : Ip.Sch} (h : RoSch u sv s) (hu : Kp u w) (hk : KwIs u) (hS : Ck.Small s) :
    Calls Tryz.prog 22 #[sv] w fun e w' => e = .returned (.tuple #[.string (Pp.text s).1, .int .i64 ((Pp.text s).2 : Nat)]) ∧ Below w.heap.size w w' := by
  obtain ⟨p1, c1, p2, c2, p3, c3, rfl, -, -, -, -, -, -, -⟩ := sch_parts h
  obtain ⟨W0, hW0⟩ : ∃ W0, W0 = allocs w [schO s p1 c1 p2 c2 p3 c3] := ⟨_, rfl⟩
  have HX : Hid (∀ W, Below W0.heap.size W0 W → W.heap[w.heap.size]? = some (schO s p1 c1 p2 c2 p3 c3) ∧ Below w.heap.size w W) := Lib.hid (by subst hW0; exact fun W hW => ⟨allocs_box (i := 0) rfl hW, allocs_on hW⟩)
  obtain ⟨b0, B0⟩ := HX.out W0 (Below.refl _ _)
  obtain ⟨x0, x1, x2, x3⟩ := cells4' b0
  have HU0 := Lib.hid (hu.below B0)
  have H := Lib.hid h
  have HSM := Lib.hid hS
  have HKW := Lib.hid hk
  have HUW := Lib.hid hu
  have HOK := Lib.hid (Ck.check_ok (s := s))
  have HTX : Hid ((Ck.check s).2 ≠ 0 → Pp.text s = (⟨#[]⟩, (Ck.check s).2)) := Lib.hid fun e => by unfold Pp.text; rw [if_pos e]
  have HTL : Hid ((Ck.check s).2 = 0 → 65536 < (Pp.line s).length → Pp.text s = (⟨#[]⟩, 3)) := Lib.hid fun e k => by unfold Pp.text; rw [if_neg (by simpa using e), if_pos k]
  have HTT : Hid ((Ck.check s).2 = 0 → ¬ 65536 < (Pp.line s).length → Pp.text s = (Tk.bs (Pp.line s), 0)) := Lib.hid fun e k => by unfold Pp.text; rw [if_neg (by simpa using e), if_neg k]
  have QC := Lib.hid (Check_any h (hu.below B0) hk hS)
  unfold Checked at QC
  generalize Pp.text s = tx at *
  generalize Ck.check s = ck at *
  obtain ⟨cw, ce⟩ := ck
  simp only at HTX HTL HTT HOK QC
  clear h hk hu b0 B0
  simp only [allocs, schO] at hW0
  go_enter Tryz.func22, Tryz.ntmps22
  go_upto_region 1 with fail
  rw [← hW0]
  clear hW0
  go_wp2_with fail
  clear x0 x1 x2 x3
  refine Calls.mono QC.out ?_
  rintro e w2 ⟨rfl, hb2⟩
  obtain ⟨b2, B2⟩ := HX.out _ hb2
  have HB2 := Lib.hid B2
  obtain ⟨x0, x1, x2, x3⟩ := cells4' b2
  clear hb2 B2
  by_cases hce : ce = 0
  case neg =>
    have j1 : (((ce : Nat) : Int) != 0) = true := by rw [bne_iff_ne]; omega
    have HT := Lib.hid (HTX.out hce)
    clear hce b2
    go_wp2_with fail
    go_ret2
    exact ⟨by rw [HT.out]; rfl, HB2.out⟩
  case pos =>
  subst hce
  have HOKS := Lib.hid (HOK.out.1 rfl)
  have HAT := Lib.hid (Pp.ok_at HOKS.out)
  have HCS := Lib.hid (Pp.cost_sch HSM.out HAT.out)
  obtain ⟨W3, hW3⟩ : ∃ W3, W3 = w2.alloc (.cells #[.pointer none, .slice none 0 0] 86) := ⟨_, rfl⟩
  have HL3 : Hid (LnIs w2.heap.size w2.heap.size [] W3) := Lib.hid (by rw [hW3]; exact LnIs.new w2)
  have HB3 : Hid (Below w2.heap.size w2 W3) := Lib.hid (by rw [hW3]; exact tk_alloc w2 _)
  obtain ⟨z0, z1, z2, z3⟩ := cells4' (box_keep HB3.out b2)
  clear b2
  go_upto_region 5 with fail
  rw [← hW3]
  clear hW3 x0 x1 x2 x3
  go_wp2_with fail
  clear z0 z1 z2 z3
  have HKW2 : Hid (Kp u w2) := Lib.hid (HUW.out.trans (Kp.of_below HB2.out))
  refine (lnSchema_any HL3.out H.out (HKW2.out.below HB3.out) HKW2.out.size HAT.out (by have := HCS.out; simp only [List.length_nil]; omega)).mono ?_
  rintro e w4 ⟨rfl, h4, k4⟩
  have H4 := Lib.hid h4
  have HB4 : Hid (Below w2.heap.size w2 w4) := Lib.hid (HB3.out.trans k4.below)
  clear h4 k4
  go_wp2_with fail
  refine (ln_text H4.out).mono ?_
  rintro e w5 ⟨rfl, hb5⟩
  have HB5 := Lib.hid (HB2.out.trans ((HB4.out.trans hb5).mono HB2.out.size))
  clear hb5
  rw [show Pp.puts [] (Pp.schT s) = Pp.line s from rfl]
  have hlen : (Tk.bs (Pp.line s)).size = (Pp.line s).length := rfl
  by_cases hl : 65536 < (Pp.line s).length
  · have i1 : (65536 : Int) < (((Tk.bs (Pp.line s)).size : Nat) : Int) := by rw [hlen]; omega
    have HT := Lib.hid (HTL.out (by trivial) hl)
    clear hl hlen
    generalize Tk.bs (Pp.line s) = b at *
    go_wp2_with fail
    go_ret2
    exact ⟨by rw [HT.out]; rfl, HB5.out⟩
  · have i1 : ¬ (65536 : Int) < (((Tk.bs (Pp.line s)).size : Nat) : Int) := by rw [hlen]; omega
    have HT := Lib.hid (HTT.out (by trivial) hl)
    clear hl hlen
    generalize Tk.bs (Pp.line s) = b at *
    go_wp2_with fail
    go_ret2
    exact ⟨by rw [HT.out]; rfl, HB5.out⟩
/-- The fingerprint, and the fault's number. -/
def printOf (s : Ip.Sch) : Nat × Nat := if (Pp.text s).2 = 0 then (Sm.fnv (Pp.text s).1.data.toList, 0) else (0, (Pp.text s).2)
set_option maxRecDepth 100000 in
set_option maxHeartbeats 16000000 in
theorem Print_any {u w : World} {sv : Value} {s : Ip.Sch} (h : RoSch u sv s) (hu : Kp u w) (hk : KwIs u) (hS : Ck.Small s) :
    Calls Tryz.prog 24 #[sv] w fun e w' => e = .returned (.tuple #[.int .u64 ((printOf s).1 : Nat), .int .i64 ((printOf s).2 : Nat)]) ∧ Below w.heap.size w w' := by
  obtain ⟨p1, c1, p2, c2, p3, c3, rfl, -, -, -, -, -, -, -⟩ := sch_parts h
  obtain ⟨W0, hW0⟩ : ∃ W0, W0 = allocs w [schO s p1 c1 p2 c2 p3 c3] := ⟨_, rfl⟩
  have HX : Hid (∀ W, Below W0.heap.size W0 W → W.heap[w.heap.size]? = some (schO s p1 c1 p2 c2 p3 c3) ∧ Below w.heap.size w W) := Lib.hid (by subst hW0; exact fun W hW => ⟨allocs_box (i := 0) rfl hW, allocs_on hW⟩)
  obtain ⟨b0, B0⟩ := HX.out W0 (Below.refl _ _)
  obtain ⟨x0, x1, x2, x3⟩ := cells4' b0
  have HT := Lib.hid (Text_any h (hu.below B0) hk hS)
  have HP0 : Hid ((Pp.text s).2 = 0 → printOf s = (Sm.fnv (Pp.text s).1.data.toList, 0)) := Lib.hid fun e => by unfold printOf; rw [if_pos e]
  have HP1 : Hid ((Pp.text s).2 ≠ 0 → printOf s = (0, (Pp.text s).2)) := Lib.hid fun e => by unfold printOf; rw [if_neg e]
  have HLN : Hid ((Pp.text s).1.size ≤ 65536) := Lib.hid (by
    unfold Pp.text
    split
    · exact Nat.zero_le _
    · split
      · exact Nat.zero_le _
      · show (Pp.line s).length ≤ 65536; omega)
  generalize printOf s = pr at *
  generalize Pp.text s = tx at *
  obtain ⟨tt, te⟩ := tx
  simp only at HT HP0 HP1 HLN
  clear h hk hu b0 B0
  simp only [allocs, schO] at hW0
  go_enter Tryz.func24, Tryz.ntmps24
  go_upto_region 1 with fail
  rw [← hW0]
  clear hW0
  go_wp2_with fail
  clear x0 x1 x2 x3
  refine Calls.mono HT.out ?_
  rintro e w2 ⟨rfl, hb2⟩
  have HB2 := Lib.hid (HX.out _ hb2).2
  clear hb2
  by_cases hce : te = 0
  case neg =>
    have j1 : (((te : Nat) : Int) != 0) = true := by rw [bne_iff_ne]; omega
    have HT := Lib.hid (HP1.out hce)
    clear hce
    go_wp2_with fail
    go_ret2
    exact ⟨by rw [HT.out]; rfl, HB2.out⟩
  case pos =>
  subst hce
  have HT := Lib.hid (HP0.out rfl)
  go_wp2_with fail
  refine Calls.mono (long_any tt w2 (by have := HLN.out; unfold maxLen; omega)) ?_
  rintro e w3 ⟨rfl, hw3⟩
  obtain rfl := hw3
  go_wp2_with fail
  go_ret2
  exact ⟨by rw [HT.out]; rfl, HB2.out⟩
/-! ### the laws' schema -/
def smpS : Ip.Sch := ⟨⟨#[109]⟩, [⟨⟨#[82]⟩, false, [⟨⟨#[97]⟩, [⟨5, ⟨#[]⟩⟩, ⟨3, ⟨#[]⟩⟩]⟩]⟩], [], []⟩
def smpL : List UInt8 := [109, 111, 100, 117, 108, 101, 32, 109, 59, 114, 101, 99, 111, 114, 100, 32, 82, 123, 97, 58, 108, 105, 115, 116, 32, 105, 110, 116, 59, 125]
def smpT : List UInt8 := [109, 111, 100, 117, 108, 101, 32, 109, 32, 59, 32, 114, 101, 99, 111, 114, 100, 32, 82, 32, 123, 32, 97, 32, 58, 32, 108, 105, 115, 116, 32, 105, 110, 116, 32, 59, 32, 125]
theorem smp_parse : Ip.parse smpL = (smpS, 0, 0) := by kernel_rfl
theorem smp_text : Pp.text smpS = (⟨smpT.toArray⟩, 0) := by kernel_rfl
theorem smp_print : printOf smpS = (Sm.fnv smpT, 0) := by kernel_rfl
theorem smp_fnv : (Sm.fnv smpT != 0) = true := by kernel_rfl
theorem smp_in : ShpIn smpS := by
  unfold ShpIn RcdIn FldIn SoIn SrvIn MthIn SgaIn StpIn Sm_ I64
  decide +kernel
theorem smp_small : Ck.Small smpS := by
  refine ⟨?_, ?_, ?_, ?_, ?_, ?_, ?_⟩ <;> unfold smpS <;> (try unfold Ck.SmR Ck.SmF) <;> (try unfold Ck.SmV Ck.SmM) <;> (try unfold Ck.SmG Ck.SmP) <;> decide +kernel
/-- A schema that was made of parts that are in bounds reads as one that was handed in. -/
theorem SchV.ro {W : World} {base : Nat} {v : Value} {s : Ip.Sch} (h : SchV W base v s) (hin : ShpIn s) : RoSch W v s := by
  obtain ⟨vr, vs, vg, rfl, h1, h2, h3⟩ := h
  exact ⟨vr, vs, vg, rfl, hin.1, rcds_ro h1 hin.2.1, srvs_ro h2 hin.2.2.1, sgas_ro h3 hin.2.2.2⟩
set_option maxRecDepth 100000 in
set_option maxHeartbeats 16000000 in
theorem wakes14_any (w : World) (hk : KwIs w) : Calls Tryz.prog 21 #[] w fun e w' => e = .returned (.bool true) ∧ Below w.heap.size w w' := by
  have HK := Lib.hid hk
  clear hk
  have QA : ∀ W, Calls Tryz.prog 51 #[.string ⟨smpL.toArray⟩] W (Parsed (smpS, 0, 0) W) := fun W => by
    have q := RefParse_any ⟨smpL.toArray⟩ W (by decide)
    rwa [show (⟨smpL.toArray⟩ : ByteArray).data.toList = smpL from rfl, smp_parse] at q
  unfold smpL at QA
  have QT := fun (u W : World) (v : Value) (h : RoSch u v smpS) (hk : Kp u W) (hkw : KwIs u) => Text_any h hk hkw smp_small
  have QP := fun (u W : World) (v : Value) (h : RoSch u v smpS) (hk : Kp u W) (hkw : KwIs u) => Print_any h hk hkw smp_small
  simp only [smp_text, smp_print] at QT QP
  obtain ⟨fn, hfn⟩ : ∃ fn, fn = Sm.fnv smpT := ⟨_, rfl⟩
  obtain ⟨tb, htb⟩ : ∃ tb : ByteArray, tb = ⟨smpT.toArray⟩ := ⟨_, rfl⟩
  have HF : Hid ((((fn : Nat) : Int) != 0) = true) := Lib.hid (by
    have := smp_fnv
    rw [bne_iff_ne] at this ⊢
    omega)
  have HTT : Hid ((tb.toList == smpT) = true) := Lib.hid (by rw [htb, Go.Lib.toList_data, beq_iff_eq])
  rw [← hfn] at QP
  rw [← htb] at QT
  clear hfn htb
  have HT := Lib.hid QT
  have HP := Lib.hid QP
  clear QT QP
  go_enter Tryz.func21, Tryz.ntmps21
  go_wp2_with fail
  refine (QA w).mono ?_
  rintro e w1 ⟨v, rfl, hsv, hb1⟩
  have HR := Lib.hid (hsv.ro smp_in)
  obtain ⟨vr, vs, vg, rfl, h1, h2, h3⟩ := hsv
  obtain ⟨p1, c1, rfl, -⟩ := h1.shape
  obtain ⟨p2, c2, rfl, -⟩ := h2.shape
  obtain ⟨p3, c3, rfl, -⟩ := h3.shape
  clear h1 h2 h3
  have HK1 := Lib.hid (kw_kp HK.out (Kp.of_below hb1))
  have HB1 := Lib.hid hb1
  clear hb1
  obtain ⟨W1, hW1⟩ : ∃ W1, W1 = w1.alloc (.cells #[.string smpS.name, .slice p1 smpS.records.length c1, .slice p2 smpS.services.length c2, .slice p3 smpS.sagas.length c3] 26) := ⟨_, rfl⟩
  have hn1 : W1.heap[w1.heap.size]? = some (.cells #[.string smpS.name, .slice p1 smpS.records.length c1, .slice p2 smpS.services.length c2, .slice p3 smpS.sagas.length c3] 26 (0, 0)) := by rw [hW1]; exact heap_alloc_new w1 _
  have HN1 := Lib.hid hn1
  have HB2 : Hid (Below w1.heap.size w1 W1) := Lib.hid (by rw [hW1]; exact tk_alloc w1 _)
  obtain ⟨x0, x1, x2, x3⟩ := cells4' hn1
  clear hn1
  go_upto_region 2 with fail
  rw [← hW1]
  clear hW1
  go_wp2_with fail
  clear x0 x1 x2 x3
  refine (HT.out _ _ _ HR.out (Kp.of_below HB2.out) HK1.out).mono ?_
  rintro e w2 ⟨rfl, hb3⟩
  have HB3 := Lib.hid (HB2.out.trans (hb3.mono HB2.out.size))
  obtain ⟨x0, x1, x2, x3⟩ := cells4' (box_keep hb3 HN1.out)
  clear hb3
  go_wp2_with fail
  clear x0 x1 x2 x3
  refine (HP.out _ _ _ HR.out (Kp.of_below HB3.out) HK1.out).mono ?_
  rintro e w3 ⟨rfl, hb4⟩
  have HB4 := Lib.hid (HB1.out.trans ((HB3.out.trans (hb4.mono HB3.out.size)).mono HB1.out.size))
  clear hb4
  have j2 := HTT.out
  unfold smpT at j2
  have j1 := HF.out
  go_wp2_with fail
  go_ret
  exact ⟨rfl, HB4.out⟩
end Go.Proofs.YtamkkdmbefekmaaGreatDoor
