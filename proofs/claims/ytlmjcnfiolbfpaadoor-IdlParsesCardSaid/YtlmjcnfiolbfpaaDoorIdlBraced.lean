/-
  Walks over package idl: braced, at fields, methods, steps. Conditions: those in the theorems (the keywords' variable holds what the row lists).
-/
import Derived.Test.YtlmjcnfiolbfpaaDoorIdlMethod
import Derived.Deep.Cut
set_option linter.unusedSimpArgs false
set_option linter.unusedVariables false
namespace Go.Proofs.YtlmjcnfiolbfpaaDoor
open Go.RowKit

theorem Ip.shut_one {r : Ip.R} (h : Ip.closes r = true) : (Ip.one [Ip.sShut] r).2 = Ip.shut r ∧ r.stuck = false ∧ Ip.eqB (Ip.ahead r) Ip.sShut = true := by
  obtain ⟨l, s⟩ := r
  cases s with
  | true => simp [Ip.closes] at h
  | false =>
    cases l with
    | nil => rw [Ip.closes_nil] at h; cases h
    | cons t l =>
      rw [Ip.closes_cons] at h
      have ht := Ip.eqB_iff.1 h
      refine ⟨?_, rfl, h⟩
      unfold Ip.one Ip.bind Ip.ret Ip.take
      simp [ht, Ip.shut, show Ip.among [Ip.sShut] Ip.sShut = true by decide]
/-- Behind some rounds of the loop. -/
def Looped {α : Type} (read : Ip.M α) (r : Ip.R) (L : List α) (rk : Ip.R) : Prop := Ip.loop read r = (L ++ (Ip.loop read rk).1, (Ip.loop read rk).2) ∧ L.length + rk.left.length + (if rk.stuck then 0 else 1) ≤ r.left.length + 1
theorem looped_start {α : Type} (read : Ip.M α) (r : Ip.R) : Looped read r [] r := ⟨rfl, by simp; split <;> omega⟩
section
variable {α : Type} {read : Ip.M α} {r rk : Ip.R} {L : List α}
theorem looped_stuck (hn : Ip.Nice read) (ht : Ip.Takes read) (h : Looped read r L rk) (hs : rk.stuck = true) : Ip.loop read r = (L, rk) := by
  rw [h.1, Ip.loop_eq hn ht, if_pos hs]; simp
theorem looped_shut (hn : Ip.Nice read) (ht : Ip.Takes read) (h : Looped read r L rk) (hs : rk.stuck = false) (hc : Ip.closes rk = true) : Ip.loop read r = (L, (Ip.one [Ip.sShut] rk).2) := by
  rw [h.1, Ip.loop_eq hn ht, if_neg (by rw [hs]; simp), if_pos hc, (Ip.shut_one hc).1]; simp
theorem looped_goes (hn : Ip.Nice read) (ht : Ip.Takes read) (h : Looped read r L rk) (hs : rk.stuck = false) (hc : Ip.closes rk = false) : Looped read r (L ++ [(read rk).1]) (read rk).2 := by
  obtain ⟨h1, h2⟩ := h
  rw [Ip.loop_eq hn ht rk, if_neg (by rw [hs]; simp), if_neg (by rw [hc]; simp)] at h1
  refine ⟨by rw [h1]; simp, ?_⟩
  rw [hs] at h2
  simp only [Bool.false_eq_true, if_false] at h2
  have hl := hn.len rk
  rw [List.length_append]
  simp only [List.length_cons, List.length_nil]
  rcases ht rk hs with e | e
  · rw [e]; simp only [if_true]; omega
  · split <;> omega
end
set_option maxRecDepth 100000 in
set_option maxHeartbeats 8000000 in
theorem braced_field {w : World} {b q : Nat} {r : Ip.R} (h : Rd w b q r) : Calls Tryd.prog 71 #[.pointer (some ⟨b, 0, none⟩), .func (.func 72) #[] #[]] w fun e w' => ∃ v, e = .returned v ∧ RowIs kFld w' w.heap.size v (Ip.braced Ip.field r).1 ∧ Gone b q w (Ip.braced Ip.field r).2 w' := by
  obtain ⟨⟨n1, r1⟩, e1⟩ : ∃ y, Ip.one [Ip.sOpen] r = y := ⟨_, rfl⟩
  have Q1 := fun (W : World) (h : Rd W b q r) => one_lit h [Ip.sOpen] (by decide)
  rw [e1] at Q1
  have H1 := Lib.hid Q1
  have HE : Hid (Ip.braced Ip.field r = Ip.loop Ip.field r1) := Lib.hid (by unfold Ip.braced; rw [Ip.bind_eq, e1])
  have HF : Hid (r1.left.length ≤ 65536) := Lib.hid (by have h1 := (Ip.nice_one [Ip.sOpen]).len r; rw [e1] at h1; have := h.few; simp only at h1; omega)
  have HH := Lib.hid h
  have hlt := h.lt
  clear Q1 e1 h
  go_enter Tryd.func71, Tryd.ntmps71
  go_wp2_with fail
  refine (H1.out w HH.out).mono ?_
  rintro e w1 ⟨rfl, hr1, hT1⟩
  have G1 := Lib.hid (Gone.trans (Gone.refl HH.out) ⟨hr1, hT1⟩)
  clear hr1 hT1
  go_wp2_with fail
  go_loopw [5] (fun lv wr => ∃ (L : List Ip.Fld) (rk : Ip.R), Hid (RowIs kFld wr w.heap.size lv L) ∧ Hid (Gone b q w rk wr) ∧ Hid (Looped Ip.field r1 L rk)) (fun lv _ => 65540 - sliceLen lv)
  case atStart => exact ⟨[], r1, Lib.hid (RowIs.nil _ _ _), G1, Lib.hid (looped_start _ _)⟩
  case round =>
    obtain ⟨L, rk, HL, HG, HS⟩ := hrel
    have HLN : Hid (L.length ≤ 65537) := Lib.hid (by have := HS.out.2; have := HF.out; omega)
    obtain ⟨p0, c0, rfl, -, -⟩ := HL.out.shape
    have hrd := HG.out.1
    obtain ⟨pr, cr, hA⟩ := hrd
    obtain ⟨-, k1, -, -⟩ := rd_cells hA
    clear hA
    cases hs : rk.stuck with
    | true =>
      rw [hs] at k1
      have HX := Lib.hid (looped_stuck Ip.nice_field Ip.takes_field HS.out hs)
      clear hs
      go_wp2_with fail
      go_ret
      exact ⟨_, rfl, by rw [HE.out, HX.out]; exact HL.out, by rw [HE.out, HX.out]; exact HG.out⟩
    | false =>
      rw [hs] at k1
      cases hc : Ip.closes rk with
      | true =>
        have HX := Lib.hid (looped_shut Ip.nice_field Ip.takes_field HS.out hs hc)
        have Q := got_yes HG.out.1 Ip.sShut (Ip.shut_one hc).2.2
        unfold Ip.sShut at Q
        clear hs hc
        go_wp2_with fail
        refine Q.mono ?_
        rintro e w2 ⟨rfl, hg⟩
        have HG2 := Lib.hid (HG.out.trans hg)
        have HL2 := Lib.hid (row_tn okFld HL.out hg.2 hlt)
        clear hg Q
        go_wp2_with fail
        go_ret
        exact ⟨_, rfl, by rw [HE.out, HX.out]; exact HL2.out, by rw [HE.out, HX.out]; exact HG2.out⟩
      | false =>
        have HX := Lib.hid (looped_goes Ip.nice_field Ip.takes_field HS.out hs hc)
        have Q := got_no HG.out.1 Ip.sShut (by unfold Ip.closes at hc; rw [hs] at hc; simpa using hc)
        unfold Ip.sShut at Q
        have QR := field_any HG.out.1
        clear hs hc
        obtain ⟨⟨x, r'⟩, hx⟩ : ∃ y, Ip.field rk = y := ⟨_, rfl⟩
        rw [hx] at QR HX
        clear hx
        go_wp2_with fail
        refine Q.mono ?_
        rintro e w2 ⟨rfl, hw⟩
        obtain rfl := hw
        go_wp2_with fail
        refine QR.mono ?_
        rintro e w3 ⟨t, he, ht, hg⟩
        obtain ⟨p3, c3, rfl, -, -⟩ := RowIs.shape ht
        have he : e = .returned (.agg #[.string x.name, .slice p3 x.type.length c3]) := he
        subst he
        have HL3 := Lib.hid (row_tn okFld HL.out hg.2 hlt)
        have HG3 := Lib.hid (HG.out.trans hg)
        obtain ⟨pv, cv, V, hrun, hL4, hG4, -⟩ := append_lit okFld HL3.out HG3.out HH.out x (.slice p3 x.type.length c3) (okFld.keep _ _ _ _ _ _ ht HG.out.2.size fun _ _ _ _ _ _ => rfl) (by have := HLN.out; omega) 50
        have HL4 := Lib.hid hL4
        have HG4 := Lib.hid hG4
        rw [show (kFld.cells x (.slice p3 x.type.length c3)).toArray = #[.string x.name, .slice p3 x.type.length c3] from rfl] at hrun
        clear hg ht hL4 hG4 Q QR
        go_wp2_with (at_builtin; refine Lib.wpList_append_run _ rfl (.tmp 19) (.tmp 23) _ _ rfl _ _ rfl rfl _ _ hrun ?_)
        go_roundw
        case rel => exact ⟨_, _, HL4, HG4, HX⟩
        case measure => have := HLN.out; simp [sliceLen]; omega
set_option maxRecDepth 100000 in
set_option maxHeartbeats 8000000 in
theorem braced_method {w : World} {b q : Nat} {r : Ip.R} (h : Rd w b q r) : Calls Tryd.prog 73 #[.pointer (some ⟨b, 0, none⟩), .func (.func 74) #[] #[]] w fun e w' => ∃ v, e = .returned v ∧ RowIs kMth w' w.heap.size v (Ip.braced Ip.method r).1 ∧ Gone b q w (Ip.braced Ip.method r).2 w' := by
  obtain ⟨⟨n1, r1⟩, e1⟩ : ∃ y, Ip.one [Ip.sOpen] r = y := ⟨_, rfl⟩
  have Q1 := fun (W : World) (h : Rd W b q r) => one_lit h [Ip.sOpen] (by decide)
  rw [e1] at Q1
  have H1 := Lib.hid Q1
  have HE : Hid (Ip.braced Ip.method r = Ip.loop Ip.method r1) := Lib.hid (by unfold Ip.braced; rw [Ip.bind_eq, e1])
  have HF : Hid (r1.left.length ≤ 65536) := Lib.hid (by have h1 := (Ip.nice_one [Ip.sOpen]).len r; rw [e1] at h1; have := h.few; simp only at h1; omega)
  have HH := Lib.hid h
  have hlt := h.lt
  clear Q1 e1 h
  go_enter Tryd.func73, Tryd.ntmps73
  go_wp2_with fail
  refine (H1.out w HH.out).mono ?_
  rintro e w1 ⟨rfl, hr1, hT1⟩
  have G1 := Lib.hid (Gone.trans (Gone.refl HH.out) ⟨hr1, hT1⟩)
  clear hr1 hT1
  go_wp2_with fail
  go_loopw [5] (fun lv wr => ∃ (L : List Ip.Mth) (rk : Ip.R), Hid (RowIs kMth wr w.heap.size lv L) ∧ Hid (Gone b q w rk wr) ∧ Hid (Looped Ip.method r1 L rk)) (fun lv _ => 65540 - sliceLen lv)
  case atStart => exact ⟨[], r1, Lib.hid (RowIs.nil _ _ _), G1, Lib.hid (looped_start _ _)⟩
  case round =>
    obtain ⟨L, rk, HL, HG, HS⟩ := hrel
    have HLN : Hid (L.length ≤ 65537) := Lib.hid (by have := HS.out.2; have := HF.out; omega)
    obtain ⟨p0, c0, rfl, -, -⟩ := HL.out.shape
    have hrd := HG.out.1
    obtain ⟨pr, cr, hA⟩ := hrd
    obtain ⟨-, k1, -, -⟩ := rd_cells hA
    clear hA
    cases hs : rk.stuck with
    | true =>
      rw [hs] at k1
      have HX := Lib.hid (looped_stuck Ip.nice_method Ip.takes_method HS.out hs)
      clear hs
      go_wp2_with fail
      go_ret
      exact ⟨_, rfl, by rw [HE.out, HX.out]; exact HL.out, by rw [HE.out, HX.out]; exact HG.out⟩
    | false =>
      rw [hs] at k1
      cases hc : Ip.closes rk with
      | true =>
        have HX := Lib.hid (looped_shut Ip.nice_method Ip.takes_method HS.out hs hc)
        have Q := got_yes HG.out.1 Ip.sShut (Ip.shut_one hc).2.2
        unfold Ip.sShut at Q
        clear hs hc
        go_wp2_with fail
        refine Q.mono ?_
        rintro e w2 ⟨rfl, hg⟩
        have HG2 := Lib.hid (HG.out.trans hg)
        have HL2 := Lib.hid (row_tn okMth HL.out hg.2 hlt)
        clear hg Q
        go_wp2_with fail
        go_ret
        exact ⟨_, rfl, by rw [HE.out, HX.out]; exact HL2.out, by rw [HE.out, HX.out]; exact HG2.out⟩
      | false =>
        have HX := Lib.hid (looped_goes Ip.nice_method Ip.takes_method HS.out hs hc)
        have Q := got_no HG.out.1 Ip.sShut (by unfold Ip.closes at hc; rw [hs] at hc; simpa using hc)
        unfold Ip.sShut at Q
        have QR := method_any HG.out.1
        clear hs hc
        obtain ⟨⟨x, r'⟩, hx⟩ : ∃ y, Ip.method rk = y := ⟨_, rfl⟩
        rw [hx] at QR HX
        clear hx
        go_wp2_with fail
        refine Q.mono ?_
        rintro e w2 ⟨rfl, hw⟩
        obtain rfl := hw
        go_wp2_with fail
        refine QR.mono ?_
        rintro e w3 ⟨t, he, ht, hg⟩
        have he : e = .returned (.agg #[.string x.name, .string x.arg, .int .u8 (x.result : Nat), .string x.effect, .string x.undo]) := he
        subst he
        have HL3 := Lib.hid (row_tn okMth HL.out hg.2 hlt)
        have HG3 := Lib.hid (HG.out.trans hg)
        obtain ⟨pv, cv, V, hrun, hL4, hG4, -⟩ := append_lit okMth HL3.out HG3.out HH.out x t (okMth.keep _ _ _ _ _ _ ht HG.out.2.size fun _ _ _ _ _ _ => rfl) (by have := HLN.out; omega) 54
        have HL4 := Lib.hid hL4
        have HG4 := Lib.hid hG4
        rw [show (kMth.cells x t).toArray = #[.string x.name, .string x.arg, .int .u8 (x.result : Nat), .string x.effect, .string x.undo] from rfl] at hrun
        clear hg ht hL4 hG4 Q QR
        go_wp2_with (at_builtin; refine Lib.wpList_append_run _ rfl (.tmp 19) (.tmp 23) _ _ rfl _ _ rfl rfl _ _ hrun ?_)
        go_roundw
        case rel => exact ⟨_, _, HL4, HG4, HX⟩
        case measure => have := HLN.out; simp [sliceLen]; omega
set_option maxRecDepth 100000 in
set_option maxHeartbeats 8000000 in
theorem braced_step {w : World} {b q : Nat} {r : Ip.R} (h : Rd w b q r) : Calls Tryd.prog 76 #[.pointer (some ⟨b, 0, none⟩), .func (.func 77) #[] #[]] w fun e w' => ∃ v, e = .returned v ∧ RowIs kStp w' w.heap.size v (Ip.braced Ip.step r).1 ∧ Gone b q w (Ip.braced Ip.step r).2 w' := by
  obtain ⟨⟨n1, r1⟩, e1⟩ : ∃ y, Ip.one [Ip.sOpen] r = y := ⟨_, rfl⟩
  have Q1 := fun (W : World) (h : Rd W b q r) => one_lit h [Ip.sOpen] (by decide)
  rw [e1] at Q1
  have H1 := Lib.hid Q1
  have HE : Hid (Ip.braced Ip.step r = Ip.loop Ip.step r1) := Lib.hid (by unfold Ip.braced; rw [Ip.bind_eq, e1])
  have HF : Hid (r1.left.length ≤ 65536) := Lib.hid (by have h1 := (Ip.nice_one [Ip.sOpen]).len r; rw [e1] at h1; have := h.few; simp only at h1; omega)
  have HH := Lib.hid h
  have hlt := h.lt
  clear Q1 e1 h
  go_enter Tryd.func76, Tryd.ntmps76
  go_wp2_with fail
  refine (H1.out w HH.out).mono ?_
  rintro e w1 ⟨rfl, hr1, hT1⟩
  have G1 := Lib.hid (Gone.trans (Gone.refl HH.out) ⟨hr1, hT1⟩)
  clear hr1 hT1
  go_wp2_with fail
  go_loopw [5] (fun lv wr => ∃ (L : List Ip.Stp) (rk : Ip.R), Hid (RowIs kStp wr w.heap.size lv L) ∧ Hid (Gone b q w rk wr) ∧ Hid (Looped Ip.step r1 L rk)) (fun lv _ => 65540 - sliceLen lv)
  case atStart => exact ⟨[], r1, Lib.hid (RowIs.nil _ _ _), G1, Lib.hid (looped_start _ _)⟩
  case round =>
    obtain ⟨L, rk, HL, HG, HS⟩ := hrel
    have HLN : Hid (L.length ≤ 65537) := Lib.hid (by have := HS.out.2; have := HF.out; omega)
    obtain ⟨p0, c0, rfl, -, -⟩ := HL.out.shape
    have hrd := HG.out.1
    obtain ⟨pr, cr, hA⟩ := hrd
    obtain ⟨-, k1, -, -⟩ := rd_cells hA
    clear hA
    cases hs : rk.stuck with
    | true =>
      rw [hs] at k1
      have HX := Lib.hid (looped_stuck Ip.nice_step Ip.takes_step HS.out hs)
      clear hs
      go_wp2_with fail
      go_ret
      exact ⟨_, rfl, by rw [HE.out, HX.out]; exact HL.out, by rw [HE.out, HX.out]; exact HG.out⟩
    | false =>
      rw [hs] at k1
      cases hc : Ip.closes rk with
      | true =>
        have HX := Lib.hid (looped_shut Ip.nice_step Ip.takes_step HS.out hs hc)
        have Q := got_yes HG.out.1 Ip.sShut (Ip.shut_one hc).2.2
        unfold Ip.sShut at Q
        clear hs hc
        go_wp2_with fail
        refine Q.mono ?_
        rintro e w2 ⟨rfl, hg⟩
        have HG2 := Lib.hid (HG.out.trans hg)
        have HL2 := Lib.hid (row_tn okStp HL.out hg.2 hlt)
        clear hg Q
        go_wp2_with fail
        go_ret
        exact ⟨_, rfl, by rw [HE.out, HX.out]; exact HL2.out, by rw [HE.out, HX.out]; exact HG2.out⟩
      | false =>
        have HX := Lib.hid (looped_goes Ip.nice_step Ip.takes_step HS.out hs hc)
        have Q := got_no HG.out.1 Ip.sShut (by unfold Ip.closes at hc; rw [hs] at hc; simpa using hc)
        unfold Ip.sShut at Q
        have QR := step_any HG.out.1
        clear hs hc
        obtain ⟨⟨x, r'⟩, hx⟩ : ∃ y, Ip.step rk = y := ⟨_, rfl⟩
        rw [hx] at QR HX
        clear hx
        go_wp2_with fail
        refine Q.mono ?_
        rintro e w2 ⟨rfl, hw⟩
        obtain rfl := hw
        go_wp2_with fail
        refine QR.mono ?_
        rintro e w3 ⟨t, he, ht, hg⟩
        have he : e = .returned (.agg #[.string x.service, .string x.method, .int .i64 x.at_]) := he
        subst he
        have HL3 := Lib.hid (row_tn okStp HL.out hg.2 hlt)
        have HG3 := Lib.hid (HG.out.trans hg)
        obtain ⟨pv, cv, V, hrun, hL4, hG4, -⟩ := append_lit okStp HL3.out HG3.out HH.out x t (okStp.keep _ _ _ _ _ _ ht HG.out.2.size fun _ _ _ _ _ _ => rfl) (by have := HLN.out; omega) 58
        have HL4 := Lib.hid hL4
        have HG4 := Lib.hid hG4
        rw [show (kStp.cells x t).toArray = #[.string x.service, .string x.method, .int .i64 x.at_] from rfl] at hrun
        clear hg ht hL4 hG4 Q QR
        go_wp2_with (at_builtin; refine Lib.wpList_append_run _ rfl (.tmp 19) (.tmp 23) _ _ rfl _ _ rfl rfl _ _ hrun ?_)
        go_roundw
        case rel => exact ⟨_, _, HL4, HG4, HX⟩
        case measure => have := HLN.out; simp [sliceLen]; omega
end Go.Proofs.YtlmjcnfiolbfpaaDoor
