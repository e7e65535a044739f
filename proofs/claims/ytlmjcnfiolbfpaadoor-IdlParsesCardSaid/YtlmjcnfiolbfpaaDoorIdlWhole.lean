/-
  Walks over package idl: Parse, Type. Conditions: those in the theorems (the keywords' variable holds what the row lists).
-/
import Derived.Test.YtlmjcnfiolbfpaaDoorIdlSchema
import Derived.Test.YtlmjcnfiolbfpaaDoorTokAll
import Derived.Test.YtlmjcnfiolbfpaaDoorIdlLawMath
import Derived.Deep.Cut
import Derived.BigRegion
set_option linter.unusedSimpArgs false
set_option linter.unusedVariables false
namespace Go.Proofs.YtlmjcnfiolbfpaaDoor
open Go.RowKit

/-- A reader of all tokens that a call has told. -/
theorem rd_start {W : World} {base : Nat} {v : Value} {ts : List Tk.Token} (ho : OwnTok W base v ts) (hin : ∀ t ∈ ts, TokIn t) (hk : KwIs W) (hf : ts.length ≤ 65536) :
    ∃ p c q, v = .slice p ts.length c ∧ (q = 0 ∨ base ≤ q) ∧ Rd (W.alloc (rdO p ts.length c false)) W.heap.size q ⟨ts, false⟩ := by
  obtain ⟨p, c, e, h1, h2, h3⟩ := ho.toks hin
  have hg : ∀ A, p = some A → base ≤ A.block ∧ A.block < W.heap.size := fun A hA => by
    subst hA
    rcases ho.2 with ⟨rfl, hn⟩ | ⟨g, cap, cur, rfl, hgb, hh, _⟩
    · cases e
    · cases e; exact ⟨hgb, (Array.getElem?_eq_some_iff.1 hh).1⟩
  have hb := tk_alloc W (rdO p ts.length c false)
  have hkl := hk.lt
  refine ⟨p, c, match p with | some A => A.block | none => 0, e, by cases p with | none => exact .inl rfl | some A => exact .inr (hg A rfl).1, p, c, heap_alloc_new W _, h1, h2, h3.below hb, fun A hA => by subst hA; rfl, ?_, ?_, hk.below hb, by omega, hf⟩
  · cases p with
    | none => show (0 : Nat) ≠ _; omega
    | some A => have := (hg A rfl).2; show A.block ≠ _; omega
  · rw [World.size_alloc]
    cases p with
    | none => show (0 : Nat) < _; omega
    | some A => have := (hg A rfl).2; show A.block < _; omega
def zS : Array Value := #[.string ⟨#[]⟩, .slice none 0 0, .slice none 0 0, .slice none 0 0]
theorem whole_res {W : World} {tmps : Array Value} {b : Nat} {x0 x1 x2 x3 x5 x6 : Value} (h2 : tmps[4]? = some (.pointer (some ⟨b, 0, none⟩))) (h5 : tmps[5]? = some x5) (h6 : tmps[6]? = some x6) (h : W.heap[b]? = some (.cells #[x0, x1, x2, x3] 26 (0, 0))) :
    (results Tryd.f17 tmps).run Tryd.prog W = .ok (.tuple #[.agg #[x0, x1, x2, x3], x5, x6]) W := by
  obtain ⟨c0, c1, c2, c3⟩ := cells4 h
  simp [results, Tryd.results17, h2, h5, h6, go_sem, c0, c1, c2, c3]
/-- What Parse tells. -/
def Parsed (x : Ip.Sch × Int × Nat) (w : World) (e : Ending) (w' : World) : Prop := ∃ v, e = .returned (.tuple #[v, .int .i64 x.2.1, .int .i64 (x.2.2 : Nat)]) ∧ SchV w' w.heap.size v x.1 ∧ Below w.heap.size w w'
theorem below_four' {B x : Nat} {w W : World} (h : Below B w W) (hx : B ≤ x) (a b c d : Value) : Below B w ((((W.setCell ⟨x, 0, none⟩ a).setCell ⟨x, 1, none⟩ b).setCell ⟨x, 2, none⟩ c).setCell ⟨x, 3, none⟩ d) := below_four h hx
set_option maxRecDepth 100000 in
set_option maxHeartbeats 8000000 in
theorem wholeS_any (t : ByteArray) (w : World) (hm : t.size ≤ 65536) (hk : KwIs w) : Calls Tryd.prog 17 #[.string t, .func (.func 18) #[] #[]] w (Parsed (Ip.parse t.data.toList) w) := by
  have QA := fun W => All_any t W hm
  have hin := all_in t hm
  have hct := all_count t hm
  obtain ⟨o, ho⟩ : ∃ o, Tk.all 0 t.data.toList = o := ⟨_, rfl⟩
  rw [ho] at QA hin hct
  obtain ⟨W0, hW0⟩ : ∃ W0, W0 = (w.alloc (.cells zS 26)).alloc (.cells zS 26) := ⟨_, rfl⟩
  have hb0 : Below w.heap.size w W0 := by rw [hW0]; exact (tk_alloc w _).trans ((tk_alloc _ _).mono (by rw [World.size_alloc]; omega))
  have hz0 : W0.heap[w.heap.size]? = some (.cells zS 26 (0, 0)) := by
    rw [hW0]
    exact ((tk_alloc (w.alloc _) _).block _ (by rw [World.size_alloc]; omega)).trans (heap_alloc_new w _)
  have hn0 : W0.heap[w.heap.size + 1]? = some (.cells zS 26 (0, 0)) := by
    rw [hW0]
    have := heap_alloc_new (w.alloc (.cells zS 26)) (.cells zS 26)
    rw [World.size_alloc] at this; exact this
  have HB0 := Lib.hid hb0
  have HX : Hid (∀ W, Below W0.heap.size W0 W → W.heap[w.heap.size]? = some (.cells zS 26 (0, 0)) ∧ W.heap[w.heap.size + 1]? = some (.cells zS 26 (0, 0)) ∧ Below w.heap.size w W ∧ KwIs W) := Lib.hid fun W hW =>
    ⟨(hW.block _ (Array.getElem?_eq_some_iff.1 hz0).1).trans hz0, (hW.block _ (Array.getElem?_eq_some_iff.1 hn0).1).trans hn0, hb0.trans (hW.mono hb0.size), (hk.below hb0).below hW⟩
  have hs1 : w.heap.size + 1 < W0.heap.size := (Array.getElem?_eq_some_iff.1 hn0).1
  have HKL : Hid (0 < w.heap.size) := Lib.hid hk.lt
  unfold zS at hW0
  clear hb0 hz0 hn0 hk
  cases o with
  | no a er =>
    have HE := Lib.hid (Ip.parse_no ho)
    have her : (((er : Nat) : Int) != 0) = true := by rw [bne_iff_ne]; have := Tk.all_err ho; omega
    unfold Alls Tk.Out.at_ Tk.Out.err Tk.Out.toks at QA
    clear ho hin hct
    go_enter Tryd.func17, Tryd.ntmps17
    go_upto_region 2 with fail
    rw [← hW0]
    clear hW0
    go_wp2_with fail
    refine Calls.mono (QA _) ?_
    rintro e w1 ⟨v, rfl, hv, hb1⟩
    obtain ⟨hz, hn, hB, -⟩ := HX.out _ hb1
    unfold zS at hz hn
    obtain ⟨z0, z1, z2, z3⟩ := cells4 hz
    obtain ⟨n0, n1, n2, n3⟩ := cells4 hn
    have f0 := frozen2 hz 0
    have f1 := frozen2 hz 1
    have f2 := frozen2 hz 2
    have f3 := frozen2 hz 3
    obtain ⟨pv, cv, rfl, -, -⟩ := hv.shape
    have HZ := Lib.hid hz
    have HB := Lib.hid hB
    clear hz hn hB hv hb1 QA
    go_wp2_with fail
    refine bodyPost_ret (whole_res rfl rfl rfl (set_four _ _ _ _ HZ.out)) rfl ?_
    rw [HE.out]
    exact ⟨_, rfl, SchV.zero _ _, below_four HB.out (Nat.le_refl _)⟩
  | ok ts =>
    have HE := Lib.hid (Ip.whole_ok Ip.schema Ip.Sch.zero ho)
    have HEP : Hid (Ip.parse t.data.toList = Ip.whole Ip.schema Ip.Sch.zero t.data.toList) := Lib.hid rfl
    unfold Alls Tk.Out.at_ Tk.Out.err Tk.Out.toks at QA
    simp only [Tk.Out.toks] at hin hct
    obtain ⟨⟨S, r'⟩, hx⟩ : ∃ y, Ip.schema ⟨ts, false⟩ = y := ⟨_, rfl⟩
    have QS := fun (W : World) (b q : Nat) (h : Rd W b q ⟨ts, false⟩) => schema_any h
    rw [hx] at HE QS
    have HQS := Lib.hid QS
    have HIN := Lib.hid hin
    have HCT := Lib.hid hct
    have hne : (((0 : Nat) : Int) != 0) = false := rfl
    clear ho hin hct QS hx
    go_enter Tryd.func17, Tryd.ntmps17
    go_upto_region 2 with fail
    rw [← hW0]
    clear hW0
    go_wp2_with fail
    refine Calls.mono (QA _) ?_
    rintro e w1 ⟨v, rfl, hv, hb1⟩
    obtain ⟨-, -, -, hkw⟩ := HX.out _ hb1
    obtain ⟨p, c, q, rfl, hq, hR⟩ := rd_start hv HIN.out hkw HCT.out
    have HQX : Hid (q ≠ w.heap.size) := Lib.hid (by have := HKL.out; omega)
    have HR := Lib.hid hR
    have HB1 := Lib.hid hb1
    clear hv hkw hR hb1 QA hq
    go_wp2_with fail
    refine (HQS.out _ _ _ HR.out).mono ?_
    rintro e w2 ⟨v2, rfl, hV2, hG2⟩
    obtain ⟨vr, vs, vg, rfl, h1, h2, h3⟩ := hV2
    obtain ⟨p1, k1, rfl, -, -⟩ := h1.shape
    obtain ⟨p2, k2, rfl, -, -⟩ := h2.shape
    obtain ⟨p3, k3, rfl, -, -⟩ := h3.shape
    have hb12 : Below W0.heap.size W0 w2 := HB1.out.trans (((tk_alloc w1 (rdO p ts.length c false)).mono HB1.out.size).trans (hG2.2.below HB1.out.size (by rw [World.size_alloc]; have := HB1.out.size; omega)))
    have HV2 : Hid (SchV w2 w.heap.size (.agg #[.string S.name, .slice p1 S.records.length k1, .slice p2 S.services.length k2, .slice p3 S.sagas.length k3]) S) := Lib.hid (SchV.mono ⟨_, _, _, rfl, h1, h2, h3⟩ (by rw [World.size_alloc]; have := HB1.out.size; omega))
    have HG2 := Lib.hid hG2.1
    have HB2 := Lib.hid hb12
    clear h1 h2 h3 hG2 hb12
    go_upto_region 7 with fail
    obtain ⟨W3, hW3⟩ : ∃ W3, W3 = w2.alloc (.cells #[.string S.name, .slice p1 S.records.length k1, .slice p2 S.services.length k2, .slice p3 S.sagas.length k3] 26) := ⟨_, rfl⟩
    have hb3 : Below w2.heap.size w2 W3 := by rw [hW3]; exact tk_alloc _ _
    have hn3 : W3.heap[w2.heap.size]? = some (.cells #[.string S.name, .slice p1 S.records.length k1, .slice p2 S.services.length k2, .slice p3 S.sagas.length k3] 26 (0, 0)) := by rw [hW3]; exact heap_alloc_new _ _
    obtain ⟨hz, hn, hB, -⟩ := HX.out _ (HB2.out.trans (hb3.mono HB2.out.size))
    have HV3 := Lib.hid (HV2.out.below hb3)
    obtain ⟨p', c', hA⟩ := HG2.out.below hb3
    rw [← hW3]
    clear hW3 hb3
    unfold zS at hz hn
    obtain ⟨z0, z1, z2, z3⟩ := cells4 hz
    obtain ⟨n0, n1, n2, n3⟩ := cells4 hn
    obtain ⟨m0, m1, m2, m3⟩ := cells4 hn3
    have f0 := frozen2 hz 0
    have f1 := frozen2 hz 1
    have f2 := frozen2 hz 2
    have f3 := frozen2 hz 3
    have HZ := Lib.hid hz
    have HB := Lib.hid hB
    clear hz hn hn3 hB
    obtain ⟨c0, c1, -, -⟩ := rd_cells hA
    obtain ⟨l', s'⟩ := r'
    simp only at c0 c1 HE
    cases l' with
    | cons tk l2 =>
      obtain ⟨A, rfl⟩ := hA.toks.some (i := 0) (by simp)
      obtain ⟨A1, e1, d0, d1, d2, d3, -⟩ := hA.toks.at (Below.refl _ _) (i := 0) (by simp)
      cases e1
      simp only [List.getElem_cons_zero, Nat.zero_mul] at d0 d1 d2 d3
      have a0 : A.add 0 = A := rfl
      rw [a0] at d0 d1 d2 d3
      have HEE : Hid (Ip.parse t.data.toList = (Ip.Sch.zero, tk.pos, 120)) := Lib.hid (by rw [HEP.out, HE.out])
      have hAx : A.block ≠ w.heap.size := by rw [hA.home A rfl]; exact HQX.out
      simp only [List.length_cons] at c0
      have j1 : (0 : Int) < (l2.length : Int) + 1 := by omega
      have j2 : 0 < l2.length + 1 := by omega
      clear hA a0 d0 d1 d2 HE m0 m1 m2 m3
      go_wp2_with fail
      have hb1x : w1.heap.size ≠ w.heap.size := by have := HB1.out.size; omega
      go_region
      all_goals
        go_wp2_with fail
        refine bodyPost_ret (whole_res rfl rfl rfl (by exact set_four _ _ _ _ HZ.out)) rfl ?_
        rw [HEE.out]
        exact ⟨_, rfl, SchV.zero _ _, (below_four HB.out (Nat.le_refl _)).drew⟩
    | nil =>
      have HEE : Hid (Ip.parse t.data.toList = if s' then (Ip.Sch.zero, ((t.size : Nat) : Int), 120) else (S, 0, 0)) := Lib.hid (by rw [HEP.out, HE.out, list_len])
      simp only [List.length_nil] at c0
      clear hA HE
      cases s' with
      | true =>
        go_wp2_with fail
        refine bodyPost_ret (whole_res rfl rfl rfl (set_four _ _ _ _ HZ.out)) rfl ?_
        rw [HEE.out]
        exact ⟨_, rfl, SchV.zero _ _, below_four HB.out (Nat.le_refl _)⟩
      | false =>
        go_wp2_with fail
        refine bodyPost_ret (whole_res rfl rfl rfl (set_four _ _ _ _ HZ.out)) rfl ?_
        rw [HEE.out]
        exact ⟨_, rfl, HV3.out.set HZ.out (tn_four _ _ _ _ _), below_four HB.out (Nat.le_refl _)⟩
theorem parse_res {W : World} {tmps : Array Value} {b : Nat} {x0 x1 x2 x3 x5 x6 : Value} (h2 : tmps[2]? = some (.pointer (some ⟨b, 0, none⟩))) (h5 : tmps[3]? = some x5) (h6 : tmps[4]? = some x6) (h : W.heap[b]? = some (.cells #[x0, x1, x2, x3] 26 (0, 0))) :
    (results Tryd.f8 tmps).run Tryd.prog W = .ok (.tuple #[.agg #[x0, x1, x2, x3], x5, x6]) W := by
  obtain ⟨c0, c1, c2, c3⟩ := cells4 h
  simp [results, Tryd.results8, h2, h5, h6, go_sem, c0, c1, c2, c3]
set_option maxRecDepth 100000 in
set_option maxHeartbeats 8000000 in
theorem Parse_any (t : ByteArray) (w : World) (hm : t.size ≤ 65536) (hk : KwIs w) : Calls Tryd.prog 8 #[.string t] w (Parsed (Ip.parse t.data.toList) w) := by
  obtain ⟨W0, hW0⟩ : ∃ W0, W0 = w.alloc (.cells zS 26) := ⟨_, rfl⟩
  have hb0 : Below w.heap.size w W0 := by rw [hW0]; exact tk_alloc w _
  have hz0 : W0.heap[w.heap.size]? = some (.cells zS 26 (0, 0)) := by rw [hW0]; exact heap_alloc_new w _
  have HW := Lib.hid (wholeS_any t W0 hm (hk.below hb0))
  obtain ⟨⟨S, at_, er⟩, hx⟩ : ∃ y, Ip.parse t.data.toList = y := ⟨_, rfl⟩
  rw [hx] at HW ⊢
  have HZ0 := Lib.hid hz0
  have HB0 := Lib.hid hb0
  unfold zS at hW0
  clear hz0 hb0 hx hk
  go_enter Tryd.func8, Tryd.ntmps8
  go_upto_region 1 with fail
  rw [← hW0]
  clear hW0
  go_wp2_with fail
  refine Calls.mono HW.out ?_
  rintro e w1 ⟨v, rfl, hV, hb1⟩
  obtain ⟨vr, vs, vg, rfl, h1, h2, h3⟩ := hV
  obtain ⟨p1, k1, rfl, -, -⟩ := h1.shape
  obtain ⟨p2, k2, rfl, -, -⟩ := h2.shape
  obtain ⟨p3, k3, rfl, -, -⟩ := h3.shape
  have hz := (hb1.block _ (Array.getElem?_eq_some_iff.1 HZ0.out).1).trans HZ0.out
  have HV : Hid (SchV w1 w.heap.size (.agg #[.string S.name, .slice p1 S.records.length k1, .slice p2 S.services.length k2, .slice p3 S.sagas.length k3]) S) := Lib.hid (SchV.mono ⟨_, _, _, rfl, h1, h2, h3⟩ HB0.out.size)
  have HB := Lib.hid (HB0.out.trans (hb1.mono HB0.out.size))
  unfold zS at hz
  obtain ⟨z0, z1, z2, z3⟩ := cells4 hz
  have f0 := frozen2 hz 0
  have f1 := frozen2 hz 1
  have f2 := frozen2 hz 2
  have f3 := frozen2 hz 3
  have HZ := Lib.hid hz
  clear hz h1 h2 h3 hb1
  go_wp2_with fail
  refine bodyPost_ret (parse_res rfl rfl rfl (set_four _ _ _ _ HZ.out)) rfl ?_
  exact ⟨_, rfl, HV.out.set HZ.out (tn_four _ _ _ _ _), below_four HB.out (Nat.le_refl _)⟩
/-- What Type tells. -/
def Typed (x : List Ip.So × Int × Nat) (w : World) (e : Ending) (w' : World) : Prop := ∃ v, e = .returned (.tuple #[v, .int .i64 x.2.1, .int .i64 (x.2.2 : Nat)]) ∧ RowIs kSo w' w.heap.size v x.1 ∧ Below w.heap.size w w'
set_option maxRecDepth 100000 in
set_option maxHeartbeats 8000000 in
theorem wholeT_any (t : ByteArray) (w : World) (hm : t.size ≤ 65536) (hk : KwIs w) : Calls Tryd.prog 25 #[.string t, .func (.func 26) #[] #[]] w (Typed (Ip.type t.data.toList) w) := by
  have QA := fun W => All_any t W hm
  have hin := all_in t hm
  have hct := all_count t hm
  obtain ⟨o, ho⟩ : ∃ o, Tk.all 0 t.data.toList = o := ⟨_, rfl⟩
  rw [ho] at QA hin hct
  cases o with
  | no a er =>
    have HE : Hid (Ip.type t.data.toList = ([], ((a : Nat) : Int), er)) := Lib.hid (Ip.whole_no _ _ ho)
    have her : (((er : Nat) : Int) != 0) = true := by rw [bne_iff_ne]; have := Tk.all_err ho; omega
    unfold Alls Tk.Out.at_ Tk.Out.err Tk.Out.toks at QA
    clear ho hin hct hk
    go_enter Tryd.func25, Tryd.ntmps25
    go_wp2_with fail
    refine Calls.mono (QA _) ?_
    rintro e w1 ⟨v, rfl, hv, hb1⟩
    obtain ⟨pv, cv, rfl, -, -⟩ := hv.shape
    have HB := Lib.hid hb1
    clear hv hb1 QA
    go_wp2_with fail
    go_ret3
    unfold Typed
    rw [HE.out]
    exact ⟨_, rfl, RowIs.nil _ _ _, HB.out⟩
  | ok ts =>
    have HE := Lib.hid (Ip.whole_ok Ip.sorts [] ho)
    have HEP : Hid (Ip.type t.data.toList = Ip.whole Ip.sorts [] t.data.toList) := Lib.hid rfl
    unfold Alls Tk.Out.at_ Tk.Out.err Tk.Out.toks at QA
    simp only [Tk.Out.toks] at hin hct
    obtain ⟨⟨S, r'⟩, hx⟩ : ∃ y, Ip.sorts ⟨ts, false⟩ = y := ⟨_, rfl⟩
    have QS := fun (W : World) (b q : Nat) (h : Rd W b q ⟨ts, false⟩) => sorts_any h
    rw [hx] at HE QS
    have HQS := Lib.hid QS
    have HIN := Lib.hid hin
    have HCT := Lib.hid hct
    have HK := Lib.hid hk
    have hne : (((0 : Nat) : Int) != 0) = false := rfl
    clear ho hin hct QS hx hk
    go_enter Tryd.func25, Tryd.ntmps25
    go_wp2_with fail
    refine Calls.mono (QA _) ?_
    rintro e w1 ⟨v, rfl, hv, hb1⟩
    obtain ⟨p, c, q, rfl, -, hR⟩ := rd_start hv HIN.out (HK.out.below hb1) HCT.out
    have HR := Lib.hid hR
    have HB1 := Lib.hid hb1
    clear hv hR hb1 QA
    go_wp2_with fail
    refine (HQS.out _ _ _ HR.out).mono ?_
    rintro e w2 ⟨v2, rfl, hV2, hG2⟩
    obtain ⟨p1, k1, rfl, -, -⟩ := hV2.shape
    have HB := Lib.hid (HB1.out.trans (((tk_alloc w1 (rdO p ts.length c false)).mono HB1.out.size).trans (hG2.2.below HB1.out.size (by rw [World.size_alloc]; have := HB1.out.size; omega))))
    have HV := Lib.hid (hV2.mono okSo (by rw [World.size_alloc]; exact Nat.le_succ_of_le HB1.out.size))
    obtain ⟨p', c', hA⟩ := hG2.1
    clear hV2 hG2
    obtain ⟨c0, c1, -, -⟩ := rd_cells hA
    obtain ⟨l', s'⟩ := r'
    simp only at c0 c1 HE
    cases l' with
    | cons tk l2 =>
      obtain ⟨A, rfl⟩ := hA.toks.some (i := 0) (by simp)
      obtain ⟨A1, e1, d0, d1, d2, d3, -⟩ := hA.toks.at (Below.refl _ _) (i := 0) (by simp)
      cases e1
      simp only [List.getElem_cons_zero, Nat.zero_mul] at d0 d1 d2 d3
      have a0 : A.add 0 = A := rfl
      rw [a0] at d0 d1 d2 d3
      have HEE : Hid (Ip.type t.data.toList = ([], tk.pos, 120)) := Lib.hid (by rw [HEP.out, HE.out])
      simp only [List.length_cons] at c0
      have j1 : (0 : Int) < (l2.length : Int) + 1 := by omega
      have j2 : 0 < l2.length + 1 := by omega
      clear hA a0 d0 d1 d2 HE
      go_wp2_with fail
      go_quiet (fail)
      go_wp2_with fail
      go_ret3
      unfold Typed
      rw [HEE.out]
      exact ⟨_, rfl, RowIs.nil _ _ _, ⟨HB.out.os, HB.out.tape, HB.out.output, HB.out.size, HB.out.block⟩⟩
    | nil =>
      have HEE : Hid (Ip.type t.data.toList = if s' then ([], ((t.size : Nat) : Int), 120) else (S, 0, 0)) := Lib.hid (by rw [HEP.out, HE.out, list_len])
      simp only [List.length_nil] at c0
      clear hA HE
      cases s' with
      | true =>
        go_wp2_with fail
        go_ret3
        unfold Typed
        rw [HEE.out]
        exact ⟨_, rfl, RowIs.nil _ _ _, HB.out⟩
      | false =>
        go_wp2_with fail
        go_ret3
        unfold Typed
        rw [HEE.out]
        exact ⟨_, rfl, HV.out, HB.out⟩
set_option maxRecDepth 100000 in
set_option maxHeartbeats 8000000 in
theorem Type_any (t : ByteArray) (w : World) (hm : t.size ≤ 65536) (hk : KwIs w) : Calls Tryd.prog 12 #[.string t] w (Typed (Ip.type t.data.toList) w) := by
  have HW := Lib.hid (wholeT_any t w hm hk)
  obtain ⟨⟨S, at_, er⟩, hx⟩ : ∃ y, Ip.type t.data.toList = y := ⟨_, rfl⟩
  rw [hx] at HW ⊢
  clear hx hk
  go_enter Tryd.func12, Tryd.ntmps12
  go_wp2_with fail
  refine Calls.mono HW.out ?_
  rintro e w1 ⟨v, rfl, hV, hb1⟩
  obtain ⟨p1, k1, rfl, -, -⟩ := hV.shape
  have HV := Lib.hid hV
  have HB := Lib.hid hb1
  clear hV hb1
  go_wp2_with fail
  go_ret3
  exact ⟨_, rfl, HV.out, HB.out⟩
end Go.Proofs.YtlmjcnfiolbfpaaDoor
