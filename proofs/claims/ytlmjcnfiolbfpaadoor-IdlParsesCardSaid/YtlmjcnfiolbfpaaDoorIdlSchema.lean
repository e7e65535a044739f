/-
  Walks over package idl: schema. Conditions: those in the theorems (the keywords' variable holds what the row lists).
-/
import Derived.Test.YtlmjcnfiolbfpaaDoorIdlDeclare
import Derived.Test.YtlmjcnfiolbfpaaDoorIdlLawMath
import Derived.Deep.Cut
set_option linter.unusedSimpArgs false
set_option linter.unusedVariables false
namespace Go.Proofs.YtlmjcnfiolbfpaaDoor
open Go.RowKit

/-- A schema, as a call tells it. -/
def SchV (W : World) (base : Nat) (v : Value) (s : Ip.Sch) : Prop := ∃ vr vs vg, v = .agg #[.string s.name, vr, vs, vg] ∧ RowIs kRcd W base vr s.records ∧ RowIs kSrv W base vs s.services ∧ RowIs kSga W base vg s.sagas
theorem SchV.keep {W V : World} {base base' : Nat} {v : Value} {s : Ip.Sch} (h : SchV W base v s) (hb : base' ≤ base) (hk : ∀ j cs ty, base ≤ j → W.heap[j]? = some (.cells cs ty (0, 0)) → ty ≠ 26 → V.heap[j]? = W.heap[j]?) : SchV V base' v s := by
  obtain ⟨vr, vs, vg, e, h1, h2, h3⟩ := h
  refine ⟨vr, vs, vg, e, h1.keep okRcd hb fun j cs ty hj hc ht => hk j cs ty hj hc ?_, h2.keep okSrv hb fun j cs ty hj hc ht => hk j cs ty hj hc ?_, h3.keep okSga hb fun j cs ty hj hc ht => hk j cs ty hj hc ?_⟩
  · intro e; subst e
    revert ht
    show ¬ ((26 : Nat) = 52 ∨ ((26 : Nat) = 62 ∨ (26 : Nat) = 70)); decide
  · intro e; subst e
    revert ht
    show ¬ ((26 : Nat) = 56 ∨ (26 : Nat) = 94); decide
  · intro e; subst e
    revert ht
    show ¬ ((26 : Nat) = 60 ∨ (26 : Nat) = 64); decide
theorem SchV.below {W V : World} {base : Nat} {v : Value} {s : Ip.Sch} (h : SchV W base v s) (hb : Below W.heap.size W V) : SchV V base v s := h.keep (Nat.le_refl _) fun j cs ty _ hc _ => hb.block j (Array.getElem?_eq_some_iff.1 hc).1
theorem SchV.mono {W : World} {base base' : Nat} {v : Value} {s : Ip.Sch} (h : SchV W base v s) (hb : base' ≤ base) : SchV W base' v s := h.keep hb fun _ _ _ _ _ _ => rfl
theorem SchV.set {W V : World} {base x : Nat} {v : Value} {s : Ip.Sch} {cs : Array Value} (h : SchV W base v s) (hx : W.heap[x]? = some (.cells cs 26 (0, 0))) (ht : Tn x W V) : SchV V base v s :=
  h.keep (Nat.le_refl _) fun j cs' ty _ hc hty => ht.block j (Array.getElem?_eq_some_iff.1 hc).1 fun e => by subst e; rw [hx] at hc; cases hc; exact hty rfl
theorem SchV.zero (W : World) (base : Nat) : SchV W base (.agg #[.string ⟨#[]⟩, .slice none 0 0, .slice none 0 0, .slice none 0 0]) Ip.Sch.zero := ⟨_, _, _, rfl, RowIs.nil _ _ _, RowIs.nil _ _ _, RowIs.nil _ _ _⟩
def total (s : Ip.Sch) : Nat := s.records.length + s.services.length + s.sagas.length
theorem total_declare (s : Ip.Sch) (r : Ip.R) : total (Ip.declare s r).1 ≤ total s + 1 := by
  unfold Ip.declare Ip.declareW
  rw [Ip.bind_eq]
  split
  · rw [Ip.bind_eq, Ip.ret_eq]; unfold total; simp only [List.length_append, List.length_cons, List.length_nil]; omega
  · split
    · rw [Ip.bind_eq, Ip.ret_eq]; unfold total; simp only [List.length_append, List.length_cons, List.length_nil]; omega
    · split
      · rw [Ip.bind_eq, Ip.ret_eq]; unfold total; simp only [List.length_append, List.length_cons, List.length_nil]; omega
      · split
        · rw [Ip.bind_eq, Ip.ret_eq]; unfold total; simp only [List.length_append, List.length_cons, List.length_nil]; omega
        · rw [Ip.ret_eq]; exact Nat.le_succ _
/-- Behind some declarations. -/
def Run (r : Ip.R) (s : Ip.Sch) (rk : Ip.R) : Prop := Ip.schema r = Ip.decls s rk ∧ total s + rk.left.length + (if rk.stuck then 0 else 1) ≤ 65537
def mreader (b : Nat) (W : World) : Nat := match W.cell? ⟨b, 0, none⟩, W.cell? ⟨b, 1, none⟩ with
  | some (.slice _ n _), some (.bool s) => n + if s then 0 else 1
  | _, _ => 0
theorem mreader_of {W : World} {b q : Nat} {r : Ip.R} (h : Rd W b q r) : mreader b W = r.left.length + if r.stuck then 0 else 1 := by
  obtain ⟨p, c, h⟩ := h
  obtain ⟨h1, h2, -, -⟩ := rd_cells h
  unfold mreader
  rw [h1, h2]
theorem run_goes {r rk : Ip.R} {s : Ip.Sch} (h : Run r s rk) (he : Ip.ends rk = false) : Run r (Ip.declare s rk).1 (Ip.declare s rk).2 ∧ (Ip.declare s rk).2.left.length + (if (Ip.declare s rk).2.stuck then 0 else 1) < rk.left.length + if rk.stuck then 0 else 1 := by
  obtain ⟨h1, h2⟩ := h
  rw [Ip.decls_eq s rk, he] at h1
  simp only [Bool.false_eq_true, if_false] at h1
  have hst := Ip.not_ends he
  rw [hst] at h2 ⊢
  simp only [Bool.false_eq_true, if_false] at h2 ⊢
  have ht := total_declare s rk
  have hl := (Ip.nice_declare s).len rk
  have key : (Ip.declare s rk).2.left.length + (if (Ip.declare s rk).2.stuck then 0 else 1) < rk.left.length + 1 := by
    rcases Ip.takes_declare s rk hst with e | e
    · rw [e]; simp only [if_true]; omega
    · split <;> omega
  exact ⟨⟨h1, by omega⟩, key⟩
theorem run_ends {r rk : Ip.R} {s : Ip.Sch} (h : Run r s rk) (he : Ip.ends rk = true) : Ip.schema r = (s, rk) := by
  rw [h.1, Ip.decls_eq s rk, he]; rfl
theorem empty_list (x : ByteArray) : x.toList.isEmpty = Ip.eqB x ⟨#[]⟩ := by
  rw [Go.Lib.toList_data]
  unfold Ip.eqB
  cases x.data.toList <;> rfl
theorem schema_res {W : World} {tmps : Array Value} {b : Nat} {x0 x1 x2 x3 : Value} (h2 : tmps[2]? = some (.pointer (some ⟨b, 0, none⟩))) (h : W.heap[b]? = some (.cells #[x0, x1, x2, x3] 26 (0, 0))) :
    (results Tryd.f18 tmps).run Tryd.prog W = .ok (.agg #[x0, x1, x2, x3]) W := by
  obtain ⟨c0, c1, c2, c3⟩ := cells4 h
  simp [results, Tryd.results18, h2, go_sem, c0, c1, c2, c3]
set_option maxRecDepth 100000 in
set_option maxHeartbeats 8000000 in
theorem schema_any {w : World} {b q : Nat} {r : Ip.R} (h : Rd w b q r) : Calls Tryd.prog 18 #[.pointer (some ⟨b, 0, none⟩)] w fun e w' => ∃ v, e = .returned v ∧ SchV w' w.heap.size v (Ip.schema r).1 ∧ Gone b q w (Ip.schema r).2 w' := by
  obtain ⟨⟨n1, r1⟩, e1⟩ : ∃ y, Ip.one [Ip.kModule] r = y := ⟨_, rfl⟩
  have Q1 := fun (W : World) (h : Rd W b q r) => one_lit h [Ip.kModule] (by decide)
  rw [e1] at Q1
  have H1 := Lib.hid Q1
  obtain ⟨⟨n2, r2⟩, e2⟩ : ∃ y, Ip.name r1 = y := ⟨_, rfl⟩
  have Q2 := fun (W : World) (h : Rd W b q r1) => name_any h
  rw [e2] at Q2
  have H2 := Lib.hid Q2
  obtain ⟨⟨n3, r3⟩, e3⟩ : ∃ y, Ip.one [Ip.sSemi] r2 = y := ⟨_, rfl⟩
  have Q3 := fun (W : World) (h : Rd W b q r2) => one_lit h [Ip.sSemi] (by decide)
  rw [e3] at Q3
  have H3 := Lib.hid Q3
  have HR : Hid (Run r ⟨n2, [], [], []⟩ r3) := Lib.hid ⟨by
    rw [Ip.schema_eq]; unfold Ip.head; simp only [Ip.bind_eq, Ip.ret_eq, e1, e2, e3], by
    have h1 := (Ip.nice_one [Ip.kModule]).len r
    have h2 := Ip.nice_name.len r1
    have h3 := (Ip.nice_one [Ip.sSemi]).len r2
    rw [e1] at h1; rw [e2] at h2; rw [e3] at h3
    have := h.few
    unfold total
    simp only [List.length_nil] at *
    split <;> omega⟩
  have HH := Lib.hid h
  have hlt := h.lt
  clear Q1 Q2 Q3 e1 e2 e3 h
  go_enter Tryd.func18, Tryd.ntmps18
  go_upto_region 2 with fail
  obtain ⟨W0, hW0⟩ : ∃ W0, W0 = (w.alloc (.cells #[.string ⟨#[]⟩, .slice none 0 0, .slice none 0 0, .slice none 0 0] 26)).alloc (.cells #[.string ⟨#[]⟩, .slice none 0 0, .slice none 0 0, .slice none 0 0] 26) := ⟨_, rfl⟩
  have M0 := Lib.hid (loc_start HH.out (T := 26) (zs := #[.string ⟨#[]⟩, .slice none 0 0, .slice none 0 0, .slice none 0 0]) (cs := #[.string ⟨#[]⟩, .slice none 0 0, .slice none 0 0, .slice none 0 0]) rfl rfl)
  rw [← hW0] at M0 ⊢
  clear hW0
  go_wp2_with fail
  refine (H1.out W0 M0.out.gone.1).mono ?_
  rintro e w1 ⟨rfl, hg⟩
  have M1 := Lib.hid (M0.out.call HH.out hg)
  clear hg
  go_wp2_with fail
  refine (H2.out w1 M1.out.gone.1).mono ?_
  rintro e w2 ⟨rfl, hg⟩
  have L2 := Lib.hid (M1.out.call HH.out hg)
  clear hg
  have hl := L2.out.loc
  obtain ⟨c0, c1, c2, c3⟩ := cells4 hl
  have f0 := frozen2 hl 0
  clear hl
  go_upto_region 4 with fail
  obtain ⟨W2, hW2⟩ : ∃ W2, W2 = w2.setCell ⟨w.heap.size + 1, 0, none⟩ (.string n2) := ⟨_, rfl⟩
  have M2 := Lib.hid (L2.out.set HH.out 0 (.string n2))
  rw [← hW2] at M2 ⊢
  clear hW2 c0 c1 c2 c3 f0
  go_wp2_with fail
  refine (H3.out W2 M2.out.gone.1).mono ?_
  rintro e w3 ⟨rfl, hg⟩
  have M3 := Lib.hid (M2.out.call HH.out hg)
  clear hg
  go_wp2_with fail
  go_loopw [13] (fun _ wr => ∃ (s : Ip.Sch) (rk : Ip.R), Hid (Gone b q w rk wr) ∧ Hid (∃ vr vs vg, SchIn wr w.heap.size (w.heap.size + 1) s vr vs vg) ∧ Hid (wr.heap[w.heap.size]? = some (.cells #[.string ⟨#[]⟩, .slice none 0 0, .slice none 0 0, .slice none 0 0] 26 (0, 0))) ∧ Hid (Run r s rk)) (fun _ wr => mreader b wr)
  case atStart => exact ⟨⟨n2, [], [], []⟩, r3, Lib.hid M3.out.gone, Lib.hid ⟨_, _, _, M3.out.loc, RowIs.nil _ _ _, RowIs.nil _ _ _, RowIs.nil _ _ _⟩, Lib.hid M3.out.res, HR⟩
  case round =>
    obtain ⟨s, rk, HG, HS, HZ, HRn⟩ := hrel
    have QA := ahead_any HG.out.1
    have hem := empty_list (Ip.ahead rk)
    cases he : Ip.ends rk with
    | true =>
      have HX := Lib.hid (run_ends HRn.out he)
      rw [show Ip.eqB (Ip.ahead rk) ⟨#[]⟩ = true from he] at hem
      clear he
      generalize Ip.ahead rk = x at *
      obtain ⟨vr, vs, vg, hS⟩ := HS.out
      have HSV := Lib.hid hS
      obtain ⟨c0, c1, c2, c3⟩ := cells4 hS.blk
      have hz := HZ.out
      obtain ⟨z0, z1, z2, z3⟩ := cells4 hz
      have f0 := frozen2 hz 0
      have f1 := frozen2 hz 1
      have f2 := frozen2 hz 2
      have f3 := frozen2 hz 3
      obtain ⟨p1, k1, rfl, -, -⟩ := hS.recs.shape
      obtain ⟨p2, k2, rfl, -, -⟩ := hS.srvs.shape
      obtain ⟨p3, k3, rfl, -, -⟩ := hS.sgas.shape
      clear hS hz
      go_wp2_with fail
      refine QA.mono ?_
      rintro e w' ⟨rfl, hw⟩
      obtain rfl := hw
      go_wp2_with fail
      refine bodyPost_ret (schema_res rfl (set_four _ _ _ _ HZ.out)) rfl ?_
      rw [HX.out]
      exact ⟨_, rfl, SchV.set (W := wr) ⟨_, _, _, rfl, HSV.out.recs, HSV.out.srvs, HSV.out.sgas⟩ HZ.out (tn_four _ _ _ _ _), HG.out.turn HH.out (Nat.le_refl _) (tn_four _ _ _ _ _)⟩
    | false =>
      have HX := Lib.hid (run_goes HRn.out he)
      rw [show Ip.eqB (Ip.ahead rk) ⟨#[]⟩ = false from he] at hem
      have HM := Lib.hid (mreader_of HG.out.1)
      clear he
      obtain ⟨vr, vs, vg, hS⟩ := HS.out
      have QD := declare_any HH.out HG.out hS (Nat.le_succ _) (by have := HRn.out.2; unfold total at this; omega)
      obtain ⟨⟨s', r'⟩, hx⟩ : ∃ y, Ip.declare s rk = y := ⟨_, rfl⟩
      rw [hx] at QD HX
      clear hS hx
      generalize Ip.ahead rk = x at *
      go_wp2_with fail
      refine QA.mono ?_
      rintro e w' ⟨rfl, hw⟩
      obtain rfl := hw
      go_wp2_with fail
      refine QD.mono ?_
      rintro e w4 ⟨rfl, hS4, hG4, hO4⟩
      have HG4 := Lib.hid hG4
      have HS4 := Lib.hid hS4
      have HZ4 := Lib.hid ((hO4 w.heap.size _ (by omega) HZ.out).trans HZ.out)
      have HM4 := Lib.hid (mreader_of hG4.1)
      clear hG4 hS4 hO4 QD QA
      go_wp2_with fail
      go_roundw
      case rel => exact ⟨s', r', HG4, HS4, HZ4, Lib.hid HX.out.1⟩
      case measure => rw [HM.out, HM4.out]; exact HX.out.2
end Go.Proofs.YtlmjcnfiolbfpaaDoor
