/-
  Walks over package idl: declare. Conditions: those in the theorems (the keywords' variable holds what the row lists).
-/
import Derived.Test.YtlmjcnfiolbfpaaDoorIdlDecl
import Derived.Deep.Cut
import Derived.Deep.RegionLaw
set_option linter.unusedSimpArgs false
set_option linter.unusedVariables false
namespace Go.Proofs.YtlmjcnfiolbfpaaDoor
open Go.RowKit

theorem step_append_run {P : Program} {ops : Array Oper} {o : Oper} {a : Act} {w : World} {K : Act → World → Prop} {Q : Exit → Act → World → Prop} {E : Prop}
    (hg : o.guard = none) (s x : Operand) (t tn : TypeId) (ho : o.op = .call { callee := .builtin .append, args := #[s, x], argTypes := #[t, tn] }) (vs vx : Value) (hs : a.eval s = vs) (hx : a.eval x = vx)
    (v' : Value) (w' : World) (hr : (Builtin.append_ #[t, tn] o.type #[vs, vx]).run P w = .ok v' w') (hK : K (a.put o.dst v') w') :
    if Region.wanted o (yielded ops a.tmps) = true then Oper.wp P o a w K Q else E := by
  have hw : Region.wanted o (yielded ops a.tmps) = true := by simp [Region.wanted, hg]
  rw [if_pos hw]
  exact Lib.wp_append_run w s x t tn ho vs vx hs hx v' w' hr hK
theorem Ip.one_cases (of : List ByteArray) (r : Ip.R) : (Ip.one of r).1 ∈ of ∨ (Ip.one of r).1 = ⟨#[]⟩ := by
  obtain ⟨l, s⟩ := r
  unfold Ip.one Ip.bind Ip.ret Ip.take
  cases s with
  | true => exact .inr rfl
  | false =>
    cases l with
    | nil => exact .inr rfl
    | cons t l =>
      simp only [Bool.false_eq_true, if_false]
      by_cases h : Ip.among of t.text = true
      · rw [if_pos h]; exact .inl (Ip.among_iff.1 h)
      · rw [if_neg h]; exact .inr rfl
/-- A schema that is being filled, in block c. -/
structure SchIn (W : World) (base c : Nat) (s : Ip.Sch) (vr vs vg : Value) : Prop where
  blk : W.heap[c]? = some (.cells #[.string s.name, vr, vs, vg] 26 (0, 0))
  recs : RowIs kRcd W base vr s.records
  srvs : RowIs kSrv W base vs s.services
  sgas : RowIs kSga W base vg s.sagas
/-- Other schemas' blocks stay. -/
def Others (c : Nat) (w W : World) : Prop := ∀ k cs, k ≠ c → w.heap[k]? = some (.cells cs 26 (0, 0)) → W.heap[k]? = w.heap[k]?
theorem others_tn {b c q : Nat} {w W : World} {r : Ip.R} (h : Rd w b q r) (ht : Tn b w W) : Others c w W := fun k cs _ hk => ht.block k (Array.getElem?_eq_some_iff.1 hk).1 fun e => by
  obtain ⟨p, cc, h⟩ := h
  have := h.blk
  rw [← e, hk] at this
  unfold rdO at this
  cases this
theorem Others.trans {c : Nat} {w W V : World} (h : Others c w W) (k : Others c W V) : Others c w V := fun j cs hj hc => by
  have h1 := h j cs hj hc
  exact (k j cs hj (h1.trans hc)).trans h1
theorem others_set {c i : Nat} {w : World} (v : Value) : Others c w (w.setCell ⟨c, i, none⟩ v) := fun k cs hk _ => Below.heap_setCell _ _ _ _ hk
theorem sch_tn {b base c : Nat} {w W : World} {s : Ip.Sch} {vr vs vg : Value} (h : SchIn w base c s vr vs vg) (ht : Tn b w W) (hb : b < base) (hc : c ≠ b) : SchIn W base c s vr vs vg :=
  ⟨(ht.block c (Array.getElem?_eq_some_iff.1 h.blk).1 hc).trans h.blk, row_tn okRcd h.recs ht hb, row_tn okSrv h.srvs ht hb, row_tn okSga h.sgas ht hb⟩
/-- Whichever row is appended to: the others stay, and so does the schema's block. -/
theorem row_apart {α β : Type} {K : RowKind α} {J : RowKind β} (ok : K.Ok) {base : Nat} {W V : World} {v u : Value} {l : List α} {m : List β} (h : RowIs K W base v l) (g : RowIs J W base u m) (hb : ∀ k, k < W.heap.size → u.ownBlock ≠ some k → V.heap[k]? = W.heap[k]?) (hT : ¬ (J.ty = K.ty ∨ K.tys J.ty)) : RowIs K V base v l :=
  h.keep ok (Nat.le_refl _) fun j cs ty hj hc hty => hb j (Array.getElem?_eq_some_iff.1 hc).1 fun e => by
    obtain ⟨cs2, h2⟩ := g.ownTy j e
    rw [hc] at h2; cases h2; exact hT hty
theorem block_apart {β : Type} {J : RowKind β} {base k : Nat} {W V : World} {u : Value} {m : List β} {cs : Array Value} {T : TypeId} (g : RowIs J W base u m) (hb : ∀ k, k < W.heap.size → u.ownBlock ≠ some k → V.heap[k]? = W.heap[k]?) (hk : W.heap[k]? = some (.cells cs T (0, 0))) (hT : J.ty ≠ T) : V.heap[k]? = W.heap[k]? :=
  hb k (Array.getElem?_eq_some_iff.1 hk).1 fun e => by
    obtain ⟨cs2, h2⟩ := g.ownTy k e
    rw [hk] at h2; cases h2; exact hT rfl
/-- What declare leaves. -/
def Declared (b q : Nat) (w0 : World) (c : Nat) (x : Ip.Sch × Ip.R) (w : World) (e : Ending) (w' : World) : Prop := e = .returned (.tuple #[]) ∧ (∃ vr vs vg, SchIn w' w0.heap.size c x.1 vr vs vg) ∧ Gone b q w0 x.2 w' ∧ Others c w w'
theorem gone_drew {b q : Nat} {w W : World} {r : Ip.R} (h : Gone b q w r W) : Gone b q w r W.drew := ⟨h.1.below (Below.refl _ _).drew, h.2.trans (Tn.of (Below.refl _ _).drew)⟩
set_option maxRecDepth 100000 in
set_option maxHeartbeats 16000000 in
theorem declare_record {w0 w : World} {b q c : Nat} {r r0 r1 : Ip.R} {s : Ip.Sch} {vr vs vg : Value} (H0 : Rd w0 b q r0) (G : Gone b q w0 r w) (S : SchIn w w0.heap.size c s vr vs vg) (hc : w0.heap.size ≤ c) (hn : s.records.length ≤ 100000) (hone : Ip.one [Ip.kRecord, Ip.kChoice, Ip.kService, Ip.kSaga] r = (Ip.kRecord, r1)) :
    Calls Tryd.prog 34 #[.pointer (some ⟨b, 0, none⟩), .pointer (some ⟨c, 0, none⟩)] w (Declared b q w0 c (Ip.declare s r) w) := by
  have Q1 := one_lit G.1 [Ip.kRecord, Ip.kChoice, Ip.kService, Ip.kSaga] (by decide)
  rw [hone] at Q1
  obtain ⟨⟨x, r2⟩, hx⟩ : ∃ y, Ip.record false r1 = y := ⟨_, rfl⟩
  have HE : Hid (Ip.declare s r = ({ s with records := s.records ++ [x] }, r2)) := Lib.hid (by
    unfold Ip.declare Ip.declareW
    rw [Ip.bind_eq, hone]
    simp only [show Ip.eqB Ip.kRecord Ip.kRecord = true by decide, show Ip.eqB Ip.kRecord Ip.kChoice = false by decide, show Ip.eqB Ip.kRecord Ip.kService = false by decide, show Ip.eqB Ip.kRecord Ip.kSaga = false by decide, Bool.false_eq_true, if_true, if_false, Ip.bind_eq, Ip.ret_eq, hx])
  have hcb : c ≠ b := by have := H0.lt; omega
  have hbb := H0.lt
  obtain ⟨pv0, cv0, rfl, -, -⟩ := S.recs.shape
  have HD : Hid (∀ W, Gone b q w0 r1 W → Calls Tryd.prog 58 #[.pointer (some ⟨b, 0, none⟩), .bool false] W (Elem kRcd b q (x, r2) W)) := Lib.hid fun W hW => by have := record_any false hW.1; rw [hx] at this; exact this
  have HS := Lib.hid S
  have HG := Lib.hid G
  have HQ := Lib.hid Q1
  have HN := Lib.hid hn
  have HH := Lib.hid H0
  clear hone hx Q1 S G hn H0
  go_enter Tryd.func34, Tryd.ntmps34
  go_wp2_with fail
  refine HQ.out.mono ?_
  rintro e w2 ⟨rfl, hr2, hT2⟩
  have HG2 := Lib.hid (gone_drew (HG.out.trans ⟨hr2, hT2⟩))
  have HR2 := Lib.hid hr2
  have S2 := sch_tn HS.out hT2 hbb hcb
  have HO2 := Lib.hid (others_tn (c := c) HG.out.1 hT2)
  have HS2 := Lib.hid S2
  obtain ⟨y0, y1, y2, y3⟩ := cells4 S2.blk
  have hcl := (Array.getElem?_eq_some_iff.1 S2.blk).1
  clear S2 hr2 hT2
  unfold Ip.kRecord
  go_upto_region 2 with fail
  go_region_law (first
    | (go_simp; go_at_call 58; refine (HD.out _ HG2.out).mono ?_; rintro e w3 ⟨t, he, ht, hg⟩; obtain ⟨p3, c3, rfl, -, -⟩ := RowIs.shape ht; have he : e = .returned (.agg #[.string x.name, .bool x.choice, .slice p3 x.fields.length c3]) := he; subst he; have HT3 := Lib.hid ht; have HG3 := Lib.hid (HG2.out.trans hg); have hT := (Tn.of (Below.refl _ _).drew : Tn b w2 w2.drew).trans hg.2; have S3 := sch_tn HS2.out hT hbb hcb; have HS3 := Lib.hid S3; have HO3 := Lib.hid (HO2.out.trans (others_tn (c := c) HR2.out hT)); obtain ⟨z0, z1, z2, z3⟩ := cells4 S3.blk; have z4 := fun o => ((tk_alloc w3 o).cell (p := ⟨c, 1, none⟩) (Array.getElem?_eq_some_iff.1 S3.blk).1).trans z1; clear ht hg hT S3)
    | (obtain ⟨pv, cv, V, hrun, hL4, hG4, hbl⟩ := append_lit okRcd HS3.out.recs HG3.out HH.out x (.slice p3 x.fields.length c3) (okRcd.keep _ _ _ _ _ _ HT3.out HG2.out.2.size fun _ _ _ _ _ _ => rfl) (by have := HN.out; omega) 22; rw [show (kRcd.cells x (.slice p3 x.fields.length c3)).toArray = #[.string x.name, .bool x.choice, .slice p3 x.fields.length c3] from rfl] at hrun; have hV := (block_apart HS3.out.recs hbl HS3.out.blk (by show (52 : Nat) ≠ 26; decide)).trans HS3.out.blk; obtain ⟨v0, v1, v2, v3⟩ := cells4 hV; have vf := frozen2 hV 1; have HV := Lib.hid hV; have HBL := Lib.hid hbl; have HL4 := Lib.hid hL4; have HG4 := Lib.hid hG4; clear hV hbl hL4 hG4; refine step_append_run rfl (.tmp 13) (.tmp 16) 22 22 rfl _ _ (by simp [Act.eval, Act.put]) (by simp [Act.eval, Act.put]) _ _ hrun ?_))
  all_goals
    go_wp2_with fail
    go_returns
    unfold Declared
    rw [HE.out]
    have hset := tk_set (i := 1) HV.out (.slice pv (s.records.length + 1) cv)
    have hsc : ∀ {α : Type} {J : RowKind α} {v : Value} {l : List α} (ok : J.Ok), RowIs J V w0.heap.size v l → ¬ ((26 : Nat) = J.ty ∨ J.tys 26) → RowIs J (V.setCell ⟨c, 1, none⟩ (.slice pv (s.records.length + 1) cv)) w0.heap.size v l := fun ok h hT => row_set ok h HV.out hT (tn_set V _)
    refine ⟨rfl, ⟨.slice pv (s.records.length + 1) cv, vs, vg, hset, ?_, ?_, ?_⟩, HG4.out.set HH.out hc _ _, HO3.out.trans (Others.trans (fun k cs _ hk => block_apart HS3.out.recs HBL.out hk (by show (52 : Nat) ≠ 26; decide)) (others_set _))⟩
    · exact hsc okRcd HL4.out (by show ¬ ((26 : Nat) = 52 ∨ ((26 : Nat) = 62 ∨ (26 : Nat) = 70)); decide)
    · exact hsc okSrv (row_apart okSrv HS3.out.srvs HS3.out.recs HBL.out (by show ¬ ((52 : Nat) = 56 ∨ (52 : Nat) = 94); decide)) (by show ¬ ((26 : Nat) = 56 ∨ (26 : Nat) = 94); decide)
    · exact hsc okSga (row_apart okSga HS3.out.sgas HS3.out.recs HBL.out (by show ¬ ((52 : Nat) = 60 ∨ (52 : Nat) = 64); decide)) (by show ¬ ((26 : Nat) = 60 ∨ (26 : Nat) = 64); decide)
set_option maxRecDepth 100000 in
set_option maxHeartbeats 16000000 in
theorem declare_choice {w0 w : World} {b q c : Nat} {r r0 r1 : Ip.R} {s : Ip.Sch} {vr vs vg : Value} (H0 : Rd w0 b q r0) (G : Gone b q w0 r w) (S : SchIn w w0.heap.size c s vr vs vg) (hc : w0.heap.size ≤ c) (hn : s.records.length ≤ 100000) (hone : Ip.one [Ip.kRecord, Ip.kChoice, Ip.kService, Ip.kSaga] r = (Ip.kChoice, r1)) :
    Calls Tryd.prog 34 #[.pointer (some ⟨b, 0, none⟩), .pointer (some ⟨c, 0, none⟩)] w (Declared b q w0 c (Ip.declare s r) w) := by
  have Q1 := one_lit G.1 [Ip.kRecord, Ip.kChoice, Ip.kService, Ip.kSaga] (by decide)
  rw [hone] at Q1
  obtain ⟨⟨x, r2⟩, hx⟩ : ∃ y, Ip.record true r1 = y := ⟨_, rfl⟩
  have HE : Hid (Ip.declare s r = ({ s with records := s.records ++ [x] }, r2)) := Lib.hid (by
    unfold Ip.declare Ip.declareW
    rw [Ip.bind_eq, hone]
    simp only [show Ip.eqB Ip.kChoice Ip.kRecord = false by decide, show Ip.eqB Ip.kChoice Ip.kChoice = true by decide, show Ip.eqB Ip.kChoice Ip.kService = false by decide, show Ip.eqB Ip.kChoice Ip.kSaga = false by decide, Bool.false_eq_true, if_true, if_false, Ip.bind_eq, Ip.ret_eq, hx])
  have hcb : c ≠ b := by have := H0.lt; omega
  have hbb := H0.lt
  obtain ⟨pv0, cv0, rfl, -, -⟩ := S.recs.shape
  have HD : Hid (∀ W, Gone b q w0 r1 W → Calls Tryd.prog 58 #[.pointer (some ⟨b, 0, none⟩), .bool true] W (Elem kRcd b q (x, r2) W)) := Lib.hid fun W hW => by have := record_any true hW.1; rw [hx] at this; exact this
  have HS := Lib.hid S
  have HG := Lib.hid G
  have HQ := Lib.hid Q1
  have HN := Lib.hid hn
  have HH := Lib.hid H0
  clear hone hx Q1 S G hn H0
  go_enter Tryd.func34, Tryd.ntmps34
  go_wp2_with fail
  refine HQ.out.mono ?_
  rintro e w2 ⟨rfl, hr2, hT2⟩
  have HG2 := Lib.hid (gone_drew (HG.out.trans ⟨hr2, hT2⟩))
  have HR2 := Lib.hid hr2
  have S2 := sch_tn HS.out hT2 hbb hcb
  have HO2 := Lib.hid (others_tn (c := c) HG.out.1 hT2)
  have HS2 := Lib.hid S2
  obtain ⟨y0, y1, y2, y3⟩ := cells4 S2.blk
  have hcl := (Array.getElem?_eq_some_iff.1 S2.blk).1
  clear S2 hr2 hT2
  unfold Ip.kChoice
  go_upto_region 4 with fail
  go_region_law (first
    | (go_simp; go_at_call 58; refine (HD.out _ HG2.out).mono ?_; rintro e w3 ⟨t, he, ht, hg⟩; obtain ⟨p3, c3, rfl, -, -⟩ := RowIs.shape ht; have he : e = .returned (.agg #[.string x.name, .bool x.choice, .slice p3 x.fields.length c3]) := he; subst he; have HT3 := Lib.hid ht; have HG3 := Lib.hid (HG2.out.trans hg); have hT := (Tn.of (Below.refl _ _).drew : Tn b w2 w2.drew).trans hg.2; have S3 := sch_tn HS2.out hT hbb hcb; have HS3 := Lib.hid S3; have HO3 := Lib.hid (HO2.out.trans (others_tn (c := c) HR2.out hT)); obtain ⟨z0, z1, z2, z3⟩ := cells4 S3.blk; have z4 := fun o => ((tk_alloc w3 o).cell (p := ⟨c, 1, none⟩) (Array.getElem?_eq_some_iff.1 S3.blk).1).trans z1; clear ht hg hT S3)
    | (obtain ⟨pv, cv, V, hrun, hL4, hG4, hbl⟩ := append_lit okRcd HS3.out.recs HG3.out HH.out x (.slice p3 x.fields.length c3) (okRcd.keep _ _ _ _ _ _ HT3.out HG2.out.2.size fun _ _ _ _ _ _ => rfl) (by have := HN.out; omega) 22; rw [show (kRcd.cells x (.slice p3 x.fields.length c3)).toArray = #[.string x.name, .bool x.choice, .slice p3 x.fields.length c3] from rfl] at hrun; have hV := (block_apart HS3.out.recs hbl HS3.out.blk (by show (52 : Nat) ≠ 26; decide)).trans HS3.out.blk; obtain ⟨v0, v1, v2, v3⟩ := cells4 hV; have vf := frozen2 hV 1; have HV := Lib.hid hV; have HBL := Lib.hid hbl; have HL4 := Lib.hid hL4; have HG4 := Lib.hid hG4; clear hV hbl hL4 hG4; refine step_append_run rfl (.tmp 26) (.tmp 29) 22 22 rfl _ _ (by simp [Act.eval, Act.put]) (by simp [Act.eval, Act.put]) _ _ hrun ?_))
  all_goals
    go_wp2_with fail
    go_returns
    unfold Declared
    rw [HE.out]
    have hset := tk_set (i := 1) HV.out (.slice pv (s.records.length + 1) cv)
    have hsc : ∀ {α : Type} {J : RowKind α} {v : Value} {l : List α} (ok : J.Ok), RowIs J V w0.heap.size v l → ¬ ((26 : Nat) = J.ty ∨ J.tys 26) → RowIs J (V.setCell ⟨c, 1, none⟩ (.slice pv (s.records.length + 1) cv)) w0.heap.size v l := fun ok h hT => row_set ok h HV.out hT (tn_set V _)
    refine ⟨rfl, ⟨.slice pv (s.records.length + 1) cv, vs, vg, hset, ?_, ?_, ?_⟩, HG4.out.set HH.out hc _ _, HO3.out.trans (Others.trans (fun k cs _ hk => block_apart HS3.out.recs HBL.out hk (by show (52 : Nat) ≠ 26; decide)) (others_set _))⟩
    · exact hsc okRcd HL4.out (by show ¬ ((26 : Nat) = 52 ∨ ((26 : Nat) = 62 ∨ (26 : Nat) = 70)); decide)
    · exact hsc okSrv (row_apart okSrv HS3.out.srvs HS3.out.recs HBL.out (by show ¬ ((52 : Nat) = 56 ∨ (52 : Nat) = 94); decide)) (by show ¬ ((26 : Nat) = 56 ∨ (26 : Nat) = 94); decide)
    · exact hsc okSga (row_apart okSga HS3.out.sgas HS3.out.recs HBL.out (by show ¬ ((52 : Nat) = 60 ∨ (52 : Nat) = 64); decide)) (by show ¬ ((26 : Nat) = 60 ∨ (26 : Nat) = 64); decide)
set_option maxRecDepth 100000 in
set_option maxHeartbeats 16000000 in
theorem declare_service {w0 w : World} {b q c : Nat} {r r0 r1 : Ip.R} {s : Ip.Sch} {vr vs vg : Value} (H0 : Rd w0 b q r0) (G : Gone b q w0 r w) (S : SchIn w w0.heap.size c s vr vs vg) (hc : w0.heap.size ≤ c) (hn : s.services.length ≤ 100000) (hone : Ip.one [Ip.kRecord, Ip.kChoice, Ip.kService, Ip.kSaga] r = (Ip.kService, r1)) :
    Calls Tryd.prog 34 #[.pointer (some ⟨b, 0, none⟩), .pointer (some ⟨c, 0, none⟩)] w (Declared b q w0 c (Ip.declare s r) w) := by
  have Q1 := one_lit G.1 [Ip.kRecord, Ip.kChoice, Ip.kService, Ip.kSaga] (by decide)
  rw [hone] at Q1
  obtain ⟨⟨x, r2⟩, hx⟩ : ∃ y, Ip.service r1 = y := ⟨_, rfl⟩
  have HE : Hid (Ip.declare s r = ({ s with services := s.services ++ [x] }, r2)) := Lib.hid (by
    unfold Ip.declare Ip.declareW
    rw [Ip.bind_eq, hone]
    simp only [show Ip.eqB Ip.kService Ip.kRecord = false by decide, show Ip.eqB Ip.kService Ip.kChoice = false by decide, show Ip.eqB Ip.kService Ip.kService = true by decide, show Ip.eqB Ip.kService Ip.kSaga = false by decide, Bool.false_eq_true, if_true, if_false, Ip.bind_eq, Ip.ret_eq, hx])
  have hcb : c ≠ b := by have := H0.lt; omega
  have hbb := H0.lt
  obtain ⟨pv0, cv0, rfl, -, -⟩ := S.srvs.shape
  have HD : Hid (∀ W, Gone b q w0 r1 W → Calls Tryd.prog 59 #[.pointer (some ⟨b, 0, none⟩)] W (Elem kSrv b q (x, r2) W)) := Lib.hid fun W hW => by have := service_any hW.1; rw [hx] at this; exact this
  have HS := Lib.hid S
  have HG := Lib.hid G
  have HQ := Lib.hid Q1
  have HN := Lib.hid hn
  have HH := Lib.hid H0
  clear hone hx Q1 S G hn H0
  go_enter Tryd.func34, Tryd.ntmps34
  go_wp2_with fail
  refine HQ.out.mono ?_
  rintro e w2 ⟨rfl, hr2, hT2⟩
  have HG2 := Lib.hid (gone_drew (HG.out.trans ⟨hr2, hT2⟩))
  have HR2 := Lib.hid hr2
  have S2 := sch_tn HS.out hT2 hbb hcb
  have HO2 := Lib.hid (others_tn (c := c) HG.out.1 hT2)
  have HS2 := Lib.hid S2
  obtain ⟨y0, y1, y2, y3⟩ := cells4 S2.blk
  have hcl := (Array.getElem?_eq_some_iff.1 S2.blk).1
  clear S2 hr2 hT2
  unfold Ip.kService
  go_upto_region 6 with fail
  go_region_law (first
    | (go_simp; go_at_call 59; refine (HD.out _ HG2.out).mono ?_; rintro e w3 ⟨t, he, ht, hg⟩; obtain ⟨p3, c3, rfl, -, -⟩ := RowIs.shape ht; have he : e = .returned (.agg #[.string x.name, .slice p3 x.methods.length c3]) := he; subst he; have HT3 := Lib.hid ht; have HG3 := Lib.hid (HG2.out.trans hg); have hT := (Tn.of (Below.refl _ _).drew : Tn b w2 w2.drew).trans hg.2; have S3 := sch_tn HS2.out hT hbb hcb; have HS3 := Lib.hid S3; have HO3 := Lib.hid (HO2.out.trans (others_tn (c := c) HR2.out hT)); obtain ⟨z0, z1, z2, z3⟩ := cells4 S3.blk; have z4 := fun o => ((tk_alloc w3 o).cell (p := ⟨c, 2, none⟩) (Array.getElem?_eq_some_iff.1 S3.blk).1).trans z2; clear ht hg hT S3)
    | (obtain ⟨pv, cv, V, hrun, hL4, hG4, hbl⟩ := append_lit okSrv HS3.out.srvs HG3.out HH.out x (.slice p3 x.methods.length c3) (okSrv.keep _ _ _ _ _ _ HT3.out HG2.out.2.size fun _ _ _ _ _ _ => rfl) (by have := HN.out; omega) 23; rw [show (kSrv.cells x (.slice p3 x.methods.length c3)).toArray = #[.string x.name, .slice p3 x.methods.length c3] from rfl] at hrun; have hV := (block_apart HS3.out.srvs hbl HS3.out.blk (by show (56 : Nat) ≠ 26; decide)).trans HS3.out.blk; obtain ⟨v0, v1, v2, v3⟩ := cells4 hV; have vf := frozen2 hV 2; have HV := Lib.hid hV; have HBL := Lib.hid hbl; have HL4 := Lib.hid hL4; have HG4 := Lib.hid hG4; clear hV hbl hL4 hG4; refine step_append_run rfl (.tmp 39) (.tmp 42) 23 23 rfl _ _ (by simp [Act.eval, Act.put]) (by simp [Act.eval, Act.put]) _ _ hrun ?_))
  all_goals
    go_wp2_with fail
    go_returns
    unfold Declared
    rw [HE.out]
    have hset := tk_set (i := 2) HV.out (.slice pv (s.services.length + 1) cv)
    have hsc : ∀ {α : Type} {J : RowKind α} {v : Value} {l : List α} (ok : J.Ok), RowIs J V w0.heap.size v l → ¬ ((26 : Nat) = J.ty ∨ J.tys 26) → RowIs J (V.setCell ⟨c, 2, none⟩ (.slice pv (s.services.length + 1) cv)) w0.heap.size v l := fun ok h hT => row_set ok h HV.out hT (tn_set V _)
    refine ⟨rfl, ⟨vr, .slice pv (s.services.length + 1) cv, vg, hset, ?_, ?_, ?_⟩, HG4.out.set HH.out hc _ _, HO3.out.trans (Others.trans (fun k cs _ hk => block_apart HS3.out.srvs HBL.out hk (by show (56 : Nat) ≠ 26; decide)) (others_set _))⟩
    · exact hsc okRcd (row_apart okRcd HS3.out.recs HS3.out.srvs HBL.out (by show ¬ ((56 : Nat) = 52 ∨ ((56 : Nat) = 62 ∨ (56 : Nat) = 70)); decide)) (by show ¬ ((26 : Nat) = 52 ∨ ((26 : Nat) = 62 ∨ (26 : Nat) = 70)); decide)
    · exact hsc okSrv HL4.out (by show ¬ ((26 : Nat) = 56 ∨ (26 : Nat) = 94); decide)
    · exact hsc okSga (row_apart okSga HS3.out.sgas HS3.out.srvs HBL.out (by show ¬ ((56 : Nat) = 60 ∨ (56 : Nat) = 64); decide)) (by show ¬ ((26 : Nat) = 60 ∨ (26 : Nat) = 64); decide)
set_option maxRecDepth 100000 in
set_option maxHeartbeats 16000000 in
theorem declare_saga {w0 w : World} {b q c : Nat} {r r0 r1 : Ip.R} {s : Ip.Sch} {vr vs vg : Value} (H0 : Rd w0 b q r0) (G : Gone b q w0 r w) (S : SchIn w w0.heap.size c s vr vs vg) (hc : w0.heap.size ≤ c) (hn : s.sagas.length ≤ 100000) (hone : Ip.one [Ip.kRecord, Ip.kChoice, Ip.kService, Ip.kSaga] r = (Ip.kSaga, r1)) :
    Calls Tryd.prog 34 #[.pointer (some ⟨b, 0, none⟩), .pointer (some ⟨c, 0, none⟩)] w (Declared b q w0 c (Ip.declare s r) w) := by
  have Q1 := one_lit G.1 [Ip.kRecord, Ip.kChoice, Ip.kService, Ip.kSaga] (by decide)
  rw [hone] at Q1
  obtain ⟨⟨x, r2⟩, hx⟩ : ∃ y, Ip.saga r1 = y := ⟨_, rfl⟩
  have HE : Hid (Ip.declare s r = ({ s with sagas := s.sagas ++ [x] }, r2)) := Lib.hid (by
    unfold Ip.declare Ip.declareW
    rw [Ip.bind_eq, hone]
    simp only [show Ip.eqB Ip.kSaga Ip.kRecord = false by decide, show Ip.eqB Ip.kSaga Ip.kChoice = false by decide, show Ip.eqB Ip.kSaga Ip.kService = false by decide, show Ip.eqB Ip.kSaga Ip.kSaga = true by decide, Bool.false_eq_true, if_true, if_false, Ip.bind_eq, Ip.ret_eq, hx])
  have hcb : c ≠ b := by have := H0.lt; omega
  have hbb := H0.lt
  obtain ⟨pv0, cv0, rfl, -, -⟩ := S.sgas.shape
  have HD : Hid (∀ W, Gone b q w0 r1 W → Calls Tryd.prog 60 #[.pointer (some ⟨b, 0, none⟩)] W (Elem kSga b q (x, r2) W)) := Lib.hid fun W hW => by have := saga_any hW.1; rw [hx] at this; exact this
  have HS := Lib.hid S
  have HG := Lib.hid G
  have HQ := Lib.hid Q1
  have HN := Lib.hid hn
  have HH := Lib.hid H0
  clear hone hx Q1 S G hn H0
  go_enter Tryd.func34, Tryd.ntmps34
  go_wp2_with fail
  refine HQ.out.mono ?_
  rintro e w2 ⟨rfl, hr2, hT2⟩
  have HG2 := Lib.hid (gone_drew (HG.out.trans ⟨hr2, hT2⟩))
  have HR2 := Lib.hid hr2
  have S2 := sch_tn HS.out hT2 hbb hcb
  have HO2 := Lib.hid (others_tn (c := c) HG.out.1 hT2)
  have HS2 := Lib.hid S2
  obtain ⟨y0, y1, y2, y3⟩ := cells4 S2.blk
  have hcl := (Array.getElem?_eq_some_iff.1 S2.blk).1
  clear S2 hr2 hT2
  unfold Ip.kSaga
  go_upto_region 8 with fail
  go_region_law (first
    | (go_simp; go_at_call 60; refine (HD.out _ HG2.out).mono ?_; rintro e w3 ⟨t, he, ht, hg⟩; obtain ⟨p3, c3, rfl, -, -⟩ := RowIs.shape ht; have he : e = .returned (.agg #[.string x.name, .string x.arg, .slice p3 x.steps.length c3]) := he; subst he; have HT3 := Lib.hid ht; have HG3 := Lib.hid (HG2.out.trans hg); have hT := (Tn.of (Below.refl _ _).drew : Tn b w2 w2.drew).trans hg.2; have S3 := sch_tn HS2.out hT hbb hcb; have HS3 := Lib.hid S3; have HO3 := Lib.hid (HO2.out.trans (others_tn (c := c) HR2.out hT)); obtain ⟨z0, z1, z2, z3⟩ := cells4 S3.blk; have z4 := fun o => ((tk_alloc w3 o).cell (p := ⟨c, 3, none⟩) (Array.getElem?_eq_some_iff.1 S3.blk).1).trans z3; clear ht hg hT S3)
    | (obtain ⟨pv, cv, V, hrun, hL4, hG4, hbl⟩ := append_lit okSga HS3.out.sgas HG3.out HH.out x (.slice p3 x.steps.length c3) (okSga.keep _ _ _ _ _ _ HT3.out HG2.out.2.size fun _ _ _ _ _ _ => rfl) (by have := HN.out; omega) 24; rw [show (kSga.cells x (.slice p3 x.steps.length c3)).toArray = #[.string x.name, .string x.arg, .slice p3 x.steps.length c3] from rfl] at hrun; have hV := (block_apart HS3.out.sgas hbl HS3.out.blk (by show (60 : Nat) ≠ 26; decide)).trans HS3.out.blk; obtain ⟨v0, v1, v2, v3⟩ := cells4 hV; have vf := frozen2 hV 3; have HV := Lib.hid hV; have HBL := Lib.hid hbl; have HL4 := Lib.hid hL4; have HG4 := Lib.hid hG4; clear hV hbl hL4 hG4; refine step_append_run rfl (.tmp 52) (.tmp 55) 24 24 rfl _ _ (by simp [Act.eval, Act.put]) (by simp [Act.eval, Act.put]) _ _ hrun ?_))
  all_goals
    go_wp2_with fail
    go_returns
    unfold Declared
    rw [HE.out]
    have hset := tk_set (i := 3) HV.out (.slice pv (s.sagas.length + 1) cv)
    have hsc : ∀ {α : Type} {J : RowKind α} {v : Value} {l : List α} (ok : J.Ok), RowIs J V w0.heap.size v l → ¬ ((26 : Nat) = J.ty ∨ J.tys 26) → RowIs J (V.setCell ⟨c, 3, none⟩ (.slice pv (s.sagas.length + 1) cv)) w0.heap.size v l := fun ok h hT => row_set ok h HV.out hT (tn_set V _)
    refine ⟨rfl, ⟨vr, vs, .slice pv (s.sagas.length + 1) cv, hset, ?_, ?_, ?_⟩, HG4.out.set HH.out hc _ _, HO3.out.trans (Others.trans (fun k cs _ hk => block_apart HS3.out.sgas HBL.out hk (by show (60 : Nat) ≠ 26; decide)) (others_set _))⟩
    · exact hsc okRcd (row_apart okRcd HS3.out.recs HS3.out.sgas HBL.out (by show ¬ ((60 : Nat) = 52 ∨ ((60 : Nat) = 62 ∨ (60 : Nat) = 70)); decide)) (by show ¬ ((26 : Nat) = 52 ∨ ((26 : Nat) = 62 ∨ (26 : Nat) = 70)); decide)
    · exact hsc okSrv (row_apart okSrv HS3.out.srvs HS3.out.sgas HBL.out (by show ¬ ((60 : Nat) = 56 ∨ (60 : Nat) = 94); decide)) (by show ¬ ((26 : Nat) = 56 ∨ (26 : Nat) = 94); decide)
    · exact hsc okSga HL4.out (by show ¬ ((26 : Nat) = 60 ∨ (26 : Nat) = 64); decide)
set_option maxRecDepth 100000 in
set_option maxHeartbeats 8000000 in
theorem declare_none {w0 w : World} {b q c : Nat} {r r0 r1 : Ip.R} {s : Ip.Sch} {vr vs vg : Value} (H0 : Rd w0 b q r0) (G : Gone b q w0 r w) (S : SchIn w w0.heap.size c s vr vs vg) (hc : w0.heap.size ≤ c) (hone : Ip.one [Ip.kRecord, Ip.kChoice, Ip.kService, Ip.kSaga] r = (⟨#[]⟩, r1)) :
    Calls Tryd.prog 34 #[.pointer (some ⟨b, 0, none⟩), .pointer (some ⟨c, 0, none⟩)] w (Declared b q w0 c (Ip.declare s r) w) := by
  have Q1 := one_lit G.1 [Ip.kRecord, Ip.kChoice, Ip.kService, Ip.kSaga] (by decide)
  rw [hone] at Q1
  have HE : Hid (Ip.declare s r = (s, r1)) := Lib.hid (by
    unfold Ip.declare Ip.declareW
    rw [Ip.bind_eq, hone]
    simp only [show Ip.eqB ⟨#[]⟩ Ip.kRecord = false by decide, show Ip.eqB ⟨#[]⟩ Ip.kChoice = false by decide, show Ip.eqB ⟨#[]⟩ Ip.kService = false by decide, show Ip.eqB ⟨#[]⟩ Ip.kSaga = false by decide, Bool.false_eq_true, if_false, Ip.ret_eq])
  have hcb : c ≠ b := by have := H0.lt; omega
  have hbb := H0.lt
  have HS := Lib.hid S
  have HG := Lib.hid G
  have HQ := Lib.hid Q1
  clear hone Q1 S G H0
  go_enter Tryd.func34, Tryd.ntmps34
  go_wp2_with fail
  refine HQ.out.mono ?_
  rintro e w2 ⟨rfl, hr2, hT2⟩
  have HG2 := Lib.hid (HG.out.trans ⟨hr2, hT2⟩)
  have HS2 := Lib.hid (sch_tn HS.out hT2 hbb hcb)
  have HO2 := Lib.hid (others_tn (c := c) HG.out.1 hT2)
  clear hr2 hT2
  go_wp2_with fail
  go_returns
  unfold Declared
  rw [HE.out]
  exact ⟨rfl, ⟨_, _, _, HS2.out⟩, HG2.out, HO2.out⟩
theorem declare_any {w0 w : World} {b q c : Nat} {r r0 : Ip.R} {s : Ip.Sch} {vr vs vg : Value} (H0 : Rd w0 b q r0) (G : Gone b q w0 r w) (S : SchIn w w0.heap.size c s vr vs vg) (hc : w0.heap.size ≤ c) (hn : s.records.length ≤ 100000 ∧ s.services.length ≤ 100000 ∧ s.sagas.length ≤ 100000) :
    Calls Tryd.prog 34 #[.pointer (some ⟨b, 0, none⟩), .pointer (some ⟨c, 0, none⟩)] w (Declared b q w0 c (Ip.declare s r) w) := by
  have hy := Ip.one_cases [Ip.kRecord, Ip.kChoice, Ip.kService, Ip.kSaga] r
  obtain ⟨⟨n, r1⟩, hone⟩ : ∃ y, Ip.one [Ip.kRecord, Ip.kChoice, Ip.kService, Ip.kSaga] r = y := ⟨_, rfl⟩
  rw [hone] at hy
  simp only [List.mem_cons, List.not_mem_nil, or_false] at hy
  rcases hy with (rfl | rfl | rfl | rfl) | rfl
  · exact declare_record H0 G S hc hn.1 hone
  · exact declare_choice H0 G S hc hn.1 hone
  · exact declare_service H0 G S hc hn.2.1 hone
  · exact declare_saga H0 G S hc hn.2.2 hone
  · exact declare_none H0 G S hc hone
end Go.Proofs.YtlmjcnfiolbfpaaDoor
