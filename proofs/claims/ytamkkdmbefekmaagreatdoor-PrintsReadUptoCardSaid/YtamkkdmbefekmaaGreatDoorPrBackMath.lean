/-
  Plain facts: what is read of a text that tokens were put into is these tokens; what is read of a right schema's text is that schema. No program. Conditions: those in the theorems.
-/
import Derived.Test.YtamkkdmbefekmaaGreatDoorPrMath
import Derived.Test.YtamkkdmbefekmaaGreatDoorCkMath
import Derived.Test.YtamkkdmbefekmaaGreatDoorIdlBase
set_option linter.unusedSimpArgs false
set_option linter.unusedVariables false
namespace Pp
open Ip
open Tk (Token Out)
/-! ### the tokens of a text that was put -/
/-- A text that is one token. -/
def One (t : ByteArray) : Prop := ∃ k v, Tk.first t.data.toList = .tok k t.data.toList.length v
def tokE (t : ByteArray) : Token := match Tk.first t.data.toList with
  | .tok k _ v => ⟨k, t, v, 0⟩
  | .no _ => ⟨0, t, 0, 0⟩
theorem tokE_text (t : ByteArray) : (tokE t).text = t := by unfold tokE; split <;> rfl
theorem One.ne {t : ByteArray} (h : One t) : t.data.toList ≠ [] := by
  obtain ⟨k, v, h⟩ := h
  intro e
  rw [e, show Tk.first [] = .no 110 from rfl] at h
  cases h
def flat (ts : List ByteArray) : List UInt8 := ts.flatMap fun t => 32 :: t.data.toList
theorem puts_flat : ∀ (ts : List ByteArray) (l : List UInt8), l ≠ [] → puts l ts = l ++ flat ts
  | [], l, _ => by simp [puts, flat]
  | t :: ts, l, h => by
    rw [puts_cons, puts_flat ts]
    · unfold put1 flat; rw [if_neg h]; simp
    · unfold put1; rw [if_neg h]; simp
theorem puts_first {t : ByteArray} {ts : List ByteArray} (h : One t) : puts [] (t :: ts) = t.data.toList ++ flat ts := by
  rw [puts_cons, show put1 [] t = t.data.toList from rfl, puts_flat _ _ h.ne]
theorem first_then {t : ByteArray} (h : One t) {ts : List ByteArray} : Tk.first (t.data.toList ++ flat ts) = Tk.first t.data.toList := by
  cases ts with
  | nil => simp [flat]
  | cons u us =>
    show Tk.first (t.data.toList ++ 32 :: (u.data.toList ++ flat us)) = _
    exact Tk.first_append (by decide) (by decide) h.ne
theorem drop_zero' {l : List UInt8} : l.drop 0 = l := rfl
theorem all_one {t : ByteArray} (h : One t) {ts : List ByteArray} (hr : ∀ a, ∃ L, Tk.all a (flat ts) = .ok L ∧ L.map Tk.erase = ts.map tokE) (a : Nat) :
    ∃ L, Tk.all a (t.data.toList ++ flat ts) = .ok L ∧ L.map Tk.erase = (t :: ts).map tokE := by
  have hf := first_then h (ts := ts)
  obtain ⟨k, v, hk⟩ := h
  have hk2 := hk
  rw [← hf] at hk
  have hs := Tk.first_skip hk
  have hne : t.data.toList ++ flat ts ≠ [] := by
    intro e
    exact One.ne ⟨k, v, hk2⟩ (List.append_eq_nil_iff.1 e).1
  obtain ⟨L, h1, h2⟩ := hr (a + 0 + t.data.toList.length)
  rw [Tk.all_eq, hs, drop_zero', if_neg hne, hk]
  simp only
  rw [List.drop_left, List.take_left, h1]
  refine ⟨_, Tk.pre_ok _ _, ?_⟩
  rw [List.map_append, h2]
  show [_] ++ _ = tokE t :: _
  unfold tokE
  rw [hk2]
  rfl
theorem all_flat : ∀ (ts : List ByteArray), (∀ t ∈ ts, One t) → ∀ a, ∃ L, Tk.all a (flat ts) = .ok L ∧ L.map Tk.erase = ts.map tokE
  | [], _, a => ⟨[], by rw [Tk.all_eq]; rfl, rfl⟩
  | t :: ts, h, a => by
    show ∃ L, Tk.all a (32 :: (t.data.toList ++ flat ts)) = _ ∧ _
    rw [Tk.all_blank (by decide)]
    exact all_one (h t List.mem_cons_self) (all_flat ts fun u hu => h u (List.mem_cons_of_mem _ hu)) (a + 1)
theorem all_puts {ts : List ByteArray} (h : ∀ t ∈ ts, One t) : ∃ L, Tk.all 0 (puts [] ts) = .ok L ∧ L.map Tk.erase = ts.map tokE := by
  cases ts with
  | nil => exact ⟨[], by rw [puts_nil, Tk.all_eq]; rfl, rfl⟩
  | cons t ts =>
    rw [puts_first (h t List.mem_cons_self)]
    exact all_one (h t List.mem_cons_self) (all_flat ts fun u hu => h u (List.mem_cons_of_mem _ hu)) 0
/-! ### reading them -/
/-- A reader that takes just these, and tells x. -/
def Reads {α : Type} (f : M α) (ts : List ByteArray) (x : α) : Prop := ∀ r, f ⟨ts.map tokE ++ r, false⟩ = (x, ⟨r, false⟩)
section
variable {α β : Type} {f : M α} {g : α → M β} {a b : List ByteArray} {x : α} {y : β}
theorem reads_bind (h1 : Reads f a x) (h2 : Reads (g x) b y) : Reads (bind f g) (a ++ b) y := fun r => by
  rw [bind_eq, List.map_append, List.append_assoc, h1, h2]
theorem reads_ret (x : α) : Reads (ret x) [] x := fun r => rfl
theorem reads_last (h1 : Reads f a x) (h2 : Reads (g x) [] y) : Reads (bind f g) a y := by
  have := reads_bind h1 h2
  rwa [List.append_nil] at this
theorem reads_take {fit : ByteArray → Nat → Bool} {t : ByteArray} (h : fit t (tokE t).kind = true) : Reads (take fit) [t] (t, (tokE t).num) := fun r => by
  show take fit ⟨tokE t :: r, false⟩ = _
  unfold take
  simp only [Bool.false_eq_true, if_false]
  rw [tokE_text, if_pos h]
end
theorem reads_one {of : List ByteArray} {t : ByteArray} (h : t ∈ of) : Reads (one of) [t] t := reads_last (reads_take (among_iff.2 h)) (reads_ret _)
theorem reads_name {t : ByteArray} (h : Tk.name t = true) : Reads name [t] t := reads_last (reads_take h) (reads_ret _)
theorem reads_num {k : Nat} (h : k ≤ 3) : Reads number [Ck.num k] k := by
  have h2 : (tokE (Ck.num k)).kind = 2 ∧ (tokE (Ck.num k)).num = k := by
    obtain rfl | rfl | rfl | rfl : k = 0 ∨ k = 1 ∨ k = 2 ∨ k = 3 := by omega
    all_goals decide
  refine reads_last (reads_take (decide_eq_true h2.1)) ?_
  rw [show ((Ck.num k, (tokE (Ck.num k)).num) : ByteArray × Int).2 = (k : Int) from h2.2]
  exact reads_ret _
/-- A sort that could be read. -/
def SoOk (x : So) : Prop := (1 ≤ x.kind ∧ x.kind ≤ 6 ∧ x.name = ⟨#[]⟩) ∨ (x.kind = 7 ∧ Tk.name x.name = true)
theorem name_meant {t : ByteArray} (h : Tk.name t = true) : meant t = 0 := by
  have no : ∀ k, Tk.name k = false → eqB t k = false := fun k hk => by
    refine eqB_no fun e => ?_
    rw [e, hk] at h; cases h
  unfold meant
  rw [no _ (by decide), no _ (by decide), no _ (by decide), no _ (by decide), no _ (by decide), no _ (by decide)]
  rfl
theorem kw_meant {k : Nat} (h1 : 1 ≤ k) (h2 : k ≤ 6) : meant (kw k) = k := by
  obtain rfl | rfl | rfl | rfl | rfl | rfl : k = 1 ∨ k = 2 ∨ k = 3 ∨ k = 4 ∨ k = 5 ∨ k = 6 := by omega
  all_goals decide
theorem reads_sort {x : So} (h : SoOk x) : Reads sort (soT x) x := by
  obtain ⟨k, n⟩ := x
  rcases h with ⟨h1, h2, h3⟩ | ⟨h1, h2⟩
  · simp only at h1 h2 h3
    subst h3
    have e : soT ⟨k, ⟨#[]⟩⟩ = [kw k] := by unfold soT soW; rw [if_neg (by show ¬ k = 7; omega)]
    rw [e]
    have hm := kw_meant h1 h2
    refine reads_last (reads_take (by rw [hm]; simp; omega)) ?_
    simp only [hm]
    rw [if_neg (by omega)]
    exact reads_ret _
  · simp only at h1 h2
    subst h1
    have e : soT ⟨7, n⟩ = [n] := by unfold soT soW; rw [if_pos rfl]
    rw [e]
    have hm := name_meant h2
    refine reads_last (reads_take (by rw [h2]; simp)) ?_
    simp only [hm]
    exact reads_ret _
/-- A type that could be read: all but the last are about another one. -/
def TyOk : List So → Prop
  | [] => False
  | [x] => SoOk x ∧ x.goes = false
  | x :: t => SoOk x ∧ x.goes = true ∧ TyOk t
theorem reads_sorts : ∀ {t : List So}, TyOk t → Reads sorts (t.flatMap soT) t
  | [], h => nomatch h
  | [x], h => fun r => by
    have h1 := reads_sort h.1 r
    rw [List.flatMap_cons, List.flatMap_nil, List.append_nil, sorts_eq, h1, h.2]
    rfl
  | x :: y :: t, h => fun r => by
    have h1 := reads_sort h.1 (((y :: t).flatMap soT).map tokE ++ r)
    have h2 := reads_sorts h.2.2 r
    rw [List.flatMap_cons, List.map_append, List.append_assoc, sorts_eq, h1, h.2.1]
    simp only [if_true]
    rw [h2]
/-! ### declarations -/
theorem shut_is : eqB sShut sShut = true := by decide
theorem reads_loop {α : Type} {read : M α} {fT : α → List ByteArray} (ht : Takes read) : ∀ {l : List α}, (∀ x ∈ l, Reads read (fT x) x ∧ ∃ t r, fT x = t :: r ∧ eqB t sShut = false) →
    ∀ n r, (l.flatMap fT ++ [sShut]).length < n → loopF read n ⟨(l.flatMap fT ++ [sShut]).map tokE ++ r, false⟩ = (l, ⟨r, false⟩)
  | [], _, n, r, hn => by
    obtain ⟨m, rfl⟩ : ∃ m, n = m + 1 := ⟨n - 1, by omega⟩
    show loopF read (m + 1) ⟨tokE sShut :: r, false⟩ = _
    rw [loopF_t, closes_cons, tokE_text, shut_is]
    rfl
  | x :: l, h, n, r, hn => by
    obtain ⟨m, rfl⟩ : ∃ m, n = m + 1 := ⟨n - 1, by omega⟩
    obtain ⟨h1, t, u, h2, h3⟩ := h x List.mem_cons_self
    have e : ((x :: l).flatMap fT ++ [sShut]).map tokE ++ r = (fT x).map tokE ++ ((l.flatMap fT ++ [sShut]).map tokE ++ r) := by
      rw [List.flatMap_cons]; simp [List.append_assoc]
    have h4 := h1 ((l.flatMap fT ++ [sShut]).map tokE ++ r)
    have h5 := reads_loop ht (l := l) (fun y hy => h y (List.mem_cons_of_mem _ hy)) m r (by
      rw [List.flatMap_cons, h2] at hn; simp only [List.length_append, List.length_cons] at hn ⊢; omega)
    have hc : closes ⟨(fT x).map tokE ++ ((l.flatMap fT ++ [sShut]).map tokE ++ r), false⟩ = false := by
      rw [h2, List.map_cons, List.cons_append, closes_cons, tokE_text, h3]
    rw [e, loopF_t, hc, h4]
    simp only [Bool.false_eq_true, if_false]
    rw [h5]
theorem reads_braced {α : Type} {read : M α} {fT : α → List ByteArray} (ht : Takes read) {l : List α} (h : ∀ x ∈ l, Reads read (fT x) x ∧ ∃ t r, fT x = t :: r ∧ eqB t sShut = false) : Reads (braced read) ([sOpen] ++ (l.flatMap fT ++ [sShut])) l := by
  refine reads_bind (reads_one List.mem_cons_self) fun r => ?_
  show loopF read _ _ = _
  refine reads_loop ht h _ r ?_
  simp <;> omega
theorem name_shut {t : ByteArray} (h : Tk.name t = true) : eqB t sShut = false := eqB_no fun e => by rw [e] at h; exact absurd h (by decide)
def FlOk (f : Fld) : Prop := Tk.name f.name = true ∧ TyOk f.type
theorem reads_field {f : Fld} (h : FlOk f) : Reads field (fldT f) f := by
  have : fldT f = [f.name] ++ ([sColon] ++ (f.type.flatMap soT ++ [sSemi])) := by unfold fldT; simp
  rw [this]
  exact reads_bind (reads_name h.1) (reads_bind (reads_one List.mem_cons_self) (reads_bind (reads_sorts h.2) (reads_last (reads_one List.mem_cons_self) (reads_ret _))))
def RcOk (r : Rcd) : Prop := Tk.name r.name = true ∧ ∀ f ∈ r.fields, FlOk f
theorem reads_record {r : Rcd} (h : RcOk r) : Reads (record r.choice) ([r.name] ++ ([sOpen] ++ (r.fields.flatMap fldT ++ [sShut]))) r :=
  reads_bind (reads_name h.1) (reads_last (reads_braced takes_field fun f hf => ⟨reads_field (h.2 f hf), _, _, rfl, name_shut (h.2 f hf).1⟩) (reads_ret _))
def MtOk (m : Mth) : Prop := (m.effect = kGive ∨ m.effect = kTake ∨ m.effect = kNote) ∧ Tk.name m.name = true ∧ Tk.name m.arg = true ∧ (m.result = 1 ∨ m.result = 3) ∧ (m.undo = ⟨#[]⟩ ∨ Tk.name m.undo = true)
theorem reads_undo {u : ByteArray} (h : u = ⟨#[]⟩ ∨ Tk.name u = true) : Reads undo (undoT u ++ [sSemi]) u := by
  by_cases hu : u = ⟨#[]⟩
  · have e : undoT u = [] := by unfold undoT; rw [if_pos hu]
    rw [e, List.nil_append]
    refine reads_last (x := sSemi) (reads_one (by simp)) ?_
    rw [show eqB sSemi kUndo = false by decide, hu]
    exact reads_ret _
  · have e : undoT u ++ [sSemi] = [kUndo] ++ ([u] ++ [sSemi]) := by unfold undoT; rw [if_neg hu]; rfl
    rw [e]
    refine reads_bind (x := kUndo) (reads_one (by simp)) ?_
    rw [show eqB kUndo kUndo = true by decide]
    simp only [if_true]
    refine reads_bind (reads_name (h.resolve_left hu)) (reads_last (x := sSemi) (reads_one List.mem_cons_self) ?_)
    exact reads_ret _
theorem reads_argument {n : ByteArray} (h : Tk.name n = true) : Reads argument ([sIn] ++ ([n] ++ [sOut])) n :=
  reads_bind (x := sIn) (reads_one List.mem_cons_self) (reads_bind (reads_name h) (reads_last (x := sOut) (reads_one List.mem_cons_self) (reads_ret _)))
theorem reads_method {m : Mth} (h : MtOk m) : Reads method (mthT m) m := by
  obtain ⟨h1, h2, h3, h4, h5⟩ := h
  have e : mthT m = [m.effect] ++ ([m.name] ++ (([sIn] ++ ([m.arg] ++ [sOut])) ++ ([sArrow] ++ ([kw m.result] ++ (undoT m.undo ++ [sSemi]))))) := by unfold mthT; simp
  have hk : meant (kw m.result) = m.result := kw_meant (by omega) (by omega)
  rw [e]
  refine reads_bind (x := m.effect) (reads_one (by rcases h1 with h1 | h1 | h1 <;> rw [h1] <;> simp)) (reads_bind (reads_name h2) (reads_bind (reads_argument h3) (reads_bind (x := sArrow) (reads_one (by simp)) (reads_bind (x := kw m.result) (reads_one (by rcases h4 with h4 | h4 <;> rw [h4] <;> simp [kw])) (reads_last (reads_undo h5) ?_)))))
  rw [hk]
  exact reads_ret _
def SvOk (v : Srv) : Prop := Tk.name v.name = true ∧ ∀ m ∈ v.methods, MtOk m
theorem effect_shut {m : Mth} (h : MtOk m) : eqB m.effect sShut = false := by rcases h.1 with h1 | h1 | h1 <;> rw [h1] <;> decide
theorem reads_service {v : Srv} (h : SvOk v) : Reads service ([v.name] ++ ([sOpen] ++ (v.methods.flatMap mthT ++ [sShut]))) v :=
  reads_bind (reads_name h.1) (reads_last (reads_braced takes_method fun m hm => ⟨reads_method (h.2 m hm), _, _, rfl, effect_shut (h.2 m hm)⟩) (reads_ret _))
def SpOk (p : Stp) : Prop := Tk.name p.service = true ∧ Tk.name p.method = true ∧ 0 ≤ p.at_ ∧ p.at_ ≤ 3
theorem reads_step {p : Stp} (h : SpOk p) : Reads step (stpT p) p := by
  obtain ⟨h1, h2, h3, h4⟩ := h
  have e : stpT p = [kDo] ++ ([p.service] ++ ([sDot] ++ ([p.method] ++ ([kAt] ++ ([Ck.num p.at_.toNat] ++ [sSemi]))))) := rfl
  rw [e]
  have hn := reads_num (k := p.at_.toNat) (by omega)
  rw [show ((p.at_.toNat : Nat) : Int) = p.at_ by omega] at hn
  exact reads_bind (x := kDo) (reads_one (by simp)) (reads_bind (reads_name h1) (reads_bind (x := sDot) (reads_one (by simp)) (reads_bind (reads_name h2) (reads_bind (x := kAt) (reads_one (by simp)) (reads_bind hn (reads_last (x := sSemi) (reads_one (by simp)) (reads_ret _)))))))
def SgOk (g : Sga) : Prop := Tk.name g.name = true ∧ Tk.name g.arg = true ∧ ∀ p ∈ g.steps, SpOk p
theorem reads_saga {g : Sga} (h : SgOk g) : Reads saga ([g.name] ++ (([sIn] ++ ([g.arg] ++ [sOut])) ++ ([sOpen] ++ (g.steps.flatMap stpT ++ [sShut])))) g :=
  reads_bind (reads_name h.1) (reads_bind (reads_argument h.2.1) (reads_last (reads_braced takes_step fun p hp => ⟨reads_step (h.2.2 p hp), kDo, _, rfl, by decide⟩) (reads_ret _)))
/-! ### whole schemas -/
def rcdB (r : Rcd) : List ByteArray := [r.name] ++ ([sOpen] ++ (r.fields.flatMap fldT ++ [sShut]))
def srvB (v : Srv) : List ByteArray := [v.name] ++ ([sOpen] ++ (v.methods.flatMap mthT ++ [sShut]))
def sgaB (g : Sga) : List ByteArray := [g.name] ++ (([sIn] ++ ([g.arg] ++ [sOut])) ++ ([sOpen] ++ (g.steps.flatMap stpT ++ [sShut])))
theorem rcdT_eq (r : Rcd) : rcdT r = [rcdK r] ++ rcdB r := by unfold rcdT rcdB; simp
theorem srvT_eq (v : Srv) : srvT v = [kService] ++ srvB v := by unfold srvT srvB; simp
theorem sgaT_eq (g : Sga) : sgaT g = [kSaga] ++ sgaB g := by unfold sgaT sgaB; simp
theorem reads_rcd (s : Sch) {r : Rcd} (h : RcOk r) : Reads (declare s) (rcdT r) { s with records := s.records ++ [r] } := by
  rw [rcdT_eq]
  refine reads_bind (x := rcdK r) (reads_one (by unfold rcdK; split <;> simp)) ?_
  have hr := reads_record h
  obtain ⟨n, c, l⟩ := r
  cases c with
  | false =>
    show Reads (declareW s kRecord) _ _
    unfold declareW
    rw [show eqB kRecord kRecord = true by decide]
    simp only [Bool.false_eq_true, if_false, if_true]
    refine reads_last hr ?_
    exact reads_ret _
  | true =>
    show Reads (declareW s kChoice) _ _
    unfold declareW
    rw [show eqB kChoice kRecord = false by decide, show eqB kChoice kChoice = true by decide]
    simp only [Bool.false_eq_true, if_false, if_true]
    refine reads_last hr ?_
    exact reads_ret _
theorem reads_srv (s : Sch) {v : Srv} (h : SvOk v) : Reads (declare s) (srvT v) { s with services := s.services ++ [v] } := by
  rw [srvT_eq]
  refine reads_bind (x := kService) (reads_one (by simp)) ?_
  show Reads (declareW s kService) _ _
  unfold declareW
  rw [show eqB kService kRecord = false by decide, show eqB kService kChoice = false by decide, show eqB kService kService = true by decide]
  simp only [Bool.false_eq_true, if_false, if_true]
  refine reads_last (reads_service h) ?_
  exact reads_ret _
theorem reads_sga (s : Sch) {g : Sga} (h : SgOk g) : Reads (declare s) (sgaT g) { s with sagas := s.sagas ++ [g] } := by
  rw [sgaT_eq]
  refine reads_bind (x := kSaga) (reads_one (by simp)) ?_
  show Reads (declareW s kSaga) _ _
  unfold declareW
  rw [show eqB kSaga kRecord = false by decide, show eqB kSaga kChoice = false by decide, show eqB kSaga kService = false by decide, show eqB kSaga kSaga = true by decide]
  simp only [Bool.false_eq_true, if_false, if_true]
  refine reads_last (reads_saga h) ?_
  exact reads_ret _
theorem ends_not {t : ByteArray} {l : List Token} (h : eqB t ⟨#[]⟩ = false) : ends ⟨tokE t :: l, false⟩ = false := by
  show eqB (tokE t).text ⟨#[]⟩ = false
  rw [tokE_text, h]
theorem decls_go {s s' : Sch} {ts : List ByteArray} {r : List Token} (h : Reads (declare s) ts s') (hh : ∃ t u, ts = t :: u ∧ eqB t ⟨#[]⟩ = false) : decls s ⟨ts.map tokE ++ r, false⟩ = decls s' ⟨r, false⟩ := by
  have h1 := h r
  obtain ⟨t, u, rfl, h2⟩ := hh
  have he : ends ⟨(t :: u).map tokE ++ r, false⟩ = false := ends_not h2
  rw [decls_eq, he, h1]
  rfl
theorem rcdK_ne (r : Rcd) : eqB (rcdK r) ⟨#[]⟩ = false := by unfold rcdK; split <;> decide
theorem decls_rcds : ∀ (l : List Rcd) (s : Sch) (r : List Token), (∀ x ∈ l, RcOk x) → decls s ⟨(l.flatMap rcdT).map tokE ++ r, false⟩ = decls { s with records := s.records ++ l } ⟨r, false⟩
  | [], s, r, _ => by simp
  | x :: l, s, r, h => by
    rw [List.flatMap_cons, List.map_append, List.append_assoc, decls_go (reads_rcd s (h x List.mem_cons_self)) ⟨rcdK x, _, rcdT_eq x, rcdK_ne x⟩, decls_rcds l _ r fun y hy => h y (List.mem_cons_of_mem _ hy)]
    simp
theorem decls_srvs : ∀ (l : List Srv) (s : Sch) (r : List Token), (∀ x ∈ l, SvOk x) → decls s ⟨(l.flatMap srvT).map tokE ++ r, false⟩ = decls { s with services := s.services ++ l } ⟨r, false⟩
  | [], s, r, _ => by simp
  | x :: l, s, r, h => by
    rw [List.flatMap_cons, List.map_append, List.append_assoc, decls_go (reads_srv s (h x List.mem_cons_self)) ⟨kService, _, srvT_eq x, by decide⟩, decls_srvs l _ r fun y hy => h y (List.mem_cons_of_mem _ hy)]
    simp
theorem decls_sgas : ∀ (l : List Sga) (s : Sch) (r : List Token), (∀ x ∈ l, SgOk x) → decls s ⟨(l.flatMap sgaT).map tokE ++ r, false⟩ = decls { s with sagas := s.sagas ++ l } ⟨r, false⟩
  | [], s, r, _ => by simp
  | x :: l, s, r, h => by
    rw [List.flatMap_cons, List.map_append, List.append_assoc, decls_go (reads_sga s (h x List.mem_cons_self)) ⟨kSaga, _, sgaT_eq x, by decide⟩, decls_sgas l _ r fun y hy => h y (List.mem_cons_of_mem _ hy)]
    simp
/-- A schema all of whose parts could be read. -/
def ScOk (s : Sch) : Prop := Tk.name s.name = true ∧ (∀ r ∈ s.records, RcOk r) ∧ (∀ v ∈ s.services, SvOk v) ∧ ∀ g ∈ s.sagas, SgOk g
theorem reads_schema {s : Sch} (h : ScOk s) : schema ⟨(schT s).map tokE, false⟩ = (s, ⟨[], false⟩) := by
  have e : (schT s).map tokE = ([kModule] ++ ([s.name] ++ [sSemi])).map tokE ++ ((s.records.flatMap rcdT).map tokE ++ ((s.services.flatMap srvT).map tokE ++ ((s.sagas.flatMap sgaT).map tokE ++ []))) := by
    unfold schT; simp
  have hh : Reads head ([kModule] ++ ([s.name] ++ [sSemi])) s.name := reads_bind (x := kModule) (reads_one (by simp)) (reads_bind (reads_name h.1) (reads_last (x := sSemi) (reads_one (by simp)) (reads_ret _)))
  show (bind head fun n => decls ⟨n, [], [], []⟩) _ = _
  rw [e, bind_eq, hh]
  simp only
  rw [decls_rcds _ _ _ h.2.1, decls_srvs _ _ _ h.2.2.1, decls_sgas _ _ _ h.2.2.2, decls_eq, ends_nil rfl]
  simp
theorem whole_puts {α : Type} {f : M α} {z x : α} (hn : ∀ r, f r.erase = ((f r).1, (f r).2.erase)) {ts : List ByteArray} (h1 : ∀ t ∈ ts, One t) (h2 : f ⟨ts.map tokE, false⟩ = (x, ⟨[], false⟩)) : whole f z (puts [] ts) = (x, 0, 0) := by
  obtain ⟨L, hL, he⟩ := all_puts h1
  have h3 := hn ⟨L, false⟩
  rw [show R.erase ⟨L, false⟩ = ⟨ts.map tokE, false⟩ by unfold R.erase; rw [he], h2] at h3
  have h4 := (Prod.mk.inj h3).1
  have h5 := (Prod.mk.inj h3).2
  have h6 : (f ⟨L, false⟩).2.left = [] := by
    have := congrArg R.left h5
    exact List.map_eq_nil_iff.1 this.symm
  have h7 : (f ⟨L, false⟩).2.stuck = false := (congrArg R.stuck h5).symm
  rw [whole_ok f z hL, h6]
  simp only
  rw [h7, ← h4]
  rfl
/-! ### right schemas -/
theorem one_name {t : ByteArray} (h : Tk.name t = true) : One t := by
  unfold Tk.name at h
  simp only [Bool.and_eq_true, decide_eq_true_eq] at h
  obtain ⟨⟨⟨h1, h2⟩, h3⟩, -⟩ := h
  refine ⟨1, 0, ?_⟩
  unfold Tk.first
  rw [if_pos h1, if_neg (by omega), h2]
  rfl
theorem one_num {k : Nat} (h : k ≤ 3) : One (Ck.num k) := by
  obtain rfl | rfl | rfl | rfl : k = 0 ∨ k = 1 ∨ k = 2 ∨ k = 3 := by omega
  · exact ⟨2, 0, rfl⟩
  · exact ⟨2, 1, rfl⟩
  · exact ⟨2, 2, rfl⟩
  · exact ⟨2, 3, rfl⟩
theorem one_kw {k : Nat} (h1 : 1 ≤ k) (h2 : k ≤ 6) : One (kw k) := by
  obtain rfl | rfl | rfl | rfl | rfl | rfl : k = 1 ∨ k = 2 ∨ k = 3 ∨ k = 4 ∨ k = 5 ∨ k = 6 := by omega
  all_goals exact ⟨1, 0, rfl⟩
def Ones (ts : List ByteArray) : Prop := ∀ t ∈ ts, One t
theorem ones_nil : Ones [] := fun _ h => nomatch h
theorem ones_cons {t : ByteArray} {ts : List ByteArray} (h : One t) (k : Ones ts) : Ones (t :: ts) := fun x hx => by
  rcases List.mem_cons.1 hx with rfl | hx
  · exact h
  · exact k x hx
theorem ones_append {a b : List ByteArray} (h : Ones a) (k : Ones b) : Ones (a ++ b) := fun x hx => (List.mem_append.1 hx).elim (h x) (k x)
theorem ones_flat {α : Type} {f : α → List ByteArray} {l : List α} (h : ∀ x ∈ l, Ones (f x)) : Ones (l.flatMap f) := fun t ht => by
  obtain ⟨x, hx, hm⟩ := List.mem_flatMap.1 ht
  exact h x hx t hm
theorem ones_so {x : So} (h : SoOk x) : Ones (soT x) := by
  refine ones_cons ?_ ones_nil
  unfold soW
  rcases h with ⟨h1, h2, -⟩ | ⟨h1, h2⟩
  · rw [if_neg (by omega)]; exact one_kw h1 h2
  · rw [if_pos h1]; exact one_name h2
theorem ty_mem : ∀ {t : List So}, TyOk t → ∀ x ∈ t, SoOk x
  | [x], h, y, hy => by rw [List.mem_singleton.1 hy]; exact h.1
  | x :: y :: t, h, z, hz => by
    rcases List.mem_cons.1 hz with rfl | hz
    · exact h.1
    · exact ty_mem h.2.2 z hz
theorem ones_ty {t : List So} (h : TyOk t) : Ones (t.flatMap soT) := ones_flat fun x hx => ones_so (ty_mem h x hx)
theorem ones_fld {f : Fld} (h : FlOk f) : Ones (fldT f) := by
  unfold fldT
  exact ones_append (ones_append (ones_cons (one_name h.1) (ones_cons ⟨3, 0, rfl⟩ ones_nil)) (ones_ty h.2)) (ones_cons ⟨3, 0, rfl⟩ ones_nil)
theorem ones_rcd {r : Rcd} (h : RcOk r) : Ones (rcdT r) := by
  unfold rcdT
  refine ones_append (ones_append (ones_append (ones_cons ?_ ones_nil) (ones_cons (one_name h.1) (ones_cons ⟨3, 0, rfl⟩ ones_nil))) (ones_flat fun f hf => ones_fld (h.2 f hf))) (ones_cons ⟨3, 0, rfl⟩ ones_nil)
  unfold rcdK
  split
  · exact ⟨1, 0, rfl⟩
  · exact ⟨1, 0, rfl⟩
theorem ones_mth {m : Mth} (h : MtOk m) : Ones (mthT m) := by
  obtain ⟨h1, h2, h3, h4, h5⟩ := h
  unfold mthT
  refine ones_append (ones_append (ones_cons ?_ (ones_cons (one_name h2) (ones_cons ⟨3, 0, rfl⟩ (ones_cons (one_name h3) (ones_cons ⟨3, 0, rfl⟩ (ones_cons ⟨3, 0, rfl⟩ (ones_cons (one_kw (by omega) (by omega)) ones_nil))))))) ?_) (ones_cons ⟨3, 0, rfl⟩ ones_nil)
  · rcases h1 with h1 | h1 | h1 <;> rw [h1] <;> exact ⟨1, 0, rfl⟩
  · unfold undoT
    split
    · exact ones_nil
    · rename_i hu
      exact ones_cons ⟨1, 0, rfl⟩ (ones_cons (one_name (h5.resolve_left hu)) ones_nil)
theorem ones_srv {v : Srv} (h : SvOk v) : Ones (srvT v) := by
  unfold srvT
  exact ones_append (ones_append (ones_cons ⟨1, 0, rfl⟩ (ones_cons (one_name h.1) (ones_cons ⟨3, 0, rfl⟩ ones_nil))) (ones_flat fun m hm => ones_mth (h.2 m hm))) (ones_cons ⟨3, 0, rfl⟩ ones_nil)
theorem ones_stp {p : Stp} (h : SpOk p) : Ones (stpT p) := by
  obtain ⟨h1, h2, h3, h4⟩ := h
  unfold stpT
  exact ones_cons ⟨1, 0, rfl⟩ (ones_cons (one_name h1) (ones_cons ⟨3, 0, rfl⟩ (ones_cons (one_name h2) (ones_cons ⟨1, 0, rfl⟩ (ones_cons (one_num (by omega)) (ones_cons ⟨3, 0, rfl⟩ ones_nil))))))
theorem ones_sga {g : Sga} (h : SgOk g) : Ones (sgaT g) := by
  unfold sgaT
  exact ones_append (ones_append (ones_cons ⟨1, 0, rfl⟩ (ones_cons (one_name h.1) (ones_cons ⟨3, 0, rfl⟩ (ones_cons (one_name h.2.1) (ones_cons ⟨3, 0, rfl⟩ (ones_cons ⟨3, 0, rfl⟩ ones_nil)))))) (ones_flat fun p hp => ones_stp (h.2.2 p hp))) (ones_cons ⟨3, 0, rfl⟩ ones_nil)
theorem ones_sch {s : Sch} (h : ScOk s) : Ones (schT s) := by
  unfold schT
  exact ones_append (ones_append (ones_append (ones_cons ⟨1, 0, rfl⟩ (ones_cons (one_name h.1) (ones_cons ⟨3, 0, rfl⟩ ones_nil))) (ones_flat fun r hr => ones_rcd (h.2.1 r hr))) (ones_flat fun v hv => ones_srv (h.2.2.1 v hv))) (ones_flat fun g hg => ones_sga (h.2.2.2 g hg))
theorem parse_ok {s : Sch} (h : ScOk s) : parse (line s) = (s, 0, 0) := whole_puts schema_erase (ones_sch h) (reads_schema h)
theorem type_ok {t : List So} (h : TyOk t) : type (sortsL t) = (t, 0, 0) := by
  refine whole_puts nice_sorts.erase (ones_ty h) ?_
  have := reads_sorts h []
  rwa [List.append_nil] at this
theorem nm_none {n : ByteArray} (h : Ck.nm n = none) : Tk.name n = true := by
  unfold Ck.nm at h
  split at h
  · assumption
  · cases h
theorem names_all {s : Sch} (h : Ck.names s = none) : Tk.name s.name = true ∧ (∀ r ∈ s.records, Tk.name r.name = true ∧ ∀ f ∈ r.fields, Tk.name f.name = true) ∧ (∀ v ∈ s.services, Tk.name v.name = true ∧ ∀ m ∈ v.methods, Tk.name m.name = true) ∧ ∀ g ∈ s.sagas, Tk.name g.name = true := by
  unfold Ck.names at h
  split at h
  case isFalse => cases h
  case isTrue h0 =>
  rw [Option.or_eq_none_iff, Option.or_eq_none_iff] at h
  obtain ⟨h1, h2, h3⟩ := h
  refine ⟨h0, fun r hr => ?_, fun v hv => ?_, fun g hg => nm_none (Ck.none_mem h3 hg)⟩
  · have := Ck.none_mem h1 hr
    rw [Option.or_eq_none_iff] at this
    exact ⟨nm_none this.1, fun f hf => nm_none (Ck.none_mem this.2 hf)⟩
  · have := Ck.none_mem h2 hv
    rw [Option.or_eq_none_iff] at this
    exact ⟨nm_none this.1, fun f hf => nm_none (Ck.none_mem this.2 hf)⟩
theorem heads_ty {s : Sch} (hf : ∀ n, (Ck.find s n).isSome = true → Tk.name n = true) : ∀ {t : List So}, Ck.heads t = true → Ck.lastOk s t = true → TyOk t
  | [], _, h2 => by cases h2
  | [x], _, h2 => by
    have h2 : (if x.kind = 7 then (Ck.find s x.name).isSome else decide (1 ≤ x.kind) && decide (x.kind ≤ 4) && Ck.empty x.name) = true := h2
    by_cases h7 : x.kind = 7
    · rw [if_pos h7] at h2
      exact ⟨.inr ⟨h7, hf _ h2⟩, by unfold So.goes; rw [h7]; decide⟩
    · rw [if_neg h7] at h2
      simp only [Bool.and_eq_true, decide_eq_true_eq] at h2
      exact ⟨.inl ⟨h2.1.1, by omega, eqB_iff.1 h2.2⟩, by unfold So.goes; simp; omega⟩
  | x :: y :: t, h1, h2 => by
    have h1 : (((decide (x.kind = 5) || decide (x.kind = 6)) && Ck.empty x.name) && Ck.heads (y :: t)) = true := h1
    simp only [Bool.and_eq_true, Bool.or_eq_true, decide_eq_true_eq] at h1
    have h3 : Ck.lastOk s (y :: t) = true := by unfold Ck.lastOk at h2 ⊢; rwa [List.getLast?_cons_cons] at h2
    exact ⟨.inl ⟨by omega, by omega, eqB_iff.1 h1.1.2⟩, by unfold So.goes; simpa using h1.1.1, heads_ty hf h1.2 h3⟩
/-- All parts of a right schema could be read. -/
theorem ok_read {s : Sch} (h : Ck.Ok s) : ScOk s := by
  obtain ⟨n1, n2, n3, n4⟩ := names_all (h (120, Ck.names) (by simp [Ck.rules]))
  have ht : Ck.types s = none := h (131, Ck.types) (by simp [Ck.rules])
  have he : Ck.effects s = none := h (134, Ck.effects) (by simp [Ck.rules])
  have hu : Ck.undos s = none := h (133, Ck.undos) (by simp [Ck.rules])
  have hg : Ck.sagas s = none := h (240, Ck.sagas) (by simp [Ck.rules])
  unfold Ck.types at ht
  rw [Option.or_eq_none_iff] at ht
  have hf : ∀ n, (Ck.find s n).isSome = true → Tk.name n = true := fun n hn => by
    obtain ⟨r, hr⟩ := Option.isSome_iff_exists.1 hn
    obtain ⟨hr1, hr2⟩ := Ck.find_name hr
    rw [← hr2]; exact (n2 r hr1).1
  have ho : ∀ n, Ck.order s n = true → Tk.name n = true := fun n hn => by
    refine hf n ?_
    unfold Ck.order at hn
    cases hx : Ck.find s n with
    | none => rw [hx] at hn; cases hn
    | some r => rfl
  refine ⟨n1, fun r hr => ⟨(n2 r hr).1, fun f hfm => ⟨(n2 r hr).2 f hfm, ?_⟩⟩, fun v hv => ⟨(n3 v hv).1, fun m hm => ⟨?_, (n3 v hv).2 m hm, ?_, ?_, ?_⟩⟩, fun g hgm => ⟨n4 g hgm, ?_, fun p hp => ?_⟩⟩
  · have h1 := Ck.none_mem (Ck.none_mem ht.1 hr) hfm
    have h2 : Ck.right s f.type = true := by
      cases hb : Ck.right s f.type with
      | true => rfl
      | false => simp only [hb] at h1; cases h1
    unfold Ck.right at h2
    simp only [Bool.and_eq_true] at h2
    exact heads_ty hf h2.1.2 h2.2
  · have h1 := Ck.none_mem (Ck.none_mem he hv) hm
    split at h1
    · rename_i h2
      simp only [Bool.and_eq_true, Bool.or_eq_true, eqB_iff] at h2
      rcases h2.1 with (h3 | h3) | h3
      · exact .inl h3
      · exact .inr (.inl h3)
      · exact .inr (.inr h3)
    · cases h1
  · have h1 := Ck.none_mem (Ck.none_mem he hv) hm
    split at h1
    · rename_i h2
      simp only [Bool.and_eq_true] at h2
      exact ho _ h2.2
    · cases h1
  · have h1 := Ck.none_mem (Ck.none_mem ht.2 hv) hm
    split at h1
    · assumption
    · cases h1
  · have h1 := Ck.none_mem (Ck.none_mem hu hv) hm
    split at h1
    · rename_i h2
      simp only [Bool.or_eq_true] at h2
      rcases h2 with h2 | h2
      · exact .inl (eqB_iff.1 h2)
      · right
        unfold Ck.undoOk at h2
        cases hx : Ck.method s v.name m.undo with
        | none => rw [hx] at h2; cases h2
        | some u =>
          obtain ⟨v', hv', -, hm', e⟩ := Ck.method_in hx
          rw [← e]; exact (n3 v' hv').2 u hm'
    · cases h1
  · have h1 := Ck.none_mem hg hgm
    split at h1
    · rename_i h2; exact ho _ h2
    · cases h1
  · have ha := ok_at h g hgm p hp
    obtain ⟨k, hk, rfl⟩ := List.getElem_of_mem hp
    obtain ⟨m, hm, -, -⟩ := h.step hgm hk
    obtain ⟨v, hv, e1, hm', e2⟩ := Ck.method_in hm
    exact ⟨by rw [← e1]; exact (n3 v hv).1, by rw [← e2]; exact (n3 v hv).2 m hm', ha⟩
/-- P14.3: what is read of a right schema's text is that schema. -/
theorem parse_text {s : Sch} (h : (text s).2 = 0) : parse (text s).1.data.toList = (s, 0, 0) ∧ Ck.Ok s := by
  unfold text at h ⊢
  split at h
  · rename_i h1; exact absurd h h1
  · rename_i h1
    split at h
    · cases h
    · rename_i h2
      have hok : Ck.Ok s := Ck.check_ok.1 (by simpa using h1)
      rw [if_neg h1, if_neg h2]
      refine ⟨?_, hok⟩
      rw [show (Tk.bs (line s), 0).1.data.toList = line s by rw [Tk.bs_data]]
      exact parse_ok (ok_read hok)
end Pp
