/-
  Plain facts on what a text declares: no list of it is longer than the text has tokens. No program. Conditions: those in the theorems.
-/
import Derived.Test.YtlmjcnfiolbfpaaDoorIdlMath
set_option linter.unusedSimpArgs false
set_option linter.unusedVariables false
namespace Ip
def FewR (n : Nat) (x : Rcd) : Prop := x.fields.length ≤ n ∧ ∀ f ∈ x.fields, f.type.length ≤ n
structure Few (n : Nat) (s : Sch) : Prop where
  recs : s.records.length ≤ n
  srvs : s.services.length ≤ n
  sgas : s.sagas.length ≤ n
  recX : ∀ x ∈ s.records, FewR n x
  srvX : ∀ x ∈ s.services, x.methods.length ≤ n
  sgaX : ∀ x ∈ s.sagas, x.steps.length ≤ n
theorem sortsF_len : ∀ (n : Nat) (r : R), (sortsF n r).1.length ≤ n
  | 0, r => Nat.le_refl _
  | n + 1, r => by
    unfold sortsF
    rw [bind_eq]
    split
    · rw [bind_eq, ret_eq]
      have := sortsF_len n (sort r).2
      simp only [List.length_cons]; omega
    · rw [ret_eq]; simp
theorem sorts_len (r : R) : (sorts r).1.length ≤ r.left.length + 1 := sortsF_len _ _
theorem loopF_len {α : Type} (read : M α) : ∀ (n : Nat) (r : R), (loopF read n r).1.length ≤ n
  | 0, r => Nat.le_refl _
  | n + 1, r => by
    rw [loopF_t]
    split
    · simp
    · split
      · simp
      · have := loopF_len read n (read r).2
        simp only [List.length_cons]; omega
theorem loop_len {α : Type} (read : M α) (r : R) : (loop read r).1.length ≤ r.left.length + 1 := loopF_len _ _ _
theorem loopF_mem {α : Type} {read : M α} (hn : Nice read) : ∀ (n : Nat) (r : R), ∀ x ∈ (loopF read n r).1, ∃ r', r'.left.length ≤ r.left.length ∧ x = (read r').1
  | 0, r, x, h => by cases h
  | n + 1, r, x, h => by
    rw [loopF_t] at h
    split at h
    · cases h
    · split at h
      · cases h
      · rcases List.mem_cons.1 h with rfl | h
        · exact ⟨r, Nat.le_refl _, rfl⟩
        · obtain ⟨r', h1, h2⟩ := loopF_mem hn n _ x h
          exact ⟨r', Nat.le_trans h1 (hn.len r), h2⟩
theorem braced_len {α : Type} (read : M α) (r : R) : (braced read r).1.length ≤ r.left.length + 1 := by
  unfold braced
  rw [bind_eq]
  have := loop_len read (one [sOpen] r).2
  have h2 := (nice_one [sOpen]).len r
  omega
theorem record_few (c : Bool) (r : R) : FewR (r.left.length + 1) (record c r).1 := by
  unfold record
  rw [bind_eq, bind_eq, ret_eq]
  have h1 := nice_name.len r
  have h2 := braced_len field (name r).2
  refine ⟨by show (braced field (name r).2).1.length ≤ _; omega, fun f hf => ?_⟩
  have hf : f ∈ (braced field (name r).2).1 := hf
  unfold braced at hf
  rw [bind_eq] at hf
  obtain ⟨r', h3, rfl⟩ := loopF_mem nice_field _ _ f hf
  have h4 := (nice_one [sOpen]).len (name r).2
  unfold field
  rw [bind_eq, bind_eq, bind_eq, bind_eq, ret_eq]
  have h5 := sorts_len (one [sColon] (name r').2).2
  have h6 := (nice_one [sColon]).len (name r').2
  have h7 := nice_name.len r'
  show (sorts _).1.length ≤ _
  omega
theorem service_few (r : R) : (service r).1.methods.length ≤ r.left.length + 1 := by
  unfold service
  rw [bind_eq, bind_eq, ret_eq]
  have h1 := nice_name.len r
  have h2 := braced_len method (name r).2
  show (braced method (name r).2).1.length ≤ _; omega
theorem saga_few (r : R) : (saga r).1.steps.length ≤ r.left.length + 1 := by
  unfold saga
  rw [bind_eq, bind_eq, bind_eq, ret_eq]
  have h1 := nice_name.len r
  have h3 := nice_argument.len (name r).2
  have h2 := braced_len step (argument (name r).2).2
  show (braced step (argument (name r).2).2).1.length ≤ _; omega
theorem FewR.mono {n m : Nat} {x : Rcd} (h : FewR n x) (hm : n ≤ m) : FewR m x := ⟨Nat.le_trans h.1 hm, fun f hf => Nat.le_trans (h.2 f hf) hm⟩
/-- How many there are, and how great each is. -/
structure FewOf (k n : Nat) (s : Sch) : Prop where
  all : s.records.length + s.services.length + s.sagas.length ≤ k
  recX : ∀ x ∈ s.records, FewR n x
  srvX : ∀ x ∈ s.services, x.methods.length ≤ n
  sgaX : ∀ x ∈ s.sagas, x.steps.length ≤ n
theorem declare_few {k n : Nat} {s : Sch} {r : R} (h : FewOf k n s) (hr : r.left.length + 1 ≤ n) : FewOf (k + 1) n (declare s r).1 := by
  unfold declare declareW
  rw [bind_eq]
  have h0 := (nice_one [kRecord, kChoice, kService, kSaga]).len r
  generalize one [kRecord, kChoice, kService, kSaga] r = y at *
  have ha := h.all
  split
  · rw [bind_eq, ret_eq]
    refine ⟨by simp only [List.length_append, List.length_cons, List.length_nil]; omega, fun x hx => ?_, h.srvX, h.sgaX⟩
    rcases List.mem_append.1 hx with hx | hx
    · exact h.recX x hx
    · rw [List.mem_singleton.1 hx]; exact (record_few false y.2).mono (by omega)
  · split
    · rw [bind_eq, ret_eq]
      refine ⟨by simp only [List.length_append, List.length_cons, List.length_nil]; omega, fun x hx => ?_, h.srvX, h.sgaX⟩
      rcases List.mem_append.1 hx with hx | hx
      · exact h.recX x hx
      · rw [List.mem_singleton.1 hx]; exact (record_few true y.2).mono (by omega)
    · split
      · rw [bind_eq, ret_eq]
        refine ⟨by simp only [List.length_append, List.length_cons, List.length_nil]; omega, h.recX, fun x hx => ?_, h.sgaX⟩
        rcases List.mem_append.1 hx with hx | hx
        · exact h.srvX x hx
        · rw [List.mem_singleton.1 hx]; have := service_few y.2; omega
      · split
        · rw [bind_eq, ret_eq]
          refine ⟨by simp only [List.length_append, List.length_cons, List.length_nil]; omega, h.recX, h.srvX, fun x hx => ?_⟩
          rcases List.mem_append.1 hx with hx | hx
          · exact h.sgaX x hx
          · rw [List.mem_singleton.1 hx]; have := saga_few y.2; omega
        · rw [ret_eq]; exact ⟨by show s.records.length + s.services.length + s.sagas.length ≤ _; omega, h.recX, h.srvX, h.sgaX⟩
theorem declsF_few : ∀ (m k n : Nat) (s : Sch) (r : R), FewOf k n s → r.left.length + 1 ≤ n → FewOf (k + m) n (declsF m s r).1
  | 0, k, n, s, r, h, _ => h
  | m + 1, k, n, s, r, h, hr => by
    rw [declsF_t]
    split
    · exact ⟨by have := h.all; show s.records.length + s.services.length + s.sagas.length ≤ _; omega, h.recX, h.srvX, h.sgaX⟩
    · have hl := (nice_declare s).len r
      have := declsF_few m (k + 1) n (declare s r).1 (declare s r).2 (declare_few h hr) (by omega)
      rw [show k + (m + 1) = k + 1 + m by omega]; exact this
theorem schema_few {ts : List Tk.Token} {n : Nat} (hn : ts.length + 1 ≤ n) : Few n (schema ⟨ts, false⟩).1 := by
  have h1 := nice_head.len ⟨ts, false⟩
  have := declsF_few ((head ⟨ts, false⟩).2.left.length + 1) 0 n ⟨(head ⟨ts, false⟩).1, [], [], []⟩ (head ⟨ts, false⟩).2 ⟨Nat.le_refl _, fun x hx => (by cases hx), fun x hx => (by cases hx), fun x hx => (by cases hx)⟩ (by simp only at h1; omega)
  have ha := this.all
  simp only at h1
  exact ⟨by show (declsF _ _ _).1.records.length ≤ n; omega, by show (declsF _ _ _).1.services.length ≤ n; omega, by show (declsF _ _ _).1.sagas.length ≤ n; omega, this.recX, this.srvX, this.sgaX⟩
theorem few_zero (n : Nat) : Few n Sch.zero := ⟨Nat.zero_le _, Nat.zero_le _, Nat.zero_le _, fun x hx => (by cases hx), fun x hx => (by cases hx), fun x hx => (by cases hx)⟩
theorem parse_few {t : List UInt8} {n : Nat} (hn : t.length + 1 ≤ n) : Few n (parse t).1 := by
  unfold parse whole
  cases h : Tk.all 0 t with
  | no a e => exact few_zero n
  | ok ts =>
    have hl := Tk.all_len _ 0 t (Nat.le_refl _)
    rw [h] at hl
    simp only [Tk.Out.toks] at hl
    simp only
    split
    · exact few_zero n
    · split
      · exact few_zero n
      · exact schema_few (by omega)
theorem type_few {t : List UInt8} : (type t).1.length ≤ t.length + 1 := by
  unfold type whole
  cases h : Tk.all 0 t with
  | no a e => exact Nat.zero_le _
  | ok ts =>
    have hl := Tk.all_len _ 0 t (Nat.le_refl _)
    rw [h] at hl
    simp only [Tk.Out.toks] at hl
    simp only
    split
    · exact Nat.zero_le _
    · split
      · exact Nat.zero_le _
      · have := sorts_len ⟨ts, false⟩
        simp only at this ⊢; omega
end Ip
