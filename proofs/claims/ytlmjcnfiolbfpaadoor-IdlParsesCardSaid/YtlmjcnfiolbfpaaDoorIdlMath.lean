/-
  Plain facts on what a row of tokens declares: a reader of tokens, that takes nothing any more once it is stuck; what each reader makes of them. No program. Conditions: those in the theorems.
-/
import Derived.Test.YtlmjcnfiolbfpaaDoorTokPure
import Derived.Test.YtlmjcnfiolbfpaaDoorTokKey
set_option linter.unusedSimpArgs false
set_option linter.unusedVariables false
namespace Ip
open Tk (Token)
structure R where
  left : List Token
  stuck : Bool
structure So where
  kind : Nat
  name : ByteArray
structure Fld where
  name : ByteArray
  type : List So
structure Rcd where
  name : ByteArray
  choice : Bool
  fields : List Fld
structure Mth where
  name : ByteArray
  arg : ByteArray
  result : Nat
  effect : ByteArray
  undo : ByteArray
structure Srv where
  name : ByteArray
  methods : List Mth
structure Stp where
  service : ByteArray
  method : ByteArray
  at_ : Int
structure Sga where
  name : ByteArray
  arg : ByteArray
  steps : List Stp
structure Sch where
  name : ByteArray
  records : List Rcd
  services : List Srv
  sagas : List Sga
def none_ : ByteArray := ⟨#[]⟩
def Sch.zero : Sch := ⟨⟨#[]⟩, [], [], []⟩
def M (α : Type) := R → α × R
def bind {α β : Type} (f : M α) (g : α → M β) : M β := fun r => g (f r).1 (f r).2
def ret {α : Type} (a : α) : M α := fun r => (a, r)
theorem bind_eq {α β : Type} (f : M α) (g : α → M β) (r : R) : bind f g r = g (f r).1 (f r).2 := rfl
theorem ret_eq {α : Type} (a : α) (r : R) : ret a r = (a, r) := rfl

/-- The next token's text and number, if it is fit to stand there. -/
def take (fit : ByteArray → Nat → Bool) : M (ByteArray × Int) := fun r => if r.stuck then ((⟨#[]⟩, 0), r) else match r.left with
  | [] => ((⟨#[]⟩, 0), ⟨[], true⟩)
  | t :: l => if fit t.text t.kind then ((t.text, t.num), ⟨l, false⟩) else ((⟨#[]⟩, 0), ⟨t :: l, true⟩)
def eqB (a b : ByteArray) : Bool := a.data.toList == b.data.toList
theorem eqB_iff {a b : ByteArray} : eqB a b = true ↔ a = b := by
  unfold eqB
  rw [beq_iff_eq]
  refine ⟨fun h => ?_, fun h => by rw [h]⟩
  obtain ⟨⟨a⟩⟩ := a
  obtain ⟨⟨b⟩⟩ := b
  simpa using h
theorem eqB_self (a : ByteArray) : eqB a a = true := eqB_iff.2 rfl
theorem eqB_no {a b : ByteArray} (h : a ≠ b) : eqB a b = false := by
  cases hb : eqB a b with
  | false => rfl
  | true => exact absurd (eqB_iff.1 hb) h
def among (of : List ByteArray) (s : ByteArray) : Bool := of.any fun o => eqB o s
theorem among_iff {of : List ByteArray} {s : ByteArray} : among of s = true ↔ s ∈ of := by
  unfold among
  rw [List.any_eq_true]
  exact ⟨fun ⟨x, hx, e⟩ => eqB_iff.1 e ▸ hx, fun h => ⟨s, h, eqB_self s⟩⟩
def one (of : List ByteArray) : M ByteArray := bind (take fun s _ => among of s) fun p => ret p.1
def name : M ByteArray := bind (take fun s _ => Tk.name s) fun p => ret p.1
def number : M Int := bind (take fun _ k => decide (k = 2)) fun p => ret p.2
def ahead (r : R) : ByteArray := if r.stuck then ⟨#[]⟩ else match r.left with
  | [] => ⟨#[]⟩
  | t :: _ => t.text

/-! ### what holds of all readers -/
def R.erase (r : R) : R := ⟨r.left.map Tk.erase, r.stuck⟩
def R.more (r : R) (u : List Token) : R := ⟨r.left ++ u, r.stuck⟩
def Good (r : R) : Prop := r.stuck = false ∨ r.left ≠ []
structure Nice {α : Type} (f : M α) : Prop where
  stuck : ∀ r, r.stuck = true → (f r).2 = r
  left : ∀ r, ∃ k, (f r).2.left = r.left.drop k
  erase : ∀ r, f r.erase = ((f r).1, (f r).2.erase)
  ext : ∀ r u, Good (f r).2 → f (r.more u) = ((f r).1, (f r).2.more u)
theorem Nice.unstuck {α : Type} {f : M α} (h : Nice f) {r : R} (hs : (f r).2.stuck = false) : r.stuck = false := by
  cases hr : r.stuck with
  | false => rfl
  | true => rw [h.stuck r hr, hr] at hs; cases hs
theorem Nice.good {α : Type} {f : M α} (h : Nice f) {r : R} (hg : Good (f r).2) : Good r := by
  rcases hg with hg | hg
  · exact .inl (h.unstuck hg)
  · refine .inr fun e => hg ?_
    obtain ⟨k, hk⟩ := h.left r
    rw [hk, e]; exact List.drop_nil
theorem Nice.len {α : Type} {f : M α} (h : Nice f) (r : R) : (f r).2.left.length ≤ r.left.length := by
  obtain ⟨k, hk⟩ := h.left r
  rw [hk, List.length_drop]; omega
theorem nice_ret {α : Type} (a : α) : Nice (ret a) := ⟨fun _ _ => rfl, fun r => ⟨0, rfl⟩, fun _ => rfl, fun _ _ _ => rfl⟩
theorem nice_bind {α β : Type} {f : M α} {g : α → M β} (hf : Nice f) (hg : ∀ a, Nice (g a)) : Nice (bind f g) := by
  refine ⟨fun r hr => ?_, fun r => ?_, fun r => ?_, fun r u h => ?_⟩
  · rw [bind_eq, (hg _).stuck _ (by rw [hf.stuck r hr]; exact hr), hf.stuck r hr]
  · obtain ⟨a, ha⟩ := hf.left r
    obtain ⟨b, hb⟩ := (hg (f r).1).left (f r).2
    exact ⟨a + b, by rw [bind_eq, hb, ha, List.drop_drop]⟩
  · rw [bind_eq, hf.erase, (hg _).erase]; rfl
  · rw [bind_eq] at h ⊢
    rw [hf.ext r u ((hg _).good h)]
    rw [(hg _).ext _ _ h]; rfl
theorem nice_take (fit : ByteArray → Nat → Bool) : Nice (take fit) := by
  refine ⟨fun r hr => ?_, fun r => ?_, fun r => ?_, fun r u h => ?_⟩
  · unfold take; rw [if_pos hr]
  · obtain ⟨l, s⟩ := r
    unfold take
    cases s with
    | true => exact ⟨0, rfl⟩
    | false =>
      cases l with
      | nil => exact ⟨0, rfl⟩
      | cons t l =>
        simp only [Bool.false_eq_true, if_false]
        split
        · exact ⟨1, rfl⟩
        · exact ⟨0, rfl⟩
  · obtain ⟨l, s⟩ := r
    unfold take R.erase
    cases s with
    | true => rfl
    | false =>
      cases l with
      | nil => rfl
      | cons t l =>
        simp only [Bool.false_eq_true, if_false, List.map_cons]
        by_cases hf : fit t.text t.kind = true
        · rw [if_pos (show fit (Tk.erase t).text (Tk.erase t).kind = true from hf), if_pos hf]; rfl
        · rw [if_neg (show ¬ fit (Tk.erase t).text (Tk.erase t).kind = true from hf), if_neg hf]; rfl
  · obtain ⟨l, s⟩ := r
    unfold take R.more at *
    cases s with
    | true => rfl
    | false =>
      cases l with
      | nil => rcases h with h | h
               · cases h
               · exact absurd rfl h
      | cons t l =>
        simp only [Bool.false_eq_true, if_false, List.cons_append]
        split <;> rfl
theorem nice_one (of : List ByteArray) : Nice (one of) := nice_bind (nice_take _) fun _ => nice_ret _
theorem nice_name : Nice name := nice_bind (nice_take _) fun _ => nice_ret _
theorem nice_number : Nice number := nice_bind (nice_take _) fun _ => nice_ret _

/-- A reader that, not being stuck, takes a token or becomes stuck. -/
def Takes {α : Type} (f : M α) : Prop := ∀ r, r.stuck = false → (f r).2.stuck = true ∨ (f r).2.left.length < r.left.length
theorem takes_bind {α β : Type} {f : M α} {g : α → M β} (hf : Takes f) (hg : ∀ a, Nice (g a)) : Takes (bind f g) := fun r hr => by
  rw [bind_eq]
  rcases hf r hr with h | h
  · left; rw [(hg _).stuck _ h]; exact h
  · right; have := (hg (f r).1).len (f r).2; omega
theorem takes_take (fit : ByteArray → Nat → Bool) : Takes (take fit) := by
  intro r hr
  obtain ⟨l, s⟩ := r
  cases hr
  unfold take
  cases l with
  | nil => exact .inl rfl
  | cons t l =>
    simp only [Bool.false_eq_true, if_false]
    split
    · right; simp
    · left; rfl
theorem takes_one (of : List ByteArray) : Takes (one of) := takes_bind (takes_take _) fun _ => nice_ret _
theorem takes_name : Takes name := takes_bind (takes_take _) fun _ => nice_ret _
theorem takes_number : Takes number := takes_bind (takes_take _) fun _ => nice_ret _

/-! ### the words -/
def kModule : ByteArray := ⟨#[109, 111, 100, 117, 108, 101]⟩
def kRecord : ByteArray := ⟨#[114, 101, 99, 111, 114, 100]⟩
def kChoice : ByteArray := ⟨#[99, 104, 111, 105, 99, 101]⟩
def kService : ByteArray := ⟨#[115, 101, 114, 118, 105, 99, 101]⟩
def kSaga : ByteArray := ⟨#[115, 97, 103, 97]⟩
def kDo : ByteArray := ⟨#[100, 111]⟩
def kAt : ByteArray := ⟨#[97, 116]⟩
def kUndo : ByteArray := ⟨#[117, 110, 100, 111]⟩
def kGive : ByteArray := ⟨#[103, 105, 118, 101]⟩
def kTake : ByteArray := ⟨#[116, 97, 107, 101]⟩
def kNote : ByteArray := ⟨#[110, 111, 116, 101]⟩
def kNone : ByteArray := ⟨#[110, 111, 110, 101]⟩
def kBool : ByteArray := ⟨#[98, 111, 111, 108]⟩
def kInt : ByteArray := ⟨#[105, 110, 116]⟩
def kText : ByteArray := ⟨#[116, 101, 120, 116]⟩
def kList : ByteArray := ⟨#[108, 105, 115, 116]⟩
def kOpt : ByteArray := ⟨#[111, 112, 116]⟩
def sOpen : ByteArray := ⟨#[123]⟩
def sShut : ByteArray := ⟨#[125]⟩
def sIn : ByteArray := ⟨#[40]⟩
def sOut : ByteArray := ⟨#[41]⟩
def sSemi : ByteArray := ⟨#[59]⟩
def sColon : ByteArray := ⟨#[58]⟩
def sDot : ByteArray := ⟨#[46]⟩
def sArrow : ByteArray := ⟨#[45, 62]⟩

/-- The kind that a keyword means. -/
def meant (s : ByteArray) : Nat := if eqB s kNone then 1 else if eqB s kBool then 2 else if eqB s kInt then 3 else if eqB s kText then 4 else if eqB s kList then 5 else if eqB s kOpt then 6 else 0
def sort : M So := bind (take fun s _ => decide (meant s ≠ 0) || Tk.name s) fun p => ret (if meant p.1 = 0 then ⟨7, p.1⟩ else ⟨meant p.1, ⟨#[]⟩⟩)
theorem nice_sort : Nice sort := nice_bind (nice_take _) fun _ => nice_ret _
theorem takes_sort : Takes sort := takes_bind (takes_take _) fun _ => nice_ret _
theorem meant_none : meant ⟨#[]⟩ = 0 := by decide
/-- Is this a sort that is about another one? -/
def So.goes (s : So) : Bool := decide (s.kind = 5) || decide (s.kind = 6)
def sortsF : Nat → M (List So)
  | 0 => ret []
  | n + 1 => bind sort fun s => if s.goes then bind (sortsF n) fun l => ret (s :: l) else ret [s]
theorem nice_sortsF : ∀ n, Nice (sortsF n)
  | 0 => nice_ret _
  | n + 1 => nice_bind nice_sort fun s => by
    split
    · exact nice_bind (nice_sortsF n) fun _ => nice_ret _
    · exact nice_ret _
theorem sort_stuck {r : R} (h : (sort r).2.stuck = true) : (sort r).1.goes = false := by
  obtain ⟨l, s⟩ := r
  unfold sort bind take ret at *
  cases s with
  | true => rfl
  | false =>
    cases l with
    | nil => rfl
    | cons t l =>
      simp only [Bool.false_eq_true, if_false] at h ⊢
      split at h
      · cases h
      · rename_i hf
        rw [if_neg hf]; rfl
theorem sort_stuck0 {r : R} (h : r.stuck = true) : (sort r).1.goes = false := sort_stuck (by rw [nice_sort.stuck r h]; exact h)
theorem sortsF_more : ∀ (n m : Nat) (r : R), r.left.length < n → r.left.length < m → sortsF n r = sortsF m r
  | 0, _, _, h, _ => absurd h (Nat.not_lt_zero _)
  | _, 0, _, _, h => absurd h (Nat.not_lt_zero _)
  | n + 1, m + 1, r, hn, hm => by
    unfold sortsF
    rw [bind_eq, bind_eq]
    cases hg : (sort r).1.goes with
    | false => simp
    | true =>
      simp only [if_true]
      rw [bind_eq, bind_eq]
      have hr : r.stuck = false := by
        cases hr : r.stuck with
        | false => rfl
        | true => rw [sort_stuck0 hr] at hg; cases hg
      have hlt : (sort r).2.left.length < r.left.length := by
        rcases takes_sort r hr with h | h
        · rw [sort_stuck h] at hg; cases hg
        · exact h
      rw [sortsF_more n m _ (by omega) (by omega)]
def sorts : M (List So) := fun r => sortsF (r.left.length + 1) r
theorem sorts_eq (r : R) : sorts r = if (sort r).1.goes then ((sort r).1 :: (sorts (sort r).2).1, (sorts (sort r).2).2) else ([(sort r).1], (sort r).2) := by
  show sortsF (r.left.length + 1) r = _
  conv => lhs; unfold sortsF
  rw [bind_eq]
  cases hg : (sort r).1.goes with
  | false => simp [ret]
  | true =>
    simp only [if_true]
    rw [bind_eq]
    have hr : r.stuck = false := by
      cases hr : r.stuck with
      | false => rfl
      | true => rw [sort_stuck0 hr] at hg; cases hg
    have hlt : (sort r).2.left.length < r.left.length := by
      rcases takes_sort r hr with h | h
      · rw [sort_stuck h] at hg; cases hg
      · exact h
    rw [sortsF_more r.left.length ((sort r).2.left.length + 1) _ (by omega) (by omega)]
    rfl
theorem nice_of_eq {α : Type} {f : M α} (g : Nat → M α) (hg : ∀ n, Nice (g n)) (h : ∀ n r, r.left.length < n → f r = g n r) : Nice f := by
  refine ⟨fun r hr => ?_, fun r => ?_, fun r => ?_, fun r u hgd => ?_⟩
  · rw [h (r.left.length + 1) r (by omega)]; exact (hg _).stuck r hr
  · rw [h (r.left.length + 1) r (by omega)]; exact (hg _).left r
  · rw [h (r.left.length + 1) r (by omega), h (r.left.length + 1) r.erase (by simp [R.erase])]; exact (hg _).erase r
  · rw [h (r.left.length + u.length + 1) r (by omega)] at hgd ⊢
    rw [h (r.left.length + u.length + 1) (r.more u) (by simp [R.more])]; exact (hg _).ext r u hgd
theorem nice_sorts : Nice sorts := nice_of_eq sortsF nice_sortsF fun n r h => sortsF_more _ _ r (by omega) h

/-- Is the next token a closing brace? -/
def closes (r : R) : Bool := !r.stuck && eqB (ahead r) sShut
def shut (r : R) : R := ⟨r.left.drop 1, false⟩
def loopF {α : Type} (read : M α) : Nat → M (List α)
  | 0 => ret []
  | n + 1 => fun r => if r.stuck then ([], r) else if closes r then ([], shut r) else ((read r).1 :: (loopF read n (read r).2).1, (loopF read n (read r).2).2)
theorem loopF_t {α : Type} (read : M α) (n : Nat) (r : R) : loopF read (n + 1) r = if r.stuck then ([], r) else if closes r then ([], shut r) else ((read r).1 :: (loopF read n (read r).2).1, (loopF read n (read r).2).2) := rfl
theorem loopF_stuck {α : Type} {read : M α} {n : Nat} {r : R} (h : r.stuck = true) : loopF read n r = ([], r) := by
  cases n with
  | zero => rfl
  | succ n => rw [loopF_t, if_pos h]
theorem loopF_more {α : Type} {read : M α} (ht : Takes read) : ∀ (n m : Nat) (r : R), r.left.length < n → r.left.length < m → loopF read n r = loopF read m r
  | 0, _, _, h, _ => absurd h (Nat.not_lt_zero _)
  | _, 0, _, _, h => absurd h (Nat.not_lt_zero _)
  | n + 1, m + 1, r, hn, hm => by
    rw [loopF_t, loopF_t]
    cases hr : r.stuck with
    | true => rfl
    | false =>
      have : loopF read n (read r).2 = loopF read m (read r).2 := by
        rcases ht r hr with h | h
        · rw [loopF_stuck h, loopF_stuck h]
        · exact loopF_more ht n m _ (by omega) (by omega)
      rw [this]
theorem closes_nil : closes ⟨[], false⟩ = false := by decide
theorem closes_cons (t : Token) (l : List Token) : closes ⟨t :: l, false⟩ = eqB t.text sShut := by simp [closes, ahead]
theorem nice_loopF {α : Type} {read : M α} (hn : Nice read) (ht : Takes read) : ∀ n, Nice (loopF read n)
  | 0 => nice_ret _
  | n + 1 => by
    have ih := nice_loopF hn ht n
    refine ⟨fun r hr => ?_, fun r => ?_, fun r => ?_, fun r u h => ?_⟩
    · rw [loopF_stuck hr]
    · rw [loopF_t]
      split
      · exact ⟨0, rfl⟩
      · split
        · exact ⟨1, rfl⟩
        · obtain ⟨a, ha⟩ := hn.left r
          obtain ⟨b, hb⟩ := ih.left (read r).2
          exact ⟨a + b, by rw [hb, ha, List.drop_drop]⟩
    · rw [loopF_t, loopF_t]
      obtain ⟨l, s⟩ := r
      cases s with
      | true => rfl
      | false =>
        have hc : closes (R.erase ⟨l, false⟩) = closes ⟨l, false⟩ := by cases l <;> rfl
        rw [hc, show (R.erase ⟨l, false⟩).stuck = false from rfl]
        simp only [Bool.false_eq_true, if_false]
        split
        · simp [shut, R.erase]
        · rw [hn.erase, ih.erase]
    · rw [loopF_t] at h
      rw [loopF_t, loopF_t]
      obtain ⟨l, s⟩ := r
      cases s with
      | true => rfl
      | false =>
        rw [show (R.more ⟨l, false⟩ u).stuck = false from rfl]
        simp only [Bool.false_eq_true, if_false] at h ⊢
        cases l with
        | nil =>
          exfalso
          rw [closes_nil] at h
          simp only [Bool.false_eq_true, if_false] at h
          have hs : (read ⟨[], false⟩).2.stuck = true := by
            rcases ht ⟨[], false⟩ rfl with e | e
            · exact e
            · exact absurd e (Nat.not_lt_zero _)
          rw [loopF_stuck hs] at h
          rcases h with h | h
          · rw [hs] at h; cases h
          · obtain ⟨k, hk⟩ := hn.left ⟨[], false⟩
            rw [hk] at h; exact h List.drop_nil
        | cons t l =>
          have e : R.more ⟨t :: l, false⟩ u = ⟨t :: (l ++ u), false⟩ := rfl
          have hc : closes (R.more ⟨t :: l, false⟩ u) = closes ⟨t :: l, false⟩ := by rw [e, closes_cons, closes_cons]
          rw [hc]
          split
          · rfl
          · rename_i hcl
            rw [if_neg hcl] at h
            rw [hn.ext _ u (ih.good h), ih.ext _ u h]
def loop {α : Type} (read : M α) : M (List α) := fun r => loopF read (r.left.length + 1) r
theorem loop_eq {α : Type} {read : M α} (hn : Nice read) (ht : Takes read) (r : R) : loop read r = if r.stuck then ([], r) else if closes r then ([], shut r) else ((read r).1 :: (loop read (read r).2).1, (loop read (read r).2).2) := by
  show loopF read (r.left.length + 1) r = _
  rw [loopF_t]
  cases hr : r.stuck with
  | true => rfl
  | false =>
    have : loopF read r.left.length (read r).2 = loop read (read r).2 := by
      rcases ht r hr with h | h
      · unfold loop; rw [loopF_stuck h, loopF_stuck h]
      · exact loopF_more ht _ _ _ (by omega) (by omega)
    rw [this]
theorem nice_loop {α : Type} {read : M α} (hn : Nice read) (ht : Takes read) : Nice (loop read) := nice_of_eq (loopF read) (nice_loopF hn ht) fun n r h => loopF_more ht _ _ r (by omega) h
def braced {α : Type} (read : M α) : M (List α) := bind (one [sOpen]) fun _ => loop read
theorem nice_braced {α : Type} {read : M α} (hn : Nice read) (ht : Takes read) : Nice (braced read) := nice_bind (nice_one _) fun _ => nice_loop hn ht

/-! ### the grammar -/
def argument : M ByteArray := bind (one [sIn]) fun _ => bind name fun n => bind (one [sOut]) fun _ => ret n
theorem nice_argument : Nice argument := nice_bind (nice_one _) fun _ => nice_bind nice_name fun _ => nice_bind (nice_one _) fun _ => nice_ret _
def field : M Fld := bind name fun n => bind (one [sColon]) fun _ => bind sorts fun t => bind (one [sSemi]) fun _ => ret ⟨n, t⟩
theorem nice_field : Nice field := nice_bind nice_name fun _ => nice_bind (nice_one _) fun _ => nice_bind nice_sorts fun _ => nice_bind (nice_one _) fun _ => nice_ret _
theorem takes_field : Takes field := takes_bind takes_name fun _ => nice_bind (nice_one _) fun _ => nice_bind nice_sorts fun _ => nice_bind (nice_one _) fun _ => nice_ret _
def record (choice : Bool) : M Rcd := bind name fun n => bind (braced field) fun l => ret ⟨n, choice, l⟩
theorem nice_record (c : Bool) : Nice (record c) := nice_bind nice_name fun _ => nice_bind (nice_braced nice_field takes_field) fun _ => nice_ret _
/-- What may stand behind a method's result, and the sign that ends it. -/
def undo : M ByteArray := bind (one [kUndo, sSemi]) fun w => if eqB w kUndo then bind name fun n => bind (one [sSemi]) fun _ => ret n else ret ⟨#[]⟩
theorem nice_undo : Nice undo := nice_bind (nice_one _) fun _ => by
  split
  · exact nice_bind nice_name fun _ => nice_bind (nice_one _) fun _ => nice_ret _
  · exact nice_ret _
def method : M Mth := bind (one [kGive, kTake, kNote]) fun e => bind name fun n => bind argument fun a => bind (one [sArrow]) fun _ => bind (one [kInt, kNone]) fun k => bind undo fun u => ret ⟨n, a, meant k, e, u⟩
theorem nice_method0 (e : ByteArray) : Nice (bind name fun n => bind argument fun a => bind (one [sArrow]) fun _ => bind (one [kInt, kNone]) fun k => bind undo fun u => ret (⟨n, a, meant k, e, u⟩ : Mth)) :=
  nice_bind nice_name fun _ => nice_bind nice_argument fun _ => nice_bind (nice_one _) fun _ => nice_bind (nice_one _) fun _ => nice_bind nice_undo fun _ => nice_ret _
theorem nice_method : Nice method := nice_bind (nice_one _) nice_method0
theorem takes_method : Takes method := takes_bind (takes_one _) nice_method0
def service : M Srv := bind name fun n => bind (braced method) fun l => ret ⟨n, l⟩
theorem nice_service : Nice service := nice_bind nice_name fun _ => nice_bind (nice_braced nice_method takes_method) fun _ => nice_ret _
def step : M Stp := bind (one [kDo]) fun _ => bind name fun s => bind (one [sDot]) fun _ => bind name fun m => bind (one [kAt]) fun _ => bind number fun a => bind (one [sSemi]) fun _ => ret ⟨s, m, a⟩
theorem nice_step0 : Nice (bind name fun s => bind (one [sDot]) fun _ => bind name fun m => bind (one [kAt]) fun _ => bind number fun a => bind (one [sSemi]) fun _ => ret (⟨s, m, a⟩ : Stp)) :=
  nice_bind nice_name fun _ => nice_bind (nice_one _) fun _ => nice_bind nice_name fun _ => nice_bind (nice_one _) fun _ => nice_bind nice_number fun _ => nice_bind (nice_one _) fun _ => nice_ret _
theorem nice_step : Nice step := nice_bind (nice_one _) fun _ => nice_step0
theorem takes_step : Takes step := takes_bind (takes_one _) fun _ => nice_step0
def saga : M Sga := bind name fun n => bind argument fun a => bind (braced step) fun l => ret ⟨n, a, l⟩
theorem nice_saga : Nice saga := nice_bind nice_name fun _ => nice_bind nice_argument fun _ => nice_bind (nice_braced nice_step takes_step) fun _ => nice_ret _
/-- A declaration, put behind those of its kind. -/
def declareW (s : Sch) (w : ByteArray) : M Sch :=
  if eqB w kRecord then bind (record false) fun x => ret { s with records := s.records ++ [x] }
  else if eqB w kChoice then bind (record true) fun x => ret { s with records := s.records ++ [x] }
  else if eqB w kService then bind service fun x => ret { s with services := s.services ++ [x] }
  else if eqB w kSaga then bind saga fun x => ret { s with sagas := s.sagas ++ [x] }
  else ret s
theorem nice_declareW (s : Sch) (w : ByteArray) : Nice (declareW s w) := by
  unfold declareW
  split
  · exact nice_bind (nice_record _) fun _ => nice_ret _
  · split
    · exact nice_bind (nice_record _) fun _ => nice_ret _
    · split
      · exact nice_bind nice_service fun _ => nice_ret _
      · split
        · exact nice_bind nice_saga fun _ => nice_ret _
        · exact nice_ret _
def declare (s : Sch) : M Sch := bind (one [kRecord, kChoice, kService, kSaga]) fun w => declareW s w
theorem nice_declare (s : Sch) : Nice (declare s) := nice_bind (nice_one _) (nice_declareW s)
theorem takes_declare (s : Sch) : Takes (declare s) := takes_bind (takes_one _) (nice_declareW s)
/-- Is there no token that could be taken? -/
def ends (r : R) : Bool := eqB (ahead r) ⟨#[]⟩
def declsF : Nat → Sch → M Sch
  | 0, s => ret s
  | n + 1, s => fun r => if ends r then (s, r) else declsF n (declare s r).1 (declare s r).2
theorem declsF_t (n : Nat) (s : Sch) (r : R) : declsF (n + 1) s r = if ends r then (s, r) else declsF n (declare s r).1 (declare s r).2 := rfl
theorem ends_stuck {r : R} (h : r.stuck = true) : ends r = true := by unfold ends ahead; rw [if_pos h]; decide
theorem ends_nil {r : R} (h : r.left = []) : ends r = true := by obtain ⟨l, s⟩ := r; cases h; cases s <;> decide
theorem declsF_end {n : Nat} {s : Sch} {r : R} (h : ends r = true) : declsF n s r = (s, r) := by
  cases n with
  | zero => rfl
  | succ n => rw [declsF_t, if_pos h]
theorem not_ends {r : R} (h : ends r = false) : r.stuck = false := by
  cases hr : r.stuck with
  | false => rfl
  | true => rw [ends_stuck hr] at h; cases h
theorem declsF_more : ∀ (n m : Nat) (s : Sch) (r : R), r.left.length < n → r.left.length < m → declsF n s r = declsF m s r
  | 0, _, _, _, h, _ => absurd h (Nat.not_lt_zero _)
  | _, 0, _, _, _, h => absurd h (Nat.not_lt_zero _)
  | n + 1, m + 1, s, r, hn, hm => by
    rw [declsF_t, declsF_t]
    cases he : ends r with
    | true => rfl
    | false =>
      simp only [Bool.false_eq_true, if_false]
      rcases takes_declare s r (not_ends he) with h | h
      · rw [declsF_end (ends_stuck h), declsF_end (ends_stuck h)]
      · exact declsF_more n m _ _ (by omega) (by omega)
def decls (s : Sch) : M Sch := fun r => declsF (r.left.length + 1) s r
theorem decls_eq (s : Sch) (r : R) : decls s r = if ends r then (s, r) else decls (declare s r).1 (declare s r).2 := by
  show declsF (r.left.length + 1) s r = _
  rw [declsF_t]
  cases he : ends r with
  | true => rfl
  | false =>
    simp only [Bool.false_eq_true, if_false]
    rcases takes_declare s r (not_ends he) with h | h
    · unfold decls; rw [declsF_end (ends_stuck h), declsF_end (ends_stuck h)]
    · exact declsF_more _ _ _ _ (by omega) (by omega)
def head : M ByteArray := bind (one [kModule]) fun _ => bind name fun n => bind (one [sSemi]) fun _ => ret n
theorem nice_head : Nice head := nice_bind (nice_one _) fun _ => nice_bind nice_name fun _ => nice_bind (nice_one _) fun _ => nice_ret _
def schema : M Sch := bind head fun n => decls ⟨n, [], [], []⟩
/-- What a text is, which is to have nothing behind it: or the first fault's place, and its number. -/
def whole {α : Type} (f : M α) (z : α) (t : List UInt8) : α × Int × Nat := match Tk.all 0 t with
  | .no a e => (z, (a : Nat), e)
  | .ok ts => match (f ⟨ts, false⟩).2.left with
    | t :: _ => (z, t.pos, 120)
    | [] => if (f ⟨ts, false⟩).2.stuck then (z, (t.length : Nat), 120) else ((f ⟨ts, false⟩).1, 0, 0)
def parse (t : List UInt8) : Sch × Int × Nat := whole schema Sch.zero t
def type (t : List UInt8) : List So × Int × Nat := whole sorts [] t
end Ip
