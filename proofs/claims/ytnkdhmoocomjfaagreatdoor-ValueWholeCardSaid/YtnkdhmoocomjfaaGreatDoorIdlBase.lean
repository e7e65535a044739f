/-
  The parts of IdlMath, IdlLawMath, IdlRefMath, IdlFew, IdlRow, TextsAt, IdlRead, IdlTake, IdlOne, IdlSort, IdlSorts, IdlLoc, IdlParts, IdlMethod, IdlBraced, IdlDecl, IdlDeclare, IdlSchema, IdlWhole, IdlSame, IdlWakes, IdlBlanks, IdlAhead, IdlMore that a seat without their package has. Conditions: those in the theorems.
-/
import Derived.Test.YtnkdhmoocomjfaaGreatDoorTokBase
import Derived.Test.YtnkdhmoocomjfaaGreatDoorProg
import Derived.WalkKit
import Derived.Deep.QuietTactic
import Derived.BigQuiet
import Derived.Deep.Cut
import Derived.Deep.RegionLaw
import Derived.BigRegion
import Derived.StillTailTactics
import Derived.Deep.CutRange
import Derived.ChangeKeysEq
set_option linter.unusedSimpArgs false
set_option linter.unusedVariables false
namespace Ip
open Tk (Token)
structure R where
  left : List Token
  stuck : Bool
structure So where
  kind : Nat
  name : ByteArray
structure Fld where
  name : ByteArray
  type : List So
structure Rcd where
  name : ByteArray
  choice : Bool
  fields : List Fld
structure Mth where
  name : ByteArray
  arg : ByteArray
  result : Nat
  effect : ByteArray
  undo : ByteArray
structure Srv where
  name : ByteArray
  methods : List Mth
structure Stp where
  service : ByteArray
  method : ByteArray
  at_ : Int
structure Sga where
  name : ByteArray
  arg : ByteArray
  steps : List Stp
structure Sch where
  name : ByteArray
  records : List Rcd
  services : List Srv
  sagas : List Sga
def none_ : ByteArray := ⟨#[]⟩
def Sch.zero : Sch := ⟨⟨#[]⟩, [], [], []⟩
def M (α : Type) := R → α × R
def bind {α β : Type} (f : M α) (g : α → M β) : M β := fun r => g (f r).1 (f r).2
def ret {α : Type} (a : α) : M α := fun r => (a, r)
theorem bind_eq {α β : Type} (f : M α) (g : α → M β) (r : R) : bind f g r = g (f r).1 (f r).2 := rfl
theorem ret_eq {α : Type} (a : α) (r : R) : ret a r = (a, r) := rfl

/-- The next token's text and number, if it is fit to stand there. -/
def take (fit : ByteArray → Nat → Bool) : M (ByteArray × Int) := fun r => if r.stuck then ((⟨#[]⟩, 0), r) else match r.left with
  | [] => ((⟨#[]⟩, 0), ⟨[], true⟩)
  | t :: l => if fit t.text t.kind then ((t.text, t.num), ⟨l, false⟩) else ((⟨#[]⟩, 0), ⟨t :: l, true⟩)
def eqB (a b : ByteArray) : Bool := a.data.toList == b.data.toList
theorem eqB_iff {a b : ByteArray} : eqB a b = true ↔ a = b := by
  unfold eqB
  rw [beq_iff_eq]
  refine ⟨fun h => ?_, fun h => by rw [h]⟩
  obtain ⟨⟨a⟩⟩ := a
  obtain ⟨⟨b⟩⟩ := b
  simpa using h
theorem eqB_self (a : ByteArray) : eqB a a = true := eqB_iff.2 rfl
theorem eqB_no {a b : ByteArray} (h : a ≠ b) : eqB a b = false := by
  cases hb : eqB a b with
  | false => rfl
  | true => exact absurd (eqB_iff.1 hb) h
def among (of : List ByteArray) (s : ByteArray) : Bool := of.any fun o => eqB o s
theorem among_iff {of : List ByteArray} {s : ByteArray} : among of s = true ↔ s ∈ of := by
  unfold among
  rw [List.any_eq_true]
  exact ⟨fun ⟨x, hx, e⟩ => eqB_iff.1 e ▸ hx, fun h => ⟨s, h, eqB_self s⟩⟩
def one (of : List ByteArray) : M ByteArray := bind (take fun s _ => among of s) fun p => ret p.1
def name : M ByteArray := bind (take fun s _ => Tk.name s) fun p => ret p.1
def number : M Int := bind (take fun _ k => decide (k = 2)) fun p => ret p.2
def ahead (r : R) : ByteArray := if r.stuck then ⟨#[]⟩ else match r.left with
  | [] => ⟨#[]⟩
  | t :: _ => t.text

/-! ### what holds of all readers -/
def R.erase (r : R) : R := ⟨r.left.map Tk.erase, r.stuck⟩
def R.more (r : R) (u : List Token) : R := ⟨r.left ++ u, r.stuck⟩
def Good (r : R) : Prop := r.stuck = false ∨ r.left ≠ []
structure Nice {α : Type} (f : M α) : Prop where
  stuck : ∀ r, r.stuck = true → (f r).2 = r
  left : ∀ r, ∃ k, (f r).2.left = r.left.drop k
  erase : ∀ r, f r.erase = ((f r).1, (f r).2.erase)
  ext : ∀ r u, Good (f r).2 → f (r.more u) = ((f r).1, (f r).2.more u)
theorem Nice.unstuck {α : Type} {f : M α} (h : Nice f) {r : R} (hs : (f r).2.stuck = false) : r.stuck = false := by
  cases hr : r.stuck with
  | false => rfl
  | true => rw [h.stuck r hr, hr] at hs; cases hs
theorem Nice.good {α : Type} {f : M α} (h : Nice f) {r : R} (hg : Good (f r).2) : Good r := by
  rcases hg with hg | hg
  · exact .inl (h.unstuck hg)
  · refine .inr fun e => hg ?_
    obtain ⟨k, hk⟩ := h.left r
    rw [hk, e]; exact List.drop_nil
theorem Nice.len {α : Type} {f : M α} (h : Nice f) (r : R) : (f r).2.left.length ≤ r.left.length := by
  obtain ⟨k, hk⟩ := h.left r
  rw [hk, List.length_drop]; omega
theorem nice_ret {α : Type} (a : α) : Nice (ret a) := ⟨fun _ _ => rfl, fun r => ⟨0, rfl⟩, fun _ => rfl, fun _ _ _ => rfl⟩
theorem nice_bind {α β : Type} {f : M α} {g : α → M β} (hf : Nice f) (hg : ∀ a, Nice (g a)) : Nice (bind f g) := by
  refine ⟨fun r hr => ?_, fun r => ?_, fun r => ?_, fun r u h => ?_⟩
  · rw [bind_eq, (hg _).stuck _ (by rw [hf.stuck r hr]; exact hr), hf.stuck r hr]
  · obtain ⟨a, ha⟩ := hf.left r
    obtain ⟨b, hb⟩ := (hg (f r).1).left (f r).2
    exact ⟨a + b, by rw [bind_eq, hb, ha, List.drop_drop]⟩
  · rw [bind_eq, hf.erase, (hg _).erase]; rfl
  · rw [bind_eq] at h ⊢
    rw [hf.ext r u ((hg _).good h)]
    rw [(hg _).ext _ _ h]; rfl
theorem nice_take (fit : ByteArray → Nat → Bool) : Nice (take fit) := by
  refine ⟨fun r hr => ?_, fun r => ?_, fun r => ?_, fun r u h => ?_⟩
  · unfold take; rw [if_pos hr]
  · obtain ⟨l, s⟩ := r
    unfold take
    cases s with
    | true => exact ⟨0, rfl⟩
    | false =>
      cases l with
      | nil => exact ⟨0, rfl⟩
      | cons t l =>
        simp only [Bool.false_eq_true, if_false]
        split
        · exact ⟨1, rfl⟩
        · exact ⟨0, rfl⟩
  · obtain ⟨l, s⟩ := r
    unfold take R.erase
    cases s with
    | true => rfl
    | false =>
      cases l with
      | nil => rfl
      | cons t l =>
        simp only [Bool.false_eq_true, if_false, List.map_cons]
        by_cases hf : fit t.text t.kind = true
        · rw [if_pos (show fit (Tk.erase t).text (Tk.erase t).kind = true from hf), if_pos hf]; rfl
        · rw [if_neg (show ¬ fit (Tk.erase t).text (Tk.erase t).kind = true from hf), if_neg hf]; rfl
  · obtain ⟨l, s⟩ := r
    unfold take R.more at *
    cases s with
    | true => rfl
    | false =>
      cases l with
      | nil => rcases h with h | h
               · cases h
               · exact absurd rfl h
      | cons t l =>
        simp only [Bool.false_eq_true, if_false, List.cons_append]
        split <;> rfl
theorem nice_one (of : List ByteArray) : Nice (one of) := nice_bind (nice_take _) fun _ => nice_ret _
theorem nice_name : Nice name := nice_bind (nice_take _) fun _ => nice_ret _
theorem nice_number : Nice number := nice_bind (nice_take _) fun _ => nice_ret _

/-- A reader that, not being stuck, takes a token or becomes stuck. -/
def Takes {α : Type} (f : M α) : Prop := ∀ r, r.stuck = false → (f r).2.stuck = true ∨ (f r).2.left.length < r.left.length
theorem takes_bind {α β : Type} {f : M α} {g : α → M β} (hf : Takes f) (hg : ∀ a, Nice (g a)) : Takes (bind f g) := fun r hr => by
  rw [bind_eq]
  rcases hf r hr with h | h
  · left; rw [(hg _).stuck _ h]; exact h
  · right; have := (hg (f r).1).len (f r).2; omega
theorem takes_take (fit : ByteArray → Nat → Bool) : Takes (take fit) := by
  intro r hr
  obtain ⟨l, s⟩ := r
  cases hr
  unfold take
  cases l with
  | nil => exact .inl rfl
  | cons t l =>
    simp only [Bool.false_eq_true, if_false]
    split
    · right; simp
    · left; rfl
theorem takes_one (of : List ByteArray) : Takes (one of) := takes_bind (takes_take _) fun _ => nice_ret _
theorem takes_name : Takes name := takes_bind (takes_take _) fun _ => nice_ret _
theorem takes_number : Takes number := takes_bind (takes_take _) fun _ => nice_ret _

/-! ### the words -/
def kModule : ByteArray := ⟨#[109, 111, 100, 117, 108, 101]⟩
def kRecord : ByteArray := ⟨#[114, 101, 99, 111, 114, 100]⟩
def kChoice : ByteArray := ⟨#[99, 104, 111, 105, 99, 101]⟩
def kService : ByteArray := ⟨#[115, 101, 114, 118, 105, 99, 101]⟩
def kSaga : ByteArray := ⟨#[115, 97, 103, 97]⟩
def kDo : ByteArray := ⟨#[100, 111]⟩
def kAt : ByteArray := ⟨#[97, 116]⟩
def kUndo : ByteArray := ⟨#[117, 110, 100, 111]⟩
def kGive : ByteArray := ⟨#[103, 105, 118, 101]⟩
def kTake : ByteArray := ⟨#[116, 97, 107, 101]⟩
def kNote : ByteArray := ⟨#[110, 111, 116, 101]⟩
def kNone : ByteArray := ⟨#[110, 111, 110, 101]⟩
def kBool : ByteArray := ⟨#[98, 111, 111, 108]⟩
def kInt : ByteArray := ⟨#[105, 110, 116]⟩
def kText : ByteArray := ⟨#[116, 101, 120, 116]⟩
def kList : ByteArray := ⟨#[108, 105, 115, 116]⟩
def kOpt : ByteArray := ⟨#[111, 112, 116]⟩
def sOpen : ByteArray := ⟨#[123]⟩
def sShut : ByteArray := ⟨#[125]⟩
def sIn : ByteArray := ⟨#[40]⟩
def sOut : ByteArray := ⟨#[41]⟩
def sSemi : ByteArray := ⟨#[59]⟩
def sColon : ByteArray := ⟨#[58]⟩
def sDot : ByteArray := ⟨#[46]⟩
def sArrow : ByteArray := ⟨#[45, 62]⟩

/-- The kind that a keyword means. -/
def meant (s : ByteArray) : Nat := if eqB s kNone then 1 else if eqB s kBool then 2 else if eqB s kInt then 3 else if eqB s kText then 4 else if eqB s kList then 5 else if eqB s kOpt then 6 else 0
def sort : M So := bind (take fun s _ => decide (meant s ≠ 0) || Tk.name s) fun p => ret (if meant p.1 = 0 then ⟨7, p.1⟩ else ⟨meant p.1, ⟨#[]⟩⟩)
theorem nice_sort : Nice sort := nice_bind (nice_take _) fun _ => nice_ret _
theorem takes_sort : Takes sort := takes_bind (takes_take _) fun _ => nice_ret _
theorem meant_none : meant ⟨#[]⟩ = 0 := by decide
/-- Is this a sort that is about another one? -/
def So.goes (s : So) : Bool := decide (s.kind = 5) || decide (s.kind = 6)
def sortsF : Nat → M (List So)
  | 0 => ret []
  | n + 1 => bind sort fun s => if s.goes then bind (sortsF n) fun l => ret (s :: l) else ret [s]
theorem nice_sortsF : ∀ n, Nice (sortsF n)
  | 0 => nice_ret _
  | n + 1 => nice_bind nice_sort fun s => by
    split
    · exact nice_bind (nice_sortsF n) fun _ => nice_ret _
    · exact nice_ret _
theorem sort_stuck {r : R} (h : (sort r).2.stuck = true) : (sort r).1.goes = false := by
  obtain ⟨l, s⟩ := r
  unfold sort bind take ret at *
  cases s with
  | true => rfl
  | false =>
    cases l with
    | nil => rfl
    | cons t l =>
      simp only [Bool.false_eq_true, if_false] at h ⊢
      split at h
      · cases h
      · rename_i hf
        rw [if_neg hf]; rfl
theorem sort_stuck0 {r : R} (h : r.stuck = true) : (sort r).1.goes = false := sort_stuck (by rw [nice_sort.stuck r h]; exact h)
theorem sortsF_more : ∀ (n m : Nat) (r : R), r.left.length < n → r.left.length < m → sortsF n r = sortsF m r
  | 0, _, _, h, _ => absurd h (Nat.not_lt_zero _)
  | _, 0, _, _, h => absurd h (Nat.not_lt_zero _)
  | n + 1, m + 1, r, hn, hm => by
    unfold sortsF
    rw [bind_eq, bind_eq]
    cases hg : (sort r).1.goes with
    | false => simp
    | true =>
      simp only [if_true]
      rw [bind_eq, bind_eq]
      have hr : r.stuck = false := by
        cases hr : r.stuck with
        | false => rfl
        | true => rw [sort_stuck0 hr] at hg; cases hg
      have hlt : (sort r).2.left.length < r.left.length := by
        rcases takes_sort r hr with h | h
        · rw [sort_stuck h] at hg; cases hg
        · exact h
      rw [sortsF_more n m _ (by omega) (by omega)]
def sorts : M (List So) := fun r => sortsF (r.left.length + 1) r
theorem sorts_eq (r : R) : sorts r = if (sort r).1.goes then ((sort r).1 :: (sorts (sort r).2).1, (sorts (sort r).2).2) else ([(sort r).1], (sort r).2) := by
  show sortsF (r.left.length + 1) r = _
  conv => lhs; unfold sortsF
  rw [bind_eq]
  cases hg : (sort r).1.goes with
  | false => simp [ret]
  | true =>
    simp only [if_true]
    rw [bind_eq]
    have hr : r.stuck = false := by
      cases hr : r.stuck with
      | false => rfl
      | true => rw [sort_stuck0 hr] at hg; cases hg
    have hlt : (sort r).2.left.length < r.left.length := by
      rcases takes_sort r hr with h | h
      · rw [sort_stuck h] at hg; cases hg
      · exact h
    rw [sortsF_more r.left.length ((sort r).2.left.length + 1) _ (by omega) (by omega)]
    rfl
theorem nice_of_eq {α : Type} {f : M α} (g : Nat → M α) (hg : ∀ n, Nice (g n)) (h : ∀ n r, r.left.length < n → f r = g n r) : Nice f := by
  refine ⟨fun r hr => ?_, fun r => ?_, fun r => ?_, fun r u hgd => ?_⟩
  · rw [h (r.left.length + 1) r (by omega)]; exact (hg _).stuck r hr
  · rw [h (r.left.length + 1) r (by omega)]; exact (hg _).left r
  · rw [h (r.left.length + 1) r (by omega), h (r.left.length + 1) r.erase (by simp [R.erase])]; exact (hg _).erase r
  · rw [h (r.left.length + u.length + 1) r (by omega)] at hgd ⊢
    rw [h (r.left.length + u.length + 1) (r.more u) (by simp [R.more])]; exact (hg _).ext r u hgd
theorem nice_sorts : Nice sorts := nice_of_eq sortsF nice_sortsF fun n r h => sortsF_more _ _ r (by omega) h

/-- Is the next token a closing brace? -/
def closes (r : R) : Bool := !r.stuck && eqB (ahead r) sShut
def shut (r : R) : R := ⟨r.left.drop 1, false⟩
def loopF {α : Type} (read : M α) : Nat → M (List α)
  | 0 => ret []
  | n + 1 => fun r => if r.stuck then ([], r) else if closes r then ([], shut r) else ((read r).1 :: (loopF read n (read r).2).1, (loopF read n (read r).2).2)
theorem loopF_t {α : Type} (read : M α) (n : Nat) (r : R) : loopF read (n + 1) r = if r.stuck then ([], r) else if closes r then ([], shut r) else ((read r).1 :: (loopF read n (read r).2).1, (loopF read n (read r).2).2) := rfl
theorem loopF_stuck {α : Type} {read : M α} {n : Nat} {r : R} (h : r.stuck = true) : loopF read n r = ([], r) := by
  cases n with
  | zero => rfl
  | succ n => rw [loopF_t, if_pos h]
theorem loopF_more {α : Type} {read : M α} (ht : Takes read) : ∀ (n m : Nat) (r : R), r.left.length < n → r.left.length < m → loopF read n r = loopF read m r
  | 0, _, _, h, _ => absurd h (Nat.not_lt_zero _)
  | _, 0, _, _, h => absurd h (Nat.not_lt_zero _)
  | n + 1, m + 1, r, hn, hm => by
    rw [loopF_t, loopF_t]
    cases hr : r.stuck with
    | true => rfl
    | false =>
      have : loopF read n (read r).2 = loopF read m (read r).2 := by
        rcases ht r hr with h | h
        · rw [loopF_stuck h, loopF_stuck h]
        · exact loopF_more ht n m _ (by omega) (by omega)
      rw [this]
theorem closes_nil : closes ⟨[], false⟩ = false := by decide
theorem closes_cons (t : Token) (l : List Token) : closes ⟨t :: l, false⟩ = eqB t.text sShut := by simp [closes, ahead]
theorem nice_loopF {α : Type} {read : M α} (hn : Nice read) (ht : Takes read) : ∀ n, Nice (loopF read n)
  | 0 => nice_ret _
  | n + 1 => by
    have ih := nice_loopF hn ht n
    refine ⟨fun r hr => ?_, fun r => ?_, fun r => ?_, fun r u h => ?_⟩
    · rw [loopF_stuck hr]
    · rw [loopF_t]
      split
      · exact ⟨0, rfl⟩
      · split
        · exact ⟨1, rfl⟩
        · obtain ⟨a, ha⟩ := hn.left r
          obtain ⟨b, hb⟩ := ih.left (read r).2
          exact ⟨a + b, by rw [hb, ha, List.drop_drop]⟩
    · rw [loopF_t, loopF_t]
      obtain ⟨l, s⟩ := r
      cases s with
      | true => rfl
      | false =>
        have hc : closes (R.erase ⟨l, false⟩) = closes ⟨l, false⟩ := by cases l <;> rfl
        rw [hc, show (R.erase ⟨l, false⟩).stuck = false from rfl]
        simp only [Bool.false_eq_true, if_false]
        split
        · simp [shut, R.erase]
        · rw [hn.erase, ih.erase]
    · rw [loopF_t] at h
      rw [loopF_t, loopF_t]
      obtain ⟨l, s⟩ := r
      cases s with
      | true => rfl
      | false =>
        rw [show (R.more ⟨l, false⟩ u).stuck = false from rfl]
        simp only [Bool.false_eq_true, if_false] at h ⊢
        cases l with
        | nil =>
          exfalso
          rw [closes_nil] at h
          simp only [Bool.false_eq_true, if_false] at h
          have hs : (read ⟨[], false⟩).2.stuck = true := by
            rcases ht ⟨[], false⟩ rfl with e | e
            · exact e
            · exact absurd e (Nat.not_lt_zero _)
          rw [loopF_stuck hs] at h
          rcases h with h | h
          · rw [hs] at h; cases h
          · obtain ⟨k, hk⟩ := hn.left ⟨[], false⟩
            rw [hk] at h; exact h List.drop_nil
        | cons t l =>
          have e : R.more ⟨t :: l, false⟩ u = ⟨t :: (l ++ u), false⟩ := rfl
          have hc : closes (R.more ⟨t :: l, false⟩ u) = closes ⟨t :: l, false⟩ := by rw [e, closes_cons, closes_cons]
          rw [hc]
          split
          · rfl
          · rename_i hcl
            rw [if_neg hcl] at h
            rw [hn.ext _ u (ih.good h), ih.ext _ u h]
def loop {α : Type} (read : M α) : M (List α) := fun r => loopF read (r.left.length + 1) r
theorem loop_eq {α : Type} {read : M α} (hn : Nice read) (ht : Takes read) (r : R) : loop read r = if r.stuck then ([], r) else if closes r then ([], shut r) else ((read r).1 :: (loop read (read r).2).1, (loop read (read r).2).2) := by
  show loopF read (r.left.length + 1) r = _
  rw [loopF_t]
  cases hr : r.stuck with
  | true => rfl
  | false =>
    have : loopF read r.left.length (read r).2 = loop read (read r).2 := by
      rcases ht r hr with h | h
      · unfold loop; rw [loopF_stuck h, loopF_stuck h]
      · exact loopF_more ht _ _ _ (by omega) (by omega)
    rw [this]
theorem nice_loop {α : Type} {read : M α} (hn : Nice read) (ht : Takes read) : Nice (loop read) := nice_of_eq (loopF read) (nice_loopF hn ht) fun n r h => loopF_more ht _ _ r (by omega) h
def braced {α : Type} (read : M α) : M (List α) := bind (one [sOpen]) fun _ => loop read
theorem nice_braced {α : Type} {read : M α} (hn : Nice read) (ht : Takes read) : Nice (braced read) := nice_bind (nice_one _) fun _ => nice_loop hn ht

/-! ### the grammar -/
def argument : M ByteArray := bind (one [sIn]) fun _ => bind name fun n => bind (one [sOut]) fun _ => ret n
theorem nice_argument : Nice argument := nice_bind (nice_one _) fun _ => nice_bind nice_name fun _ => nice_bind (nice_one _) fun _ => nice_ret _
def field : M Fld := bind name fun n => bind (one [sColon]) fun _ => bind sorts fun t => bind (one [sSemi]) fun _ => ret ⟨n, t⟩
theorem nice_field : Nice field := nice_bind nice_name fun _ => nice_bind (nice_one _) fun _ => nice_bind nice_sorts fun _ => nice_bind (nice_one _) fun _ => nice_ret _
theorem takes_field : Takes field := takes_bind takes_name fun _ => nice_bind (nice_one _) fun _ => nice_bind nice_sorts fun _ => nice_bind (nice_one _) fun _ => nice_ret _
def record (choice : Bool) : M Rcd := bind name fun n => bind (braced field) fun l => ret ⟨n, choice, l⟩
theorem nice_record (c : Bool) : Nice (record c) := nice_bind nice_name fun _ => nice_bind (nice_braced nice_field takes_field) fun _ => nice_ret _
/-- What may stand behind a method's result, and the sign that ends it. -/
def undo : M ByteArray := bind (one [kUndo, sSemi]) fun w => if eqB w kUndo then bind name fun n => bind (one [sSemi]) fun _ => ret n else ret ⟨#[]⟩
theorem nice_undo : Nice undo := nice_bind (nice_one _) fun _ => by
  split
  · exact nice_bind nice_name fun _ => nice_bind (nice_one _) fun _ => nice_ret _
  · exact nice_ret _
def method : M Mth := bind (one [kGive, kTake, kNote]) fun e => bind name fun n => bind argument fun a => bind (one [sArrow]) fun _ => bind (one [kInt, kNone]) fun k => bind undo fun u => ret ⟨n, a, meant k, e, u⟩
theorem nice_method0 (e : ByteArray) : Nice (bind name fun n => bind argument fun a => bind (one [sArrow]) fun _ => bind (one [kInt, kNone]) fun k => bind undo fun u => ret (⟨n, a, meant k, e, u⟩ : Mth)) :=
  nice_bind nice_name fun _ => nice_bind nice_argument fun _ => nice_bind (nice_one _) fun _ => nice_bind (nice_one _) fun _ => nice_bind nice_undo fun _ => nice_ret _
theorem nice_method : Nice method := nice_bind (nice_one _) nice_method0
theorem takes_method : Takes method := takes_bind (takes_one _) nice_method0
def service : M Srv := bind name fun n => bind (braced method) fun l => ret ⟨n, l⟩
theorem nice_service : Nice service := nice_bind nice_name fun _ => nice_bind (nice_braced nice_method takes_method) fun _ => nice_ret _
def step : M Stp := bind (one [kDo]) fun _ => bind name fun s => bind (one [sDot]) fun _ => bind name fun m => bind (one [kAt]) fun _ => bind number fun a => bind (one [sSemi]) fun _ => ret ⟨s, m, a⟩
theorem nice_step0 : Nice (bind name fun s => bind (one [sDot]) fun _ => bind name fun m => bind (one [kAt]) fun _ => bind number fun a => bind (one [sSemi]) fun _ => ret (⟨s, m, a⟩ : Stp)) :=
  nice_bind nice_name fun _ => nice_bind (nice_one _) fun _ => nice_bind nice_name fun _ => nice_bind (nice_one _) fun _ => nice_bind nice_number fun _ => nice_bind (nice_one _) fun _ => nice_ret _
theorem nice_step : Nice step := nice_bind (nice_one _) fun _ => nice_step0
theorem takes_step : Takes step := takes_bind (takes_one _) fun _ => nice_step0
def saga : M Sga := bind name fun n => bind argument fun a => bind (braced step) fun l => ret ⟨n, a, l⟩
theorem nice_saga : Nice saga := nice_bind nice_name fun _ => nice_bind nice_argument fun _ => nice_bind (nice_braced nice_step takes_step) fun _ => nice_ret _
/-- A declaration, put behind those of its kind. -/
def declareW (s : Sch) (w : ByteArray) : M Sch :=
  if eqB w kRecord then bind (record false) fun x => ret { s with records := s.records ++ [x] }
  else if eqB w kChoice then bind (record true) fun x => ret { s with records := s.records ++ [x] }
  else if eqB w kService then bind service fun x => ret { s with services := s.services ++ [x] }
  else if eqB w kSaga then bind saga fun x => ret { s with sagas := s.sagas ++ [x] }
  else ret s
theorem nice_declareW (s : Sch) (w : ByteArray) : Nice (declareW s w) := by
  unfold declareW
  split
  · exact nice_bind (nice_record _) fun _ => nice_ret _
  · split
    · exact nice_bind (nice_record _) fun _ => nice_ret _
    · split
      · exact nice_bind nice_service fun _ => nice_ret _
      · split
        · exact nice_bind nice_saga fun _ => nice_ret _
        · exact nice_ret _
def declare (s : Sch) : M Sch := bind (one [kRecord, kChoice, kService, kSaga]) fun w => declareW s w
theorem nice_declare (s : Sch) : Nice (declare s) := nice_bind (nice_one _) (nice_declareW s)
theorem takes_declare (s : Sch) : Takes (declare s) := takes_bind (takes_one _) (nice_declareW s)
/-- Is there no token that could be taken? -/
def ends (r : R) : Bool := eqB (ahead r) ⟨#[]⟩
def declsF : Nat → Sch → M Sch
  | 0, s => ret s
  | n + 1, s => fun r => if ends r then (s, r) else declsF n (declare s r).1 (declare s r).2
theorem declsF_t (n : Nat) (s : Sch) (r : R) : declsF (n + 1) s r = if ends r then (s, r) else declsF n (declare s r).1 (declare s r).2 := rfl
theorem ends_stuck {r : R} (h : r.stuck = true) : ends r = true := by unfold ends ahead; rw [if_pos h]; decide
theorem ends_nil {r : R} (h : r.left = []) : ends r = true := by obtain ⟨l, s⟩ := r; cases h; cases s <;> decide
theorem declsF_end {n : Nat} {s : Sch} {r : R} (h : ends r = true) : declsF n s r = (s, r) := by
  cases n with
  | zero => rfl
  | succ n => rw [declsF_t, if_pos h]
theorem not_ends {r : R} (h : ends r = false) : r.stuck = false := by
  cases hr : r.stuck with
  | false => rfl
  | true => rw [ends_stuck hr] at h; cases h
theorem declsF_more : ∀ (n m : Nat) (s : Sch) (r : R), r.left.length < n → r.left.length < m → declsF n s r = declsF m s r
  | 0, _, _, _, h, _ => absurd h (Nat.not_lt_zero _)
  | _, 0, _, _, _, h => absurd h (Nat.not_lt_zero _)
  | n + 1, m + 1, s, r, hn, hm => by
    rw [declsF_t, declsF_t]
    cases he : ends r with
    | true => rfl
    | false =>
      simp only [Bool.false_eq_true, if_false]
      rcases takes_declare s r (not_ends he) with h | h
      · rw [declsF_end (ends_stuck h), declsF_end (ends_stuck h)]
      · exact declsF_more n m _ _ (by omega) (by omega)
def decls (s : Sch) : M Sch := fun r => declsF (r.left.length + 1) s r
theorem decls_eq (s : Sch) (r : R) : decls s r = if ends r then (s, r) else decls (declare s r).1 (declare s r).2 := by
  show declsF (r.left.length + 1) s r = _
  rw [declsF_t]
  cases he : ends r with
  | true => rfl
  | false =>
    simp only [Bool.false_eq_true, if_false]
    rcases takes_declare s r (not_ends he) with h | h
    · unfold decls; rw [declsF_end (ends_stuck h), declsF_end (ends_stuck h)]
    · exact declsF_more _ _ _ _ (by omega) (by omega)
def head : M ByteArray := bind (one [kModule]) fun _ => bind name fun n => bind (one [sSemi]) fun _ => ret n
theorem nice_head : Nice head := nice_bind (nice_one _) fun _ => nice_bind nice_name fun _ => nice_bind (nice_one _) fun _ => nice_ret _
def schema : M Sch := bind head fun n => decls ⟨n, [], [], []⟩
/-- What a text is, which is to have nothing behind it: or the first fault's place, and its number. -/
def whole {α : Type} (f : M α) (z : α) (t : List UInt8) : α × Int × Nat := match Tk.all 0 t with
  | .no a e => (z, (a : Nat), e)
  | .ok ts => match (f ⟨ts, false⟩).2.left with
    | t :: _ => (z, t.pos, 120)
    | [] => if (f ⟨ts, false⟩).2.stuck then (z, (t.length : Nat), 120) else ((f ⟨ts, false⟩).1, 0, 0)
def parse (t : List UInt8) : Sch × Int × Nat := whole schema Sch.zero t
def type (t : List UInt8) : List So × Int × Nat := whole sorts [] t
end Ip
namespace Tk
theorem all_remark {a : Nat} {l : List UInt8} (h : two 47 47 l = true) : all a l = all (a + line l) (l.drop (line l)) := by
  rw [all_skip a l, all_skip (a + line l), skip_remark h, List.drop_drop]
  congr 1; omega
/-- What the law puts behind each token. -/
def sep : List UInt8 := [10, 47, 47, 32, 120, 32, 123, 32, 59, 10, 9]
def spaced (ts : List Token) : List UInt8 := ts.flatMap fun t => t.text.data.toList ++ sep
theorem spaced_len (ts : List Token) : (spaced ts).length = sizes ts + 11 * ts.length := by
  induction ts with
  | nil => rfl
  | cons t r ih =>
    have hl : t.text.data.toList.length = t.text.size := by rw [Array.length_toList]; rfl
    have hc : spaced (t :: r) = (t.text.data.toList ++ sep) ++ spaced r := by unfold spaced; rw [List.flatMap_cons]
    rw [hc, List.length_append, List.length_append, ih, hl]
    unfold sizes
    rw [List.map_cons, List.sum_cons, List.length_cons]
    show t.text.size + 11 + _ = _
    omega
theorem all_sep (a : Nat) (r : List UInt8) : all a (sep ++ r) = all (a + 11) r := by
  show all a (10 :: 47 :: 47 :: 32 :: 120 :: 32 :: 123 :: 32 :: 59 :: 10 :: 9 :: r) = _
  rw [all_blank (by decide), all_remark (by rfl)]
  have hl : line (47 :: 47 :: 32 :: 120 :: 32 :: 123 :: 32 :: 59 :: 10 :: 9 :: r) = 8 := by simp [line, run, noLine]
  rw [hl]
  show all (a + 1 + 8) (10 :: 9 :: r) = _
  rw [all_blank (by decide), all_blank (by decide)]
theorem all_spaced : ∀ (ts : List Token) (a : Nat), (∀ t ∈ ts, wrong t = false) → ∃ us, all a (spaced ts) = .ok us ∧ us.map erase = ts.map erase
  | [], a, _ => ⟨[], rfl, rfl⟩
  | t :: r, a, h => by
    obtain ⟨hf, h0⟩ := not_wrong (h t (List.mem_cons_self ..))
    have hne : t.text.data.toList ≠ [] := fun e => by have := first_len hf; rw [e] at this; simp at this
    have herase : erase ⟨t.kind, bs t.text.data.toList, (t.num.toNat : Nat), (a : Nat)⟩ = erase t := by
      unfold erase
      simp only [Token.mk.injEq, true_and, and_true]
      exact ⟨rfl, by omega⟩
    have hc : spaced (t :: r) = t.text.data.toList ++ (sep ++ spaced r) := by unfold spaced; rw [List.flatMap_cons, List.append_assoc]
    have hf2 : first (t.text.data.toList ++ (sep ++ spaced r)) = .tok t.kind t.text.data.toList.length t.num.toNat := by
      show first (t.text.data.toList ++ 10 :: _) = _
      rw [first_append (by decide) (by decide) hne]; exact hf
    obtain ⟨us, h1, h2⟩ := all_spaced r (a + t.text.data.toList.length + 11) fun u hu => h u (List.mem_cons_of_mem _ hu)
    rw [hc, all_tok (first_skip hf2) (by simp [hne]) hf2, List.drop_left, List.take_left, all_sep, h1]
    exact ⟨_, rfl, by rw [List.cons_append, List.nil_append, List.map_cons, List.map_cons, herase, h2]⟩
/-- Which token stands at a place: how many there are, if none does. -/
def numAt (ts : List Token) (p : Int) : Nat := ts.findIdx fun t => t.pos == p
theorem chain_lo {full : List UInt8} : ∀ {ts : List Token} {e : Nat}, Chain full e ts → ∀ t ∈ ts, (e : Int) ≤ t.pos ∧ t.pos < (full.length : Nat)
  | [], _, _, t, ht => by cases ht
  | u :: r, e, ⟨p, h1, h2, h3, h4, h5, h6⟩, t, ht => by
    rcases List.mem_cons.1 ht with rfl | ht
    · rw [h1]; omega
    · have := chain_lo h6 t ht; omega
theorem chain_at {full : List UInt8} : ∀ {ts : List Token} {e : Nat}, Chain full e ts → ∀ k, (hk : k < ts.length) → numAt ts ts[k].pos = k
  | [], _, _, k, hk => absurd hk (Nat.not_lt_zero _)
  | u :: r, e, ⟨p, h1, h2, h3, h4, h5, h6⟩, k, hk => by
    unfold numAt
    rw [List.findIdx_cons]
    cases k with
    | zero => simp
    | succ k =>
      have hk' : k < r.length := by simpa using hk
      have hlo := chain_lo h6 r[k] (List.getElem_mem hk')
      have hne : (u.pos == (u :: r)[k + 1].pos) = false := by
        rw [beq_eq_false_iff_ne, List.getElem_cons_succ, h1]; omega
      have ih := chain_at h6 k hk'
      unfold numAt at ih
      rw [hne, List.getElem_cons_succ, ih]; rfl
theorem chain_end {full : List UInt8} {ts : List Token} {e : Nat} (h : Chain full e ts) : numAt ts (full.length : Nat) = ts.length := by
  unfold numAt
  rw [List.findIdx_eq_length]
  intro t ht
  have := chain_lo h t ht
  simp only [beq_eq_false_iff_ne]; omega
theorem chain_of {t : List UInt8} {ts : List Token} (h : all 0 t = .ok ts) : Chain t 0 ts := by
  have := all_chain t t.length 0 0 (by omega) (Nat.zero_le _) (Nat.le_refl _)
  rw [List.drop_zero, h] at this; exact this
end Tk
namespace Ip
open Tk (Token)
theorem declsF_left : ∀ (n : Nat) (s : Sch) (r : R), ∃ k, (declsF n s r).2.left = r.left.drop k
  | 0, s, r => ⟨0, rfl⟩
  | n + 1, s, r => by
    rw [declsF_t]
    split
    · exact ⟨0, rfl⟩
    · obtain ⟨a, ha⟩ := (nice_declare s).left r
      obtain ⟨b, hb⟩ := declsF_left n (declare s r).1 (declare s r).2
      exact ⟨a + b, by rw [hb, ha, List.drop_drop]⟩
theorem ends_erase (r : R) : ends r.erase = ends r := by obtain ⟨l, s⟩ := r; cases s <;> cases l <;> rfl
theorem declsF_erase : ∀ (n : Nat) (s : Sch) (r : R), declsF n s r.erase = ((declsF n s r).1, (declsF n s r).2.erase)
  | 0, s, r => rfl
  | n + 1, s, r => by
    rw [declsF_t, declsF_t, ends_erase]
    split
    · rfl
    · rw [(nice_declare s).erase]; exact declsF_erase n _ _
theorem declsF_ext : ∀ (n : Nat) (s : Sch) (r : R) (u : List Token), (declsF n s r).2.left ≠ [] → declsF n s (r.more u) = ((declsF n s r).1, (declsF n s r).2.more u)
  | 0, s, r, u, _ => rfl
  | n + 1, s, r, u, h => by
    rw [declsF_t] at h
    have hr : r.left ≠ [] := by
      intro e
      rw [ends_nil e, if_pos rfl] at h; exact h e
    have he : ends (r.more u) = ends r := by
      obtain ⟨l, st⟩ := r
      cases l with
      | nil => exact absurd rfl hr
      | cons t l => cases st <;> rfl
    rw [declsF_t, declsF_t, he]
    split
    · rfl
    · rename_i hh
      rw [if_neg hh] at h
      have hg : Good (declare s r).2 := .inr fun e => by
        obtain ⟨k, hk⟩ := declsF_left n (declare s r).1 (declare s r).2
        rw [hk, e] at h; exact h List.drop_nil
      rw [(nice_declare s).ext r u hg]
      exact declsF_ext n _ _ u h
/-- A text that is read goes on to be read. -/
theorem declsF_on : ∀ (n : Nat) (s : Sch) (r : R) (u : List Token), r.left.length < n → (declsF n s r).2 = ⟨[], false⟩ → declsF (n + u.length) s (r.more u) = decls (declsF n s r).1 ⟨u, false⟩
  | 0, s, r, u, h, _ => absurd h (Nat.not_lt_zero _)
  | n + 1, s, r, u, hn, h => by
    rw [declsF_t] at h ⊢
    by_cases hr : ends r = true
    · rw [if_pos hr] at h ⊢
      subst h
      rw [show R.more ⟨[], false⟩ u = ⟨u, false⟩ from rfl]
      exact declsF_more (n + 1 + u.length) (u.length + 1) s ⟨u, false⟩ (by show u.length < n + 1 + u.length; omega) (by show u.length < u.length + 1; omega)
    · rw [if_neg hr] at h ⊢
      have hr' : ends r = false := by simpa using hr
      have hst : (declare s r).2.stuck = false := by
        cases hd : (declare s r).2.stuck with
        | false => rfl
        | true => rw [declsF_end (ends_stuck hd)] at h; simp only at h; rw [h] at hd; cases hd
      have hlt : (declare s r).2.left.length < r.left.length := by
        rcases takes_declare s r (not_ends hr') with e | e
        · rw [hst] at e; cases e
        · exact e
      have he : ends (r.more u) = false := by
        obtain ⟨l, st⟩ := r
        cases l with
        | nil => rw [ends_nil rfl] at hr'; cases hr'
        | cons t l => rw [← hr']; cases st <;> rfl
      rw [show n + 1 + u.length = (n + u.length) + 1 by omega, declsF_t, he]
      simp only [Bool.false_eq_true, if_false]
      rw [(nice_declare s).ext r u (.inl hst)]
      exact declsF_on n _ _ u (by omega) h
def plus (s t : Sch) : Sch := ⟨s.name, s.records ++ t.records, s.services ++ t.services, s.sagas ++ t.sagas⟩
theorem declareW_plus (s t : Sch) (w : ByteArray) (r : R) : declareW (plus s t) w r = (plus s (declareW t w r).1, (declareW t w r).2) := by
  unfold declareW
  split
  · rw [bind_eq, bind_eq, ret_eq, ret_eq]; unfold plus; simp only [List.append_assoc]
  · split
    · rw [bind_eq, bind_eq, ret_eq, ret_eq]; unfold plus; simp only [List.append_assoc]
    · split
      · rw [bind_eq, bind_eq, ret_eq, ret_eq]; unfold plus; simp only [List.append_assoc]
      · split
        · rw [bind_eq, bind_eq, ret_eq, ret_eq]; unfold plus; simp only [List.append_assoc]
        · rfl
theorem declsF_plus : ∀ (n : Nat) (s t : Sch) (r : R), declsF n (plus s t) r = (plus s (declsF n t r).1, (declsF n t r).2)
  | 0, s, t, r => rfl
  | n + 1, s, t, r => by
    rw [declsF_t, declsF_t]
    split
    · rfl
    · have : declare (plus s t) r = (plus s (declare t r).1, (declare t r).2) := by
        unfold declare; rw [bind_eq, bind_eq, declareW_plus]
      rw [this]
      exact declsF_plus n s _ _
theorem plus_nil (s : Sch) (n : ByteArray) : plus s ⟨n, [], [], []⟩ = s := by
  obtain ⟨a, b, c, d⟩ := s
  unfold plus; simp

theorem schema_eq (r : R) : schema r = decls ⟨(head r).1, [], [], []⟩ (head r).2 := rfl
theorem decls_fuel (n : Nat) (s : Sch) (r : R) (h : r.left.length < n) : decls s r = declsF n s r := declsF_more _ _ _ _ (Nat.lt_succ_self _) h
theorem schema_left (r : R) : ∃ k, (schema r).2.left = r.left.drop k := by
  obtain ⟨a, ha⟩ := nice_head.left r
  obtain ⟨b, hb⟩ := declsF_left ((head r).2.left.length + 1) ⟨(head r).1, [], [], []⟩ (head r).2
  exact ⟨a + b, by rw [schema_eq]; show (declsF _ _ _).2.left = _; rw [hb, ha, List.drop_drop]⟩
theorem schema_erase (r : R) : schema r.erase = ((schema r).1, (schema r).2.erase) := by
  rw [schema_eq, schema_eq, nice_head.erase]
  show declsF _ _ _ = _
  rw [show ((head r).2.erase).left.length = (head r).2.left.length by simp [R.erase], declsF_erase]; rfl
theorem schema_ext (r : R) (u : List Token) (h : (schema r).2.left ≠ []) : schema (r.more u) = ((schema r).1, (schema r).2.more u) := by
  rw [schema_eq] at h
  have hd := decls_fuel ((head r).2.left.length + u.length + 1) ⟨(head r).1, [], [], []⟩ (head r).2 (by omega)
  rw [hd] at h
  have hg : Good (head r).2 := .inr fun e => by
    obtain ⟨k, hk⟩ := declsF_left ((head r).2.left.length + u.length + 1) ⟨(head r).1, [], [], []⟩ (head r).2
    rw [hk, e] at h; exact h List.drop_nil
  rw [schema_eq, schema_eq, nice_head.ext r u hg, decls_fuel ((head r).2.left.length + u.length + 1) _ ((head r).2.more u) (by simp [R.more]), declsF_ext _ _ _ u h, hd]
theorem schema_on (r : R) (u : List Token) (h : (schema r).2 = ⟨[], false⟩) : schema (r.more u) = decls (schema r).1 ⟨u, false⟩ := by
  rw [schema_eq] at h ⊢
  have hs : (head r).2.stuck = false := by
    cases hd : (head r).2.stuck with
    | false => rfl
    | true => unfold decls at h; rw [declsF_end (ends_stuck hd)] at h; simp only at h; rw [h] at hd; cases hd
  rw [nice_head.ext r u (.inl hs), decls_fuel ((head r).2.left.length + 1 + u.length) _ ((head r).2.more u) (by simp [R.more] <;> omega)]
  exact declsF_on _ _ _ u (Nat.lt_succ_self _) h
theorem whole_ok {α : Type} (f : M α) (z : α) {t : List UInt8} {ts : List Token} (h : Tk.all 0 t = .ok ts) : whole f z t = match (f ⟨ts, false⟩).2.left with
    | t :: _ => (z, t.pos, 120)
    | [] => if (f ⟨ts, false⟩).2.stuck then (z, (t.length : Nat), 120) else ((f ⟨ts, false⟩).1, 0, 0) := by unfold whole; (simp only [h]) <;> (cases (f ⟨ts, false⟩).2.left <;> rfl)
theorem whole_no {α : Type} (f : M α) (z : α) {t : List UInt8} {a e : Nat} (h : Tk.all 0 t = .no a e) : whole f z t = (z, ((a : Nat) : Int), e) := by unfold whole; simp only [h]
/-- The same tokens, apart from where they stand. -/
theorem parse_alike {x y : List UInt8} {l m : List Token} (hl : Tk.all 0 x = .ok l) (hm : Tk.all 0 y = .ok m) (he : m.map Tk.erase = l.map Tk.erase) :
    (parse x).1 = (parse y).1 ∧ (parse x).2.2 = (parse y).2.2 ∧ ((parse x).2.2 = 0 → (parse x).2.1 = 0 ∧ (parse y).2.1 = 0) ∧ ((parse x).2.2 ≠ 0 → Tk.numAt l (parse x).2.1 = Tk.numAt m (parse y).2.1) := by
  have hcx := Tk.chain_of hl
  have hcy := Tk.chain_of hm
  have hlen : m.length = l.length := by have := congrArg List.length he; simpa using this
  have h1 := schema_erase ⟨l, false⟩
  have h2 := schema_erase ⟨m, false⟩
  have hee : R.erase ⟨m, false⟩ = R.erase ⟨l, false⟩ := by unfold R.erase; simp only; rw [he]
  rw [hee, h1] at h2
  obtain ⟨kx, hkx⟩ := schema_left ⟨l, false⟩
  obtain ⟨ky, hky⟩ := schema_left ⟨m, false⟩
  simp only [Prod.mk.injEq] at h2
  obtain ⟨h3, h4⟩ := h2
  have h5 : (schema ⟨l, false⟩).2.stuck = (schema ⟨m, false⟩).2.stuck := by have := congrArg R.stuck h4; exact this
  have h6 : (schema ⟨l, false⟩).2.left.length = (schema ⟨m, false⟩).2.left.length := by
    have := congrArg (fun r : R => r.left.length) h4
    simpa [R.erase] using this
  unfold parse
  rw [whole_ok _ _ hl, whole_ok _ _ hm]
  simp only at hkx hky
  rw [hkx, hky] at h6
  rw [List.length_drop, List.length_drop] at h6
  rw [hkx, hky, ← h3, ← h5]
  by_cases hk : kx < l.length
  · have hk2 : ky < m.length := by omega
    have hkk : kx = ky := by omega
    subst hkk
    rw [List.drop_eq_getElem_cons hk, List.drop_eq_getElem_cons hk2]
    simp only
    refine ⟨(by first | trivial | rfl), (by first | trivial | rfl), fun h => by simp at h, fun _ => ?_⟩
    rw [Tk.chain_at hcx _ hk, Tk.chain_at hcy _ hk2]
  · rw [List.drop_of_length_le (by omega), List.drop_of_length_le (by omega)]
    simp only
    split
    · refine ⟨(by first | trivial | rfl), (by first | trivial | rfl), fun h => by simp at h, fun _ => ?_⟩
      rw [Tk.chain_end hcx, Tk.chain_end hcy, hlen]
    · exact ⟨(by first | trivial | rfl), (by first | trivial | rfl), fun _ => ⟨(by first | trivial | rfl), (by first | trivial | rfl)⟩, fun h => absurd (by first | trivial | rfl) h⟩
theorem parse_no {x : List UInt8} {a e : Nat} (h : Tk.all 0 x = .no a e) : parse x = (Sch.zero, ((a : Nat) : Int), e) := whole_no _ _ h
/-- What stands behind the token of a fault makes no difference. -/
theorem parse_ahead {x y : List UInt8} {l m : List Token} (hl : Tk.all 0 x = .ok l) (hm : Tk.all 0 y = .ok m) (he : (parse x).2.2 = 120) (ha : (parse x).2.1 ≠ (x.length : Nat)) :
    parse (x ++ 10 :: y) = (Sch.zero, (parse x).2.1, 120) := by
  have h2 := Tk.all_two x y
  rw [hl, hm] at h2
  simp only [Tk.Out.shift, Tk.pre_ok] at h2
  unfold parse at he ha ⊢
  rw [whole_ok _ _ hl] at he ha ⊢
  rw [whole_ok _ _ h2]
  cases hq : (schema ⟨l, false⟩).2.left with
  | nil =>
    rw [hq] at he ha
    simp only at he ha
    split at he
    · rename_i hst
      rw [if_pos hst] at ha; exact absurd rfl ha
    · cases he
  | cons t r =>
    have := schema_ext ⟨l, false⟩ (m.map (Tk.shiftT (x.length + 1))) (by rw [hq]; simp)
    rw [show R.more ⟨l, false⟩ (m.map (Tk.shiftT (x.length + 1))) = ⟨l ++ m.map (Tk.shiftT (x.length + 1)), false⟩ from rfl] at this
    rw [this]
    simp only [R.more, hq, List.cons_append]
def headM : List UInt8 := [109, 111, 100, 117, 108, 101, 32, 109, 59]
theorem all_headM : Tk.all 0 headM = .ok [⟨1, ⟨#[109, 111, 100, 117, 108, 101]⟩, 0, 0⟩, ⟨1, ⟨#[109]⟩, 0, 7⟩, ⟨3, ⟨#[59]⟩, 0, 8⟩] := by rfl
theorem head_headM (u : List Token) : head ⟨[⟨1, ⟨#[109, 111, 100, 117, 108, 101]⟩, 0, 0⟩, ⟨1, ⟨#[109]⟩, 0, 7⟩, ⟨3, ⟨#[59]⟩, 0, 8⟩] ++ u, false⟩ = (⟨#[109]⟩, ⟨u, false⟩) := by rfl
theorem erase_shift (q : Nat) (m : List Token) : (m.map (Tk.shiftT q)).map Tk.erase = m.map Tk.erase := by
  rw [List.map_map]; rfl
/-- The declarations of another text, put behind. -/
theorem parse_more {x y : List UInt8} (hx : (parse x).2.2 = 0) (hy : (parse (headM ++ 10 :: y)).2.2 = 0) :
    parse (x ++ 10 :: y) = (plus (parse x).1 (parse (headM ++ 10 :: y)).1, 0, 0) := by
  have ok0 : ∀ {z : List UInt8}, (parse z).2.2 = 0 → ∃ l, Tk.all 0 z = .ok l ∧ (schema ⟨l, false⟩).2 = ⟨[], false⟩ ∧ parse z = ((schema ⟨l, false⟩).1, 0, 0) := by
    intro z hz
    cases hq : Tk.all 0 z with
    | no a e =>
      rw [parse_no hq] at hz
      have := Tk.all_err hq
      simp only at hz; omega
    | ok l =>
      refine ⟨l, rfl, ?_⟩
      unfold parse at hz ⊢
      rw [whole_ok _ _ hq] at hz ⊢
      cases hw : (schema ⟨l, false⟩).2.left with
      | cons t r => rw [hw] at hz; simp only at hz; omega
      | nil =>
        rw [hw] at hz
        simp only at hz ⊢
        split at hz
        · simp only at hz; omega
        · rename_i hst
          rw [if_neg hst]
          have hst' : (schema ⟨l, false⟩).2.stuck = false := by simpa using hst
          refine ⟨?_, rfl⟩
          generalize (schema ⟨l, false⟩).2 = q at *
          obtain ⟨a, b⟩ := q
          simp only at hw hst'
          rw [hw, hst']
  obtain ⟨l, hl, hs, hp⟩ := ok0 hx
  obtain ⟨n, hn, hsn, hpn⟩ := ok0 hy
  rw [Tk.all_two, all_headM] at hn
  cases hm : Tk.all 0 y with
  | no a e => rw [hm] at hn; simp only [Tk.Out.shift, Tk.pre_no] at hn; cases hn
  | ok m =>
    rw [hm] at hn
    simp only [Tk.Out.shift, Tk.pre_ok] at hn
    have h2 := Tk.all_two x y
    rw [hl, hm] at h2
    simp only [Tk.Out.shift, Tk.pre_ok] at h2
    have hn := Tk.Out.ok.inj hn
    have hsc : schema ⟨n, false⟩ = decls ⟨⟨#[109]⟩, [], [], []⟩ ⟨m.map (Tk.shiftT (headM.length + 1)), false⟩ := by rw [← hn, schema_eq, head_headM]
    rw [hsc] at hsn hpn
    rw [hp, hpn]
    unfold parse
    rw [whole_ok _ _ h2, show (⟨l ++ m.map (Tk.shiftT (x.length + 1)), false⟩ : R) = R.more ⟨l, false⟩ (m.map (Tk.shiftT (x.length + 1))) from rfl, schema_on _ _ hs]
    simp only at hsn ⊢
    have hpl := declsF_plus ((m.map (Tk.shiftT (headM.length + 1))).length + 1) (schema ⟨l, false⟩).1 ⟨⟨#[109]⟩, [], [], []⟩ ⟨m.map (Tk.shiftT (headM.length + 1)), false⟩
    rw [plus_nil] at hpl
    have her : ∀ q s, decls s ⟨m.map (Tk.shiftT q), false⟩ = ((decls s (R.erase ⟨m, false⟩)).1, (decls s ⟨m.map (Tk.shiftT q), false⟩).2) ∧ (decls s ⟨m.map (Tk.shiftT q), false⟩).2.erase = (decls s (R.erase ⟨m, false⟩)).2 := by
      intro q s
      have h := declsF_erase (m.length + 1) s ⟨m.map (Tk.shiftT q), false⟩
      have e1 : R.erase ⟨m.map (Tk.shiftT q), false⟩ = R.erase ⟨m, false⟩ := by unfold R.erase; simp only; rw [erase_shift]
      rw [e1] at h
      have e2 : decls s (R.erase ⟨m, false⟩) = declsF (m.length + 1) s (R.erase ⟨m, false⟩) := decls_fuel _ _ _ (by simp [R.erase])
      have e3 : decls s ⟨m.map (Tk.shiftT q), false⟩ = declsF (m.length + 1) s ⟨m.map (Tk.shiftT q), false⟩ := decls_fuel _ _ _ (by simp)
      rw [e2, e3, h]
      exact ⟨rfl, rfl⟩
    have hd := hpl
    rw [show declsF ((m.map (Tk.shiftT (headM.length + 1))).length + 1) (schema ⟨l, false⟩).1 ⟨m.map (Tk.shiftT (headM.length + 1)), false⟩ = decls (schema ⟨l, false⟩).1 ⟨m.map (Tk.shiftT (headM.length + 1)), false⟩ from rfl,
      show declsF ((m.map (Tk.shiftT (headM.length + 1))).length + 1) ⟨⟨#[109]⟩, [], [], []⟩ ⟨m.map (Tk.shiftT (headM.length + 1)), false⟩ = decls ⟨⟨#[109]⟩, [], [], []⟩ ⟨m.map (Tk.shiftT (headM.length + 1)), false⟩ from rfl] at hd
    have k1 := her (x.length + 1) (schema ⟨l, false⟩).1
    have k2 := her (headM.length + 1) (schema ⟨l, false⟩).1
    have hend : (decls (schema ⟨l, false⟩).1 ⟨m.map (Tk.shiftT (x.length + 1)), false⟩).2 = ⟨[], false⟩ := by
      have h7 : (decls (schema ⟨l, false⟩).1 ⟨m.map (Tk.shiftT (x.length + 1)), false⟩).2.erase = ⟨[], false⟩ := by
        rw [k1.2, ← k2.2, hd]
        show R.erase (decls _ _).2 = _
        rw [hsn]; rfl
      generalize (decls (schema ⟨l, false⟩).1 ⟨m.map (Tk.shiftT (x.length + 1)), false⟩).2 = q at *
      obtain ⟨a, b⟩ := q
      unfold R.erase at h7
      simp only [R.mk.injEq, List.map_eq_nil_iff] at h7
      rw [h7.1, h7.2]
    have hval : (decls (schema ⟨l, false⟩).1 ⟨m.map (Tk.shiftT (x.length + 1)), false⟩).1 = plus (schema ⟨l, false⟩).1 (decls ⟨⟨#[109]⟩, [], [], []⟩ ⟨m.map (Tk.shiftT (headM.length + 1)), false⟩).1 := by
      have a1 := congrArg Prod.fst k1.1
      have a2 := congrArg Prod.fst k2.1
      simp only at a1 a2
      rw [a1, ← a2, hd]
    rw [hend]
    simp only [Bool.false_eq_true, if_false]
    rw [hval]
end Ip
namespace Ip
open Tk (Token)
/-- What the reader has left begins at this place; a place below nought is that of a fault. -/
def AtR (l : List Token) (r : R) (i : Int) : Prop := ∃ k : Nat, k ≤ l.length ∧ r.left = l.drop k ∧ i = if r.stuck then -1 - (k : Int) else (k : Int)
theorem at_start (l : List Token) : AtR l ⟨l, false⟩ 0 := ⟨0, Nat.zero_le _, rfl, rfl⟩
theorem at_stop {l : List Token} {k : Nat} (hk : k ≤ l.length) : AtR l ⟨l.drop k, true⟩ (-1 - (k : Int)) := ⟨k, hk, rfl, rfl⟩
theorem at_place {l : List Token} {k : Nat} (hk : k ≤ l.length) : AtR l ⟨l.drop k, false⟩ (k : Int) := ⟨k, hk, rfl, rfl⟩
theorem at_neg {l : List Token} {r : R} {i : Int} (h : AtR l r i) (hs : r.stuck = true) : i < 0 := by
  obtain ⟨k, _, _, e⟩ := h
  rw [hs] at e; simp only [if_true] at e; omega
theorem at_go {l : List Token} {r : R} {i : Int} (h : AtR l r i) (hs : r.stuck = false) : ∃ k : Nat, k ≤ l.length ∧ r = ⟨l.drop k, false⟩ ∧ i = (k : Int) := by
  obtain ⟨k, h1, h2, e⟩ := h
  rw [hs] at e
  obtain ⟨a, b⟩ := r
  cases hs
  exact ⟨k, h1, by rw [← h2], e⟩
theorem at_lo {l : List Token} {r : R} {i : Int} (h : AtR l r i) : -1 - (l.length : Int) ≤ i ∧ i ≤ (l.length : Int) := by
  obtain ⟨k, h1, _, e⟩ := h
  split at e <;> omega
theorem at_stuck_iff {l : List Token} {r : R} {i : Int} (h : AtR l r i) : r.stuck = decide (i < 0) := by
  cases hs : r.stuck with
  | true => rw [decide_eq_true (at_neg h hs)]
  | false =>
    obtain ⟨k, _, _, e⟩ := at_go h hs
    rw [decide_eq_false (by omega)]
/-- A text whose first byte is no digit. -/
def Plain (s : ByteArray) : Prop := ∃ c t, s.data.toList = c :: t ∧ Tk.digit c = false
theorem right_two {t : Token} (h : Tk.wrong t = false) (hk : t.kind = 2) : ∃ c r, t.text.data.toList = c :: r ∧ Tk.digit c = true := by
  obtain ⟨hf, -⟩ := Tk.not_wrong h
  rw [hk] at hf
  unfold Tk.first at hf
  split at hf
  · split at hf <;> cases hf
  · split at hf
    · rename_i hn
      cases hd : t.text.data.toList with
      | nil => rw [hd] at hn; simp [Tk.number, Tk.run] at hn
      | cons c r =>
        refine ⟨c, r, rfl, ?_⟩
        by_cases hc : Tk.digit c = true
        · exact hc
        · rw [hd] at hn; unfold Tk.number at hn; rw [Tk.run_t, if_neg hc] at hn; omega
    · split at hf <;> cases hf
theorem right_name {t : Token} (h : Tk.wrong t = false) (hk : t.kind ≠ 1) : Tk.name t.text = false := by
  obtain ⟨hf, -⟩ := Tk.not_wrong h
  unfold Tk.first at hf
  by_cases hw : 0 < Tk.word t.text.data.toList
  · rw [if_pos hw] at hf
    split at hf
    · cases hf
    · exact absurd (Tk.Res.tok.inj hf).1.symm hk
  · unfold Tk.name
    rw [decide_eq_false hw]; rfl
theorem right_text {t : Token} (h : Tk.wrong t = false) : t.text ≠ ⟨#[]⟩ := fun e => by
  obtain ⟨hf, -⟩ := Tk.not_wrong h
  have := Tk.first_len hf
  rw [e] at this
  exact absurd this.1 (by show ¬ 1 ≤ 0; omega)
/-- A text that says the same of each plain word as the next token. -/
def TextAt (r : R) (x : ByteArray) : Prop := ∀ kw, Plain kw → eqB x kw = eqB (ahead r) kw
theorem text_none {r : R} (h : ahead r = ⟨#[]⟩) : TextAt r ⟨#[]⟩ := fun kw _ => by rw [h]
theorem plain_ne {kw : ByteArray} (h : Plain kw) : kw ≠ ⟨#[]⟩ := fun e => by
  obtain ⟨c, t, h1, -⟩ := h
  rw [e] at h1; cases h1
theorem text_num {t : Token} {l : List Token} (h : Tk.wrong t = false) (hk : t.kind = 2) : TextAt ⟨t :: l, false⟩ ⟨#[]⟩ := fun kw hp => by
  rw [eqB_no (fun e => plain_ne hp e.symm)]
  obtain ⟨c, r, h1, h2⟩ := right_two h hk
  obtain ⟨d, s, h3, h4⟩ := hp
  refine (eqB_no fun e => ?_).symm
  have e : t.text = kw := e
  rw [e, h3] at h1
  cases h1
  rw [h2] at h4; cases h4
/-- What one word comes to, by whether it stands there. -/
theorem one_yes {l : List Token} {k : Nat} {kw : ByteArray} (hk : k ≤ l.length) (hp : Plain kw) (he : eqB (ahead ⟨l.drop k, false⟩) kw = true) : k < l.length ∧ one [kw] ⟨l.drop k, false⟩ = (kw, ⟨l.drop (k + 1), false⟩) := by
  by_cases h : k < l.length
  · refine ⟨h, ?_⟩
    rw [List.drop_eq_getElem_cons h] at he ⊢
    have ht : l[k].text = kw := eqB_iff.1 he
    unfold one bind ret take
    simp [ht, among, eqB_self]
  · exfalso
    have hd : l.drop k = [] := List.drop_of_length_le (by omega)
    rw [hd] at he
    exact plain_ne hp (eqB_iff.1 he).symm
theorem among_one {kw s : ByteArray} : among [kw] s = eqB kw s := by unfold among; simp
theorem eqB_comm (a b : ByteArray) : eqB a b = eqB b a := by
  rw [Bool.eq_iff_iff, eqB_iff, eqB_iff]; exact ⟨fun h => h.symm, fun h => h.symm⟩
theorem one_no {r : R} {kw : ByteArray} (hr : r.stuck = false) (he : eqB (ahead r) kw = false) : one [kw] r = (⟨#[]⟩, ⟨r.left, true⟩) := by
  obtain ⟨l, s⟩ := r
  cases hr
  unfold one bind ret take
  cases l with
  | nil => rfl
  | cons t l =>
    have h : eqB t.text kw = false := he
    simp [among_one, eqB_comm kw, h]
theorem one_stuck {r : R} {of : List ByteArray} (hr : r.stuck = true) : one of r = (⟨#[]⟩, r) := by
  unfold one bind ret take
  simp [hr]
theorem name_stuck {r : R} (hr : r.stuck = true) : name r = (⟨#[]⟩, r) := by
  unfold name bind ret take
  simp [hr]
theorem name_end {l : List Token} {k : Nat} (hk : l.length ≤ k) : name ⟨l.drop k, false⟩ = (⟨#[]⟩, ⟨l.drop k, true⟩) := by
  rw [List.drop_of_length_le hk]; rfl
theorem name_at {l : List Token} {k : Nat} (hk : k < l.length) : name ⟨l.drop k, false⟩ = if Tk.name l[k].text then (l[k].text, ⟨l.drop (k + 1), false⟩) else (⟨#[]⟩, ⟨l.drop k, true⟩) := by
  rw [List.drop_eq_getElem_cons hk]
  unfold name bind ret take
  simp only [Bool.false_eq_true, if_false]
  split <;> rfl
theorem number_stuck {r : R} (hr : r.stuck = true) : number r = (0, r) := by
  unfold number bind ret take
  simp [hr]
theorem number_end {l : List Token} {k : Nat} (hk : l.length ≤ k) : number ⟨l.drop k, false⟩ = (0, ⟨l.drop k, true⟩) := by
  rw [List.drop_of_length_le hk]; rfl
theorem number_at {l : List Token} {k : Nat} (hk : k < l.length) : number ⟨l.drop k, false⟩ = if decide (l[k].kind = 2) then (l[k].num, ⟨l.drop (k + 1), false⟩) else (0, ⟨l.drop k, true⟩) := by
  rw [List.drop_eq_getElem_cons hk]
  unfold number bind ret take
  simp only [Bool.false_eq_true, if_false]
  split <;> rfl
theorem plain_of {c : UInt8} {t : List UInt8} (h : Tk.digit c = false) : Plain (Tk.bs (c :: t)) := ⟨c, t, Tk.bs_data _, h⟩
theorem pModule : Plain kModule := plain_of (by decide)
theorem pRecord : Plain kRecord := plain_of (by decide)
theorem pChoice : Plain kChoice := plain_of (by decide)
theorem pService : Plain kService := plain_of (by decide)
theorem pSaga : Plain kSaga := plain_of (by decide)
theorem pDo : Plain kDo := plain_of (by decide)
theorem pAt : Plain kAt := plain_of (by decide)
theorem pUndo : Plain kUndo := plain_of (by decide)
theorem pGive : Plain kGive := plain_of (by decide)
theorem pTake : Plain kTake := plain_of (by decide)
theorem pNote : Plain kNote := plain_of (by decide)
theorem pNone : Plain kNone := plain_of (by decide)
theorem pBool : Plain kBool := plain_of (by decide)
theorem pInt : Plain kInt := plain_of (by decide)
theorem pText : Plain kText := plain_of (by decide)
theorem pList : Plain kList := plain_of (by decide)
theorem pOpt : Plain kOpt := plain_of (by decide)
theorem pOpen : Plain sOpen := plain_of (by decide)
theorem pShut : Plain sShut := plain_of (by decide)
theorem pIn : Plain sIn := plain_of (by decide)
theorem pOut : Plain sOut := plain_of (by decide)
theorem pSemi : Plain sSemi := plain_of (by decide)
theorem pColon : Plain sColon := plain_of (by decide)
theorem pDot : Plain sDot := plain_of (by decide)
theorem pArrow : Plain sArrow := plain_of (by decide)
end Ip
namespace Ip
def FewR (n : Nat) (x : Rcd) : Prop := x.fields.length ≤ n ∧ ∀ f ∈ x.fields, f.type.length ≤ n
structure Few (n : Nat) (s : Sch) : Prop where
  recs : s.records.length ≤ n
  srvs : s.services.length ≤ n
  sgas : s.sagas.length ≤ n
  recX : ∀ x ∈ s.records, FewR n x
  srvX : ∀ x ∈ s.services, x.methods.length ≤ n
  sgaX : ∀ x ∈ s.sagas, x.steps.length ≤ n
theorem sortsF_len : ∀ (n : Nat) (r : R), (sortsF n r).1.length ≤ n
  | 0, r => Nat.le_refl _
  | n + 1, r => by
    unfold sortsF
    rw [bind_eq]
    split
    · rw [bind_eq, ret_eq]
      have := sortsF_len n (sort r).2
      simp only [List.length_cons]; omega
    · rw [ret_eq]; simp
theorem sorts_len (r : R) : (sorts r).1.length ≤ r.left.length + 1 := sortsF_len _ _
theorem loopF_len {α : Type} (read : M α) : ∀ (n : Nat) (r : R), (loopF read n r).1.length ≤ n
  | 0, r => Nat.le_refl _
  | n + 1, r => by
    rw [loopF_t]
    split
    · simp
    · split
      · simp
      · have := loopF_len read n (read r).2
        simp only [List.length_cons]; omega
theorem loop_len {α : Type} (read : M α) (r : R) : (loop read r).1.length ≤ r.left.length + 1 := loopF_len _ _ _
theorem loopF_mem {α : Type} {read : M α} (hn : Nice read) : ∀ (n : Nat) (r : R), ∀ x ∈ (loopF read n r).1, ∃ r', r'.left.length ≤ r.left.length ∧ x = (read r').1
  | 0, r, x, h => by cases h
  | n + 1, r, x, h => by
    rw [loopF_t] at h
    split at h
    · cases h
    · split at h
      · cases h
      · rcases List.mem_cons.1 h with rfl | h
        · exact ⟨r, Nat.le_refl _, rfl⟩
        · obtain ⟨r', h1, h2⟩ := loopF_mem hn n _ x h
          exact ⟨r', Nat.le_trans h1 (hn.len r), h2⟩
theorem braced_len {α : Type} (read : M α) (r : R) : (braced read r).1.length ≤ r.left.length + 1 := by
  unfold braced
  rw [bind_eq]
  have := loop_len read (one [sOpen] r).2
  have h2 := (nice_one [sOpen]).len r
  omega
theorem record_few (c : Bool) (r : R) : FewR (r.left.length + 1) (record c r).1 := by
  unfold record
  rw [bind_eq, bind_eq, ret_eq]
  have h1 := nice_name.len r
  have h2 := braced_len field (name r).2
  refine ⟨by show (braced field (name r).2).1.length ≤ _; omega, fun f hf => ?_⟩
  have hf : f ∈ (braced field (name r).2).1 := hf
  unfold braced at hf
  rw [bind_eq] at hf
  obtain ⟨r', h3, rfl⟩ := loopF_mem nice_field _ _ f hf
  have h4 := (nice_one [sOpen]).len (name r).2
  unfold field
  rw [bind_eq, bind_eq, bind_eq, bind_eq, ret_eq]
  have h5 := sorts_len (one [sColon] (name r').2).2
  have h6 := (nice_one [sColon]).len (name r').2
  have h7 := nice_name.len r'
  show (sorts _).1.length ≤ _
  omega
theorem service_few (r : R) : (service r).1.methods.length ≤ r.left.length + 1 := by
  unfold service
  rw [bind_eq, bind_eq, ret_eq]
  have h1 := nice_name.len r
  have h2 := braced_len method (name r).2
  show (braced method (name r).2).1.length ≤ _; omega
theorem saga_few (r : R) : (saga r).1.steps.length ≤ r.left.length + 1 := by
  unfold saga
  rw [bind_eq, bind_eq, bind_eq, ret_eq]
  have h1 := nice_name.len r
  have h3 := nice_argument.len (name r).2
  have h2 := braced_len step (argument (name r).2).2
  show (braced step (argument (name r).2).2).1.length ≤ _; omega
theorem FewR.mono {n m : Nat} {x : Rcd} (h : FewR n x) (hm : n ≤ m) : FewR m x := ⟨Nat.le_trans h.1 hm, fun f hf => Nat.le_trans (h.2 f hf) hm⟩
/-- How many there are, and how great each is. -/
structure FewOf (k n : Nat) (s : Sch) : Prop where
  all : s.records.length + s.services.length + s.sagas.length ≤ k
  recX : ∀ x ∈ s.records, FewR n x
  srvX : ∀ x ∈ s.services, x.methods.length ≤ n
  sgaX : ∀ x ∈ s.sagas, x.steps.length ≤ n
theorem declare_few {k n : Nat} {s : Sch} {r : R} (h : FewOf k n s) (hr : r.left.length + 1 ≤ n) : FewOf (k + 1) n (declare s r).1 := by
  unfold declare declareW
  rw [bind_eq]
  have h0 := (nice_one [kRecord, kChoice, kService, kSaga]).len r
  generalize one [kRecord, kChoice, kService, kSaga] r = y at *
  have ha := h.all
  split
  · rw [bind_eq, ret_eq]
    refine ⟨by simp only [List.length_append, List.length_cons, List.length_nil]; omega, fun x hx => ?_, h.srvX, h.sgaX⟩
    rcases List.mem_append.1 hx with hx | hx
    · exact h.recX x hx
    · rw [List.mem_singleton.1 hx]; exact (record_few false y.2).mono (by omega)
  · split
    · rw [bind_eq, ret_eq]
      refine ⟨by simp only [List.length_append, List.length_cons, List.length_nil]; omega, fun x hx => ?_, h.srvX, h.sgaX⟩
      rcases List.mem_append.1 hx with hx | hx
      · exact h.recX x hx
      · rw [List.mem_singleton.1 hx]; exact (record_few true y.2).mono (by omega)
    · split
      · rw [bind_eq, ret_eq]
        refine ⟨by simp only [List.length_append, List.length_cons, List.length_nil]; omega, h.recX, fun x hx => ?_, h.sgaX⟩
        rcases List.mem_append.1 hx with hx | hx
        · exact h.srvX x hx
        · rw [List.mem_singleton.1 hx]; have := service_few y.2; omega
      · split
        · rw [bind_eq, ret_eq]
          refine ⟨by simp only [List.length_append, List.length_cons, List.length_nil]; omega, h.recX, h.srvX, fun x hx => ?_⟩
          rcases List.mem_append.1 hx with hx | hx
          · exact h.sgaX x hx
          · rw [List.mem_singleton.1 hx]; have := saga_few y.2; omega
        · rw [ret_eq]; exact ⟨by show s.records.length + s.services.length + s.sagas.length ≤ _; omega, h.recX, h.srvX, h.sgaX⟩
theorem declsF_few : ∀ (m k n : Nat) (s : Sch) (r : R), FewOf k n s → r.left.length + 1 ≤ n → FewOf (k + m) n (declsF m s r).1
  | 0, k, n, s, r, h, _ => h
  | m + 1, k, n, s, r, h, hr => by
    rw [declsF_t]
    split
    · exact ⟨by have := h.all; show s.records.length + s.services.length + s.sagas.length ≤ _; omega, h.recX, h.srvX, h.sgaX⟩
    · have hl := (nice_declare s).len r
      have := declsF_few m (k + 1) n (declare s r).1 (declare s r).2 (declare_few h hr) (by omega)
      rw [show k + (m + 1) = k + 1 + m by omega]; exact this
theorem schema_few {ts : List Tk.Token} {n : Nat} (hn : ts.length + 1 ≤ n) : Few n (schema ⟨ts, false⟩).1 := by
  have h1 := nice_head.len ⟨ts, false⟩
  have := declsF_few ((head ⟨ts, false⟩).2.left.length + 1) 0 n ⟨(head ⟨ts, false⟩).1, [], [], []⟩ (head ⟨ts, false⟩).2 ⟨Nat.le_refl _, fun x hx => (by cases hx), fun x hx => (by cases hx), fun x hx => (by cases hx)⟩ (by simp only at h1; omega)
  have ha := this.all
  simp only at h1
  exact ⟨by show (declsF _ _ _).1.records.length ≤ n; omega, by show (declsF _ _ _).1.services.length ≤ n; omega, by show (declsF _ _ _).1.sagas.length ≤ n; omega, this.recX, this.srvX, this.sgaX⟩
theorem few_zero (n : Nat) : Few n Sch.zero := ⟨Nat.zero_le _, Nat.zero_le _, Nat.zero_le _, fun x hx => (by cases hx), fun x hx => (by cases hx), fun x hx => (by cases hx)⟩
theorem parse_few {t : List UInt8} {n : Nat} (hn : t.length + 1 ≤ n) : Few n (parse t).1 := by
  unfold parse whole
  cases h : Tk.all 0 t with
  | no a e => exact few_zero n
  | ok ts =>
    have hl := Tk.all_len _ 0 t (Nat.le_refl _)
    rw [h] at hl
    simp only [Tk.Out.toks] at hl
    simp only
    split
    · exact few_zero n
    · split
      · exact few_zero n
      · exact schema_few (by omega)
theorem type_few {t : List UInt8} : (type t).1.length ≤ t.length + 1 := by
  unfold type whole
  cases h : Tk.all 0 t with
  | no a e => exact Nat.zero_le _
  | ok ts =>
    have hl := Tk.all_len _ 0 t (Nat.le_refl _)
    rw [h] at hl
    simp only [Tk.Out.toks] at hl
    simp only
    split
    · exact Nat.zero_le _
    · split
      · exact Nat.zero_le _
      · have := sorts_len ⟨ts, false⟩
        simp only at this ⊢; omega
end Ip
namespace Go.Proofs.YtnkdhmoocomjfaaGreatDoor
open Go.ChangeShapes Go.WideShapes Go.ChangeAt Go.RowKit
/-- What a row's elements are: their type, their cells (by a part of their own), what that part is, and the types of the blocks that it lies in. -/
structure RowKind (α : Type) where
  ty : TypeId
  sl : TypeId
  k : Nat
  bytes : Nat
  zero : Array Value
  cells : α → Value → List Value
  sub : World → Nat → Value → α → Prop
  tys : TypeId → Prop
structure RowKind.Ok {α : Type} (K : RowKind α) : Prop where
  info : (Tryz.prog.info? K.ty).map (fun i => (i.zero, i.size, i.bytes)) = some (some (.agg K.zero), K.k, K.bytes)
  under : Tryz.prog.underlying K.sl = some (.slice K.ty)
  pos : 0 < K.k
  bound : K.bytes ≤ 100
  zlen : K.zero.size = K.k
  len : ∀ x t, (K.cells x t).length = K.k
  one : ∀ W base x t, K.sub W base t x → ∀ u ∈ K.cells x t, u.oneCell' = true
  keep : ∀ W W' base base' t x, K.sub W base t x → base' ≤ base → (∀ j cs ty, base ≤ j → W.heap[j]? = some (.cells cs ty (0, 0)) → K.tys ty → W'.heap[j]? = W.heap[j]?) → K.sub W' base' t x
  fresh : ¬ K.tys K.ty
section
variable {α : Type} {K : RowKind α} {W W' : World} {base base' : Nat} {v : Value} {L : List α}
def RowIs (K : RowKind α) (W : World) (base : Nat) (v : Value) (L : List α) : Prop :=
  ∃ Z : List (α × Value), Z.map Prod.fst = L ∧ W.ownsRow base K.ty K.k v L.length (Z.flatMap fun z => K.cells z.1 z.2) ∧ ∀ z ∈ Z, K.sub W base z.2 z.1
theorem RowIs.nil (K : RowKind α) (W : World) (base : Nat) : RowIs K W base (.slice none 0 0) [] := ⟨[], rfl, World.ownsRow_nil _ _ _ _, fun z hz => by cases hz⟩
theorem row_keeps {e : TypeId} {size n : Nat} {xs : List Value} (h : W.ownsRow base e size v n xs) (hb : base' ≤ base) (hk : ∀ j cs, base ≤ j → W.heap[j]? = some (.cells cs e (0, 0)) → W'.heap[j]? = W.heap[j]?) : W'.ownsRow base' e size v n xs := by
  refine ⟨h.1, ?_⟩
  rcases h.2 with hn | ⟨g, cap, cur, rfl, h1, h2, h3⟩
  · exact .inl hn
  · exact .inr ⟨g, cap, cur, rfl, Nat.le_trans hb h1, (hk g cur h1 h2).trans h2, h3⟩
theorem RowIs.keep (ok : K.Ok) (h : RowIs K W base v L) (hb : base' ≤ base) (hk : ∀ j cs ty, base ≤ j → W.heap[j]? = some (.cells cs ty (0, 0)) → ty = K.ty ∨ K.tys ty → W'.heap[j]? = W.heap[j]?) : RowIs K W' base' v L := by
  obtain ⟨Z, h1, h2, h3⟩ := h
  exact ⟨Z, h1, row_keeps h2 hb fun j cs hj hc => hk j cs _ hj hc (.inl rfl), fun z hz => ok.keep _ _ _ _ _ _ (h3 z hz) hb fun j cs ty hj hc ht => hk j cs ty hj hc (.inr ht)⟩
theorem RowIs.below (ok : K.Ok) (h : RowIs K W base v L) (hb : Below W.heap.size W W') : RowIs K W' base v L :=
  h.keep ok (Nat.le_refl _) fun j cs ty hj hc _ => hb.block j (Array.getElem?_eq_some_iff.1 hc).1
theorem RowIs.mono (ok : K.Ok) (h : RowIs K W base v L) (hb : base' ≤ base) : RowIs K W base' v L := h.keep ok hb fun _ _ _ _ _ _ => rfl
theorem RowIs.shape (h : RowIs K W base v L) : ∃ p c, v = .slice p L.length c ∧ L.length ≤ c ∧ c ≤ maxLen := by
  obtain ⟨Z, h1, h2, h3⟩ := h
  rcases h2.2 with ⟨rfl, e⟩ | ⟨g, cap, cur, rfl, _, _, h4, h5, -⟩
  · rw [e]; exact ⟨none, 0, rfl, Nat.le_refl _, Nat.zero_le _⟩
  · exact ⟨_, _, rfl, h4, h5⟩
theorem RowIs.lt (h : RowIs K W base v L) : ∀ k, v.ownBlock = some k → base ≤ k ∧ k < W.heap.size := by
  obtain ⟨Z, h1, h2, h3⟩ := h; exact h2.lt
theorem RowIs.ownTy (h : RowIs K W base v L) : ∀ k, v.ownBlock = some k → ∃ cs, W.heap[k]? = some (.cells cs K.ty (0, 0)) := by
  obtain ⟨Z, h1, h2, h3⟩ := h
  rcases h2.2 with ⟨rfl, e⟩ | ⟨g, cap, cur, rfl, _, hg, _⟩
  · intro k hk; cases hk
  · intro k hk; cases hk; exact ⟨cur, hg⟩
theorem flat_len (hlen : ∀ x t, (K.cells x t).length = K.k) (Z : List (α × Value)) : (Z.flatMap fun z => K.cells z.1 z.2).length = Z.length * K.k := by
  induction Z with
  | nil => simp
  | cons z Z ih => rw [List.flatMap_cons, List.length_append, ih, hlen, List.length_cons, Nat.add_mul]; omega
theorem flat_get (hlen : ∀ x t, (K.cells x t).length = K.k) {Z : List (α × Value)} {i : Nat} (hi : i < Z.length) {j : Nat} (hj : j < K.k) : (Z.flatMap fun z => K.cells z.1 z.2)[i * K.k + j]? = (K.cells Z[i].1 Z[i].2)[j]? := by
  induction Z generalizing i with
  | nil => exact absurd hi (Nat.not_lt_zero _)
  | cons z Z ih =>
    rw [List.flatMap_cons]
    cases i with
    | zero => rw [List.getElem?_append_left (by rw [hlen]; omega)]; simp
    | succ i =>
      rw [List.getElem?_append_right (by rw [hlen, Nat.add_mul]; omega), hlen, show (i + 1) * K.k + j - K.k = i * K.k + j by rw [Nat.add_mul]; omega]
      exact ih (by simpa using hi)
/-- An element of the row. -/
theorem RowIs.at (ok : K.Ok) (h : RowIs K W base v L) {i : Nat} (hi : i < L.length) : ∃ g c t, v = .slice (some ⟨g, 0, none⟩) L.length c ∧ base ≤ g ∧ g < W.heap.size ∧ K.sub W base t L[i] ∧ ∀ j u, (K.cells L[i] t)[j]? = some u → W.cell? ⟨g, i * K.k + j, none⟩ = some u := by
  obtain ⟨Z, h1, h2, h3⟩ := h
  have hz : i < Z.length := by rw [← h1, List.length_map] at hi; exact hi
  have hl : Z[i].1 = L[i] := by subst h1; rw [List.getElem_map]
  rcases h2.2 with ⟨-, e⟩ | ⟨g, cap, cur, rfl, hg, hh, h4, h5, h6, h7⟩
  · omega
  · refine ⟨g, cap, Z[i].2, rfl, hg, (Array.getElem?_eq_some_iff.1 hh).1, ?_, fun j u hu => ?_⟩
    · rw [← hl]; exact h3 _ (List.getElem_mem hz)
    · rw [← hl] at hu
      have hj : j < K.k := by have := (List.getElem?_eq_some_iff.1 hu).1; rw [ok.len] at this; exact this
      rw [cell_of_row W g _ cur _ _ hh]
      have hlt : i * K.k + j < L.length * K.k := Nat.lt_of_lt_of_le (by rw [Nat.add_mul]; omega : i * K.k + j < (i + 1) * K.k) (Nat.mul_le_mul_right _ hi)
      rw [← hu, ← flat_get ok.len hz hj, ← h7, List.getElem?_take, if_pos hlt]; simp
/-- An element that lies at A is appended. -/
theorem row_append (ok : K.Ok) (h : RowIs K W base v L) (x : α) (t : Value) (ht : K.sub W base t x) (A : Addr) (c : Nat) (hnews : ∀ q u, (K.cells x t)[q]? = some u → W.cell? (A.add q) = some u) (hs : L.length + 1 ≤ 1000000) (hb : base ≤ W.heap.size) (ty : TypeId) :
    ∃ (pv : Option Addr) (cv : Nat) (W' : World), (Builtin.append_ #[K.sl, K.sl] ty #[v, .slice (some A) 1 c]).run Tryz.prog W = .ok (.slice pv (L.length + 1) cv) W' ∧
      RowIs K W' base (.slice pv (L.length + 1) cv) (L ++ [x]) ∧ GrewT v (.slice pv (L.length + 1) cv) W W' := by
  obtain ⟨Z, h1, h2, h3⟩ := h
  obtain ⟨i0, hi0, hz0, hz1, hz2⟩ := info_parts ok.info
  obtain ⟨v', W', hrun, ho, hg, -, hown⟩ := run_append_own_at (P := Tryz.prog) W base K.sl ty K.ty i0 _ K.k K.bytes ok.under hi0 hz0 hz1 hz2 ok.zlen ok.pos v _ _ h2
    A 1 c (K.cells x t) (by rw [ok.len, Nat.one_mul]) hnews (ok.one _ _ _ _ ht) (by unfold maxLen; omega) (by have := ok.bound; have := Nat.mul_le_mul hs this; omega) (by omega)
  have hgr : ∀ k, k < W.heap.size → v.ownBlock ≠ some k → W'.heap[k]? = W.heap[k]? := fun k hk hn => hg.block k hk fun e => hn e.symm
  have hty : ∀ k, v.ownBlock = some k → ∃ cs, W.heap[k]? = some (Obj.cells cs K.ty (0, 0)) := RowIs.ownTy (K := K) (L := L) ⟨Z, h1, h2, h3⟩
  have hne : ∀ (j : Nat) (cs : Array Value) (ty' : TypeId), W.heap[j]? = some (Obj.cells cs ty' (0, 0)) → K.tys ty' → W'.heap[j]? = W.heap[j]? := by
    intro j cs ty' hj ht'
    refine hgr j (Array.getElem?_eq_some_iff.1 hj).1 fun e => ?_
    obtain ⟨cs', hc'⟩ := hty j e
    rw [hj] at hc'
    cases hc'
    exact ok.fresh ht'
  have hR : RowIs K W' base v' (L ++ [x]) := by
    refine ⟨Z ++ [(x, t)], by rw [List.map_append, h1]; rfl, ?_, fun z hz => ?_⟩
    · rw [List.flatMap_append, List.length_append]
      simpa using ho
    · rcases List.mem_append.1 hz with hz | hz
      · exact ok.keep _ _ _ _ _ _ (h3 z hz) (Nat.le_refl _) fun j cs ty' _ hj ht' => hne j cs ty' hj ht'
      · rw [List.mem_singleton.1 hz]
        exact ok.keep _ _ _ _ _ _ ht (Nat.le_refl _) fun j cs ty' _ hj ht' => hne j cs ty' hj ht'
  obtain ⟨pv, cv, rfl, -, -⟩ := hR.shape
  rw [List.length_append] at hrun hR hown
  refine ⟨pv, cv, W', hrun, hR, hg.os, hg.tape, hg.output, hg.size, hgr, fun k hk => ?_⟩
  rcases hown with e | e
  · exact .inl (e ▸ hk)
  · have e2 : (Value.slice pv (L.length + 1) cv).ownBlock = some W.heap.size := e
    rw [e2] at hk
    simp only [Option.some.injEq] at hk
    exact .inr (by omega)
end
/-! ### the kinds -/
def kSo : RowKind Ip.So := ⟨41, 37, 2, 24, #[.int .u8 0, .string ⟨#[]⟩], fun x _ => [.int .u8 (x.kind : Nat), .string x.name], fun _ _ _ _ => True, fun _ => False⟩
def kMth : RowKind Ip.Mth := ⟨100, 96, 5, 72, #[.string ⟨#[]⟩, .string ⟨#[]⟩, .int .u8 0, .string ⟨#[]⟩, .string ⟨#[]⟩], fun x _ => [.string x.name, .string x.arg, .int .u8 (x.result : Nat), .string x.effect, .string x.undo], fun _ _ _ _ => True, fun _ => False⟩
def kStp : RowKind Ip.Stp := ⟨48, 42, 3, 40, #[.string ⟨#[]⟩, .string ⟨#[]⟩, .int .i64 0], fun x _ => [.string x.service, .string x.method, .int .i64 x.at_], fun _ _ _ _ => True, fun _ => False⟩
def kFld : RowKind Ip.Fld := ⟨39, 32, 2, 40, #[.string ⟨#[]⟩, .slice none 0 0], fun x t => [.string x.name, t], fun W base t x => RowIs kSo W base t x.type, fun ty => ty = 41⟩
def kRcd : RowKind Ip.Rcd := ⟨34, 22, 3, 48, #[.string ⟨#[]⟩, .bool false, .slice none 0 0], fun x t => [.string x.name, .bool x.choice, t], fun W base t x => RowIs kFld W base t x.fields, fun ty => ty = 39 ∨ ty = 41⟩
def kSrv : RowKind Ip.Srv := ⟨98, 23, 2, 40, #[.string ⟨#[]⟩, .slice none 0 0], fun x t => [.string x.name, t], fun W base t x => RowIs kMth W base t x.methods, fun ty => ty = 100⟩
def kSga : RowKind Ip.Sga := ⟨44, 24, 3, 56, #[.string ⟨#[]⟩, .string ⟨#[]⟩, .slice none 0 0], fun x t => [.string x.name, .string x.arg, t], fun W base t x => RowIs kStp W base t x.steps, fun ty => ty = 48⟩
theorem one_slice {α : Type} {K : RowKind α} {W : World} {base : Nat} {v : Value} {L : List α} (h : RowIs K W base v L) : v.oneCell' = true := by
  obtain ⟨p, c, rfl, -⟩ := h.shape; rfl
theorem okSo : kSo.Ok := by
  refine ⟨by kernel_rfl, Tryz.underlying37, by decide, by decide, rfl, fun _ _ => rfl, fun _ _ x t _ u hu => ?_, fun _ _ _ _ _ _ _ _ _ => trivial, fun h => h⟩
  simp [kSo] at hu; rcases hu with rfl | rfl <;> rfl
theorem okMth : kMth.Ok := by
  refine ⟨by kernel_rfl, Tryz.underlying96, by decide, by decide, rfl, fun _ _ => rfl, fun _ _ x t _ u hu => ?_, fun _ _ _ _ _ _ _ _ _ => trivial, fun h => h⟩
  simp [kMth] at hu; rcases hu with rfl | rfl | rfl | rfl | rfl <;> rfl
theorem okStp : kStp.Ok := by
  refine ⟨by kernel_rfl, Tryz.underlying42, by decide, by decide, rfl, fun _ _ => rfl, fun _ _ x t _ u hu => ?_, fun _ _ _ _ _ _ _ _ _ => trivial, fun h => h⟩
  simp [kStp] at hu; rcases hu with rfl | rfl | rfl <;> rfl
theorem okFld : kFld.Ok := by
  refine ⟨by kernel_rfl, Tryz.underlying32, by decide, by decide, rfl, fun _ _ => rfl, fun _ _ x t h u hu => ?_, fun W W' b b' t x h hb hk => RowIs.keep okSo h hb fun j cs ty hj hc ht => hk j cs ty hj hc (by rcases ht with e | e; exact e; exact e.elim), by show ¬ (39 : Nat) = 41; decide⟩
  simp [kFld] at hu
  rcases hu with rfl | rfl
  · rfl
  · exact one_slice h
theorem okRcd : kRcd.Ok := by
  refine ⟨by kernel_rfl, Tryz.underlying22, by decide, by decide, rfl, fun _ _ => rfl, fun _ _ x t h u hu => ?_, fun W W' b b' t x h hb hk => RowIs.keep okFld h hb fun j cs ty hj hc ht => hk j cs ty hj hc ht, by show ¬ ((34 : Nat) = 39 ∨ (34 : Nat) = 41); decide⟩
  simp [kRcd] at hu
  rcases hu with rfl | rfl | rfl
  · rfl
  · rfl
  · exact one_slice h
theorem okSrv : kSrv.Ok := by
  refine ⟨by kernel_rfl, Tryz.underlying23, by decide, by decide, rfl, fun _ _ => rfl, fun _ _ x t h u hu => ?_, fun W W' b b' t x h hb hk => RowIs.keep okMth h hb fun j cs ty hj hc ht => hk j cs ty hj hc (by rcases ht with e | e; exact e; exact e.elim), by show ¬ (98 : Nat) = 100; decide⟩
  simp [kSrv] at hu
  rcases hu with rfl | rfl
  · rfl
  · exact one_slice h
theorem okSga : kSga.Ok := by
  refine ⟨by kernel_rfl, Tryz.underlying24, by decide, by decide, rfl, fun _ _ => rfl, fun _ _ x t h u hu => ?_, fun W W' b b' t x h hb hk => RowIs.keep okStp h hb fun j cs ty hj hc ht => hk j cs ty hj hc (by rcases ht with e | e; exact e; exact e.elim), by show ¬ (44 : Nat) = 48; decide⟩
  simp [kSga] at hu
  rcases hu with rfl | rfl | rfl
  · rfl
  · rfl
  · exact one_slice h
end Go.Proofs.YtnkdhmoocomjfaaGreatDoor
namespace Go.Proofs.YtnkdhmoocomjfaaGreatDoor
open Go.RowKit
/-- A slice of texts: cell i holds ss[i]. -/
def TextsAt (W : World) (p : Option Addr) (ss : List ByteArray) : Prop := ∀ i (h : i < ss.length), ∃ a, p = some a ∧ a.block < W.heap.size ∧ W.cell? (a.add i) = some (.string ss[i])
theorem add_block (a : Addr) (i : Nat) : (a.add i).block = a.block := by unfold Addr.add; split <;> rfl
theorem TextsAt.below {W W' : World} {p : Option Addr} {ss : List ByteArray} (h : TextsAt W p ss) (hb : Below W.heap.size W W') : TextsAt W' p ss := fun i hi => by
  obtain ⟨a, h1, h2, h3⟩ := h i hi
  exact ⟨a, h1, Nat.lt_of_lt_of_le h2 hb.size, (hb.cell (by rw [add_block]; exact h2)).trans h3⟩
/-- The lengths together, each at most m. -/
def lensTo (m : Nat) : List ByteArray → Nat
  | [] => 0
  | s :: r => min s.size m + lensTo m r
theorem lensTo_append (m : Nat) (a b : List ByteArray) : lensTo m (a ++ b) = lensTo m a + lensTo m b := by
  induction a with
  | nil => simp [lensTo]
  | cons x r ih => show min x.size m + lensTo m (r ++ b) = _; rw [ih]; show _ = min x.size m + lensTo m r + lensTo m b; omega
theorem lensTo_take (m : Nat) (ss : List ByteArray) (k : Nat) (hk : k < ss.length) : lensTo m (ss.take (k + 1)) = lensTo m (ss.take k) + min ss[k].size m := by
  rw [List.take_succ_eq_append_getElem hk, lensTo_append]; simp [lensTo]
theorem lensTo_le (m : Nat) (ss : List ByteArray) : lensTo m ss ≤ ss.length * m := by
  induction ss with
  | nil => simp [lensTo]
  | cons x r ih =>
    show min x.size m + lensTo m r ≤ (r.length + 1) * m
    rw [Nat.add_mul, Nat.one_mul]; omega
theorem lensTo_each {m n : Nat} (hn : n < m) (ss : List ByteArray) (h : lensTo m ss ≤ n) : ∀ s ∈ ss, s.size ≤ n := by
  induction ss with
  | nil => intro s hs; cases hs
  | cons x r ih =>
    have h' : min x.size m + lensTo m r ≤ n := h
    intro s hs
    rcases List.mem_cons.1 hs with rfl | hs
    · omega
    · exact ih (by omega) s hs
end Go.Proofs.YtnkdhmoocomjfaaGreatDoor
namespace Go.Proofs.YtnkdhmoocomjfaaGreatDoor
open Go.RowKit
/-- Block b alone may have turned; new blocks may have come. -/
structure Tn (b : Nat) (w W : World) : Prop where
  os : W.os = w.os
  tape : W.tape = w.tape
  output : W.output = w.output
  size : w.heap.size ≤ W.heap.size
  block : ∀ k, k < w.heap.size → k ≠ b → W.heap[k]? = w.heap[k]?
theorem Tn.refl (b : Nat) (w : World) : Tn b w w := ⟨rfl, rfl, rfl, Nat.le_refl _, fun _ _ _ => rfl⟩
theorem Tn.trans {b : Nat} {w W V : World} (h : Tn b w W) (k : Tn b W V) : Tn b w V :=
  ⟨k.os.trans h.os, k.tape.trans h.tape, k.output.trans h.output, Nat.le_trans h.size k.size, fun j hj hn => (k.block j (Nat.lt_of_lt_of_le hj h.size) hn).trans (h.block j hj hn)⟩
theorem Tn.of {b : Nat} {w W : World} (h : Below w.heap.size w W) : Tn b w W := ⟨h.os, h.tape, h.output, h.size, fun k hk _ => h.block k hk⟩
theorem Tn.below {b base : Nat} {w W : World} (h : Tn b w W) (hb : base ≤ b) (hs : base ≤ w.heap.size) : Below base w W := ⟨h.os, h.tape, h.output, h.size, fun k hk => h.block k (by omega) (by omega)⟩
theorem Tn.alloc {b : Nat} {w W : World} (h : Tn b w W) (o : Obj) : Tn b w (W.alloc o) := h.trans (Tn.of (tk_alloc W o))
theorem tn_set {b i : Nat} (w : World) (x : Value) : Tn b w (w.setCell ⟨b, i, none⟩ x) := ⟨rfl, rfl, rfl, by rw [World.size_setCell]; exact Nat.le_refl _, fun k _ hk => Below.heap_setCell _ _ _ _ hk⟩
/-- A block that has come since: it may turn. -/
theorem Tn.set_new {b c i : Nat} {w W : World} (h : Tn b w W) (hc : w.heap.size ≤ c) (x : Value) : Tn b w (W.setCell ⟨c, i, none⟩ x) :=
  ⟨h.os, h.tape, h.output, by rw [World.size_setCell]; exact h.size, fun k hk hn => (Below.heap_setCell _ _ _ _ (by show k ≠ c; omega)).trans (h.block k hk hn)⟩

theorem KwIs.keep {w W : World} (h : KwIs w) (hb : W.heap[0]? = w.heap[0]?) : KwIs W := by
  obtain ⟨t, fr, e⟩ := h
  exact ⟨t, fr, hb.trans e⟩
theorem KwIs.lt {w : World} (h : KwIs w) : 0 < w.heap.size := by
  obtain ⟨t, fr, e⟩ := h
  exact (Array.getElem?_eq_some_iff.1 e).1
theorem KwIs.below {w W : World} (h : KwIs w) (hb : Below w.heap.size w W) : KwIs W := h.keep (hb.block _ h.lt)
theorem toks_tail {W : World} {A : Addr} {t : Tk.Token} {l : List Tk.Token} (h : ToksAt W (some A) (t :: l)) : ToksAt W (some (A.add 4)) l := fun i hi => by
  obtain ⟨B, e, h2, h3, h4⟩ := h (i + 1) (by simpa using hi)
  cases e
  refine ⟨A.add 4, rfl, by rw [tadd_block]; exact h2, fun j hj => ?_, h4⟩
  have := h3 j hj
  rw [tadd, show 4 + (i * 4 + j) = (i + 1) * 4 + j by omega]
  simpa using this
theorem toks_turn {w W : World} {b : Nat} {p : Option Addr} {xs : List Tk.Token} (h : ToksAt w p xs) (ht : Tn b w W) (ha : ∀ A, p = some A → A.block ≠ b) : ToksAt W p xs := fun i hi => by
  obtain ⟨A, e, h2, h3, h4⟩ := h i hi
  refine ⟨A, e, Nat.lt_of_lt_of_le h2 ht.size, fun j hj => ?_, h4⟩
  rw [← h3 j hj]
  unfold World.cell?
  rw [ht.block _ (by rw [tadd_block]; exact h2) (by rw [tadd_block]; exact ha A e)]
end Go.Proofs.YtnkdhmoocomjfaaGreatDoor
namespace Go.Proofs.YtnkdhmoocomjfaaGreatDoor
open Go.RowKit
theorem tn_four {x : Nat} (w : World) (a b c d : Value) : Tn x w ((((w.setCell ⟨x, 0, none⟩ a).setCell ⟨x, 1, none⟩ b).setCell ⟨x, 2, none⟩ c).setCell ⟨x, 3, none⟩ d) :=
  (((tn_set w a).trans (tn_set _ b)).trans (tn_set _ c)).trans (tn_set _ d)
/-- A block that has come since turns. -/
theorem Tn.new {b x : Nat} {w W V : World} (h : Tn b w W) (hx : w.heap.size ≤ x) (ht : Tn x W V) : Tn b w V :=
  ⟨ht.os.trans h.os, ht.tape.trans h.tape, ht.output.trans h.output, Nat.le_trans h.size ht.size, fun k hk hn => (ht.block k (Nat.lt_of_lt_of_le hk h.size) (by omega)).trans (h.block k hk hn)⟩
def zeroO : Obj := .cells #[.int .u8 0, .string ⟨#[]⟩, .int .i64 0, .int .i64 0] 190 (0, 0)
end Go.Proofs.YtnkdhmoocomjfaaGreatDoor
namespace Go.Proofs.YtnkdhmoocomjfaaGreatDoor
open Go.RowKit
theorem eqB_list (a b : ByteArray) : (a.toList == b.toList) = Ip.eqB a b := by rw [Go.Lib.toList_data, Go.Lib.toList_data]; rfl
theorem eqB_at (s : ByteArray) (l : List UInt8) : (s.toList == l) = Ip.eqB s (Tk.bs l) := by rw [Go.Lib.toList_data]; unfold Ip.eqB; rw [Tk.bs_data]
theorem is_kModule (s : ByteArray) : (s.toList == [109, 111, 100, 117, 108, 101]) = Ip.eqB s Ip.kModule := eqB_at s _
theorem is_kRecord (s : ByteArray) : (s.toList == [114, 101, 99, 111, 114, 100]) = Ip.eqB s Ip.kRecord := eqB_at s _
theorem is_kChoice (s : ByteArray) : (s.toList == [99, 104, 111, 105, 99, 101]) = Ip.eqB s Ip.kChoice := eqB_at s _
theorem is_kService (s : ByteArray) : (s.toList == [115, 101, 114, 118, 105, 99, 101]) = Ip.eqB s Ip.kService := eqB_at s _
theorem is_kSaga (s : ByteArray) : (s.toList == [115, 97, 103, 97]) = Ip.eqB s Ip.kSaga := eqB_at s _
theorem is_kDo (s : ByteArray) : (s.toList == [100, 111]) = Ip.eqB s Ip.kDo := eqB_at s _
theorem is_kAt (s : ByteArray) : (s.toList == [97, 116]) = Ip.eqB s Ip.kAt := eqB_at s _
theorem is_kUndo (s : ByteArray) : (s.toList == [117, 110, 100, 111]) = Ip.eqB s Ip.kUndo := eqB_at s _
theorem is_kGive (s : ByteArray) : (s.toList == [103, 105, 118, 101]) = Ip.eqB s Ip.kGive := eqB_at s _
theorem is_kTake (s : ByteArray) : (s.toList == [116, 97, 107, 101]) = Ip.eqB s Ip.kTake := eqB_at s _
theorem is_kNote (s : ByteArray) : (s.toList == [110, 111, 116, 101]) = Ip.eqB s Ip.kNote := eqB_at s _
theorem is_kNone (s : ByteArray) : (s.toList == [110, 111, 110, 101]) = Ip.eqB s Ip.kNone := eqB_at s _
theorem is_kBool (s : ByteArray) : (s.toList == [98, 111, 111, 108]) = Ip.eqB s Ip.kBool := eqB_at s _
theorem is_kInt (s : ByteArray) : (s.toList == [105, 110, 116]) = Ip.eqB s Ip.kInt := eqB_at s _
theorem is_kText (s : ByteArray) : (s.toList == [116, 101, 120, 116]) = Ip.eqB s Ip.kText := eqB_at s _
theorem is_kList (s : ByteArray) : (s.toList == [108, 105, 115, 116]) = Ip.eqB s Ip.kList := eqB_at s _
theorem is_kOpt (s : ByteArray) : (s.toList == [111, 112, 116]) = Ip.eqB s Ip.kOpt := eqB_at s _
theorem is_sOpen (s : ByteArray) : (s.toList == [123]) = Ip.eqB s Ip.sOpen := eqB_at s _
theorem is_sShut (s : ByteArray) : (s.toList == [125]) = Ip.eqB s Ip.sShut := eqB_at s _
theorem is_sIn (s : ByteArray) : (s.toList == [40]) = Ip.eqB s Ip.sIn := eqB_at s _
theorem is_sOut (s : ByteArray) : (s.toList == [41]) = Ip.eqB s Ip.sOut := eqB_at s _
theorem is_sSemi (s : ByteArray) : (s.toList == [59]) = Ip.eqB s Ip.sSemi := eqB_at s _
theorem is_sColon (s : ByteArray) : (s.toList == [58]) = Ip.eqB s Ip.sColon := eqB_at s _
theorem is_sDot (s : ByteArray) : (s.toList == [46]) = Ip.eqB s Ip.sDot := eqB_at s _
theorem is_sArrow (s : ByteArray) : (s.toList == [45, 62]) = Ip.eqB s Ip.sArrow := eqB_at s _
set_option maxRecDepth 100000 in
set_option maxHeartbeats 4000000 in
theorem Index_any {w : World} {p : Option Addr} {cap : Nat} {of : List ByteArray} (s : ByteArray) (h : TextsAt w p of) (hl : of.length ≤ 100000) :
    Calls Tryz.prog 169 #[.slice p of.length cap, .string s] w fun e w' => ∃ x : Int, e = .returned (.int .i64 x) ∧ decide (0 ≤ x) = Ip.among of s ∧ w = w' := by
  have HP := Lib.hid h
  have hw : ∀ k, (hk : k < of.length) → Ip.eqB s of[k] = true → Ip.among of s = true := fun k hk e => by rw [Ip.eqB_iff] at e; exact Ip.among_iff.2 (e ▸ List.getElem_mem hk)
  have hn : (∀ i, (hi : i < of.length) → Ip.eqB s of[i] = false) → Ip.among of s = false := fun h => by
    cases hb : Ip.among of s with
    | false => rfl
    | true =>
      obtain ⟨i, hi, e⟩ := List.getElem_of_mem (Ip.among_iff.1 hb)
      have := h i hi
      rw [e, Ip.eqB_self] at this; cases this
  have HW := Lib.hid hw
  have HN := Lib.hid hn
  clear h hw hn
  go_enter Tryz.func169, Tryz.ntmps169
  go_wp2_with fail
  go_loop [5, 8] (fun _ kv => ∃ k : Nat, k ≤ of.length ∧ kv = .int .i64 (k : Nat) ∧ Hid (∀ i, i < k → ∀ (hi : i < of.length), Ip.eqB s of[i] = false)) (fun _ kv => of.length - (intOf kv).toNat)
  case atStart => exact ⟨0, Nat.zero_le _, rfl, Lib.hid fun i hi => absurd hi (Nat.not_lt_zero _)⟩
  case round =>
    obtain ⟨k, hk, rfl, H⟩ := hrel
    by_cases hlt : k < of.length
    · have i1 : (k : Int) < (of.length : Int) := by omega
      have i2 : (0 : Int) ≤ (k : Int) := by omega
      obtain ⟨A, rfl, c0, c1⟩ := HP.out k hlt
      have HY := Lib.hid (HW.out k hlt)
      have HK2 : Hid (Ip.eqB s of[k] = false → ∀ i, i < k + 1 → ∀ (hi : i < of.length), Ip.eqB s of[i] = false) := Lib.hid fun h i hi hi2 => by
        rcases Nat.lt_or_ge i k with h1 | h1
        · exact H.out i h1 hi2
        · have : i = k := by omega
          subst this; exact h
      generalize of[k] = x at *
      have hx := eqB_list s x
      cases hb : Ip.eqB s x with
      | true =>
        rw [hb] at hx
        have HB := Lib.hid (HY.out hb)
        clear hb HY HK2
        go_wp2_with fail
        go_ret
        exact ⟨_, rfl, by rw [HB.out]; simp, rfl⟩
      | false =>
        rw [hb] at hx
        have HB := Lib.hid (HK2.out hb)
        clear hb HY HK2
        go_wp2_with fail
        go_round
        case rel => exact ⟨k + 1, by omega, by go_num, HB⟩
        case measure => simp [intOf]; omega
    · obtain rfl : k = of.length := by omega
      have i1 : ¬ (of.length : Int) < (of.length : Int) := by omega
      have HB := Lib.hid (HN.out fun i hi => H.out i hi hi)
      go_wp2_with fail
      go_ret
      exact ⟨_, rfl, by rw [HB.out]; rfl, rfl⟩
theorem Contains_any {w : World} {p : Option Addr} {cap : Nat} {of : List ByteArray} (s : ByteArray) (h : TextsAt w p of) (hl : of.length ≤ 100000) :
    Calls Tryz.prog 124 #[.slice p of.length cap, .string s] w fun e w' => e = .returned (.bool (Ip.among of s)) ∧ w = w' := by
  have q := Index_any (cap := cap) s h hl
  clear h
  generalize Ip.among of s = b at *
  go_enter Tryz.func124, Tryz.ntmps124
  go_wp2_with fail
  refine q.mono ?_
  rintro e w' ⟨x, rfl, hx, rfl⟩
  subst hx
  go_wp2_with fail
  go_ret
  exact ⟨rfl, rfl⟩
theorem field_text (t : Tk.Token) (W : World) : (Instr.field 190 (.agg #[.int .u8 (t.kind : Nat), .string t.text, .int .i64 t.num, .int .i64 t.pos]) 1).run Tryz.prog W = .ok (.string t.text) W := by kernel_rfl
theorem field_num (t : Tk.Token) (W : World) : (Instr.field 190 (.agg #[.int .u8 (t.kind : Nat), .string t.text, .int .i64 t.num, .int .i64 t.pos]) 2).run Tryz.prog W = .ok (.int .i64 t.num) W := by kernel_rfl
theorem cells_texts (of : List ByteArray) (w : World) (ty : TypeId) : TextsAt (w.alloc (.cells (of.map Value.string).toArray ty)) (some ⟨w.heap.size, 0, none⟩) of := fun i hi => by
  refine ⟨_, rfl, by rw [World.size_alloc]; exact Nat.lt_succ_self _, ?_⟩
  have hadd : (⟨w.heap.size, 0, none⟩ : Addr).add i = ⟨w.heap.size, i, none⟩ := by unfold Addr.add; split <;> simp_all
  rw [hadd, cell_of_row _ _ _ _ _ _ (heap_alloc_new w _)]
  simp [hi]
end Go.Proofs.YtnkdhmoocomjfaaGreatDoor
namespace Go.Proofs.YtnkdhmoocomjfaaGreatDoor
open Go.RowKit
/-! ### sort -/
theorem Ip.ahead_take {r : Ip.R} (h : Ip.ahead r ≠ ⟨#[]⟩) : ∃ t l, r = ⟨t :: l, false⟩ ∧ Ip.ahead r = t.text := by
  obtain ⟨l, s⟩ := r
  cases s with
  | true => exact absurd rfl h
  | false =>
    cases l with
    | nil => exact absurd rfl h
    | cons t l => exact ⟨t, l, rfl, rfl⟩
theorem Ip.meant_ne {s : ByteArray} (h : Ip.meant s ≠ 0) : s ≠ ⟨#[]⟩ := fun e => h (by rw [e]; decide)
/-- A sort that a keyword means. -/
theorem Ip.sort_kind {r : Ip.R} (h : Ip.meant (Ip.ahead r) ≠ 0) : Ip.sort r = (⟨Ip.meant (Ip.ahead r), ⟨#[]⟩⟩, (Ip.one [Ip.ahead r] r).2) := by
  obtain ⟨t, l, rfl, ha⟩ := Ip.ahead_take (Ip.meant_ne h)
  rw [ha] at h ⊢
  unfold Ip.sort Ip.one Ip.bind Ip.ret Ip.take
  have h1 : (decide (Ip.meant t.text ≠ 0) || Tk.name t.text) = true := by rw [decide_eq_true h]; rfl
  have h2 : Ip.among [t.text] t.text = true := Ip.among_iff.2 (List.mem_singleton.2 rfl)
  simp [h1, h2, h]
theorem Ip.take_none {fit : ByteArray → Nat → Bool} {r : Ip.R} (h : Ip.ahead r = ⟨#[]⟩) (hf : ∀ k, fit ⟨#[]⟩ k = false) : Ip.take fit r = ((⟨#[]⟩, 0), ⟨r.left, true⟩) := by
  obtain ⟨l, s⟩ := r
  cases s with
  | true => rfl
  | false =>
    cases l with
    | nil => rfl
    | cons t l =>
      have : t.text = ⟨#[]⟩ := h
      unfold Ip.take
      simp [this, hf]
/-- A sort that is a name, or none at all. -/
theorem Ip.sort_name {r : Ip.R} (h : Ip.meant (Ip.ahead r) = 0) : Ip.sort r = (⟨7, (Ip.name r).1⟩, (Ip.name r).2) := by
  obtain ⟨l, s⟩ := r
  unfold Ip.sort Ip.name Ip.bind Ip.ret Ip.take
  cases s with
  | true => rfl
  | false =>
    cases l with
    | nil => rfl
    | cons t l =>
      have h0 : Ip.meant t.text = 0 := h
      have h1 : (decide (Ip.meant t.text ≠ 0) || Tk.name t.text) = Tk.name t.text := by rw [decide_eq_false (by omega)]; rfl
      simp only [Bool.false_eq_true, if_false, h1]
      by_cases hn : Tk.name t.text = true
      · rw [if_pos hn]; simp [h0]
      · rw [if_neg hn]; simp [Ip.meant_none]
theorem Ip.meant_le (s : ByteArray) : Ip.meant s ≤ 6 := by
  unfold Ip.meant
  repeat' split
  all_goals omega
theorem cells2 {W : World} {b : Nat} {x0 x1 : Value} {T : TypeId} {fr : Nat × Nat} (h : W.heap[b]? = some (.cells #[x0, x1] T fr)) : W.cell? ⟨b, 0, none⟩ = some x0 ∧ W.cell? ⟨b, 1, none⟩ = some x1 := by
  refine ⟨?_, ?_⟩ <;> rw [cell_of_row W b _ _ _ _ h] <;> rfl
theorem frozen2 {W : World} {b : Nat} {cs : Array Value} {T : TypeId} (h : W.heap[b]? = some (.cells cs T (0, 0))) (i : Nat) : W.frozen? ⟨b, i, none⟩ = false := frozen_of_row _ _ i _ _ h
theorem tn_two {x : Nat} (w : World) (a b : Value) : Tn x w ((w.setCell ⟨x, 0, none⟩ a).setCell ⟨x, 1, none⟩ b) := (tn_set w a).trans (tn_set _ b)
theorem set_two {W : World} {a : Nat} {x0 x1 : Value} (y0 y1 : Value) {T : TypeId} (h : W.heap[a]? = some (.cells #[x0, x1] T (0, 0))) : ((W.setCell ⟨a, 0, none⟩ y0).setCell ⟨a, 1, none⟩ y1).heap[a]? = some (.cells #[y0, y1] T (0, 0)) := tk_set (tk_set h _) _
def soV (x : Ip.So) : Value := .agg #[.int .u8 (x.kind : Nat), .string x.name]
end Go.Proofs.YtnkdhmoocomjfaaGreatDoor
namespace Go.Proofs.YtnkdhmoocomjfaaGreatDoor
open Go.RowKit
theorem row_tn {α : Type} {K : RowKind α} (ok : K.Ok) {b base : Nat} {W V : World} {v : Value} {L : List α} (h : RowIs K W base v L) (ht : Tn b W V) (hb : b < base) : RowIs K V base v L :=
  h.keep ok (Nat.le_refl _) fun j cs ty hj hc _ => ht.block j (Array.getElem?_eq_some_iff.1 hc).1 (by omega)
theorem tn_grew {v v' : Value} {W V : World} (g : GrewT v v' W V) {x : Nat} (hx : v.ownBlock = none ∨ v.ownBlock = some x) : Tn x W V :=
  ⟨g.os, g.tape, g.output, g.size, fun k hk hn => g.block k hk fun e => by rcases hx with h | h <;> rw [h] at e <;> cases e; exact hn rfl⟩
def sliceLen : Value → Nat
  | .slice _ n _ => n
  | _ => 0
theorem news_lit (w : World) (cs : List Value) (t : TypeId) : ∀ j u, cs[j]? = some u → (w.alloc (.cells cs.toArray t)).cell? ((⟨w.heap.size, 0, none⟩ : Addr).add j) = some u := by
  intro j u hj
  have hadd : (⟨w.heap.size, 0, none⟩ : Addr).add j = ⟨w.heap.size, j, none⟩ := by unfold Addr.add; split <;> simp_all
  rw [hadd, cell_of_row _ _ _ _ _ _ (heap_alloc_new w _)]
  simpa using hj
/-- One more sort behind those that there are. -/
def Sorted_ (r : Ip.R) (L : List Ip.So) (rk : Ip.R) : Prop := Ip.sorts r = (L ++ (Ip.sorts rk).1, (Ip.sorts rk).2) ∧ L.length + rk.left.length ≤ r.left.length
theorem sorted_goes {r rk : Ip.R} {L : List Ip.So} (h : Sorted_ r L rk) (hg : (Ip.sort rk).1.goes = true) : Sorted_ r (L ++ [(Ip.sort rk).1]) (Ip.sort rk).2 := by
  obtain ⟨h1, h2⟩ := h
  rw [Ip.sorts_eq rk, if_pos hg] at h1
  refine ⟨by rw [h1]; simp, ?_⟩
  have hr : rk.stuck = false := by
    cases hr : rk.stuck with
    | false => rfl
    | true => rw [Ip.sort_stuck0 hr] at hg; cases hg
  rcases Ip.takes_sort rk hr with h | h
  · rw [Ip.sort_stuck h] at hg; cases hg
  · rw [List.length_append]; simp only [List.length_cons, List.length_nil]; omega
theorem sorted_ends {r rk : Ip.R} {L : List Ip.So} (h : Sorted_ r L rk) (hg : (Ip.sort rk).1.goes = false) : Ip.sorts r = (L ++ [(Ip.sort rk).1], (Ip.sort rk).2) := by
  obtain ⟨h1, h2⟩ := h
  rw [Ip.sorts_eq rk, if_neg (by rw [hg]; simp)] at h1
  exact h1
end Go.Proofs.YtnkdhmoocomjfaaGreatDoor
namespace Go.Proofs.YtnkdhmoocomjfaaGreatDoor
open Go.RowKit
theorem row_set {α : Type} {K : RowKind α} (ok : K.Ok) {base x : Nat} {W V : World} {v : Value} {l : List α} {cs : Array Value} {T : TypeId} (h : RowIs K W base v l) (hx : W.heap[x]? = some (.cells cs T (0, 0))) (hT : ¬ (T = K.ty ∨ K.tys T)) (ht : Tn x W V) : RowIs K V base v l :=
  h.keep ok (Nat.le_refl _) fun j cs' ty hj hc hty => ht.block j (Array.getElem?_eq_some_iff.1 hc).1 fun e => by
    subst e; rw [hx] at hc; cases hc; exact hT hty
section
variable {b q : Nat} {w : World} {x y : Nat} {T : TypeId} {zs cs : Array Value} {r r' r0 : Ip.R} {W V : World}
end
theorem cells3 {W : World} {b : Nat} {x0 x1 x2 : Value} {T : TypeId} {fr : Nat × Nat} (h : W.heap[b]? = some (.cells #[x0, x1, x2] T fr)) : W.cell? ⟨b, 0, none⟩ = some x0 ∧ W.cell? ⟨b, 1, none⟩ = some x1 ∧ W.cell? ⟨b, 2, none⟩ = some x2 := by
  refine ⟨?_, ?_, ?_⟩ <;> rw [cell_of_row W b _ _ _ _ h] <;> rfl
theorem cells4 {W : World} {b : Nat} {x0 x1 x2 x3 : Value} {T : TypeId} {fr : Nat × Nat} (h : W.heap[b]? = some (.cells #[x0, x1, x2, x3] T fr)) : W.cell? ⟨b, 0, none⟩ = some x0 ∧ W.cell? ⟨b, 1, none⟩ = some x1 ∧ W.cell? ⟨b, 2, none⟩ = some x2 ∧ W.cell? ⟨b, 3, none⟩ = some x3 := by
  refine ⟨?_, ?_, ?_, ?_⟩ <;> rw [cell_of_row W b _ _ _ _ h] <;> rfl
theorem cells5 {W : World} {b : Nat} {x0 x1 x2 x3 x4 : Value} {T : TypeId} {fr : Nat × Nat} (h : W.heap[b]? = some (.cells #[x0, x1, x2, x3, x4] T fr)) : W.cell? ⟨b, 0, none⟩ = some x0 ∧ W.cell? ⟨b, 1, none⟩ = some x1 ∧ W.cell? ⟨b, 2, none⟩ = some x2 ∧ W.cell? ⟨b, 3, none⟩ = some x3 ∧ W.cell? ⟨b, 4, none⟩ = some x4 := by
  refine ⟨?_, ?_, ?_, ?_, ?_⟩ <;> rw [cell_of_row W b _ _ _ _ h] <;> rfl
theorem set_three {W : World} {a : Nat} {x0 x1 x2 : Value} (y0 y1 y2 : Value) {T : TypeId} (h : W.heap[a]? = some (.cells #[x0, x1, x2] T (0, 0))) : (((W.setCell ⟨a, 0, none⟩ y0).setCell ⟨a, 1, none⟩ y1).setCell ⟨a, 2, none⟩ y2).heap[a]? = some (.cells #[y0, y1, y2] T (0, 0)) := tk_set (tk_set (tk_set h _) _) _
theorem set_five {W : World} {a : Nat} {x0 x1 x2 x3 x4 : Value} (y0 y1 y2 y3 y4 : Value) {T : TypeId} (h : W.heap[a]? = some (.cells #[x0, x1, x2, x3, x4] T (0, 0))) : (((((W.setCell ⟨a, 0, none⟩ y0).setCell ⟨a, 1, none⟩ y1).setCell ⟨a, 2, none⟩ y2).setCell ⟨a, 3, none⟩ y3).setCell ⟨a, 4, none⟩ y4).heap[a]? = some (.cells #[y0, y1, y2, y3, y4] T (0, 0)) := tk_set (tk_set (tk_set (tk_set (tk_set h _) _) _) _) _
theorem tn_three {x : Nat} (w : World) (a b c : Value) : Tn x w (((w.setCell ⟨x, 0, none⟩ a).setCell ⟨x, 1, none⟩ b).setCell ⟨x, 2, none⟩ c) := ((tn_set w a).trans (tn_set _ b)).trans (tn_set _ c)
theorem tn_five {x : Nat} (w : World) (a b c d e : Value) : Tn x w (((((w.setCell ⟨x, 0, none⟩ a).setCell ⟨x, 1, none⟩ b).setCell ⟨x, 2, none⟩ c).setCell ⟨x, 3, none⟩ d).setCell ⟨x, 4, none⟩ e) := ((((tn_set w a).trans (tn_set _ b)).trans (tn_set _ c)).trans (tn_set _ d)).trans (tn_set _ e)
end Go.Proofs.YtnkdhmoocomjfaaGreatDoor
namespace Go.Proofs.YtnkdhmoocomjfaaGreatDoor
open Go.RowKit
end Go.Proofs.YtnkdhmoocomjfaaGreatDoor
namespace Go.Proofs.YtnkdhmoocomjfaaGreatDoor
open Go.RowKit
theorem Ip.undo_yes {r : Ip.R} (h : Ip.eqB (Ip.ahead r) Ip.kUndo = true) : Ip.undo r = ((Ip.name (Ip.one [Ip.kUndo] r).2).1, (Ip.one [Ip.sSemi] (Ip.name (Ip.one [Ip.kUndo] r).2).2).2) := by
  have hk := Ip.eqB_iff.1 h
  obtain ⟨t, l, rfl, ha⟩ := Ip.ahead_take (r := r) (by rw [hk]; decide)
  have ht : t.text = Ip.kUndo := by rw [← ha]; exact hk
  have h1 : Ip.one [Ip.kUndo, Ip.sSemi] ⟨t :: l, false⟩ = (Ip.kUndo, ⟨l, false⟩) := by
    unfold Ip.one Ip.bind Ip.ret Ip.take; simp [ht, show Ip.among [Ip.kUndo, Ip.sSemi] Ip.kUndo = true by decide]
  have h2 : Ip.one [Ip.kUndo] ⟨t :: l, false⟩ = (Ip.kUndo, ⟨l, false⟩) := by
    unfold Ip.one Ip.bind Ip.ret Ip.take; simp [ht, show Ip.among [Ip.kUndo] Ip.kUndo = true by decide]
  unfold Ip.undo
  rw [Ip.bind_eq, h1, h2]
  simp only [show Ip.eqB Ip.kUndo Ip.kUndo = true by decide, if_true, Ip.bind_eq, Ip.ret_eq]
theorem Ip.undo_no {r : Ip.R} (h : Ip.eqB (Ip.ahead r) Ip.kUndo = false) : Ip.undo r = (⟨#[]⟩, (Ip.one [Ip.sSemi] r).2) := by
  obtain ⟨l, s⟩ := r
  cases s with
  | true => rfl
  | false =>
    cases l with
    | nil => rfl
    | cons t l =>
      have hu : Ip.eqB t.text Ip.kUndo = false := h
      have hne : t.text ≠ Ip.kUndo := fun e => by rw [e] at hu; exact absurd hu (by decide)
      by_cases hs : t.text = Ip.sSemi
      · have h1 : Ip.one [Ip.kUndo, Ip.sSemi] ⟨t :: l, false⟩ = (Ip.sSemi, ⟨l, false⟩) := by
          unfold Ip.one Ip.bind Ip.ret Ip.take; simp [hs, show Ip.among [Ip.kUndo, Ip.sSemi] Ip.sSemi = true by decide]
        have h2 : Ip.one [Ip.sSemi] ⟨t :: l, false⟩ = (Ip.sSemi, ⟨l, false⟩) := by
          unfold Ip.one Ip.bind Ip.ret Ip.take; simp [hs, show Ip.among [Ip.sSemi] Ip.sSemi = true by decide]
        unfold Ip.undo
        rw [Ip.bind_eq, h1, h2]; rfl
      · have a1 : Ip.among [Ip.kUndo, Ip.sSemi] t.text = false := by
          cases ha : Ip.among [Ip.kUndo, Ip.sSemi] t.text with
          | false => rfl
          | true => have := Ip.among_iff.1 ha; simp [hne, hs] at this
        have a2 : Ip.among [Ip.sSemi] t.text = false := by
          cases ha : Ip.among [Ip.sSemi] t.text with
          | false => rfl
          | true => have := Ip.among_iff.1 ha; simp [hs] at this
        have h1 : Ip.one [Ip.kUndo, Ip.sSemi] ⟨t :: l, false⟩ = (⟨#[]⟩, ⟨t :: l, true⟩) := by
          unfold Ip.one Ip.bind Ip.ret Ip.take; simp [a1]
        have h2 : Ip.one [Ip.sSemi] ⟨t :: l, false⟩ = (⟨#[]⟩, ⟨t :: l, true⟩) := by
          unfold Ip.one Ip.bind Ip.ret Ip.take; simp [a2]
        unfold Ip.undo
        rw [Ip.bind_eq, h1, h2]; rfl
end Go.Proofs.YtnkdhmoocomjfaaGreatDoor
namespace Go.Proofs.YtnkdhmoocomjfaaGreatDoor
open Go.RowKit
theorem Ip.shut_one {r : Ip.R} (h : Ip.closes r = true) : (Ip.one [Ip.sShut] r).2 = Ip.shut r ∧ r.stuck = false ∧ Ip.eqB (Ip.ahead r) Ip.sShut = true := by
  obtain ⟨l, s⟩ := r
  cases s with
  | true => simp [Ip.closes] at h
  | false =>
    cases l with
    | nil => rw [Ip.closes_nil] at h; cases h
    | cons t l =>
      rw [Ip.closes_cons] at h
      have ht := Ip.eqB_iff.1 h
      refine ⟨?_, rfl, h⟩
      unfold Ip.one Ip.bind Ip.ret Ip.take
      simp [ht, Ip.shut, show Ip.among [Ip.sShut] Ip.sShut = true by decide]
/-- Behind some rounds of the loop. -/
def Looped {α : Type} (read : Ip.M α) (r : Ip.R) (L : List α) (rk : Ip.R) : Prop := Ip.loop read r = (L ++ (Ip.loop read rk).1, (Ip.loop read rk).2) ∧ L.length + rk.left.length + (if rk.stuck then 0 else 1) ≤ r.left.length + 1
theorem looped_start {α : Type} (read : Ip.M α) (r : Ip.R) : Looped read r [] r := ⟨rfl, by simp; split <;> omega⟩
section
variable {α : Type} {read : Ip.M α} {r rk : Ip.R} {L : List α}
theorem looped_stuck (hn : Ip.Nice read) (ht : Ip.Takes read) (h : Looped read r L rk) (hs : rk.stuck = true) : Ip.loop read r = (L, rk) := by
  rw [h.1, Ip.loop_eq hn ht, if_pos hs]; simp
theorem looped_shut (hn : Ip.Nice read) (ht : Ip.Takes read) (h : Looped read r L rk) (hs : rk.stuck = false) (hc : Ip.closes rk = true) : Ip.loop read r = (L, (Ip.one [Ip.sShut] rk).2) := by
  rw [h.1, Ip.loop_eq hn ht, if_neg (by rw [hs]; simp), if_pos hc, (Ip.shut_one hc).1]; simp
theorem looped_goes (hn : Ip.Nice read) (ht : Ip.Takes read) (h : Looped read r L rk) (hs : rk.stuck = false) (hc : Ip.closes rk = false) : Looped read r (L ++ [(read rk).1]) (read rk).2 := by
  obtain ⟨h1, h2⟩ := h
  rw [Ip.loop_eq hn ht rk, if_neg (by rw [hs]; simp), if_neg (by rw [hc]; simp)] at h1
  refine ⟨by rw [h1]; simp, ?_⟩
  rw [hs] at h2
  simp only [Bool.false_eq_true, if_false] at h2
  have hl := hn.len rk
  rw [List.length_append]
  simp only [List.length_cons, List.length_nil]
  rcases ht rk hs with e | e
  · rw [e]; simp only [if_true]; omega
  · split <;> omega
end
end Go.Proofs.YtnkdhmoocomjfaaGreatDoor
namespace Go.Proofs.YtnkdhmoocomjfaaGreatDoor
open Go.RowKit
end Go.Proofs.YtnkdhmoocomjfaaGreatDoor
namespace Go.Proofs.YtnkdhmoocomjfaaGreatDoor
open Go.RowKit
theorem step_append_run {P : Program} {ops : Array Oper} {o : Oper} {a : Act} {w : World} {K : Act → World → Prop} {Q : Exit → Act → World → Prop} {E : Prop}
    (hg : o.guard = none) (s x : Operand) (t tn : TypeId) (ho : o.op = .call { callee := .builtin .append, args := #[s, x], argTypes := #[t, tn] }) (vs vx : Value) (hs : a.eval s = vs) (hx : a.eval x = vx)
    (v' : Value) (w' : World) (hr : (Builtin.append_ #[t, tn] o.type #[vs, vx]).run P w = .ok v' w') (hK : K (a.put o.dst v') w') :
    if Region.wanted o (yielded ops a.tmps) = true then Oper.wp P o a w K Q else E := by
  have hw : Region.wanted o (yielded ops a.tmps) = true := by simp [Region.wanted, hg]
  rw [if_pos hw]
  exact Lib.wp_append_run w s x t tn ho vs vx hs hx v' w' hr hK
theorem Ip.one_cases (of : List ByteArray) (r : Ip.R) : (Ip.one of r).1 ∈ of ∨ (Ip.one of r).1 = ⟨#[]⟩ := by
  obtain ⟨l, s⟩ := r
  unfold Ip.one Ip.bind Ip.ret Ip.take
  cases s with
  | true => exact .inr rfl
  | false =>
    cases l with
    | nil => exact .inr rfl
    | cons t l =>
      simp only [Bool.false_eq_true, if_false]
      by_cases h : Ip.among of t.text = true
      · rw [if_pos h]; exact .inl (Ip.among_iff.1 h)
      · rw [if_neg h]; exact .inr rfl
/-- A schema that is being filled, in block c. -/
structure SchIn (W : World) (base c : Nat) (s : Ip.Sch) (vr vs vg : Value) : Prop where
  blk : W.heap[c]? = some (.cells #[.string s.name, vr, vs, vg] 26 (0, 0))
  recs : RowIs kRcd W base vr s.records
  srvs : RowIs kSrv W base vs s.services
  sgas : RowIs kSga W base vg s.sagas
/-- Other schemas' blocks stay. -/
def Others (c : Nat) (w W : World) : Prop := ∀ k cs, k ≠ c → w.heap[k]? = some (.cells cs 26 (0, 0)) → W.heap[k]? = w.heap[k]?
theorem Others.trans {c : Nat} {w W V : World} (h : Others c w W) (k : Others c W V) : Others c w V := fun j cs hj hc => by
  have h1 := h j cs hj hc
  exact (k j cs hj (h1.trans hc)).trans h1
theorem others_set {c i : Nat} {w : World} (v : Value) : Others c w (w.setCell ⟨c, i, none⟩ v) := fun k cs hk _ => Below.heap_setCell _ _ _ _ hk
theorem sch_tn {b base c : Nat} {w W : World} {s : Ip.Sch} {vr vs vg : Value} (h : SchIn w base c s vr vs vg) (ht : Tn b w W) (hb : b < base) (hc : c ≠ b) : SchIn W base c s vr vs vg :=
  ⟨(ht.block c (Array.getElem?_eq_some_iff.1 h.blk).1 hc).trans h.blk, row_tn okRcd h.recs ht hb, row_tn okSrv h.srvs ht hb, row_tn okSga h.sgas ht hb⟩
/-- Whichever row is appended to: the others stay, and so does the schema's block. -/
theorem row_apart {α β : Type} {K : RowKind α} {J : RowKind β} (ok : K.Ok) {base : Nat} {W V : World} {v u : Value} {l : List α} {m : List β} (h : RowIs K W base v l) (g : RowIs J W base u m) (hb : ∀ k, k < W.heap.size → u.ownBlock ≠ some k → V.heap[k]? = W.heap[k]?) (hT : ¬ (J.ty = K.ty ∨ K.tys J.ty)) : RowIs K V base v l :=
  h.keep ok (Nat.le_refl _) fun j cs ty hj hc hty => hb j (Array.getElem?_eq_some_iff.1 hc).1 fun e => by
    obtain ⟨cs2, h2⟩ := g.ownTy j e
    rw [hc] at h2; cases h2; exact hT hty
theorem block_apart {β : Type} {J : RowKind β} {base k : Nat} {W V : World} {u : Value} {m : List β} {cs : Array Value} {T : TypeId} (g : RowIs J W base u m) (hb : ∀ k, k < W.heap.size → u.ownBlock ≠ some k → V.heap[k]? = W.heap[k]?) (hk : W.heap[k]? = some (.cells cs T (0, 0))) (hT : J.ty ≠ T) : V.heap[k]? = W.heap[k]? :=
  hb k (Array.getElem?_eq_some_iff.1 hk).1 fun e => by
    obtain ⟨cs2, h2⟩ := g.ownTy k e
    rw [hk] at h2; cases h2; exact hT rfl
end Go.Proofs.YtnkdhmoocomjfaaGreatDoor
namespace Go.Proofs.YtnkdhmoocomjfaaGreatDoor
open Go.RowKit
/-- A schema, as a call tells it. -/
def SchV (W : World) (base : Nat) (v : Value) (s : Ip.Sch) : Prop := ∃ vr vs vg, v = .agg #[.string s.name, vr, vs, vg] ∧ RowIs kRcd W base vr s.records ∧ RowIs kSrv W base vs s.services ∧ RowIs kSga W base vg s.sagas
theorem SchV.keep {W V : World} {base base' : Nat} {v : Value} {s : Ip.Sch} (h : SchV W base v s) (hb : base' ≤ base) (hk : ∀ j cs ty, base ≤ j → W.heap[j]? = some (.cells cs ty (0, 0)) → ty ≠ 26 → V.heap[j]? = W.heap[j]?) : SchV V base' v s := by
  obtain ⟨vr, vs, vg, e, h1, h2, h3⟩ := h
  refine ⟨vr, vs, vg, e, h1.keep okRcd hb fun j cs ty hj hc ht => hk j cs ty hj hc ?_, h2.keep okSrv hb fun j cs ty hj hc ht => hk j cs ty hj hc ?_, h3.keep okSga hb fun j cs ty hj hc ht => hk j cs ty hj hc ?_⟩
  · intro e; subst e
    revert ht
    show ¬ ((26 : Nat) = 34 ∨ ((26 : Nat) = 39 ∨ (26 : Nat) = 41)); decide
  · intro e; subst e
    revert ht
    show ¬ ((26 : Nat) = 98 ∨ (26 : Nat) = 100); decide
  · intro e; subst e
    revert ht
    show ¬ ((26 : Nat) = 44 ∨ (26 : Nat) = 48); decide
theorem SchV.below {W V : World} {base : Nat} {v : Value} {s : Ip.Sch} (h : SchV W base v s) (hb : Below W.heap.size W V) : SchV V base v s := h.keep (Nat.le_refl _) fun j cs ty _ hc _ => hb.block j (Array.getElem?_eq_some_iff.1 hc).1
theorem SchV.mono {W : World} {base base' : Nat} {v : Value} {s : Ip.Sch} (h : SchV W base v s) (hb : base' ≤ base) : SchV W base' v s := h.keep hb fun _ _ _ _ _ _ => rfl
theorem SchV.set {W V : World} {base x : Nat} {v : Value} {s : Ip.Sch} {cs : Array Value} (h : SchV W base v s) (hx : W.heap[x]? = some (.cells cs 26 (0, 0))) (ht : Tn x W V) : SchV V base v s :=
  h.keep (Nat.le_refl _) fun j cs' ty _ hc hty => ht.block j (Array.getElem?_eq_some_iff.1 hc).1 fun e => by subst e; rw [hx] at hc; cases hc; exact hty rfl
theorem SchV.zero (W : World) (base : Nat) : SchV W base (.agg #[.string ⟨#[]⟩, .slice none 0 0, .slice none 0 0, .slice none 0 0]) Ip.Sch.zero := ⟨_, _, _, rfl, RowIs.nil _ _ _, RowIs.nil _ _ _, RowIs.nil _ _ _⟩
def total (s : Ip.Sch) : Nat := s.records.length + s.services.length + s.sagas.length
theorem total_declare (s : Ip.Sch) (r : Ip.R) : total (Ip.declare s r).1 ≤ total s + 1 := by
  unfold Ip.declare Ip.declareW
  rw [Ip.bind_eq]
  split
  · rw [Ip.bind_eq, Ip.ret_eq]; unfold total; simp only [List.length_append, List.length_cons, List.length_nil]; omega
  · split
    · rw [Ip.bind_eq, Ip.ret_eq]; unfold total; simp only [List.length_append, List.length_cons, List.length_nil]; omega
    · split
      · rw [Ip.bind_eq, Ip.ret_eq]; unfold total; simp only [List.length_append, List.length_cons, List.length_nil]; omega
      · split
        · rw [Ip.bind_eq, Ip.ret_eq]; unfold total; simp only [List.length_append, List.length_cons, List.length_nil]; omega
        · rw [Ip.ret_eq]; exact Nat.le_succ _
/-- Behind some declarations. -/
def Run (r : Ip.R) (s : Ip.Sch) (rk : Ip.R) : Prop := Ip.schema r = Ip.decls s rk ∧ total s + rk.left.length + (if rk.stuck then 0 else 1) ≤ 65537
def mreader (b : Nat) (W : World) : Nat := match W.cell? ⟨b, 0, none⟩, W.cell? ⟨b, 1, none⟩ with
  | some (.slice _ n _), some (.bool s) => n + if s then 0 else 1
  | _, _ => 0
theorem run_goes {r rk : Ip.R} {s : Ip.Sch} (h : Run r s rk) (he : Ip.ends rk = false) : Run r (Ip.declare s rk).1 (Ip.declare s rk).2 ∧ (Ip.declare s rk).2.left.length + (if (Ip.declare s rk).2.stuck then 0 else 1) < rk.left.length + if rk.stuck then 0 else 1 := by
  obtain ⟨h1, h2⟩ := h
  rw [Ip.decls_eq s rk, he] at h1
  simp only [Bool.false_eq_true, if_false] at h1
  have hst := Ip.not_ends he
  rw [hst] at h2 ⊢
  simp only [Bool.false_eq_true, if_false] at h2 ⊢
  have ht := total_declare s rk
  have hl := (Ip.nice_declare s).len rk
  have key : (Ip.declare s rk).2.left.length + (if (Ip.declare s rk).2.stuck then 0 else 1) < rk.left.length + 1 := by
    rcases Ip.takes_declare s rk hst with e | e
    · rw [e]; simp only [if_true]; omega
    · split <;> omega
  exact ⟨⟨h1, by omega⟩, key⟩
theorem run_ends {r rk : Ip.R} {s : Ip.Sch} (h : Run r s rk) (he : Ip.ends rk = true) : Ip.schema r = (s, rk) := by
  rw [h.1, Ip.decls_eq s rk, he]; rfl
theorem empty_list (x : ByteArray) : x.toList.isEmpty = Ip.eqB x ⟨#[]⟩ := by
  rw [Go.Lib.toList_data]
  unfold Ip.eqB
  cases x.data.toList <;> rfl
end Go.Proofs.YtnkdhmoocomjfaaGreatDoor
namespace Go.Proofs.YtnkdhmoocomjfaaGreatDoor
open Go.RowKit
def zS : Array Value := #[.string ⟨#[]⟩, .slice none 0 0, .slice none 0 0, .slice none 0 0]
/-- What Parse tells. -/
def Parsed (x : Ip.Sch × Int × Nat) (w : World) (e : Ending) (w' : World) : Prop := ∃ v, e = .returned (.tuple #[v, .int .i64 x.2.1, .int .i64 (x.2.2 : Nat)]) ∧ SchV w' w.heap.size v x.1 ∧ Below w.heap.size w w'
theorem below_four' {B x : Nat} {w W : World} (h : Below B w W) (hx : B ≤ x) (a b c d : Value) : Below B w ((((W.setCell ⟨x, 0, none⟩ a).setCell ⟨x, 1, none⟩ b).setCell ⟨x, 2, none⟩ c).setCell ⟨x, 3, none⟩ d) := below_four h hx
/-- What Type tells. -/
def Typed (x : List Ip.So × Int × Nat) (w : World) (e : Ending) (w' : World) : Prop := ∃ v, e = .returned (.tuple #[v, .int .i64 x.2.1, .int .i64 (x.2.2 : Nat)]) ∧ RowIs kSo w' w.heap.size v x.1 ∧ Below w.heap.size w w'
end Go.Proofs.YtnkdhmoocomjfaaGreatDoor
namespace Go.Proofs.YtnkdhmoocomjfaaGreatDoor
open Go.RowKit
theorem dn_below (w : World) (n : Nat) : Below w.heap.size w (w.drewN n) := ⟨rfl, rfl, rfl, Nat.le_refl _, fun _ _ => rfl⟩
/-- An element of a row, at an address of which nothing is known. -/
theorem row_at {α : Type} {K : RowKind α} (ok : K.Ok) {W : World} {base : Nat} {v : Value} {L : List α} (h : RowIs K W base v L) {i : Nat} (hi : i < L.length) :
    ∃ A c t, v = .slice (some A) L.length c ∧ A.block < W.heap.size ∧ K.sub W base t L[i] ∧ (∀ u, (K.cells L[i] t)[0]? = some u → W.cell? (A.add (i * K.k)) = some u) ∧ ∀ j u, 0 < j → (K.cells L[i] t)[j]? = some u → W.cell? ⟨(A.add (i * K.k)).block, (A.add (i * K.k)).off + j, none⟩ = some u := by
  obtain ⟨g, c, t, e, -, hg, hs, hc⟩ := h.at ok hi
  have hadd : (⟨g, 0, none⟩ : Addr).add (i * K.k) = ⟨g, i * K.k, none⟩ := by unfold Addr.add; split <;> simp_all
  refine ⟨⟨g, 0, none⟩, c, t, e, hg, hs, fun u hu => ?_, fun j u _ hu => ?_⟩
  · rw [hadd]; exact hc 0 u hu
  · rw [hadd]; exact hc j u hu
/-! ### structs -/
/-! ### Same -/
end Go.Proofs.YtnkdhmoocomjfaaGreatDoor
namespace Ip
def wakeL1 : List UInt8 := [109, 111, 100, 117, 108, 101, 32, 109, 59, 32, 114, 101, 99, 111, 114, 100, 32, 82, 32, 123, 32, 97, 58, 32, 108, 105, 115, 116, 32, 111, 112, 116, 32, 105, 110, 116, 59, 32, 125, 32, 115, 101, 114, 118, 105, 99, 101, 32, 83, 32, 123, 32]
def wakeL2 : List UInt8 := [116, 97, 107, 101, 32, 116, 40, 82, 41, 32, 45, 62, 32, 105, 110, 116, 32, 117, 110, 100, 111, 32, 117, 59, 32, 125, 32, 115, 97, 103, 97, 32, 103, 40, 82, 41, 32, 123, 32, 100, 111, 32, 83, 46, 116, 32, 97, 116, 32, 50, 59, 32, 125]
def wakeS : Sch := ⟨⟨#[109]⟩, [⟨⟨#[82]⟩, false, [⟨⟨#[97]⟩, [⟨5, ⟨#[]⟩⟩, ⟨6, ⟨#[]⟩⟩, ⟨3, ⟨#[]⟩⟩]⟩]⟩], [⟨⟨#[83]⟩, [⟨⟨#[116]⟩, ⟨#[82]⟩, 3, ⟨#[116, 97, 107, 101]⟩, ⟨#[117]⟩⟩]⟩], [⟨⟨#[103]⟩, ⟨#[82]⟩, [⟨⟨#[83]⟩, ⟨#[116]⟩, 2⟩]⟩]⟩
theorem wake_parse : parse (wakeL1 ++ wakeL2) = (wakeS, 0, 0) := by kernel_rfl
end Ip
namespace Go.Proofs.YtnkdhmoocomjfaaGreatDoor
open Go.RowKit
end Go.Proofs.YtnkdhmoocomjfaaGreatDoor
namespace Go.Proofs.YtnkdhmoocomjfaaGreatDoor
open Go.RowKit
theorem few_of (t : ByteArray) (h : t.size ≤ 65536) : Ip.Few 1000000 (Ip.parse t.data.toList).1 := Ip.parse_few (by rw [list_len]; omega)
theorem sizes_le (x : ByteArray) (ts : List Tk.Token) (h : Tk.all 0 x.data.toList = .ok ts) : Tk.sizes ts ≤ x.size ∧ ts.length ≤ x.size := by
  have h1 := Tk.all_sizes _ 0 x.data.toList (Nat.le_refl _)
  have h2 := Tk.all_len _ 0 x.data.toList (Nat.le_refl _)
  rw [h, list_len] at h1 h2
  exact ⟨h1, h2⟩
theorem spaced_take (ts : List Tk.Token) {k : Nat} (hk : k < ts.length) : Tk.bs (Tk.spaced (ts.take (k + 1))) = Tk.bs (Tk.spaced (ts.take k)) ++ ts[k].text ++ ⟨#[10, 47, 47, 32, 120, 32, 123, 32, 59, 10, 9]⟩ := by
  have h : Tk.spaced (ts.take (k + 1)) = Tk.spaced (ts.take k) ++ ts[k].text.data.toList ++ Tk.sep := by
    rw [List.take_succ_eq_append_getElem hk]
    unfold Tk.spaced
    rw [List.flatMap_append]
    simp
  rw [h]
  have e : ∀ {a b : ByteArray}, a.data.toList = b.data.toList → a = b := fun {a b} h => by
    obtain ⟨⟨a⟩⟩ := a
    obtain ⟨⟨b⟩⟩ := b
    simpa using h
  apply e
  rw [Tk.bs_data, ByteArray.data_append, ByteArray.data_append, Array.toList_append, Array.toList_append, Tk.bs_data]
  rfl
end Go.Proofs.YtnkdhmoocomjfaaGreatDoor
namespace Go.Proofs.YtnkdhmoocomjfaaGreatDoor
open Go.RowKit
theorem cat_list (x y : ByteArray) : (x ++ ⟨#[10]⟩ ++ y).data.toList = x.data.toList ++ 10 :: y.data.toList := by
  rw [ByteArray.data_append, ByteArray.data_append, Array.toList_append, Array.toList_append, List.append_assoc]; rfl
theorem cat_size (x y : ByteArray) : (x ++ ⟨#[10]⟩ ++ y).size = x.size + 1 + y.size := by
  rw [ByteArray.size_append, ByteArray.size_append]; rfl
theorem ahead_of {x y : List UInt8} (h1 : (Tk.all 0 x).err = 0) (h2 : (Tk.all 0 y).err = 0) (he : (Ip.parse x).2.2 = 120) (ha : (Ip.parse x).2.1 ≠ (x.length : Nat)) : Ip.parse (x ++ 10 :: y) = (Ip.Sch.zero, (Ip.parse x).2.1, 120) := by
  cases hx : Tk.all 0 x with
  | no a e => rw [hx] at h1; exact absurd h1 (Tk.all_err hx)
  | ok l =>
    cases hy : Tk.all 0 y with
    | no a e => rw [hy] at h2; exact absurd h2 (Tk.all_err hy)
    | ok m => exact Ip.parse_ahead hx hy he ha
end Go.Proofs.YtnkdhmoocomjfaaGreatDoor
namespace Go.Proofs.YtnkdhmoocomjfaaGreatDoor
open Go.RowKit
/-- A row is appended to a row of the call's own. -/
theorem row_append_row {α : Type} {K : RowKind α} (ok : K.Ok) {W : World} {base base' : Nat} {v u : Value} {L M : List α} (h : RowIs K W base v L) (hm : RowIs K W base' u M) (hbb : base ≤ base') (hs : L.length + M.length ≤ 1000000) (hb : base ≤ W.heap.size) (ty : TypeId) :
    ∃ (pv : Option Addr) (cv : Nat) (V : World), (Builtin.append_ #[K.sl, K.sl] ty #[v, u]).run Tryz.prog W = .ok (.slice pv (L.length + M.length) cv) V ∧ RowIs K V base (.slice pv (L.length + M.length) cv) (L ++ M) ∧ GrewT v (.slice pv (L.length + M.length) cv) W V := by
  obtain ⟨p0, k0, rfl, q1, q2⟩ := h.shape
  obtain ⟨p2, k2, rfl, -, -⟩ := hm.shape
  by_cases h0 : M = []
  · subst h0
    refine ⟨p0, k0, W, ?_, by rw [List.append_nil]; exact h, rfl, rfl, rfl, Nat.le_refl _, fun _ _ _ => rfl, fun k hk => .inl hk⟩
    obtain ⟨i0, hi0, -, -, -⟩ := info_parts ok.info
    have hsz := run_sizeOf W hi0
    cases p0 <;> cases p2 <;> simp [Builtin.append_, run_underlying ok.under, loadCellsFrom, storeCells, Builtin.firstCells, Builtin.lenOf, go_sem, q1, hsz]
  · obtain ⟨Z, h1, h2, h3⟩ := h
    obtain ⟨Y, m1, m2, m3⟩ := hm
    have hpos : 0 < M.length := by cases M with
      | nil => exact absurd rfl h0
      | cons _ _ => simp
    have hYl : Y.length = M.length := by rw [← m1, List.length_map]
    obtain ⟨g, hg⟩ : ∃ g, p2 = some ⟨g, 0, none⟩ := by
      rcases m2.2 with ⟨-, e⟩ | ⟨g, cap, cur, e, -⟩
      · omega
      · cases e; exact ⟨g, rfl⟩
    subst hg
    obtain ⟨i0, hi0, hz0, hz1, hz2⟩ := info_parts ok.info
    have hone : ∀ u ∈ (Y.flatMap fun z => K.cells z.1 z.2), u.oneCell' = true := fun u hu => by
      obtain ⟨z, hz, hu⟩ := List.mem_flatMap.1 hu
      exact ok.one _ _ _ _ (m3 z hz) u hu
    obtain ⟨v', V, hrun, ho, hgr, -, hown⟩ := run_append_own_at (P := Tryz.prog) W base K.sl ty K.ty i0 _ K.k K.bytes ok.under hi0 hz0 hz1 hz2 ok.zlen ok.pos _ _ _ h2
      ⟨g, 0, none⟩ M.length k2 (Y.flatMap fun z => K.cells z.1 z.2) (by rw [flat_len ok.len, hYl]) (m2.cells rfl) hone (by unfold maxLen; omega) (by have := ok.bound; have := Nat.mul_le_mul hs this; omega) hb
    have hgr2 : ∀ k, k < W.heap.size → (Value.slice p0 L.length k0).ownBlock ≠ some k → V.heap[k]? = W.heap[k]? := fun k hk hn => hgr.block k hk fun e => hn e.symm
    have hty : ∀ k, (Value.slice p0 L.length k0).ownBlock = some k → ∃ cs, W.heap[k]? = some (Obj.cells cs K.ty (0, 0)) := RowIs.ownTy (K := K) (L := L) ⟨Z, h1, h2, h3⟩
    have hne : ∀ (j : Nat) (cs : Array Value) (ty' : TypeId), W.heap[j]? = some (Obj.cells cs ty' (0, 0)) → K.tys ty' → V.heap[j]? = W.heap[j]? := by
      intro j cs ty' hj ht'
      refine hgr2 j (Array.getElem?_eq_some_iff.1 hj).1 fun e => ?_
      obtain ⟨cs', hc'⟩ := hty j e
      rw [hj] at hc'
      cases hc'
      exact ok.fresh ht'
    have hR : RowIs K V base v' (L ++ M) := by
      refine ⟨Z ++ Y, by rw [List.map_append, h1, m1], ?_, fun z hz => ?_⟩
      · rw [List.flatMap_append, List.length_append]; exact ho
      · rcases List.mem_append.1 hz with hz | hz
        · exact ok.keep _ _ _ _ _ _ (h3 z hz) (Nat.le_refl _) fun j cs ty' _ hj ht' => hne j cs ty' hj ht'
        · exact ok.keep _ _ _ _ _ _ (m3 z hz) hbb fun j cs ty' _ hj ht' => hne j cs ty' hj ht'
    obtain ⟨pv, cv, rfl, -, -⟩ := hR.shape
    rw [List.length_append] at hrun hR hown
    refine ⟨pv, cv, V, hrun, hR, hgr.os, hgr.tape, hgr.output, hgr.size, hgr2, fun k hk => ?_⟩
    rcases hown with e | e
    · exact .inl (e ▸ hk)
    · have e2 : (Value.slice pv (L.length + M.length) cv).ownBlock = some W.heap.size := e
      rw [e2] at hk
      simp only [Option.some.injEq] at hk
      exact .inr (by omega)
/-- A row that lies higher than the one that is appended to. -/
theorem row_far {α : Type} {K : RowKind α} (ok : K.Ok) {W V : World} {base : Nat} {u v v' : Value} {M : List α} (h : RowIs K W base u M) (g : GrewT v v' W V) (hv : ∀ k, v.ownBlock = some k → k < base) : RowIs K V base u M :=
  h.keep ok (Nat.le_refl _) fun j cs ty hj hc _ => g.block j (Array.getElem?_eq_some_iff.1 hc).1 fun e => by have := hv j e; omega
/-- A schema that lies higher than the row that is appended to, and than the block that is written. -/
theorem sch_high {W V : World} {b2 y x i : Nat} {t : Ip.Sch} {vr vs vg v v' : Value} (h : SchIn W b2 y t vr vs vg) (g : GrewT v v' W V) (hv : ∀ k, v.ownBlock = some k → k < x) (hx : x < b2) (hy : b2 ≤ y) (a : Value) : SchIn (V.setCell ⟨x, i, none⟩ a) b2 y t vr vs vg := by
  have hb : ∀ j, b2 ≤ j → j < W.heap.size → (V.setCell ⟨x, i, none⟩ a).heap[j]? = W.heap[j]? := fun j hj hl =>
    (Below.heap_setCell _ _ _ _ (by show j ≠ x; omega)).trans (g.block j hl fun e => by have := hv j e; omega)
  exact ⟨(hb y hy (Array.getElem?_eq_some_iff.1 h.blk).1).trans h.blk, h.recs.keep okRcd (Nat.le_refl _) fun j cs ty hj hc _ => hb j hj (Array.getElem?_eq_some_iff.1 hc).1, h.srvs.keep okSrv (Nat.le_refl _) fun j cs ty hj hc _ => hb j hj (Array.getElem?_eq_some_iff.1 hc).1, h.sgas.keep okSga (Nat.le_refl _) fun j cs ty hj hc _ => hb j hj (Array.getElem?_eq_some_iff.1 hc).1⟩
theorem sch_set {W : World} {base x i : Nat} {s : Ip.Sch} {vr vs vg : Value} (cs : Array Value) (a : Value) (h0 : W.heap[x]? = some (.cells cs 26 (0, 0))) (hc : cs.setIfInBounds i a = #[.string s.name, vr, vs, vg]) (h1 : RowIs kRcd W base vr s.records) (h2 : RowIs kSrv W base vs s.services) (h3 : RowIs kSga W base vg s.sagas) : SchIn (W.setCell ⟨x, i, none⟩ a) base x s vr vs vg := by
  have ht := tn_set (b := x) (i := i) W a
  refine ⟨by rw [tk_set h0, hc], row_set okRcd h1 h0 ?_ ht, row_set okSrv h2 h0 ?_ ht, row_set okSga h3 h0 ?_ ht⟩
  · show ¬ ((26 : Nat) = 34 ∨ ((26 : Nat) = 39 ∨ (26 : Nat) = 41)); decide
  · show ¬ ((26 : Nat) = 98 ∨ (26 : Nat) = 100); decide
  · show ¬ ((26 : Nat) = 44 ∨ (26 : Nat) = 48); decide
/-- Records of t behind those of s, in block x. -/
theorem add_recs {W : World} {b1 b2 x y : Nat} {s t : Ip.Sch} {vr vs vg tr tS tg : Value} (hs : SchIn W b1 x s vr vs vg) (ht : SchIn W b2 y t tr tS tg) (hb : b1 ≤ b2) (hw : b1 ≤ W.heap.size) (hn : s.records.length + t.records.length ≤ 1000000) :
    ∃ (pv : Option Addr) (cv : Nat) (V : World), (Builtin.append_ #[22, 22] 22 #[vr, tr]).run Tryz.prog W = .ok (.slice pv (s.records.length + t.records.length) cv) V ∧ GrewT vr (.slice pv (s.records.length + t.records.length) cv) W V ∧ V.heap[x]? = W.heap[x]? ∧
      SchIn (V.setCell ⟨x, 1, none⟩ (.slice pv (s.records.length + t.records.length) cv)) b1 x { s with records := s.records ++ t.records } (.slice pv (s.records.length + t.records.length) cv) vs vg := by
  obtain ⟨pv, cv, V, hrun, hR, hg⟩ := row_append_row okRcd hs.recs ht.recs hb hn hw 22
  have hx := block_apart hs.recs hg.block hs.blk (by show (34 : Nat) ≠ 26; decide)
  refine ⟨pv, cv, V, hrun, hg, hx, sch_set _ _ (hx.trans hs.blk) rfl hR (row_apart okSrv hs.srvs hs.recs hg.block ?_) (row_apart okSga hs.sgas hs.recs hg.block ?_)⟩
  · show ¬ ((34 : Nat) = 98 ∨ (34 : Nat) = 100); decide
  · show ¬ ((34 : Nat) = 44 ∨ (34 : Nat) = 48); decide
theorem add_srvs {W : World} {b1 b2 x y : Nat} {s t : Ip.Sch} {vr vs vg tr tS tg : Value} (hs : SchIn W b1 x s vr vs vg) (ht : SchIn W b2 y t tr tS tg) (hb : b1 ≤ b2) (hw : b1 ≤ W.heap.size) (hn : s.services.length + t.services.length ≤ 1000000) :
    ∃ (pv : Option Addr) (cv : Nat) (V : World), (Builtin.append_ #[23, 23] 23 #[vs, tS]).run Tryz.prog W = .ok (.slice pv (s.services.length + t.services.length) cv) V ∧ GrewT vs (.slice pv (s.services.length + t.services.length) cv) W V ∧ V.heap[x]? = W.heap[x]? ∧
      SchIn (V.setCell ⟨x, 2, none⟩ (.slice pv (s.services.length + t.services.length) cv)) b1 x { s with services := s.services ++ t.services } vr (.slice pv (s.services.length + t.services.length) cv) vg := by
  obtain ⟨pv, cv, V, hrun, hR, hg⟩ := row_append_row okSrv hs.srvs ht.srvs hb hn hw 23
  have hx := block_apart hs.srvs hg.block hs.blk (by show (98 : Nat) ≠ 26; decide)
  refine ⟨pv, cv, V, hrun, hg, hx, sch_set _ _ (hx.trans hs.blk) rfl (row_apart okRcd hs.recs hs.srvs hg.block ?_) hR (row_apart okSga hs.sgas hs.srvs hg.block ?_)⟩
  · show ¬ ((98 : Nat) = 34 ∨ ((98 : Nat) = 39 ∨ (98 : Nat) = 41)); decide
  · show ¬ ((98 : Nat) = 44 ∨ (98 : Nat) = 48); decide
theorem add_sgas {W : World} {b1 b2 x y : Nat} {s t : Ip.Sch} {vr vs vg tr tS tg : Value} (hs : SchIn W b1 x s vr vs vg) (ht : SchIn W b2 y t tr tS tg) (hb : b1 ≤ b2) (hw : b1 ≤ W.heap.size) (hn : s.sagas.length + t.sagas.length ≤ 1000000) :
    ∃ (pv : Option Addr) (cv : Nat) (V : World), (Builtin.append_ #[24, 24] 24 #[vg, tg]).run Tryz.prog W = .ok (.slice pv (s.sagas.length + t.sagas.length) cv) V ∧ GrewT vg (.slice pv (s.sagas.length + t.sagas.length) cv) W V ∧ V.heap[x]? = W.heap[x]? ∧
      SchIn (V.setCell ⟨x, 3, none⟩ (.slice pv (s.sagas.length + t.sagas.length) cv)) b1 x { s with sagas := s.sagas ++ t.sagas } vr vs (.slice pv (s.sagas.length + t.sagas.length) cv) := by
  obtain ⟨pv, cv, V, hrun, hR, hg⟩ := row_append_row okSga hs.sgas ht.sgas hb hn hw 24
  have hx := block_apart hs.sgas hg.block hs.blk (by show (44 : Nat) ≠ 26; decide)
  refine ⟨pv, cv, V, hrun, hg, hx, sch_set _ _ (hx.trans hs.blk) rfl (row_apart okRcd hs.recs hs.sgas hg.block ?_) (row_apart okSrv hs.srvs hs.sgas hg.block ?_) hR⟩
  · show ¬ ((44 : Nat) = 34 ∨ ((44 : Nat) = 39 ∨ (44 : Nat) = 41)); decide
  · show ¬ ((44 : Nat) = 98 ∨ (44 : Nat) = 100); decide
theorem sch_below {W V : World} {base c : Nat} {s : Ip.Sch} {vr vs vg : Value} (h : SchIn W base c s vr vs vg) (hb : Below W.heap.size W V) : SchIn V base c s vr vs vg :=
  ⟨(hb.block c (Array.getElem?_eq_some_iff.1 h.blk).1).trans h.blk, h.recs.below okRcd hb, h.srvs.below okSrv hb, h.sgas.below okSga hb⟩
theorem sch_v {W : World} {base c : Nat} {s : Ip.Sch} {vr vs vg : Value} (h : SchIn W base c s vr vs vg) : SchV W base (.agg #[.string s.name, vr, vs, vg]) s := ⟨_, _, _, rfl, h.recs, h.srvs, h.sgas⟩
/-- A schema that was told, boxed. -/
theorem sch_box {W : World} {base : Nat} {s : Ip.Sch} {vr vs vg : Value} (h1 : RowIs kRcd W base vr s.records) (h2 : RowIs kSrv W base vs s.services) (h3 : RowIs kSga W base vg s.sagas) : SchIn (W.alloc (.cells #[.string s.name, vr, vs, vg] 26)) base W.heap.size s vr vs vg :=
  ⟨heap_alloc_new W _, h1.below okRcd (tk_alloc W _), h2.below okSrv (tk_alloc W _), h3.below okSga (tk_alloc W _)⟩
theorem below_grew_set {w W V : World} {v v' a : Value} {x i : Nat} (h : Below w.heap.size w W) (g : GrewT v v' W V) (hv : ∀ k, v.ownBlock = some k → w.heap.size ≤ k) (hx : w.heap.size ≤ x) : Below w.heap.size w (V.setCell ⟨x, i, none⟩ a) := (g.below h h.size hv).setCell hx _
theorem more_of {x y : List UInt8} (h1 : (Ip.parse x).2.2 = 0) (h2 : (Ip.parse (Ip.headM ++ 10 :: y)).2.2 = 0) : Ip.parse (x ++ 10 :: y) = (Ip.plus (Ip.parse x).1 (Ip.parse (Ip.headM ++ 10 :: y)).1, 0, 0) := Ip.parse_more h1 h2
theorem head_cat (y : ByteArray) : ((⟨#[109, 111, 100, 117, 108, 101, 32, 109, 59, 10]⟩ : ByteArray) ++ y).data.toList = Ip.headM ++ 10 :: y.data.toList := by
  rw [ByteArray.data_append, Array.toList_append]; rfl
end Go.Proofs.YtnkdhmoocomjfaaGreatDoor
