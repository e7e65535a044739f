/-
  Walks over package idl: meant, sort, sorts. Conditions: those in the theorems (the keywords' variable holds what the row lists).
-/
import Derived.Test.YtlmjcnfiolbfpaaDoorIdlOne
set_option linter.unusedSimpArgs false
set_option linter.unusedVariables false
namespace Go.Proofs.YtlmjcnfiolbfpaaDoor
open Go.RowKit

set_option maxRecDepth 100000 in
set_option maxHeartbeats 4000000 in
theorem meant_any (s : ByteArray) (w : World) : Calls Tryd.prog 64 #[.string s] w fun e w' => e = .returned (.int .u8 (Ip.meant s : Nat)) ∧ w = w' := by
  have e1 := is_kNone s
  have e2 := is_kBool s
  have e3 := is_kInt s
  have e4 := is_kText s
  have e5 := is_kList s
  have e6 := is_kOpt s
  unfold Ip.meant
  generalize Ip.eqB s Ip.kNone = b1 at *
  generalize Ip.eqB s Ip.kBool = b2 at *
  generalize Ip.eqB s Ip.kInt = b3 at *
  generalize Ip.eqB s Ip.kText = b4 at *
  generalize Ip.eqB s Ip.kList = b5 at *
  generalize Ip.eqB s Ip.kOpt = b6 at *
  cases b1
  · cases b2
    · cases b3
      · cases b4
        · cases b5
          · cases b6
            all_goals
              go_enter Tryd.func64, Tryd.ntmps64
              go_wp2_with fail
              go_ret
              exact ⟨rfl, rfl⟩
          · go_enter Tryd.func64, Tryd.ntmps64
            go_wp2_with fail
            go_ret
            exact ⟨rfl, rfl⟩
        · go_enter Tryd.func64, Tryd.ntmps64
          go_wp2_with fail
          go_ret
          exact ⟨rfl, rfl⟩
      · go_enter Tryd.func64, Tryd.ntmps64
        go_wp2_with fail
        go_ret
        exact ⟨rfl, rfl⟩
    · go_enter Tryd.func64, Tryd.ntmps64
      go_wp2_with fail
      go_ret
      exact ⟨rfl, rfl⟩
  · go_enter Tryd.func64, Tryd.ntmps64
    go_wp2_with fail
    go_ret
    exact ⟨rfl, rfl⟩
/-! ### sort -/
theorem Ip.ahead_take {r : Ip.R} (h : Ip.ahead r ≠ ⟨#[]⟩) : ∃ t l, r = ⟨t :: l, false⟩ ∧ Ip.ahead r = t.text := by
  obtain ⟨l, s⟩ := r
  cases s with
  | true => exact absurd rfl h
  | false =>
    cases l with
    | nil => exact absurd rfl h
    | cons t l => exact ⟨t, l, rfl, rfl⟩
theorem Ip.meant_ne {s : ByteArray} (h : Ip.meant s ≠ 0) : s ≠ ⟨#[]⟩ := fun e => h (by rw [e]; decide)
/-- A sort that a keyword means. -/
theorem Ip.sort_kind {r : Ip.R} (h : Ip.meant (Ip.ahead r) ≠ 0) : Ip.sort r = (⟨Ip.meant (Ip.ahead r), ⟨#[]⟩⟩, (Ip.one [Ip.ahead r] r).2) := by
  obtain ⟨t, l, rfl, ha⟩ := Ip.ahead_take (Ip.meant_ne h)
  rw [ha] at h ⊢
  unfold Ip.sort Ip.one Ip.bind Ip.ret Ip.take
  have h1 : (decide (Ip.meant t.text ≠ 0) || Tk.name t.text) = true := by rw [decide_eq_true h]; rfl
  have h2 : Ip.among [t.text] t.text = true := Ip.among_iff.2 (List.mem_singleton.2 rfl)
  simp [h1, h2, h]
theorem Ip.take_none {fit : ByteArray → Nat → Bool} {r : Ip.R} (h : Ip.ahead r = ⟨#[]⟩) (hf : ∀ k, fit ⟨#[]⟩ k = false) : Ip.take fit r = ((⟨#[]⟩, 0), ⟨r.left, true⟩) := by
  obtain ⟨l, s⟩ := r
  cases s with
  | true => rfl
  | false =>
    cases l with
    | nil => rfl
    | cons t l =>
      have : t.text = ⟨#[]⟩ := h
      unfold Ip.take
      simp [this, hf]
/-- A sort that is a name, or none at all. -/
theorem Ip.sort_name {r : Ip.R} (h : Ip.meant (Ip.ahead r) = 0) : Ip.sort r = (⟨7, (Ip.name r).1⟩, (Ip.name r).2) := by
  obtain ⟨l, s⟩ := r
  unfold Ip.sort Ip.name Ip.bind Ip.ret Ip.take
  cases s with
  | true => rfl
  | false =>
    cases l with
    | nil => rfl
    | cons t l =>
      have h0 : Ip.meant t.text = 0 := h
      have h1 : (decide (Ip.meant t.text ≠ 0) || Tk.name t.text) = Tk.name t.text := by rw [decide_eq_false (by omega)]; rfl
      simp only [Bool.false_eq_true, if_false, h1]
      by_cases hn : Tk.name t.text = true
      · rw [if_pos hn]; simp [h0]
      · rw [if_neg hn]; simp [Ip.meant_none]
theorem Ip.meant_le (s : ByteArray) : Ip.meant s ≤ 6 := by
  unfold Ip.meant
  repeat' split
  all_goals omega
theorem cells2 {W : World} {b : Nat} {x0 x1 : Value} {T : TypeId} {fr : Nat × Nat} (h : W.heap[b]? = some (.cells #[x0, x1] T fr)) : W.cell? ⟨b, 0, none⟩ = some x0 ∧ W.cell? ⟨b, 1, none⟩ = some x1 := by
  refine ⟨?_, ?_⟩ <;> rw [cell_of_row W b _ _ _ _ h] <;> rfl
theorem frozen2 {W : World} {b : Nat} {cs : Array Value} {T : TypeId} (h : W.heap[b]? = some (.cells cs T (0, 0))) (i : Nat) : W.frozen? ⟨b, i, none⟩ = false := frozen_of_row _ _ i _ _ h
theorem sort_res {W : World} {tmps : Array Value} {b : Nat} {x0 x1 : Value} (h2 : tmps[2]? = some (.pointer (some ⟨b, 0, none⟩))) (h : W.heap[b]? = some (.cells #[x0, x1] 70 (0, 0))) :
    (results Tryd.f44 tmps).run Tryd.prog W = .ok (.agg #[x0, x1]) W := by
  obtain ⟨c0, c1⟩ := cells2 h
  simp [results, Tryd.results44, h2, go_sem, c0, c1]
theorem tn_two {x : Nat} (w : World) (a b : Value) : Tn x w ((w.setCell ⟨x, 0, none⟩ a).setCell ⟨x, 1, none⟩ b) := (tn_set w a).trans (tn_set _ b)
theorem set_two {W : World} {a : Nat} {x0 x1 : Value} (y0 y1 : Value) {T : TypeId} (h : W.heap[a]? = some (.cells #[x0, x1] T (0, 0))) : ((W.setCell ⟨a, 0, none⟩ y0).setCell ⟨a, 1, none⟩ y1).heap[a]? = some (.cells #[y0, y1] T (0, 0)) := tk_set (tk_set h _) _
/-- Where a call has come to: what the reader has left, and that nothing else that was there has turned. -/
def Gone (b q : Nat) (w : World) (r : Ip.R) (W : World) : Prop := Rd W b q r ∧ Tn b w W
theorem Gone.refl {b q : Nat} {w : World} {r : Ip.R} (h : Rd w b q r) : Gone b q w r w := ⟨h, Tn.refl _ _⟩
theorem Gone.trans {b q : Nat} {w W V : World} {r r' : Ip.R} (h : Gone b q w r W) (k : Gone b q W r' V) : Gone b q w r' V := ⟨k.1, h.2.trans k.2⟩
theorem Gone.alloc {b q : Nat} {w W : World} {r : Ip.R} (h : Gone b q w r W) (o : Obj) : Gone b q w r (W.alloc o) := ⟨h.1.below (tk_alloc _ _), h.2.alloc _⟩
theorem Gone.turn {b q : Nat} {w W V : World} {r r0 : Ip.R} (h : Gone b q w r W) (h0 : Rd w b q r0) {x : Nat} (hx : w.heap.size ≤ x) (ht : Tn x W V) : Gone b q w r V :=
  ⟨h.1.keep x (by have := h0.lt; omega) (by have := h0.old; omega) (by have := h0.kw.lt; omega) ht, h.2.new hx ht⟩
theorem Gone.set {b q : Nat} {w W : World} {r r0 : Ip.R} (h : Gone b q w r W) (h0 : Rd w b q r0) {x : Nat} (hx : w.heap.size ≤ x) (i : Nat) (v : Value) : Gone b q w r (W.setCell ⟨x, i, none⟩ v) := h.turn h0 hx (tn_set W v)
theorem Gone.block {b q : Nat} {w W : World} {r r0 : Ip.R} (h : Gone b q w r W) (h0 : Rd w b q r0) {k : Nat} {o : Obj} (hk : w.heap[k]? = some o) (hb : k ≠ b) : W.heap[k]? = some o := (h.2.block k (Array.getElem?_eq_some_iff.1 hk).1 hb).trans hk
def soV (x : Ip.So) : Value := .agg #[.int .u8 (x.kind : Nat), .string x.name]
set_option maxRecDepth 100000 in
set_option maxHeartbeats 4000000 in
theorem sort_any {w : World} {b q : Nat} {r : Ip.R} (h : Rd w b q r) : Calls Tryd.prog 44 #[.pointer (some ⟨b, 0, none⟩)] w fun e w' => e = .returned (soV (Ip.sort r).1) ∧ Gone b q w (Ip.sort r).2 w' := by
  obtain ⟨W0, hW0⟩ : ∃ W0, W0 = w.alloc (.cells #[.int .u8 0, .string ⟨#[]⟩] 70) := ⟨_, rfl⟩
  have hb0 : Below w.heap.size w W0 := by rw [hW0]; exact tk_alloc _ _
  have hr0 : W0.heap[w.heap.size]? = some (.cells #[.int .u8 0, .string ⟨#[]⟩] 70 (0, 0)) := by rw [hW0]; exact heap_alloc_new _ _
  have h0 := h.below hb0
  have hne : w.heap.size ≠ b := by have := h.lt; omega
  have QA := ahead_any h0
  have QM := fun W => meant_any (Ip.ahead r) W
  have HG : Gone b q w r W0 := ⟨h0, Tn.of hb0⟩
  by_cases hm : Ip.meant (Ip.ahead r) = 0
  · rw [Ip.sort_name hm]
    rw [hm] at QM
    have HN := Lib.hid (name_any h0)
    obtain ⟨y, hy⟩ : ∃ y, Ip.name r = y := ⟨_, rfl⟩
    rw [hy] at HN ⊢
    clear hy hm
    generalize Ip.ahead r = x at *
    have HH := Lib.hid (And.intro h (And.intro hr0 (And.intro HG hne)))
    clear h h0 hr0 HG hb0 hne
    go_enter Tryd.func44, Tryd.ntmps44
    go_upto_region 1 with fail
    rw [← hW0]
    clear hW0
    go_wp2_with fail
    refine QA.mono ?_
    rintro e w' ⟨rfl, rfl⟩
    go_wp2_with fail
    refine (QM _).mono ?_
    rintro e w' ⟨rfl, rfl⟩
    go_wp2_with fail
    refine HN.out.mono ?_
    rintro e w1 ⟨rfl, hr1, hT1⟩
    obtain ⟨h, hr0, HG, hne⟩ := HH.out
    have HG1 := Lib.hid (HG.trans ⟨hr1, hT1⟩)
    have hz1 := (hT1.block _ (Array.getElem?_eq_some_iff.1 hr0).1 hne).trans hr0
    obtain ⟨z0, z1⟩ := cells2 hz1
    have f0 := frozen2 hz1 0
    have f1 := frozen2 hz1 1
    have HZ1 := Lib.hid hz1
    have HL := Lib.hid h
    clear h hr0 HG hne hr1 hT1 hz1
    go_wp2_with fail
    refine bodyPost_ret (sort_res rfl (set_two _ _ HZ1.out)) rfl ?_
    exact ⟨rfl, (HG1.out.set HL.out (Nat.le_refl _) _ _).set HL.out (Nat.le_refl _) _ _⟩
  · rw [Ip.sort_kind hm]
    have HN := Lib.hid (one_lit h0 [Ip.ahead r] (by simp))
    obtain ⟨m, hm2⟩ : ∃ m, Ip.meant (Ip.ahead r) = m := ⟨_, rfl⟩
    rw [hm2] at QM hm ⊢
    have hm0 : (((m : Nat) : Int) == 0) = false := by rw [beq_eq_false_iff_ne]; omega
    obtain ⟨y, hy⟩ : ∃ y, Ip.one [Ip.ahead r] r = y := ⟨_, rfl⟩
    rw [hy] at HN ⊢
    clear hy hm hm2
    generalize Ip.ahead r = x at *
    have HH := Lib.hid (And.intro h (And.intro hr0 (And.intro HG hne)))
    clear h h0 hr0 HG hb0 hne
    go_enter Tryd.func44, Tryd.ntmps44
    go_upto_region 1 with fail
    rw [← hW0]
    clear hW0
    go_wp2_with fail
    refine QA.mono ?_
    rintro e w' ⟨rfl, rfl⟩
    go_wp2_with fail
    refine (QM _).mono ?_
    rintro e w' ⟨rfl, rfl⟩
    go_wp2_with fail
    refine HN.out.mono ?_
    rintro e w1 ⟨rfl, hr1, hT1⟩
    obtain ⟨h, hr0, HG, hne⟩ := HH.out
    have HG1 := Lib.hid (HG.trans ⟨hr1, hT1⟩)
    have hz1 := (hT1.block _ (Array.getElem?_eq_some_iff.1 hr0).1 hne).trans hr0
    obtain ⟨z0, z1⟩ := cells2 hz1
    have f0 := frozen2 hz1 0
    have f1 := frozen2 hz1 1
    have HZ1 := Lib.hid hz1
    have HL := Lib.hid h
    clear h hr0 HG hne hr1 hT1 hz1
    go_wp2_with fail
    refine bodyPost_ret (sort_res rfl (set_two _ _ HZ1.out)) rfl ?_
    exact ⟨rfl, (HG1.out.set HL.out (Nat.le_refl _) _ _).set HL.out (Nat.le_refl _) _ _⟩
end Go.Proofs.YtlmjcnfiolbfpaaDoor
