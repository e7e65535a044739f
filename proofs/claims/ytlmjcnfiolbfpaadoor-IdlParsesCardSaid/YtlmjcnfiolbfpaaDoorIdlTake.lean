/-
  Walks over package idl: take. Conditions: those in the theorems (the keywords' variable holds what the row lists).
-/
import Derived.Test.YtlmjcnfiolbfpaaDoorIdlRead
set_option linter.unusedSimpArgs false
set_option linter.unusedVariables false
namespace Go.Proofs.YtlmjcnfiolbfpaaDoor
open Go.RowKit

theorem rd_stick {w : World} {b q : Nat} {r : Ip.R} {p : Option Addr} {c : Nat} (h : RdAt w b q r p c) : RdAt (w.setCell ⟨b, 1, none⟩ (.bool true)) b q ⟨r.left, true⟩ p c :=
  ⟨(tk_set h.blk _).trans rfl, h.cap, h.max, toks_turn h.toks (tn_set w _) h.notb, h.home, h.apart, by rw [World.size_setCell]; exact h.old, h.kw.keep (Below.heap_setCell _ _ _ _ (fun e => h.notKw e.symm)), h.notKw, h.few⟩
theorem rd_next {w : World} {b q : Nat} {t : Tk.Token} {l : List Tk.Token} {s : Bool} {A A' : Addr} {c : Nat} (h : RdAt w b q ⟨t :: l, s⟩ (some A) c) (hA : A'.block = A.block) (hl : l ≠ [] → A' = A.add 4) :
    RdAt (w.setCell ⟨b, 0, none⟩ (.slice (some A') l.length (c - 1))) b q ⟨l, s⟩ (some A') (c - 1) := by
  have hc := h.cap
  have hm := h.max
  have hf := h.few
  simp only [List.length_cons] at hc hf
  have ht : ToksAt w (some A') l := by
    by_cases he : l = []
    · subst he; exact ToksAt.nil _ _
    · rw [hl he]; exact toks_tail h.toks
  refine ⟨(tk_set h.blk _).trans rfl, by simp only; omega, by omega, toks_turn ht (tn_set w _) (fun B e => ?_), fun B e => ?_, h.apart, by rw [World.size_setCell]; exact h.old, h.kw.keep (Below.heap_setCell _ _ _ _ (fun e => h.notKw e.symm)), h.notKw, by simp only; omega⟩ <;> (cases e; rw [hA]; first | exact h.notb A rfl | exact h.home A rfl)
theorem tok_four {W : World} {b : Nat} {x0 x1 x2 x3 : Value} {tmps : Array Value} (h2 : tmps[4]? = some (.pointer (some ⟨b, 0, none⟩))) (h : W.heap[b]? = some (.cells #[x0, x1, x2, x3] 41 (0, 0))) :
    (results Tryd.f53 tmps).run Tryd.prog W = .ok (.agg #[x0, x1, x2, x3]) W := by
  obtain ⟨c0, c1, c2, c3⟩ := tok_cells h
  simp [results, Tryd.results53, h2, go_sem, c0, c1, c2, c3]
theorem tn_four {x : Nat} (w : World) (a b c d : Value) : Tn x w ((((w.setCell ⟨x, 0, none⟩ a).setCell ⟨x, 1, none⟩ b).setCell ⟨x, 2, none⟩ c).setCell ⟨x, 3, none⟩ d) :=
  (((tn_set w a).trans (tn_set _ b)).trans (tn_set _ c)).trans (tn_set _ d)
/-- A block that has come since turns. -/
theorem Tn.new {b x : Nat} {w W V : World} (h : Tn b w W) (hx : w.heap.size ≤ x) (ht : Tn x W V) : Tn b w V :=
  ⟨ht.os.trans h.os, ht.tape.trans h.tape, ht.output.trans h.output, Nat.le_trans h.size ht.size, fun k hk hn => (ht.block k (Nat.lt_of_lt_of_le hk h.size) (by omega)).trans (h.block k hk hn)⟩
/-- What a call that takes a token answers. -/
def Took (b q : Nat) (x : (ByteArray × Int) × Ip.R) (w : World) (e : Ending) (w' : World) : Prop :=
  ∃ t : Tk.Token, e = .returned (tokV t) ∧ t.text = x.1.1 ∧ t.num = x.1.2 ∧ Rd w' b q x.2 ∧ Tn b w w'
def zeroO : Obj := .cells #[.int .u8 0, .string ⟨#[]⟩, .int .i64 0, .int .i64 0] 41 (0, 0)
set_option maxRecDepth 100000 in
set_option maxHeartbeats 4000000 in
theorem take_any {w : World} {b q : Nat} {r : Ip.R} (h : Rd w b q r) {g : Nat} {cb : Array Value} (eg : ∀ args w, (callFunc g args).run Tryd.prog w = .ok (.enter g args) w) (fit : ByteArray → Nat → Bool)
    (hfit : ∀ W t l, r.left = t :: l → Below w.heap.size w W → Calls Tryd.prog g (#[tokV t] ++ cb) W fun e w' => e = .returned (.bool (fit t.text t.kind)) ∧ Below W.heap.size W w') :
    Calls Tryd.prog 53 #[.pointer (some ⟨b, 0, none⟩), .func (.func g) #[] cb] w (Took b q (Ip.take fit r) w) := by
  obtain ⟨p, c, h⟩ := h
  obtain ⟨l, s⟩ := r
  obtain ⟨c0, c1, f0, f1⟩ := rd_cells h
  have hlt := h.lt
  have HH := Lib.hid h
  simp only at c0 c1
  have HZ : ∀ W, Hid (W.heap.size = w.heap.size → Tn b w W → RdAt W b q ⟨l, true⟩ p c → Ip.take fit ⟨l, s⟩ = ((⟨#[]⟩, 0), ⟨l, true⟩) → Took b q (Ip.take fit ⟨l, s⟩) w (.returned (.agg #[.int .u8 0, .string ⟨#[]⟩, .int .i64 0, .int .i64 0])) (W.alloc zeroO)) := fun W => Lib.hid fun _ ht hr e => by
    rw [e]
    exact ⟨⟨0, ⟨#[]⟩, 0, 0⟩, rfl, rfl, rfl, ⟨p, c, hr.below (tk_alloc _ _)⟩, ht.alloc _⟩
  cases s with
  | true =>
    have HT : Hid (Ip.take fit ⟨l, true⟩ = ((⟨#[]⟩, 0), ⟨l, true⟩)) := Lib.hid rfl
    have HR := Lib.hid (rd_stick h)
    clear h hfit
    go_enter Tryd.func53, Tryd.ntmps53
    go_wp2_with fail
    refine bodyPost_ret (tok_four rfl (by have := heap_alloc_new (w.setCell ⟨b, 1, none⟩ (.bool true)) zeroO; rw [World.size_setCell] at this; exact this)) rfl ?_
    exact (HZ _).out (by rw [World.size_setCell]) (tn_set w _) HR.out HT.out
  | false =>
    cases l with
    | nil =>
      have HT : Hid (Ip.take fit ⟨[], false⟩ = ((⟨#[]⟩, 0), ⟨[], true⟩)) := Lib.hid rfl
      have HR := Lib.hid (rd_stick h)
      clear h hfit
      simp only [List.length_nil] at c0
      go_enter Tryd.func53, Tryd.ntmps53
      go_wp2_with fail
      refine bodyPost_ret (tok_four rfl (by have := heap_alloc_new (w.setCell ⟨b, 1, none⟩ (.bool true)) zeroO; rw [World.size_setCell] at this; exact this)) rfl ?_
      exact (HZ _).out (by rw [World.size_setCell]) (tn_set w _) HR.out HT.out
    | cons t l =>
      obtain ⟨A, rfl⟩ := h.toks.some (i := 0) (by simp)
      obtain ⟨A1, e1, d0, d1, d2, d3, hin⟩ := h.toks.at (Below.refl _ _) (i := 0) (by simp)
      cases e1
      have q := fun W hW => hfit W t l rfl hW
      have hA := h.notb A rfl
      have hlA := tcell_block d0
      simp only [List.getElem_cons_zero, Nat.zero_mul] at d0 d1 d2 d3
      have a0 : A.add 0 = A := rfl
      rw [a0] at d0 d1 d2 d3 hlA
      unfold tokV at q
      obtain ⟨fb, hfb⟩ : ∃ fb, fit t.text t.kind = fb := ⟨_, rfl⟩
      rw [hfb] at q
      have hcap := h.cap
      have hmax := h.max
      unfold maxLen at hmax
      simp only [List.length_cons] at hcap
      obtain ⟨W0, hW0⟩ : ∃ W0, W0 = w.alloc zeroO := ⟨_, rfl⟩
      have hB0 : Below w.heap.size w W0 := by rw [hW0]; exact tk_alloc _ _
      have hr0 : W0.heap[w.heap.size]? = some zeroO := by rw [hW0]; exact heap_alloc_new _ _
      have HH0 := Lib.hid (h.below hB0)
      have hz0 : w.heap.size < W0.heap.size := (Array.getElem?_eq_some_iff.1 hr0).1
      have HB0 := Lib.hid hB0
      have HR0 := Lib.hid hr0
      have HQ := Lib.hid q
      clear q hfit c0 c1 f0 f1 d0 d1 d2 d3 hin hB0 hr0 h
      go_enter Tryd.func53, Tryd.ntmps53
      go_upto_region 1 with fail
      unfold zeroO at hW0
      rw [← hW0]
      clear hW0
      obtain ⟨c0, c1, f0, f1⟩ := rd_cells HH0.out
      simp only [List.length_cons] at c0 c1
      obtain ⟨A1, e1, d0, d1, d2, d3, hin⟩ := HH0.out.toks.at (Below.refl _ _) (i := 0) (by simp)
      cases e1
      have hlA := tcell_block d0
      simp only [List.getElem_cons_zero, Nat.zero_mul] at d0 d1 d2 d3
      rw [a0] at d0 d1 d2 d3 hlA
      clear hin
      have hne0 : (((l.length : Nat) : Int) + 1 == 0) = false := by rw [beq_eq_false_iff_ne]; omega
      go_wp2_with fail
      refine (HQ.out W0 HB0.out).mono ?_
      rintro e w1 ⟨rfl, hb1⟩
      have HH1 := Lib.hid (HH0.out.below hb1)
      have hr1 : w1.heap[w.heap.size]? = some zeroO := (hb1.block _ hz0).trans HR0.out
      have HR1 := Lib.hid hr1
      have HB1 := Lib.hid (HB0.out.trans (hb1.mono HB0.out.size))
      clear c0 c1 f0 f1 d0 d1 d2 d3
      obtain ⟨c0, c1, f0, f1⟩ := rd_cells HH1.out
      simp only [List.length_cons] at c0 c1
      have hz1 : w.heap.size < w1.heap.size := (Array.getElem?_eq_some_iff.1 hr1).1
      have hl1 := HH1.out.lt
      unfold zeroO at hr1
      obtain ⟨z0, z1, z2, z3⟩ := tok_cells hr1
      have y0 := frozen_of_row _ _ 0 _ _ hr1
      have y1 := frozen_of_row _ _ 1 _ _ hr1
      have y2 := frozen_of_row _ _ 2 _ _ hr1
      have y3 := frozen_of_row _ _ 3 _ _ hr1
      have hnb : w.heap.size ≠ b := by omega
      cases fb with
      | false =>
        have HT : Hid (Ip.take fit ⟨t :: l, false⟩ = ((⟨#[]⟩, 0), ⟨t :: l, true⟩)) := Lib.hid (by unfold Ip.take; simp [hfb])
        clear hb1 hr1 hfb
        go_wp2_with fail
        have hr2 : (w1.setCell ⟨b, 1, none⟩ (.bool true)).heap[w.heap.size]? = some zeroO := (Below.heap_setCell _ _ _ _ (by show w.heap.size ≠ b; omega)).trans HR1.out
        refine bodyPost_ret (tok_four rfl (set_four _ _ _ _ hr2)) rfl ?_
        have hR := rd_stick HH1.out
        have hT := (Tn.of HB1.out).trans (tn_set (b := b) (i := 1) w1 (.bool true))
        refine ⟨⟨0, ⟨#[]⟩, 0, 0⟩, rfl, ?_, ?_, ?_, ?_⟩
        · rw [HT.out]
        · rw [HT.out]
        · rw [HT.out]
          exact ⟨_, _, rd_keep hR w.heap.size hnb (by have := HH.out.old; omega) (by have := HH.out.kw.lt; omega) (tn_four _ _ _ _ _)⟩
        · exact hT.new (Nat.le_refl _) (tn_four _ _ _ _ _)
      | true =>
        have HT : Hid (Ip.take fit ⟨t :: l, false⟩ = ((t.text, t.num), ⟨l, false⟩)) := Lib.hid (by unfold Ip.take; simp [hfb])
        obtain ⟨A1, e1, d0, d1, d2, d3, hin⟩ := HH1.out.toks.at (Below.refl _ _) (i := 0) (by simp)
        cases e1
        have hlA := tcell_block d0
        simp only [List.getElem_cons_zero, Nat.zero_mul] at d0 d1 d2 d3
        rw [a0] at d0 d1 d2 d3 hlA
        clear hb1 hr1 hfb hin
        have j1 : (1 : Int) ≤ (l.length : Int) + 1 := by omega
        have j2 : (l.length : Int) + 1 ≤ (c : Int) := by omega
        have hr1' := HR1.out
        go_upto_region 5 with fail
        obtain ⟨W5, hW5⟩ : ∃ W5, W5 = w1.alloc (.cells #[.int .u8 (t.kind : Nat), .string t.text, .int .i64 t.num, .int .i64 t.pos] 41) := ⟨_, rfl⟩
        have hb5 : Below w1.heap.size w1 W5 := by rw [hW5]; exact tk_alloc _ _
        have hn5 : W5.heap[w1.heap.size]? = some (.cells #[.int .u8 (t.kind : Nat), .string t.text, .int .i64 t.num, .int .i64 t.pos] 41 (0, 0)) := by rw [hW5]; exact heap_alloc_new _ _
        have HH5 := Lib.hid (HH1.out.below hb5)
        have HR5 : Hid (W5.heap[w.heap.size]? = some zeroO) := Lib.hid ((hb5.block _ hz1).trans HR1.out)
        have HN5 := Lib.hid hn5
        have HB5 := Lib.hid (HB1.out.trans (hb5.mono HB1.out.size))
        have hz5 : w1.heap.size < W5.heap.size := (Array.getElem?_eq_some_iff.1 hn5).1
        rw [← hW5]
        clear hW5 hb5 hn5 hr1' c0 c1 f0 f1 d0 d1 d2 d3 z0 z1 z2 z3 y0 y1 y2 y3
        obtain ⟨c0, c1, f0, f1⟩ := rd_cells HH5.out
        simp only [List.length_cons] at c0 c1
        have fin : ∀ A', A'.block = A.block → (l ≠ [] → A' = A.add 4) → Hid (∃ W6, W6 = W5.setCell ⟨b, 0, none⟩ (.slice (some A') l.length (c - 1)) ∧ RdAt W6 b q ⟨l, false⟩ (some A') (c - 1) ∧ W6.heap[w.heap.size]? = some zeroO ∧
            W6.heap[w1.heap.size]? = some (.cells #[.int .u8 (t.kind : Nat), .string t.text, .int .i64 t.num, .int .i64 t.pos] 41 (0, 0)) ∧ Tn b w W6) := fun A' h1 h2 => Lib.hid ⟨_, rfl, rd_next HH5.out h1 h2,
              (Below.heap_setCell _ _ _ _ hnb).trans HR5.out, (Below.heap_setCell _ _ _ _ (by show w1.heap.size ≠ b; omega)).trans HN5.out, (Tn.of HB5.out).trans (tn_set _ _)⟩
        by_cases hc1 : c = 1
        · subst hc1
          have hl0 : l = [] := List.eq_nil_of_length_eq_zero (by omega)
          subst hl0
          have F := fin A rfl (fun h => absurd rfl h)
          clear fin
          obtain ⟨W6, hW6, hR6, hz6, hn6, hT6⟩ := F.out
          simp only [List.length_nil, Nat.sub_self] at hW6
          go_upto_region 6 with fail
          rw [← hW6]
          clear hW6 F c0 c1 f0 f1
          have HR6 := Lib.hid hR6
          have HZ6 := Lib.hid hz6
          have HT6 := Lib.hid hT6
          unfold zeroO at hz6
          obtain ⟨z0, z1, z2, z3⟩ := tok_cells hz6
          have y0 := frozen_of_row _ _ 0 _ _ hz6
          have y1 := frozen_of_row _ _ 1 _ _ hz6
          have y2 := frozen_of_row _ _ 2 _ _ hz6
          have y3 := frozen_of_row _ _ 3 _ _ hz6
          obtain ⟨n0, n1, n2, n3⟩ := tok_cells hn6
          clear hR6 hz6 hn6 hT6
          go_wp2_with fail
          refine bodyPost_ret (tok_four rfl (set_four _ _ _ _ HZ6.out)) rfl ?_
          refine ⟨t, rfl, ?_, ?_, ?_, ?_⟩
          · rw [HT.out]
          · rw [HT.out]
          · rw [HT.out]
            exact ⟨_, _, rd_keep HR6.out w.heap.size hnb (by have := HH.out.old; omega) (by have := HH.out.kw.lt; omega) (tn_four _ _ _ _ _)⟩
          · exact HT6.out.new (Nat.le_refl _) (tn_four _ _ _ _ _)
        · have j3 : 1 < c := by omega
          have F := fin ⟨A.block, A.off + 4, none⟩ rfl (fun h => rfl)
          clear fin
          obtain ⟨W6, hW6, hR6, hz6, hn6, hT6⟩ := F.out
          go_upto_region 6 with fail
          rw [← hW6]
          clear hW6 F c0 c1 f0 f1
          have HR6 := Lib.hid hR6
          have HZ6 := Lib.hid hz6
          have HT6 := Lib.hid hT6
          unfold zeroO at hz6
          obtain ⟨z0, z1, z2, z3⟩ := tok_cells hz6
          have y0 := frozen_of_row _ _ 0 _ _ hz6
          have y1 := frozen_of_row _ _ 1 _ _ hz6
          have y2 := frozen_of_row _ _ 2 _ _ hz6
          have y3 := frozen_of_row _ _ 3 _ _ hz6
          obtain ⟨n0, n1, n2, n3⟩ := tok_cells hn6
          clear hR6 hz6 hn6 hT6
          go_wp2_with fail
          refine bodyPost_ret (tok_four rfl (set_four _ _ _ _ HZ6.out)) rfl ?_
          refine ⟨t, rfl, ?_, ?_, ?_, ?_⟩
          · rw [HT.out]
          · rw [HT.out]
          · rw [HT.out]
            exact ⟨_, _, rd_keep HR6.out w.heap.size hnb (by have := HH.out.old; omega) (by have := HH.out.kw.lt; omega) (tn_four _ _ _ _ _)⟩
          · exact HT6.out.new (Nat.le_refl _) (tn_four _ _ _ _ _)
end Go.Proofs.YtlmjcnfiolbfpaaDoor
