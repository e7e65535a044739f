/-
  Walks over package mem: Other of a table of texts (or of none), as MemOther asks for it. Condition: a table of few keys.
-/
import Derived.Test.YtnomjhfppmhmeaaMemRefB
import Derived.Test.YtnomjhfppmhmeaaMemOthers
namespace Go.Proofs.Ytnomjhfppmhmeaa
open Go.RowKit
attribute [local go_sem] Oper.semAt_some

/-- What lies in cells of texts stays where its blocks do. -/
theorem pairs_turn {w w' : World} {p : Option Addr} {xs : List Pr} (h : PairsAt w p xs) (hz : w.heap.size ≤ w'.heap.size) (hb : ∀ k, k < w.heap.size → (∃ o j s, w.cell? ⟨k, j, o⟩ = some (.string s)) → w'.heap[k]? = w.heap[k]?) : PairsAt w' p xs := fun i hi => by
  obtain ⟨A, h1, h2, h3, h4⟩ := h i hi
  have h0 := h3 0 (by omega)
  have e : w'.heap[A.block]? = w.heap[A.block]? := by
    refine hb _ h2 ⟨(A.add (i * 2 + 0)).spot, (A.add (i * 2 + 0)).off, xs[i].1, ?_⟩
    have e2 : (⟨A.block, (A.add (i * 2 + 0)).off, (A.add (i * 2 + 0)).spot⟩ : Addr) = A.add (i * 2 + 0) := by rw [← add_block A (i * 2 + 0)]
    rw [e2]; exact h0
  refine ⟨A, h1, Nat.lt_of_lt_of_le h2 hz, fun j hj => ?_, h4⟩
  rw [← h3 j hj]
  exact World.cell?_of_block (by rw [add_block]; exact e)
/-- A block of one cell that is no text. -/
theorem no_text {w : World} {b : Nat} {v : Value} {T : TypeId} {f : Nat × Nat} (h : w.heap[b]? = some (.cells #[v] T f)) (hv : ∀ s, v ≠ .string s) : ¬ ∃ o j s, w.cell? ⟨b, j, o⟩ = some (.string s) := by
  rintro ⟨o, j, s, hc⟩
  unfold World.cell? at hc
  rw [h] at hc
  simp only at hc
  split at hc
  · cases hc
  · rcases j with _ | j
    · simp at hc; exact hv s hc
    · simp at hc
theorem pairs_its {A C : World} {n : Nat} {p : Option Addr} {xs : List Pr} (h : PairsAt A p xs) (st : ItS n A C) : PairsAt C p xs := pairs_turn h st.size fun k hk ⟨o, j, s, hc⟩ => st.block k hk (.inr fun hn => by
  unfold World.cell? at hc
  split at hc
  · rename_i h; exact hn _ _ _ h
  · cases hc)
theorem pairs_only {A C : World} {a : Nat} {q : Value} {p : Option Addr} {xs : List Pr} (h : PairsAt A p xs) (ht : A.heap[a]? = some (MI.memO q)) (hq : ∀ s, q ≠ .string s) (ho : MI.Only a A C) : PairsAt C p xs := pairs_turn h ho.size fun k hk hc => ho.block k hk fun e => by
  subst e; exact no_text ht hq hc

/-- What a call of the law's function leaves: its two boxes, of what lay. -/
structure AskedSI (gw ga i : Nat) (w w' : World) : Prop where
  outs : Outs [gw, ga] w w'
  wrong : w'.heap[gw]? = some (.cells #[.bool false] 4 (0, 0))
  asked : w'.heap[ga]? = some (.cells #[.int .i64 (i : Nat)] 3 (0, 0))

set_option maxRecDepth 100000 in
set_option maxHeartbeats 4000000 in
theorem askSI_any {w : World} {gw ga gx gm : Nat} {px : Option Addr} {cx : Nat} {ws : List Pr} {i : Nat} {most : Int} (hi : i < ws.length) (hn : ws.length ≤ 1000) (hw : w.heap[gw]? = some (.cells #[.bool false] 4 (0, 0))) (ha : w.heap[ga]? = some (.cells #[.int .i64 (i : Nat)] 3 (0, 0)))
    (hx : w.heap[gx]? = some (.cells #[.slice px ws.length cx] 42 (0, 0))) (hm : w.heap[gm]? = some (.cells #[.int .i64 most] 3 (0, 0))) (hg : ga ≠ gm) (hp : PairsAt w px ws) (k v : ByteArray) (hk : ws[i] = (k, v)) (_hv : v.size ≤ maxLen) :
    Calls Try.prog 36 #[.string k, .string v, .pointer (some ⟨gw, 0, none⟩), .pointer (some ⟨ga, 0, none⟩), .pointer (some ⟨gx, 0, none⟩), .pointer (some ⟨gm, 0, none⟩)] w fun e w' => e = .returned (.tuple #[.int .i64 (v.size : Nat), .bool (decide ((v.size : Int) ≤ most))]) ∧ AskedSI gw ga (i + 1) w w' := by
  obtain ⟨A, rfl, a0, a1, -⟩ := hp.at (Below.refl _ w) hi
  rw [hk] at a0 a1
  simp only at a0 a1
  obtain ⟨c0, f0⟩ := cells1 hw
  obtain ⟨c1, f1⟩ := cells1 ha
  obtain ⟨c2, -⟩ := cells1 hx
  obtain ⟨c3, -⟩ := cells1 hm
  have f0' := f0 0
  have n1 : ga ≠ gw := fun e => by rw [e, hw] at ha; simp at ha
  have i0 : (i : Int) < (ws.length : Int) := by omega
  have i1 : (0 : Int) ≤ (i : Int) := by omega
  have i2 : ¬ (ws.length : Int) ≤ (i : Int) := by omega

  obtain ⟨W1, hW1⟩ : ∃ W1, w.setCell ⟨gw, 0, none⟩ (.bool false) = W1 := ⟨_, rfl⟩
  have ho1 : Outs [gw, ga] w W1 := by rw [← hW1]; exact (Outs.refl _ _).set (by simp) 0 _
  have hw1 : W1.heap[gw]? = some (.cells #[.bool false] 4 (0, 0)) := by rw [← hW1]; exact heap_setCell_same w gw 0 _ _ _ hw
  have ha1 : W1.heap[ga]? = some (.cells #[.int .i64 (i : Nat)] 3 (0, 0)) := by rw [← hW1]; exact (Below.heap_setCell _ _ _ _ n1).trans ha
  have hm1 : W1.heap[gm]? = some (.cells #[.int .i64 most] 3 (0, 0)) := by
    rw [← hW1]; exact (Below.heap_setCell _ _ _ _ (fun e => by have e : gm = gw := e; rw [e, hw] at hm; simp at hm)).trans hm
  obtain ⟨d1, g1⟩ := cells1 ha1
  have g1' := g1 0
  obtain ⟨W2, hW2⟩ : ∃ W2, W1.setCell ⟨ga, 0, none⟩ (.int .i64 ((i : Int) + 1)) = W2 := ⟨_, rfl⟩
  have ho2 : Outs [gw, ga] w W2 := by rw [← hW2]; exact ho1.set (by simp) 0 _
  have hw2 : W2.heap[gw]? = some (.cells #[.bool false] 4 (0, 0)) := by rw [← hW2]; exact (Below.heap_setCell _ _ _ _ (Ne.symm n1)).trans hw1
  have ha2 : W2.heap[ga]? = some (.cells #[.int .i64 ((i + 1 : Nat) : Int)] 3 (0, 0)) := by rw [← hW2]; exact heap_setCell_same W1 ga 0 _ _ _ ha1
  have hm2 : W2.heap[gm]? = some (.cells #[.int .i64 most] 3 (0, 0)) := by rw [← hW2]; exact (Below.heap_setCell _ _ _ _ (Ne.symm hg)).trans hm1
  obtain ⟨d3, -⟩ := cells1 hm2
  have HR := Lib.hid (And.intro ho2 (And.intro hw2 ha2))
  have b1 := (eq_flag (a := k) (b := k)).1 rfl
  have b2 := (eq_flag (a := v) (b := v)).1 rfl
  clear hp hk hw ha hx hm ho1 hw1 ha1 hm1 ho2 hw2 ha2 hm2 f0 f1 g1 hg n1
  go_enter Try.func36, Try.ntmps36
  go_wp2_with fail
  go_quiet (fail)
  go_wp2_with fail
  go_ret2
  exact ⟨rfl, HR.out.1.below (below_dN (Below.refl _ W2) _), HR.out.2.1, HR.out.2.2⟩

theorem recSI_idle (w : World) : CallsD Try.prog 81 #[] .returning w fun e u' w' => e = .returned (.tuple #[]) ∧ u' = .returning ∧ w' = w := by
  refine callsD_of_wpS Try.func81 rfl fun c₀ cs hu => ?_
  apply wpS_region
  simp [wpOpsS, go_sem, recoverD, hu, Try.ntmps81, bodyPostS, results, Try.results81]
  cases c₀
  simp_all
def askF (gw ga gx gm : Nat) : Value := .func (.func 36) #[] #[.pointer (some ⟨gw, 0, none⟩), .pointer (some ⟨ga, 0, none⟩), .pointer (some ⟨gx, 0, none⟩), .pointer (some ⟨gm, 0, none⟩)]
set_option maxRecDepth 100000 in
set_option maxHeartbeats 1000000 in
theorem answerSI_of {w : World} {gw ga gx gm : Nat} {k v : ByteArray} {x : Int} {b : Bool} {Q : World → Prop}
    (h : Calls Try.prog 36 #[.string k, .string v, .pointer (some ⟨gw, 0, none⟩), .pointer (some ⟨ga, 0, none⟩), .pointer (some ⟨gx, 0, none⟩), .pointer (some ⟨gm, 0, none⟩)] w fun e w' => e = .returned (.tuple #[.int .i64 x, .bool b]) ∧ Q w') :
    Calls Try.prog 65 #[askF gw ga gx gm, .string k, .string v] w fun e w' => e = .returned (.tuple #[.int .i64 x, .bool b]) ∧ Q w' := by
  unfold askF
  have hmf : ∀ (fn : Fn) (first cap : Array Value) (w : World), (Instr.makeFunc fn first cap).run Try.prog w = .ok (.func fn first cap) w := fun _ _ _ _ => rfl
  have H := Lib.hid h
  clear h
  go_enter_defers Try.func65, Try.ntmps65
  go_wp2_with fail
  refine H.out.mono ?_
  rintro e w2 ⟨rfl, hq⟩
  have HQ := Lib.hid hq
  clear hq
  go_wp2_with fail
  refine leaves_cons (f := 81) (args := #[]) (by simp) (by simp [go_sem]) ?_
  refine (recSI_idle _).mono ?_
  rintro e u' w'' ⟨rfl, rfl, rfl⟩
  exact ⟨.tuple #[.int .i64 x, .bool b], by simp [results, Try.results65, go_sem], rfl, HQ.out⟩
end Go.Proofs.Ytnomjhfppmhmeaa
