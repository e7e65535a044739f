/-
  A range over a function whose iterator keeps cells of its own, and gives a known list: what the two owe each other, and the statement's law. The iterator turns only blocks between B (the heap's size as it is called) and a border T that it tells; the body leaves those as they are, and what the iterator has captured. Over any program.
-/
import Derived.RangeFuncNested
import Derived.RangeFuncBound
import Derived.RangeFuncCalls
import Derived.RangeFuncLeaves
import Derived.WalkKit
namespace Go.Proofs.YtbhjpkejdkfenaaGreatDoor
open Go.RowKit
variable {F : Fence} {n : Nat} {P : Program}

/-- The iterator's own steps: of what lay, blocks from B up to T alone may turn. -/
structure ItSteps (B T : Nat) (W W' : World) : Prop where
  os : W'.os = W.os
  tape : W'.tape = W.tape
  output : W'.output = W.output
  size : W.heap.size ≤ W'.heap.size
  block : ∀ k, k < W.heap.size → (k < B ∨ T ≤ k) → W'.heap[k]? = W.heap[k]?
theorem ItSteps.refl (B T : Nat) (W : World) : ItSteps B T W W := ⟨rfl, rfl, rfl, Nat.le_refl _, fun _ _ _ => rfl⟩
theorem ItSteps.of_below {B T : Nat} {W W' : World} (h : Below W.heap.size W W') : ItSteps B T W W' := ⟨h.os, h.tape, h.output, h.size, fun k hk _ => h.block k hk⟩
theorem ItSteps.trans {B T : Nat} {W W1 W2 : World} (h : ItSteps B T W W1) (k : ItSteps B T W1 W2) : ItSteps B T W W2 :=
  ⟨k.os.trans h.os, k.tape.trans h.tape, k.output.trans h.output, Nat.le_trans h.size k.size, fun i hi hb => (k.block i (Nat.lt_of_lt_of_le hi h.size) hb).trans (h.block i hi hb)⟩
theorem ItSteps.putObj {B T : Nat} {W : World} {l : Nat} (o : Obj) (h1 : B ≤ l) (h2 : l < T) : ItSteps B T W (W.putObj l o) :=
  ⟨rfl, rfl, rfl, by simp, fun _ _ hb => World.putObj_heap_other (by omega)⟩
theorem ItSteps.setCell {B T : Nat} {W : World} {a : Addr} (v : Value) (h1 : B ≤ a.block) (h2 : a.block < T) : ItSteps B T W (W.setCell a v) :=
  ⟨rfl, rfl, rfl, by simp [World.setCell], fun _ _ hb => Below.heap_setCell _ _ _ _ (by omega)⟩

/-- The body's word to the iterator: what it has captured, and its own blocks, lie as they lay. -/
structure BodyKeeps (cap : Nat → Prop) (B T : Nat) (W W' : World) : Prop where
  size : W.heap.size ≤ W'.heap.size
  block : ∀ k, k < W.heap.size → (cap k ∨ (B ≤ k ∧ k < T)) → W'.heap[k]? = W.heap[k]?
theorem BodyKeeps.refl (cap : Nat → Prop) (B T : Nat) (W : World) : BodyKeeps cap B T W W := ⟨Nat.le_refl _, fun _ _ _ => rfl⟩
theorem BodyKeeps.trans {cap : Nat → Prop} {B T : Nat} {W W1 W2 : World} (h : BodyKeeps cap B T W W1) (k : BodyKeeps cap B T W1 W2) : BodyKeeps cap B T W W2 :=
  ⟨Nat.le_trans h.size k.size, fun i hi hb => (k.block i (Nat.lt_of_lt_of_le hi h.size) hb).trans (h.block i hi hb)⟩
theorem BodyKeeps.of_below {cap : Nat → Prop} {B T : Nat} {W W' : World} (h : Below W.heap.size W W') : BodyKeeps cap B T W W' := ⟨h.size, fun k hk _ => h.block k hk⟩
theorem BodyKeeps.setCell {cap : Nat → Prop} {B T : Nat} {W : World} {a : Addr} (v : Value) (h1 : ¬ cap a.block) (h2 : a.block < B ∨ T ≤ a.block) : BodyKeeps cap B T W (W.setCell a v) :=
  ⟨by simp [World.setCell], fun k _ hb => Below.heap_setCell _ _ _ _ (fun e => by subst e; rcases hb with h | h; exact h1 h; omega)⟩
theorem BodyKeeps.putObj {cap : Nat → Prop} {B T : Nat} {W : World} {l : Nat} (o : Obj) (h1 : ¬ cap l) (h2 : l < B ∨ T ≤ l) : BodyKeeps cap B T W (W.putObj l o) :=
  ⟨by simp, fun k _ hb => World.putObj_heap_other (fun e => by subst e; rcases hb with h | h; exact h1 h; omega)⟩

/-- J says nothing that the iterator's own steps could turn. -/
def ItStable (B : Nat) (J : Nat → Nat → World → Prop) : Prop := ∀ T i W W', J T i W → ItSteps B T W W' → J T i W'

/-- THE ITERATOR's CONTRACT: it gives the elements of xs in order, until a round says 'no more'. -/
def SeqX {α : Type} (F : Fence) (n : Nat) (P : Program) (g : Nat) (lb : Array Value) (encs : α → Array Value) (xs : List α) (cap : Nat → Prop) (w : World) : Prop :=
  ∀ (l : Nat) (J Jx : Nat → Nat → World → Prop) (W : World), Below w.heap.size w W → ItStable W.heap.size J →
    (∀ T i (hi : i < xs.length) W1, W.heap.size ≤ T → T ≤ W1.heap.size → J T i W1 → YieldAt F (n - 1) P l (encs xs[i]) W1 fun e W' =>
      (e = .returned (.bool true) ∧ J T (i + 1) W' ∧ BodyKeeps cap W.heap.size T W1 W') ∨ (e = .returned (.bool false) ∧ Jx T (i + 1) W' ∧ BodyKeeps cap W.heap.size T W1 W')) →
    ItStable W.heap.size Jx → (∀ T, W.heap.size ≤ T → J T 0 W) →
    CallsIn F n P g (#[.func (.yield l) #[] #[]] ++ lb) W fun e W' => (∃ v, e = .returned v) ∧ ∃ T, W.heap.size ≤ T ∧ (J T xs.length W' ∨ ∃ i, i ≤ xs.length ∧ Jx T i W')

/-- How a round's body may be left. -/
def bodyPostX (cap : Nat → Prop) (B T : Nat) (I : Nat → World → Prop) (Ix : Code → Nat → World → Prop) (i : Nat) (W : World) : Exit → Act → World → Prop
  | .normal, _, W' => BodyKeeps cap B T W W' ∧ I i W'
  | .ret, _, W' => BodyKeeps cap B T W W' ∧ Ix .ret i W'
  | .exit id, _, W' => BodyKeeps cap B T W W' ∧ Ix (.exit id) i W'
  | .goto t, _, W' => BodyKeeps cap B T W W' ∧ Ix (.goto t) i W'
  | .panic _, _, _ => False
  | .outgrown, _, _ => False

theorem wpIn_rangeX {α : Type} {g : Operand} {ps : Array Tmp} {assign body : Code} {Q : Exit → Act → World → Prop} {a : Act} {w : World}
    (hro : F.round = none) (h1 : 1 ≤ n) {gf : Nat} {lb : Array Value} (hg : a.eval g = .func (.func gf) #[] lb) (hFg : F.fn gf) (eg : ∀ args w, (callFunc gf args).run P w = .ok (.enter gf args) w)
    {encs : α → Array Value} {xs : List α} {cap : Nat → Prop} {w0 : World} (hseq : SeqX F (n - 1) P gf lb encs xs cap w0) (hcap : ∀ k, cap k → k < w.heap.size) (hb0 : Below w0.heap.size w0 w) (hps : ∀ x, (encs x).size = ps.size)
    (I : Nat → Nat → World → Prop) (Ix : Code → Nat → Nat → World → Prop)
    (hI : ∀ T i W W', I T i W → w.heap.size ≤ T → ItSteps w.heap.size T W W' → I T i W') (hIx : ∀ c T i W W', Ix c T i W → w.heap.size ≤ T → ItSteps w.heap.size T W W' → Ix c T i W')
    (h0 : ∀ T, w.heap.size ≤ T → I T 0 w) (a₁ : α → Act)
    (hassign : ∀ (l : Nat) (x : α) (W : World) (K : Act → World → Prop), K (a₁ x) W →
      assign.wpIn (F.inRound l) (n - 1 - 1) P (Exit.then K (fun _ _ _ => False)) { tmps := (ps.zip (encs x)).foldl (fun t (p, v) => t.setIfInBounds p v) a.tmps, defers := [] } W)
    (hbody : ∀ (l T i : Nat) (hi : i < xs.length) (W : World), w.heap.size + 2 ≤ T → T ≤ W.heap.size → I T i W → body.wpIn (F.inRound l) (n - 1 - 1) P (bodyPostX cap w.heap.size T (I T) (fun c => Ix c T) (i + 1) W) (a₁ xs[i]) W)
    (hdone : ∀ (D T : Nat) (W : World), w.heap.size ≤ D → D < T → I T xs.length W → W.heap[D]? = some (.deferred (some [])) → Q .normal { a with defers := { target := .collected D, args := #[] } :: a.defers } W)
    (hstop : ∀ (D T : Nat) (c : Code) (i : Nat) (W : World), w.heap.size ≤ D → D < T → i ≤ xs.length → Ix c T i W → W.heap[D]? = some (.deferred (some [])) → c.wpIn F n P Q { a with defers := { target := .collected D, args := #[] } :: a.defers } W) :
    (Code.rangeFunc g ps assign body).wpIn F n P Q a w := by
  refine wpIn_rangeFunc ?_
  intro fn hfn
  rw [hro]
  obtain ⟨rec, hrec⟩ : ∃ rec : LoopState → Option Code → Loop, rec = fun st pe => { state := st, pending := pe, fn, tmps := a.tmps, params := ps, assign, body, defers := w.heap.size } := ⟨_, rfl⟩
  obtain ⟨W1, hW1⟩ : ∃ W1, (w.alloc (.deferred (some []))).alloc (.loop (rec .ready none)) = W1 := ⟨_, rfl⟩
  have hs1 : W1.heap.size = w.heap.size + 2 := by rw [← hW1]; simp
  have hL1 : W1.heap[w.heap.size + 1]? = some (.loop (rec .ready none)) := by
    rw [← hW1]; have := World.alloc_heap_new (w.alloc (.deferred (some []))) (.loop (rec .ready none)); rwa [World.size_alloc] at this
  have hK1 : W1.heap[w.heap.size]? = some (.deferred (some [])) := by
    rw [← hW1]; exact (Below.heap_alloc _ _ _ (by simp)).trans (World.alloc_heap_new w _)
  have hbW : Below w.heap.size w W1 := by rw [← hW1]; exact ((Below.refl _ w).alloc (Nat.le_refl _) _).alloc (by simp) _
  have wider : ∀ {T : Nat} {A C : World}, ItSteps W1.heap.size T A C → ItSteps w.heap.size T A C := fun h => ⟨h.os, h.tape, h.output, h.size, fun k hk hb => h.block k hk (by omega)⟩
  refine ⟨w.heap.size + 1, [{ target := .collected w.heap.size, args := #[] }], W1, { target := .fn (.func gf) lb, args := #[.func (.yield (w.heap.size + 1)) #[] #[]] }, W1, gf,
    #[.func (.yield (w.heap.size + 1)) #[] #[]] ++ lb, W1, ?_, ?_, ?_, ?_, fun _ => h1, ?_⟩
  · rw [← hW1, hrec]; exact run_enterLoop_outer _ _ _ _ _
  · simp only [resolve, hg]
    simp [go_sem]
  · intro f' hf'; simp [Target.leads] at hf'; subst hf'; exact hFg
  · simp [invoke, go_sem, eg]
  · refine (hseq (w.heap.size + 1)
      (fun T i W => I T i W ∧ W.heap[w.heap.size + 1]? = some (.loop (rec .ready none)) ∧ W.heap[w.heap.size]? = some (.deferred (some [])) ∧ w.heap.size + 2 ≤ W.heap.size ∧ w.heap.size ≤ T)
      (fun T i W => ∃ c, Ix c T i W ∧ W.heap[w.heap.size + 1]? = some (.loop (rec .done (some c))) ∧ W.heap[w.heap.size]? = some (.deferred (some [])) ∧ w.heap.size + 2 ≤ W.heap.size ∧ w.heap.size ≤ T)
      W1 (hb0.trans (hbW.mono hb0.size))
      (fun T i A C hs hst => ⟨hI T i A C hs.1 hs.2.2.2.2 (wider hst), (hst.block _ (by omega) (by omega)).trans hs.2.1, (hst.block _ (by omega) (by omega)).trans hs.2.2.1, Nat.le_trans hs.2.2.2.1 hst.size, hs.2.2.2.2⟩)
      ?_
      (fun T i A C hs hst => by
        obtain ⟨c, hc, hl, hk, hz, hT⟩ := hs
        exact ⟨c, hIx c T i A C hc hT (wider hst), (hst.block _ (by omega) (by omega)).trans hl, (hst.block _ (by omega) (by omega)).trans hk, Nat.le_trans hz hst.size, hT⟩)
      (fun T hT => ⟨hI T 0 w W1 (h0 T (by omega)) (by omega) (ItSteps.of_below hbW), hL1, hK1, by omega, by omega⟩)).mono ?_
    · -- ONE ROUND
      rintro T i hi W hT1 hT2 ⟨hi0, hl, hk, hz, hT⟩
      have hlt : w.heap.size + 1 < W.heap.size := by omega
      have hy := run_yield (P := P) (args := encs xs[i]) hl (by rw [hrec]; exact hps _)
      rw [hrec] at hy
      refine ⟨fn, _, assign, body, hy, roundIn_of_wpIn hfn (hassign _ xs[i] W _ ⟨_, run_beginRound hl (by rw [hrec]), ?_⟩)⟩
      have hl2 : (W.putObj (w.heap.size + 1) (.loop { rec .ready none with state := .busy })).heap[w.heap.size + 1]? = some (.loop { rec .ready none with state := .busy }) := World.putObj_heap_same hlt
      have hk2 : (W.putObj (w.heap.size + 1) (.loop { rec .ready none with state := .busy })).heap[w.heap.size]? = some (.deferred (some [])) := (World.putObj_heap_other (by omega)).trans hk
      have hI2 := hI T i W _ hi0 hT (ItSteps.putObj (.loop { rec .ready none with state := .busy }) (l := w.heap.size + 1) (by omega) (by omega))
      refine wpIn_mono (hbody _ T i hi _ (by omega) (by simpa using hT2) hI2) ?_
      have kcap : ∀ k, cap k → k ≠ w.heap.size + 1 := fun k h e => by have := hcap k h; omega
      have kp : ∀ (o : Obj) (A : World), BodyKeeps cap W1.heap.size T A (A.putObj (w.heap.size + 1) o) := fun o A =>
        BodyKeeps.putObj o (fun h => kcap _ h rfl) (by omega)
      have narrow : ∀ {A C : World}, BodyKeeps cap w.heap.size T A C → BodyKeeps cap W1.heap.size T A C := fun h => ⟨h.size, fun k hk hb => h.block k hk (hb.imp_right fun h => ⟨by omega, h.2⟩)⟩
      have fin : ∀ (jump : Option Code) (W3 : World), BodyKeeps cap w.heap.size T (W.putObj (w.heap.size + 1) (.loop { rec .ready none with state := .busy })) W3 →
          (Instr.endRound (w.heap.size + 1) jump).run P W3 = .ok (.bool jump.isNone) (W3.putObj (w.heap.size + 1) (.loop (rec (if jump.isNone then .ready else .done) jump))) ∧
          (W3.putObj (w.heap.size + 1) (.loop (rec (if jump.isNone then .ready else .done) jump))).heap[w.heap.size + 1]? = some (.loop (rec (if jump.isNone then .ready else .done) jump)) ∧
          (W3.putObj (w.heap.size + 1) (.loop (rec (if jump.isNone then .ready else .done) jump))).heap[w.heap.size]? = some (.deferred (some [])) ∧
          w.heap.size + 2 ≤ (W3.putObj (w.heap.size + 1) (.loop (rec (if jump.isNone then .ready else .done) jump))).heap.size ∧
          BodyKeeps cap W1.heap.size T W (W3.putObj (w.heap.size + 1) (.loop (rec (if jump.isNone then .ready else .done) jump))) := fun jump W3 hk3 => by
        have hl3 := (hk3.block (w.heap.size + 1) (by simp; omega) (.inr ⟨by omega, by omega⟩)).trans hl2
        have hk4 := (hk3.block w.heap.size (by simp; omega) (.inr ⟨by omega, by omega⟩)).trans hk2
        have hz3 := hk3.size
        have hr := run_endRound (P := P) jump hl3
        rw [hrec] at hr ⊢
        simp at hz3
        exact ⟨hr, World.putObj_heap_same (by omega), (World.putObj_heap_other (by omega)).trans hk4, by simp; omega, ((kp _ W).trans (narrow (by rw [hrec] at hk3; exact hk3))).trans (kp _ W3)⟩
      have last : ∀ (o : Obj) (A : World), ItSteps w.heap.size T A (A.putObj (w.heap.size + 1) o) := fun o A => ItSteps.putObj o (by omega) (by omega)
      rintro e a3 W3 hp
      cases e with
      | normal =>
        obtain ⟨hk3, hi3⟩ := hp
        obtain ⟨hr, hl4, hk4, hz4, hb4⟩ := fin none W3 hk3
        exact ⟨_, _, hr, .inl ⟨rfl, ⟨hI T _ _ _ hi3 hT (last _ _), hl4, hk4, hz4, hT⟩, hb4⟩⟩
      | ret =>
        obtain ⟨hk3, hi3⟩ := hp
        obtain ⟨hr, hl4, hk4, hz4, hb4⟩ := fin (some .ret) W3 hk3
        exact ⟨_, _, hr, .inr ⟨rfl, ⟨.ret, hIx _ T _ _ _ hi3 hT (last _ _), hl4, hk4, hz4, hT⟩, hb4⟩⟩
      | exit id =>
        obtain ⟨hk3, hi3⟩ := hp
        obtain ⟨hr, hl4, hk4, hz4, hb4⟩ := fin (some (.exit id)) W3 hk3
        exact ⟨_, _, hr, .inr ⟨rfl, ⟨.exit id, hIx _ T _ _ _ hi3 hT (last _ _), hl4, hk4, hz4, hT⟩, hb4⟩⟩
      | goto t =>
        obtain ⟨hk3, hi3⟩ := hp
        obtain ⟨hr, hl4, hk4, hz4, hb4⟩ := fin (some (.goto t)) W3 hk3
        exact ⟨_, _, hr, .inr ⟨rfl, ⟨.goto t, hIx _ T _ _ _ hi3 hT (last _ _), hl4, hk4, hz4, hT⟩, hb4⟩⟩
      | panic ch => exact hp.elim
      | outgrown => exact hp.elim
    · -- BEHIND THE ITERATOR
      rintro e W2 ⟨⟨v, rfl⟩, T, hT, (⟨hi, hl, hk, hz, hT'⟩ | ⟨i, hi', c, hi, hl, hk, hz, hT'⟩)⟩
      · exact ⟨none, _, by have := run_endLoop (P := P) hl (by rw [hrec]; simp); rw [hrec] at this; exact this,
          hdone _ T _ (Nat.le_refl _) (by omega) (hI T _ _ _ hi hT' (ItSteps.putObj _ (by omega) (by omega))) ((World.putObj_heap_other (by omega)).trans hk)⟩
      · exact ⟨some c, _, by have := run_endLoop (P := P) hl (by rw [hrec]; simp); rw [hrec] at this; exact this,
          hstop _ T c i _ (Nat.le_refl _) (by omega) hi' (hIx c T _ _ _ hi hT' (ItSteps.putObj _ (by omega) (by omega))) ((World.putObj_heap_other (by omega)).trans hk)⟩

theorem below_steps {n₀ B T : Nat} {w W W' : World} (h : Below n₀ w W) (st : ItSteps B T W W') (h1 : n₀ ≤ w.heap.size) (h2 : n₀ ≤ B) : Below n₀ w W' :=
  ⟨st.os.trans h.os, st.tape.trans h.tape, st.output.trans h.output, Nat.le_trans h.size st.size, fun k hk => (st.block k (by have := h.size; omega) (.inl (by omega))).trans (h.block k hk)⟩
theorem below_putObj {n₀ : Nat} {w W : World} (h : Below n₀ w W) {D : Nat} (hD : n₀ ≤ D) (o : Obj) : Below n₀ w (W.putObj D o) :=
  ⟨h.os, h.tape, h.output, by simpa using h.size, fun k hk => (World.putObj_heap_other (by omega)).trans (h.block k hk)⟩
end Go.Proofs.YtbhjpkejdkfenaaGreatDoor
