/-
  A range over a function whose iterator makes memory, and writes none that holds cells: what the two owe each other, and the statement's law. The body may write whatever holds cells but what the iterator has captured (cap). Over any program.
  A range over a function whose iterator makes memory, and hands out pieces of it: the elements' encoding may hang on the memory (rel). What the two owe each other, and the statement's law. Over any program.
  A range over a function whose iterator keeps cells of its own, ever new ones, and gives a known list: what the two owe each other, and the statement's law. The iterator turns only blocks of a set that it tells, to which it adds new blocks alone; the body leaves those as they are, and what the iterator has captured. Over any program.
  A range over a function whose iterator keeps cells of its own, ever new ones, and hands out pieces of memory: the elements' encoding may hang on the memory (rel). What the two owe each other, and the statement's law. Over any program.
-/
import Derived.RangeFuncNested
import Derived.RangeFuncBound
import Derived.RangeFuncCalls
import Derived.RangeFuncLeaves
import Derived.WalkKit
namespace Go.Proofs.YtnkdhmoocomjfaaGreatDoor
open Go.RowKit
variable {F : Fence} {n : Nat} {P : Program}

/-- Block k holds no cells. -/
def NoCells (W : World) (k : Nat) : Prop := ∀ cs T f, W.heap[k]? ≠ some (.cells cs T f)
/-- The iterator's own steps: blocks below B, and all cells, are as they were. -/
structure ItS (B : Nat) (W W' : World) : Prop where
  os : W'.os = W.os
  tape : W'.tape = W.tape
  output : W'.output = W.output
  size : W.heap.size ≤ W'.heap.size
  block : ∀ k, k < W.heap.size → (k < B ∨ ¬ NoCells W k) → W'.heap[k]? = W.heap[k]?
theorem ItS.of_below {B : Nat} {W W' : World} (h : Below W.heap.size W W') : ItS B W W' := ⟨h.os, h.tape, h.output, h.size, fun k hk _ => h.block k hk⟩
theorem ItS.putObj {B : Nat} {W : World} {l : Nat} (o : Obj) (h1 : B ≤ l) (h2 : NoCells W l) : ItS B W (W.putObj l o) :=
  ⟨rfl, rfl, rfl, by simp, fun k _ hb => World.putObj_heap_other (fun e => by subst e; rcases hb with h | h; omega; exact h h2)⟩
theorem ItS.wider {B B' : Nat} {W W' : World} (h : ItS B W W') (hB : B' ≤ B) : ItS B' W W' := ⟨h.os, h.tape, h.output, h.size, fun k hk hb => h.block k hk (hb.imp_left fun e => by omega)⟩
/-- What the iterator has captured lies as it lay. -/
structure Keeps (cap : Nat → Prop) (W W' : World) : Prop where
  size : W.heap.size ≤ W'.heap.size
  block : ∀ k, k < W.heap.size → cap k → W'.heap[k]? = W.heap[k]?
/-- The body's word: that, and what holds no cells. -/
structure BodyK (cap : Nat → Prop) (W W' : World) : Prop where
  size : W.heap.size ≤ W'.heap.size
  block : ∀ k, k < W.heap.size → (cap k ∨ NoCells W k) → W'.heap[k]? = W.heap[k]?
theorem BodyK.refl (cap : Nat → Prop) (W : World) : BodyK cap W W := ⟨Nat.le_refl _, fun _ _ _ => rfl⟩
theorem BodyK.trans {cap : Nat → Prop} {W W1 W2 : World} (h : BodyK cap W W1) (k : BodyK cap W1 W2) : BodyK cap W W2 :=
  ⟨Nat.le_trans h.size k.size, fun i hi hb => by
    have e := h.block i hi hb
    exact (k.block i (Nat.lt_of_lt_of_le hi h.size) (hb.imp_right fun hn cs T f h' => hn cs T f (e.symm.trans h'))).trans e⟩
theorem BodyK.of_below {cap : Nat → Prop} {W W' : World} (h : Below W.heap.size W W') : BodyK cap W W' := ⟨h.size, fun k hk _ => h.block k hk⟩
/-- Of what lay, block a alone may have turned, which holds cells and is not captured. -/
theorem BodyK.of_only {cap : Nat → Prop} {W W' : World} {a : Nat} (hs : W.heap.size ≤ W'.heap.size) (h : ∀ k, k < W.heap.size → k ≠ a → W'.heap[k]? = W.heap[k]?) {cs : Array Value} {T : TypeId} {f : Nat × Nat} (ha : W.heap[a]? = some (.cells cs T f)) (hc : ¬ cap a) : BodyK cap W W' :=
  ⟨hs, fun k hk hb => h k hk fun e => by subst e; rcases hb with h' | h'; exact hc h'; exact h' _ _ _ ha⟩
theorem BodyK.setCell {cap : Nat → Prop} {W : World} {p : Addr} (v : Value) {cs : Array Value} {T : TypeId} {f : Nat × Nat} (ha : W.heap[p.block]? = some (.cells cs T f)) (hc : ¬ cap p.block) : BodyK cap W (W.setCell p v) :=
  BodyK.of_only (a := p.block) (by simp [World.setCell]) (fun _ _ hn => Below.heap_setCell _ _ _ _ hn) ha hc
def StableY (B : Nat) (J : Nat → World → Prop) : Prop := ∀ i W W', J i W → ItS B W W' → J i W'

/-- THE ITERATOR's CONTRACT: it gives the elements of xs in order, until a round says 'no more'. -/
def SeqY {α : Type} (F : Fence) (n : Nat) (P : Program) (g : Nat) (lb : Array Value) (encs : α → Array Value) (xs : List α) (cap : Nat → Prop) (w : World) : Prop :=
  ∀ (l : Nat) (J Jx : Nat → World → Prop) (W : World), Below w.heap.size w W → StableY W.heap.size J →
    (∀ i (hi : i < xs.length) W1, W.heap.size ≤ W1.heap.size → J i W1 → YieldAt F (n - 1) P l (encs xs[i]) W1 fun e W' =>
      (e = .returned (.bool true) ∧ J (i + 1) W' ∧ Keeps cap W1 W') ∨ (e = .returned (.bool false) ∧ Jx (i + 1) W' ∧ Keeps cap W1 W')) →
    StableY W.heap.size Jx → J 0 W →
    CallsIn F n P g (#[.func (.yield l) #[] #[]] ++ lb) W fun e W' => (∃ v, e = .returned v) ∧ (J xs.length W' ∨ ∃ i, i ≤ xs.length ∧ Jx i W')

def bodyPostY (cap : Nat → Prop) (I : Nat → World → Prop) (Ix : Code → Nat → World → Prop) (i : Nat) (W : World) : Exit → Act → World → Prop
  | .normal, _, W' => BodyK cap W W' ∧ I i W'
  | .ret, _, W' => BodyK cap W W' ∧ Ix .ret i W'
  | .exit id, _, W' => BodyK cap W W' ∧ Ix (.exit id) i W'
  | .goto t, _, W' => BodyK cap W W' ∧ Ix (.goto t) i W'
  | .panic _, _, _ => False
  | .outgrown, _, _ => False

theorem wpIn_rangeY {α : Type} {g : Operand} {ps : Array Tmp} {assign body : Code} {Q : Exit → Act → World → Prop} {a : Act} {w : World}
    (hro : F.round = none) (h1 : 1 ≤ n) {gf : Nat} {lb : Array Value} (hg : a.eval g = .func (.func gf) #[] lb) (hFg : F.fn gf) (eg : ∀ args w, (callFunc gf args).run P w = .ok (.enter gf args) w)
    {encs : α → Array Value} {xs : List α} {cap : Nat → Prop} (hseq : SeqY F (n - 1) P gf lb encs xs cap w) (hcap : ∀ k, cap k → k < w.heap.size) (hps : ∀ x, (encs x).size = ps.size)
    (I : Nat → World → Prop) (Ix : Code → Nat → World → Prop)
    (hI : ∀ i W W', I i W → ItS w.heap.size W W' → I i W') (hIx : ∀ c i W W', Ix c i W → ItS w.heap.size W W' → Ix c i W')
    (h0 : I 0 w) (a₁ : α → Act)
    (hassign : ∀ (l : Nat) (x : α) (W : World) (K : Act → World → Prop), K (a₁ x) W →
      assign.wpIn (F.inRound l) (n - 1 - 1) P (Exit.then K (fun _ _ _ => False)) { tmps := (ps.zip (encs x)).foldl (fun t (p, v) => t.setIfInBounds p v) a.tmps, defers := [] } W)
    (hbody : ∀ (l i : Nat) (hi : i < xs.length) (W : World), w.heap.size + 2 ≤ W.heap.size → I i W → body.wpIn (F.inRound l) (n - 1 - 1) P (bodyPostY cap I Ix (i + 1) W) (a₁ xs[i]) W)
    (hdone : ∀ (D : Nat) (W : World), w.heap.size ≤ D → I xs.length W → W.heap[D]? = some (.deferred (some [])) → Q .normal { a with defers := { target := .collected D, args := #[] } :: a.defers } W)
    (hstop : ∀ (D : Nat) (c : Code) (i : Nat) (W : World), w.heap.size ≤ D → i ≤ xs.length → Ix c i W → W.heap[D]? = some (.deferred (some [])) → c.wpIn F n P Q { a with defers := { target := .collected D, args := #[] } :: a.defers } W) :
    (Code.rangeFunc g ps assign body).wpIn F n P Q a w := by
  refine wpIn_rangeFunc ?_
  intro fn hfn
  rw [hro]
  obtain ⟨rec, hrec⟩ : ∃ rec : LoopState → Option Code → Loop, rec = fun st pe => { state := st, pending := pe, fn, tmps := a.tmps, params := ps, assign, body, defers := w.heap.size } := ⟨_, rfl⟩
  obtain ⟨W1, hW1⟩ : ∃ W1, (w.alloc (.deferred (some []))).alloc (.loop (rec .ready none)) = W1 := ⟨_, rfl⟩
  have hs1 : W1.heap.size = w.heap.size + 2 := by rw [← hW1]; simp
  have hL1 : W1.heap[w.heap.size + 1]? = some (.loop (rec .ready none)) := by
    rw [← hW1]; have := World.alloc_heap_new (w.alloc (.deferred (some []))) (.loop (rec .ready none)); rwa [World.size_alloc] at this
  have hK1 : W1.heap[w.heap.size]? = some (.deferred (some [])) := by
    rw [← hW1]; exact (Below.heap_alloc _ _ _ (by simp)).trans (World.alloc_heap_new w _)
  have hbW : Below w.heap.size w W1 := by rw [← hW1]; exact ((Below.refl _ w).alloc (Nat.le_refl _) _).alloc (by simp) _
  have nol : ∀ {A : World} {l : Nat} {x : Loop}, A.heap[l]? = some (.loop x) → NoCells A l := fun h cs T f h' => by rw [h] at h'; cases h'
  have nod : ∀ {A : World} {l : Nat} {x : Option (List Deferred)}, A.heap[l]? = some (.deferred x) → NoCells A l := fun h cs T f h' => by rw [h] at h'; cases h'
  refine ⟨w.heap.size + 1, [{ target := .collected w.heap.size, args := #[] }], W1, { target := .fn (.func gf) lb, args := #[.func (.yield (w.heap.size + 1)) #[] #[]] }, W1, gf,
    #[.func (.yield (w.heap.size + 1)) #[] #[]] ++ lb, W1, ?_, ?_, ?_, ?_, fun _ => h1, ?_⟩
  · rw [← hW1, hrec]; exact run_enterLoop_outer _ _ _ _ _
  · simp only [resolve, hg]
    simp [go_sem]
  · intro f' hf'; simp [Target.leads] at hf'; subst hf'; exact hFg
  · simp [invoke, go_sem, eg]
  · refine (hseq (w.heap.size + 1)
      (fun i W => I i W ∧ W.heap[w.heap.size + 1]? = some (.loop (rec .ready none)) ∧ W.heap[w.heap.size]? = some (.deferred (some [])) ∧ w.heap.size + 2 ≤ W.heap.size)
      (fun i W => ∃ c, Ix c i W ∧ W.heap[w.heap.size + 1]? = some (.loop (rec .done (some c))) ∧ W.heap[w.heap.size]? = some (.deferred (some [])) ∧ w.heap.size + 2 ≤ W.heap.size)
      W1 hbW
      (fun i A C hs hst => ⟨hI i A C hs.1 (hst.wider (by omega)), (hst.block _ (by omega) (.inl (by omega))).trans hs.2.1, (hst.block _ (by omega) (.inl (by omega))).trans hs.2.2.1, Nat.le_trans hs.2.2.2 hst.size⟩)
      ?_
      (fun i A C hs hst => by
        obtain ⟨c, hc, hl, hk, hz⟩ := hs
        exact ⟨c, hIx c i A C hc (hst.wider (by omega)), (hst.block _ (by omega) (.inl (by omega))).trans hl, (hst.block _ (by omega) (.inl (by omega))).trans hk, Nat.le_trans hz hst.size⟩)
      ⟨hI 0 w W1 h0 (ItS.of_below hbW), hL1, hK1, by omega⟩).mono ?_
    · -- ONE ROUND
      rintro i hi W hT ⟨hi0, hl, hk, hz⟩
      have hlt : w.heap.size + 1 < W.heap.size := by omega
      have hy := run_yield (P := P) (args := encs xs[i]) hl (by rw [hrec]; exact hps _)
      rw [hrec] at hy
      refine ⟨fn, _, assign, body, hy, roundIn_of_wpIn hfn (hassign _ xs[i] W _ ⟨_, run_beginRound hl (by rw [hrec]), ?_⟩)⟩
      have hl2 : (W.putObj (w.heap.size + 1) (.loop { rec .ready none with state := .busy })).heap[w.heap.size + 1]? = some (.loop { rec .ready none with state := .busy }) := World.putObj_heap_same hlt
      have hk2 : (W.putObj (w.heap.size + 1) (.loop { rec .ready none with state := .busy })).heap[w.heap.size]? = some (.deferred (some [])) := (World.putObj_heap_other (by omega)).trans hk
      have hI2 := hI i W _ hi0 (ItS.putObj (.loop { rec .ready none with state := .busy }) (l := w.heap.size + 1) (by omega) (nol hl))
      refine wpIn_mono (hbody _ i hi _ (by simpa using hz) hI2) ?_
      have kcap : ∀ k, cap k → k ≠ w.heap.size + 1 := fun k h e => by have := hcap k h; omega
      have fin : ∀ (jump : Option Code) (W3 : World), BodyK cap (W.putObj (w.heap.size + 1) (.loop { rec .ready none with state := .busy })) W3 →
          (Instr.endRound (w.heap.size + 1) jump).run P W3 = .ok (.bool jump.isNone) (W3.putObj (w.heap.size + 1) (.loop (rec (if jump.isNone then .ready else .done) jump))) ∧
          (W3.putObj (w.heap.size + 1) (.loop (rec (if jump.isNone then .ready else .done) jump))).heap[w.heap.size + 1]? = some (.loop (rec (if jump.isNone then .ready else .done) jump)) ∧
          (W3.putObj (w.heap.size + 1) (.loop (rec (if jump.isNone then .ready else .done) jump))).heap[w.heap.size]? = some (.deferred (some [])) ∧
          w.heap.size + 2 ≤ (W3.putObj (w.heap.size + 1) (.loop (rec (if jump.isNone then .ready else .done) jump))).heap.size ∧
          Keeps cap W (W3.putObj (w.heap.size + 1) (.loop (rec (if jump.isNone then .ready else .done) jump))) ∧ NoCells W3 (w.heap.size + 1) := fun jump W3 hk3 => by
        have hl3 := (hk3.block (w.heap.size + 1) (by simp; omega) (.inr (nol hl2))).trans hl2
        have hk4 := (hk3.block w.heap.size (by simp; omega) (.inr (nod hk2))).trans hk2
        have hz3 := hk3.size
        have hr := run_endRound (P := P) jump hl3
        rw [hrec] at hr ⊢
        simp at hz3
        refine ⟨hr, World.putObj_heap_same (by omega), (World.putObj_heap_other (by omega)).trans hk4, by simp; omega, ⟨by simpa using hz3, fun k hkk hck => ?_⟩, nol hl3⟩
        exact (World.putObj_heap_other (kcap k hck)).trans ((hk3.block k (by simpa using hkk) (.inl hck)).trans (World.putObj_heap_other (kcap k hck)))
      have last : ∀ (o : Obj) {A : World}, NoCells A (w.heap.size + 1) → ItS w.heap.size A (A.putObj (w.heap.size + 1) o) := fun o A hA => ItS.putObj o (by omega) hA
      rintro e a3 W3 hp
      cases e with
      | normal =>
        obtain ⟨hk3, hi3⟩ := hp
        obtain ⟨hr, hl4, hk4, hz4, hb4, hn⟩ := fin none W3 hk3
        exact ⟨_, _, hr, .inl ⟨rfl, ⟨hI _ _ _ hi3 (last _ hn), hl4, hk4, hz4⟩, hb4⟩⟩
      | ret =>
        obtain ⟨hk3, hi3⟩ := hp
        obtain ⟨hr, hl4, hk4, hz4, hb4, hn⟩ := fin (some .ret) W3 hk3
        exact ⟨_, _, hr, .inr ⟨rfl, ⟨.ret, hIx _ _ _ _ hi3 (last _ hn), hl4, hk4, hz4⟩, hb4⟩⟩
      | exit id =>
        obtain ⟨hk3, hi3⟩ := hp
        obtain ⟨hr, hl4, hk4, hz4, hb4, hn⟩ := fin (some (.exit id)) W3 hk3
        exact ⟨_, _, hr, .inr ⟨rfl, ⟨.exit id, hIx _ _ _ _ hi3 (last _ hn), hl4, hk4, hz4⟩, hb4⟩⟩
      | goto t =>
        obtain ⟨hk3, hi3⟩ := hp
        obtain ⟨hr, hl4, hk4, hz4, hb4, hn⟩ := fin (some (.goto t)) W3 hk3
        exact ⟨_, _, hr, .inr ⟨rfl, ⟨.goto t, hIx _ _ _ _ hi3 (last _ hn), hl4, hk4, hz4⟩, hb4⟩⟩
      | panic ch => exact hp.elim
      | outgrown => exact hp.elim
    · -- BEHIND THE ITERATOR
      rintro e W2 ⟨⟨v, rfl⟩, (⟨hi, hl, hk, hz⟩ | ⟨i, hi', c, hi, hl, hk, hz⟩)⟩
      · exact ⟨none, _, by have := run_endLoop (P := P) hl (by rw [hrec]; simp); rw [hrec] at this; exact this,
          hdone _ _ (Nat.le_refl _) (hI _ _ _ hi (ItS.putObj _ (by omega) (nol hl))) ((World.putObj_heap_other (by omega)).trans hk)⟩
      · exact ⟨some c, _, by have := run_endLoop (P := P) hl (by rw [hrec]; simp); rw [hrec] at this; exact this,
          hstop _ c i _ (Nat.le_refl _) hi' (hIx c _ _ _ hi (ItS.putObj _ (by omega) (nol hl))) ((World.putObj_heap_other (by omega)).trans hk)⟩
theorem below_putObjY {n₀ : Nat} {w W : World} (h : Below n₀ w W) {D : Nat} (hD : n₀ ≤ D) (o : Obj) : Below n₀ w (W.putObj D o) :=
  ⟨h.os, h.tape, h.output, by simpa using h.size, fun k hk => (World.putObj_heap_other (by omega)).trans (h.block k hk)⟩
end Go.Proofs.YtnkdhmoocomjfaaGreatDoor
set_option linter.unusedSimpArgs false
set_option linter.unusedVariables false
namespace Go.Proofs.YtnkdhmoocomjfaaGreatDoor
open Go.RowKit
variable {F : Fence} {n : Nat} {P : Program}

/-- Steps that turn no cells. -/
structure NoTurn (W W' : World) : Prop where
  size : W.heap.size ≤ W'.heap.size
  block : ∀ k, k < W.heap.size → ¬ NoCells W k → W'.heap[k]? = W.heap[k]?
theorem NoTurn.putObj {W : World} {l : Nat} (o : Obj) (h2 : NoCells W l) : NoTurn W (W.putObj l o) :=
  ⟨by simp, fun k _ hb => World.putObj_heap_other (fun e => by subst e; exact hb h2)⟩
theorem NoTurn.of_below {W W' : World} (h : Below W.heap.size W W') : NoTurn W W' := ⟨h.size, fun k hk _ => h.block k hk⟩
/-- THE ITERATOR's CONTRACT: it gives the elements of xs in order, until a round says 'no more'. -/
def SeqW {α β : Type} (F : Fence) (n : Nat) (P : Program) (g : Nat) (lb : Array Value) (encs : α → β → Array Value) (rel : World → α → β → Prop) (xs : List α) (cap : Nat → Prop) (w : World) : Prop :=
  ∀ (l : Nat) (J Jx : Nat → World → Prop) (W : World), Below w.heap.size w W → StableY W.heap.size J →
    (∀ i (hi : i < xs.length) W1 (b : β), W.heap.size ≤ W1.heap.size → rel W1 xs[i] b → J i W1 → YieldAt F (n - 1) P l (encs xs[i] b) W1 fun e W' =>
      (e = .returned (.bool true) ∧ J (i + 1) W' ∧ Keeps cap W1 W') ∨ (e = .returned (.bool false) ∧ Jx (i + 1) W' ∧ Keeps cap W1 W')) →
    StableY W.heap.size Jx → J 0 W →
    CallsIn F n P g (#[.func (.yield l) #[] #[]] ++ lb) W fun e W' => (∃ v, e = .returned v) ∧ (J xs.length W' ∨ ∃ i, i ≤ xs.length ∧ Jx i W')

theorem wpIn_rangeW {α β : Type} {g : Operand} {ps : Array Tmp} {assign body : Code} {Q : Exit → Act → World → Prop} {a : Act} {w : World}
    (hro : F.round = none) (h1 : 1 ≤ n) {gf : Nat} {lb : Array Value} (hg : a.eval g = .func (.func gf) #[] lb) (hFg : F.fn gf) (eg : ∀ args w, (callFunc gf args).run P w = .ok (.enter gf args) w)
    {encs : α → β → Array Value} {rel : World → α → β → Prop} {xs : List α} {cap : Nat → Prop} (hseq : SeqW F (n - 1) P gf lb encs rel xs cap w) (hcap : ∀ k, cap k → k < w.heap.size) (hps : ∀ x b, (encs x b).size = ps.size)
    (hrel : ∀ W W' x b, rel W x b → NoTurn W W' → rel W' x b)
    (I : Nat → World → Prop) (Ix : Code → Nat → World → Prop)
    (hI : ∀ i W W', I i W → ItS w.heap.size W W' → I i W') (hIx : ∀ c i W W', Ix c i W → ItS w.heap.size W W' → Ix c i W')
    (h0 : I 0 w) (a₁ : α → β → Act)
    (hassign : ∀ (l : Nat) (x : α) (b : β) (W : World) (K : Act → World → Prop), K (a₁ x b) W →
      assign.wpIn (F.inRound l) (n - 1 - 1) P (Exit.then K (fun _ _ _ => False)) { tmps := (ps.zip (encs x b)).foldl (fun t (p, v) => t.setIfInBounds p v) a.tmps, defers := [] } W)
    (hbody : ∀ (l i : Nat) (hi : i < xs.length) (b : β) (W : World), w.heap.size + 2 ≤ W.heap.size → rel W xs[i] b → I i W → body.wpIn (F.inRound l) (n - 1 - 1) P (bodyPostY cap I Ix (i + 1) W) (a₁ xs[i] b) W)
    (hdone : ∀ (D : Nat) (W : World), w.heap.size ≤ D → I xs.length W → W.heap[D]? = some (.deferred (some [])) → Q .normal { a with defers := { target := .collected D, args := #[] } :: a.defers } W)
    (hstop : ∀ (D : Nat) (c : Code) (i : Nat) (W : World), w.heap.size ≤ D → i ≤ xs.length → Ix c i W → W.heap[D]? = some (.deferred (some [])) → c.wpIn F n P Q { a with defers := { target := .collected D, args := #[] } :: a.defers } W) :
    (Code.rangeFunc g ps assign body).wpIn F n P Q a w := by
  refine wpIn_rangeFunc ?_
  intro fn hfn
  rw [hro]
  obtain ⟨rec, hrec⟩ : ∃ rec : LoopState → Option Code → Loop, rec = fun st pe => { state := st, pending := pe, fn, tmps := a.tmps, params := ps, assign, body, defers := w.heap.size } := ⟨_, rfl⟩
  obtain ⟨W1, hW1⟩ : ∃ W1, (w.alloc (.deferred (some []))).alloc (.loop (rec .ready none)) = W1 := ⟨_, rfl⟩
  have hs1 : W1.heap.size = w.heap.size + 2 := by rw [← hW1]; simp
  have hL1 : W1.heap[w.heap.size + 1]? = some (.loop (rec .ready none)) := by
    rw [← hW1]; have := World.alloc_heap_new (w.alloc (.deferred (some []))) (.loop (rec .ready none)); rwa [World.size_alloc] at this
  have hK1 : W1.heap[w.heap.size]? = some (.deferred (some [])) := by
    rw [← hW1]; exact (Below.heap_alloc _ _ _ (by simp)).trans (World.alloc_heap_new w _)
  have hbW : Below w.heap.size w W1 := by rw [← hW1]; exact ((Below.refl _ w).alloc (Nat.le_refl _) _).alloc (by simp) _
  have nol : ∀ {A : World} {l : Nat} {x : Loop}, A.heap[l]? = some (.loop x) → NoCells A l := fun h cs T f h' => by rw [h] at h'; cases h'
  have nod : ∀ {A : World} {l : Nat} {x : Option (List Deferred)}, A.heap[l]? = some (.deferred x) → NoCells A l := fun h cs T f h' => by rw [h] at h'; cases h'
  refine ⟨w.heap.size + 1, [{ target := .collected w.heap.size, args := #[] }], W1, { target := .fn (.func gf) lb, args := #[.func (.yield (w.heap.size + 1)) #[] #[]] }, W1, gf,
    #[.func (.yield (w.heap.size + 1)) #[] #[]] ++ lb, W1, ?_, ?_, ?_, ?_, fun _ => h1, ?_⟩
  · rw [← hW1, hrec]; exact run_enterLoop_outer _ _ _ _ _
  · simp only [resolve, hg]
    simp [go_sem]
  · intro f' hf'; simp [Target.leads] at hf'; subst hf'; exact hFg
  · simp [invoke, go_sem, eg]
  · refine (hseq (w.heap.size + 1)
      (fun i W => I i W ∧ W.heap[w.heap.size + 1]? = some (.loop (rec .ready none)) ∧ W.heap[w.heap.size]? = some (.deferred (some [])) ∧ w.heap.size + 2 ≤ W.heap.size)
      (fun i W => ∃ c, Ix c i W ∧ W.heap[w.heap.size + 1]? = some (.loop (rec .done (some c))) ∧ W.heap[w.heap.size]? = some (.deferred (some [])) ∧ w.heap.size + 2 ≤ W.heap.size)
      W1 hbW
      (fun i A C hs hst => ⟨hI i A C hs.1 (hst.wider (by omega)), (hst.block _ (by omega) (.inl (by omega))).trans hs.2.1, (hst.block _ (by omega) (.inl (by omega))).trans hs.2.2.1, Nat.le_trans hs.2.2.2 hst.size⟩)
      ?_
      (fun i A C hs hst => by
        obtain ⟨c, hc, hl, hk, hz⟩ := hs
        exact ⟨c, hIx c i A C hc (hst.wider (by omega)), (hst.block _ (by omega) (.inl (by omega))).trans hl, (hst.block _ (by omega) (.inl (by omega))).trans hk, Nat.le_trans hz hst.size⟩)
      ⟨hI 0 w W1 h0 (ItS.of_below hbW), hL1, hK1, by omega⟩).mono ?_
    · -- ONE ROUND
      rintro i hi W b hT hrb ⟨hi0, hl, hk, hz⟩
      have hlt : w.heap.size + 1 < W.heap.size := by omega
      have hy := run_yield (P := P) (args := encs xs[i] b) hl (by rw [hrec]; exact hps _ _)
      rw [hrec] at hy
      refine ⟨fn, _, assign, body, hy, roundIn_of_wpIn hfn (hassign _ xs[i] b W _ ⟨_, run_beginRound hl (by rw [hrec]), ?_⟩)⟩
      have hl2 : (W.putObj (w.heap.size + 1) (.loop { rec .ready none with state := .busy })).heap[w.heap.size + 1]? = some (.loop { rec .ready none with state := .busy }) := World.putObj_heap_same hlt
      have hk2 : (W.putObj (w.heap.size + 1) (.loop { rec .ready none with state := .busy })).heap[w.heap.size]? = some (.deferred (some [])) := (World.putObj_heap_other (by omega)).trans hk
      have hI2 := hI i W _ hi0 (ItS.putObj (.loop { rec .ready none with state := .busy }) (l := w.heap.size + 1) (by omega) (nol hl))
      have hr2 := hrel W _ xs[i] b hrb (NoTurn.putObj (.loop { rec .ready none with state := .busy }) (l := w.heap.size + 1) (nol hl))
      refine wpIn_mono (hbody _ i hi b _ (by simpa using hz) hr2 hI2) ?_
      have kcap : ∀ k, cap k → k ≠ w.heap.size + 1 := fun k h e => by have := hcap k h; omega
      have fin : ∀ (jump : Option Code) (W3 : World), BodyK cap (W.putObj (w.heap.size + 1) (.loop { rec .ready none with state := .busy })) W3 →
          (Instr.endRound (w.heap.size + 1) jump).run P W3 = .ok (.bool jump.isNone) (W3.putObj (w.heap.size + 1) (.loop (rec (if jump.isNone then .ready else .done) jump))) ∧
          (W3.putObj (w.heap.size + 1) (.loop (rec (if jump.isNone then .ready else .done) jump))).heap[w.heap.size + 1]? = some (.loop (rec (if jump.isNone then .ready else .done) jump)) ∧
          (W3.putObj (w.heap.size + 1) (.loop (rec (if jump.isNone then .ready else .done) jump))).heap[w.heap.size]? = some (.deferred (some [])) ∧
          w.heap.size + 2 ≤ (W3.putObj (w.heap.size + 1) (.loop (rec (if jump.isNone then .ready else .done) jump))).heap.size ∧
          Keeps cap W (W3.putObj (w.heap.size + 1) (.loop (rec (if jump.isNone then .ready else .done) jump))) ∧ NoCells W3 (w.heap.size + 1) := fun jump W3 hk3 => by
        have hl3 := (hk3.block (w.heap.size + 1) (by simp; omega) (.inr (nol hl2))).trans hl2
        have hk4 := (hk3.block w.heap.size (by simp; omega) (.inr (nod hk2))).trans hk2
        have hz3 := hk3.size
        have hr := run_endRound (P := P) jump hl3
        rw [hrec] at hr ⊢
        simp at hz3
        refine ⟨hr, World.putObj_heap_same (by omega), (World.putObj_heap_other (by omega)).trans hk4, by simp; omega, ⟨by simpa using hz3, fun k hkk hck => ?_⟩, nol hl3⟩
        exact (World.putObj_heap_other (kcap k hck)).trans ((hk3.block k (by simpa using hkk) (.inl hck)).trans (World.putObj_heap_other (kcap k hck)))
      have last : ∀ (o : Obj) {A : World}, NoCells A (w.heap.size + 1) → ItS w.heap.size A (A.putObj (w.heap.size + 1) o) := fun o A hA => ItS.putObj o (by omega) hA
      rintro e a3 W3 hp
      cases e with
      | normal =>
        obtain ⟨hk3, hi3⟩ := hp
        obtain ⟨hr, hl4, hk4, hz4, hb4, hn⟩ := fin none W3 hk3
        exact ⟨_, _, hr, .inl ⟨rfl, ⟨hI _ _ _ hi3 (last _ hn), hl4, hk4, hz4⟩, hb4⟩⟩
      | ret =>
        obtain ⟨hk3, hi3⟩ := hp
        obtain ⟨hr, hl4, hk4, hz4, hb4, hn⟩ := fin (some .ret) W3 hk3
        exact ⟨_, _, hr, .inr ⟨rfl, ⟨.ret, hIx _ _ _ _ hi3 (last _ hn), hl4, hk4, hz4⟩, hb4⟩⟩
      | exit id =>
        obtain ⟨hk3, hi3⟩ := hp
        obtain ⟨hr, hl4, hk4, hz4, hb4, hn⟩ := fin (some (.exit id)) W3 hk3
        exact ⟨_, _, hr, .inr ⟨rfl, ⟨.exit id, hIx _ _ _ _ hi3 (last _ hn), hl4, hk4, hz4⟩, hb4⟩⟩
      | goto t =>
        obtain ⟨hk3, hi3⟩ := hp
        obtain ⟨hr, hl4, hk4, hz4, hb4, hn⟩ := fin (some (.goto t)) W3 hk3
        exact ⟨_, _, hr, .inr ⟨rfl, ⟨.goto t, hIx _ _ _ _ hi3 (last _ hn), hl4, hk4, hz4⟩, hb4⟩⟩
      | panic ch => exact hp.elim
      | outgrown => exact hp.elim
    · -- BEHIND THE ITERATOR
      rintro e W2 ⟨⟨v, rfl⟩, (⟨hi, hl, hk, hz⟩ | ⟨i, hi', c, hi, hl, hk, hz⟩)⟩
      · exact ⟨none, _, by have := run_endLoop (P := P) hl (by rw [hrec]; simp); rw [hrec] at this; exact this,
          hdone _ _ (Nat.le_refl _) (hI _ _ _ hi (ItS.putObj _ (by omega) (nol hl))) ((World.putObj_heap_other (by omega)).trans hk)⟩
      · exact ⟨some c, _, by have := run_endLoop (P := P) hl (by rw [hrec]; simp); rw [hrec] at this; exact this,
          hstop _ c i _ (Nat.le_refl _) hi' (hIx c _ _ _ hi (ItS.putObj _ (by omega) (nol hl))) ((World.putObj_heap_other (by omega)).trans hk)⟩
end Go.Proofs.YtnkdhmoocomjfaaGreatDoor
namespace Go.Proofs.YtnkdhmoocomjfaaGreatDoor
open Go.RowKit
variable {F : Fence} {n : Nat} {P : Program}

/-- The iterator's own steps: of what lay, blocks of S alone may turn; what comes into the set is new. -/
structure StepsZ (S S' : Nat → Prop) (W W' : World) : Prop where
  os : W'.os = W.os
  tape : W'.tape = W.tape
  output : W'.output = W.output
  size : W.heap.size ≤ W'.heap.size
  block : ∀ k, k < W.heap.size → ¬ S k → W'.heap[k]? = W.heap[k]?
  new : ∀ k, S' k → S k ∨ W.heap.size ≤ k
theorem StepsZ.of_below {S : Nat → Prop} {W W' : World} (h : Below W.heap.size W W') : StepsZ S S W W' := ⟨h.os, h.tape, h.output, h.size, fun k hk _ => h.block k hk, fun _ h => .inl h⟩
theorem StepsZ.trans {S S1 S2 : Nat → Prop} {W W1 W2 : World} (h : StepsZ S S1 W W1) (k : StepsZ S1 S2 W1 W2) : StepsZ S S2 W W2 :=
  ⟨k.os.trans h.os, k.tape.trans h.tape, k.output.trans h.output, Nat.le_trans h.size k.size, fun i hi hb => (k.block i (Nat.lt_of_lt_of_le hi h.size) fun e => (h.new i e).elim hb fun e => by omega).trans (h.block i hi hb),
    fun i hi => (k.new i hi).elim (h.new i) fun e => .inr (Nat.le_trans h.size e)⟩
theorem StepsZ.putObj {S : Nat → Prop} {W : World} {l : Nat} (o : Obj) (h : S l) : StepsZ S S W (W.putObj l o) :=
  ⟨rfl, rfl, rfl, by simp, fun _ _ hb => World.putObj_heap_other (fun e => hb (e ▸ h)), fun _ h => .inl h⟩
/-- The body's word: what the iterator has captured, and its own blocks, lie as they lay. -/
structure BodyZ (cap S : Nat → Prop) (W W' : World) : Prop where
  size : W.heap.size ≤ W'.heap.size
  block : ∀ k, k < W.heap.size → (cap k ∨ S k) → W'.heap[k]? = W.heap[k]?
theorem BodyZ.refl (cap S : Nat → Prop) (W : World) : BodyZ cap S W W := ⟨Nat.le_refl _, fun _ _ _ => rfl⟩
theorem BodyZ.trans {cap S : Nat → Prop} {W W1 W2 : World} (h : BodyZ cap S W W1) (k : BodyZ cap S W1 W2) : BodyZ cap S W W2 :=
  ⟨Nat.le_trans h.size k.size, fun i hi hb => (k.block i (Nat.lt_of_lt_of_le hi h.size) hb).trans (h.block i hi hb)⟩
theorem BodyZ.of_below {cap S : Nat → Prop} {W W' : World} (h : Below W.heap.size W W') : BodyZ cap S W W' := ⟨h.size, fun k hk _ => h.block k hk⟩
theorem BodyZ.setCell {cap S : Nat → Prop} {W : World} {a : Addr} (v : Value) (h1 : ¬ cap a.block) (h2 : ¬ S a.block) : BodyZ cap S W (W.setCell a v) :=
  ⟨by simp [World.setCell], fun k _ hb => Below.heap_setCell _ _ _ _ (fun e => by subst e; rcases hb with h | h; exact h1 h; exact h2 h)⟩
def StableZ (J : (Nat → Prop) → Nat → World → Prop) : Prop := ∀ S S' i W W', J S i W → StepsZ S S' W W' → J S' i W'

/-- THE ITERATOR's CONTRACT: it gives the elements of xs in order, until a round says 'no more'. -/
def SeqZ {α : Type} (F : Fence) (n : Nat) (P : Program) (g : Nat) (lb : Array Value) (encs : α → Array Value) (xs : List α) (cap : Nat → Prop) (w : World) : Prop :=
  ∀ (l : Nat) (J Jx : (Nat → Prop) → Nat → World → Prop) (W : World), Below w.heap.size w W → StableZ J →
    (∀ S i (hi : i < xs.length) W1, W.heap.size ≤ W1.heap.size → (∀ k, S k → W.heap.size ≤ k ∧ k < W1.heap.size) → J S i W1 → YieldAt F (n - 1) P l (encs xs[i]) W1 fun e W' =>
      (e = .returned (.bool true) ∧ J S (i + 1) W' ∧ BodyZ cap S W1 W') ∨ (e = .returned (.bool false) ∧ Jx S (i + 1) W' ∧ BodyZ cap S W1 W')) →
    StableZ Jx → J (fun _ => False) 0 W →
    CallsIn F n P g (#[.func (.yield l) #[] #[]] ++ lb) W fun e W' => (∃ v, e = .returned v) ∧ ∃ S, (∀ k, S k → W.heap.size ≤ k) ∧ (J S xs.length W' ∨ ∃ i, i ≤ xs.length ∧ Jx S i W')

def bodyPostZ (cap S : Nat → Prop) (I : Nat → World → Prop) (Ix : Code → Nat → World → Prop) (i : Nat) (W : World) : Exit → Act → World → Prop
  | .normal, _, W' => BodyZ cap S W W' ∧ I i W'
  | .ret, _, W' => BodyZ cap S W W' ∧ Ix .ret i W'
  | .exit id, _, W' => BodyZ cap S W W' ∧ Ix (.exit id) i W'
  | .goto t, _, W' => BodyZ cap S W W' ∧ Ix (.goto t) i W'
  | .panic _, _, _ => False
  | .outgrown, _, _ => False

theorem wpIn_rangeZ {α : Type} {g : Operand} {ps : Array Tmp} {assign body : Code} {Q : Exit → Act → World → Prop} {a : Act} {w : World}
    (hro : F.round = none) (h1 : 1 ≤ n) {gf : Nat} {lb : Array Value} (hg : a.eval g = .func (.func gf) #[] lb) (hFg : F.fn gf) (eg : ∀ args w, (callFunc gf args).run P w = .ok (.enter gf args) w)
    {encs : α → Array Value} {xs : List α} {cap : Nat → Prop} (hseq : SeqZ F (n - 1) P gf lb encs xs cap w) (hcap : ∀ k, cap k → k < w.heap.size) (hps : ∀ x, (encs x).size = ps.size)
    (I : (Nat → Prop) → Nat → World → Prop) (Ix : Code → (Nat → Prop) → Nat → World → Prop)
    (hI : StableZ I) (hIx : ∀ c, StableZ (Ix c))
    (h0 : I (fun _ => False) 0 w) (a₁ : α → World → Act) (w₁ : α → World → World) (hw₁ : ∀ x W, Below W.heap.size W (w₁ x W))
    (hassign : ∀ (l : Nat) (x : α) (W : World) (K : Act → World → Prop), K (a₁ x W) (w₁ x W) →
      assign.wpIn (F.inRound l) (n - 1 - 1) P (Exit.then K (fun _ _ _ => False)) { tmps := (ps.zip (encs x)).foldl (fun t (p, v) => t.setIfInBounds p v) a.tmps, defers := [] } W)
    (hbody : ∀ (l : Nat) (S : Nat → Prop) (i : Nat) (hi : i < xs.length) (W0 W : World), w.heap.size + 2 ≤ W0.heap.size → (∀ k, S k → w.heap.size ≤ k ∧ k < W0.heap.size) → W.heap.size = (w₁ xs[i] W0).heap.size → (∀ k, W0.heap.size ≤ k → W.heap[k]? = (w₁ xs[i] W0).heap[k]?) → I S i W →
      body.wpIn (F.inRound l) (n - 1 - 1) P (bodyPostZ cap S (I S) (fun c => Ix c S) (i + 1) W) (a₁ xs[i] W0) W)
    (hdone : ∀ (D : Nat) (S : Nat → Prop) (W : World), w.heap.size ≤ D → S D → (∀ k, S k → w.heap.size ≤ k) → I S xs.length W → W.heap[D]? = some (.deferred (some [])) → Q .normal { a with defers := { target := .collected D, args := #[] } :: a.defers } W)
    (hstop : ∀ (D : Nat) (S : Nat → Prop) (c : Code) (i : Nat) (W : World), w.heap.size ≤ D → S D → (∀ k, S k → w.heap.size ≤ k) → i ≤ xs.length → Ix c S i W → W.heap[D]? = some (.deferred (some [])) → c.wpIn F n P Q { a with defers := { target := .collected D, args := #[] } :: a.defers } W) :
    (Code.rangeFunc g ps assign body).wpIn F n P Q a w := by
  refine wpIn_rangeFunc ?_
  intro fn hfn
  rw [hro]
  obtain ⟨rec, hrec⟩ : ∃ rec : LoopState → Option Code → Loop, rec = fun st pe => { state := st, pending := pe, fn, tmps := a.tmps, params := ps, assign, body, defers := w.heap.size } := ⟨_, rfl⟩
  obtain ⟨W1, hW1⟩ : ∃ W1, (w.alloc (.deferred (some []))).alloc (.loop (rec .ready none)) = W1 := ⟨_, rfl⟩
  have hs1 : W1.heap.size = w.heap.size + 2 := by rw [← hW1]; simp
  have hL1 : W1.heap[w.heap.size + 1]? = some (.loop (rec .ready none)) := by
    rw [← hW1]; have := World.alloc_heap_new (w.alloc (.deferred (some []))) (.loop (rec .ready none)); rwa [World.size_alloc] at this
  have hK1 : W1.heap[w.heap.size]? = some (.deferred (some [])) := by
    rw [← hW1]; exact (Below.heap_alloc _ _ _ (by simp)).trans (World.alloc_heap_new w _)
  have hbW : Below w.heap.size w W1 := by rw [← hW1]; exact ((Below.refl _ w).alloc (Nat.le_refl _) _).alloc (by simp) _
  -- THE SET, WITH THE LOOP's OWN TWO BLOCKS
  obtain ⟨up, hup⟩ : ∃ up : (Nat → Prop) → Nat → Prop, up = fun S k => S k ∨ k = w.heap.size ∨ k = w.heap.size + 1 := ⟨_, rfl⟩
  have upL : ∀ S, up S (w.heap.size + 1) := fun S => by rw [hup]; exact .inr (.inr rfl)
  have upD : ∀ S, up S w.heap.size := fun S => by rw [hup]; exact .inr (.inl rfl)
  have upS : ∀ S k, S k → up S k := fun S k h => by rw [hup]; exact .inl h
  have upSt : ∀ {S S' : Nat → Prop} {A C : World}, StepsZ S S' A C → StepsZ (up S) (up S') A C := fun {S S' A C} h =>
    ⟨h.os, h.tape, h.output, h.size, fun k hk hb => h.block k hk fun e => hb (upS S k e), fun k hk => by
      rw [hup] at hk ⊢
      rcases hk with hk | hk
      · exact (h.new k hk).imp_left .inl
      · exact .inl (.inr hk)⟩
  have upB : ∀ {S : Nat → Prop} {A : World}, w.heap.size + 2 ≤ A.heap.size → (∀ k, S k → W1.heap.size ≤ k ∧ k < A.heap.size) → ∀ k, up S k → w.heap.size ≤ k ∧ k < A.heap.size := fun {S A} hz h k hk => by
    rw [hup] at hk
    rcases hk with hk | hk | hk
    · have := h k hk; omega
    · omega
    · omega
  have off : ∀ {S : Nat → Prop}, (∀ k, S k → W1.heap.size ≤ k) → ¬ S (w.heap.size + 1) ∧ ¬ S w.heap.size := fun h => ⟨fun e => by have := h _ e; omega, fun e => by have := h _ e; omega⟩
  refine ⟨w.heap.size + 1, [{ target := .collected w.heap.size, args := #[] }], W1, { target := .fn (.func gf) lb, args := #[.func (.yield (w.heap.size + 1)) #[] #[]] }, W1, gf,
    #[.func (.yield (w.heap.size + 1)) #[] #[]] ++ lb, W1, ?_, ?_, ?_, ?_, fun _ => h1, ?_⟩
  · rw [← hW1, hrec]; exact run_enterLoop_outer _ _ _ _ _
  · simp only [resolve, hg]
    simp [go_sem]
  · intro f' hf'; simp [Target.leads] at hf'; subst hf'; exact hFg
  · simp [invoke, go_sem, eg]
  · refine (hseq (w.heap.size + 1)
      (fun S i W => I (up S) i W ∧ W.heap[w.heap.size + 1]? = some (.loop (rec .ready none)) ∧ W.heap[w.heap.size]? = some (.deferred (some [])) ∧ W1.heap.size ≤ W.heap.size ∧ (∀ k, S k → W1.heap.size ≤ k))
      (fun S i W => ∃ c, Ix c (up S) i W ∧ W.heap[w.heap.size + 1]? = some (.loop (rec .done (some c))) ∧ W.heap[w.heap.size]? = some (.deferred (some [])) ∧ W1.heap.size ≤ W.heap.size ∧ (∀ k, S k → W1.heap.size ≤ k))
      W1 hbW
      (fun S S' i A C hs hst => ⟨hI _ _ i A C hs.1 (upSt hst), (hst.block _ (by omega) (off hs.2.2.2.2).1).trans hs.2.1, (hst.block _ (by omega) (off hs.2.2.2.2).2).trans hs.2.2.1, Nat.le_trans hs.2.2.2.1 hst.size,
        fun k hk => (hst.new k hk).elim (hs.2.2.2.2 k) fun e => Nat.le_trans hs.2.2.2.1 e⟩)
      ?_
      (fun S S' i A C hs hst => by
        obtain ⟨c, hc, hl, hk, hz, hT⟩ := hs
        exact ⟨c, hIx c _ _ i A C hc (upSt hst), (hst.block _ (by omega) (off hT).1).trans hl, (hst.block _ (by omega) (off hT).2).trans hk, Nat.le_trans hz hst.size, fun k hk => (hst.new k hk).elim (hT k) fun e => Nat.le_trans hz e⟩)
      ⟨hI _ _ 0 w W1 h0 ⟨hbW.os, hbW.tape, hbW.output, hbW.size, fun k hk _ => hbW.block k hk, fun k hk => by
        rw [hup] at hk
        rcases hk with hk | hk | hk
        · exact hk.elim
        · exact .inr (by omega)
        · exact .inr (by omega)⟩, hL1, hK1, Nat.le_refl _, fun k hk => hk.elim⟩).mono ?_
    · -- ONE ROUND
      rintro S i hi W hT1 hT2 ⟨hi0, hl, hk, hz, hT⟩
      have hlt : w.heap.size + 1 < W.heap.size := by omega
      have hy := run_yield (P := P) (args := encs xs[i]) hl (by rw [hrec]; exact hps _)
      rw [hrec] at hy
      have hbA := hw₁ xs[i] W
      obtain ⟨WA, hWA⟩ : ∃ WA, WA = w₁ xs[i] W := ⟨_, rfl⟩
      rw [← hWA] at hbA
      have hzA := hbA.size
      have hlA := (hbA.block _ hlt).trans hl
      have hkA := (hbA.block w.heap.size (by omega)).trans hk
      refine ⟨fn, _, assign, body, hy, roundIn_of_wpIn hfn (hassign _ xs[i] W _ ?_)⟩
      rw [← hWA]
      refine ⟨_, run_beginRound hlA (by rw [hrec]), ?_⟩
      have hl2 : (WA.putObj (w.heap.size + 1) (.loop { rec .ready none with state := .busy })).heap[w.heap.size + 1]? = some (.loop { rec .ready none with state := .busy }) := World.putObj_heap_same (by omega)
      have hk2 : (WA.putObj (w.heap.size + 1) (.loop { rec .ready none with state := .busy })).heap[w.heap.size]? = some (.deferred (some [])) := (World.putObj_heap_other (by omega)).trans hkA
      have hI2 := hI _ _ i W _ hi0 ((StepsZ.of_below hbA).trans (StepsZ.putObj (W := WA) (.loop { rec .ready none with state := .busy }) (upL S)))
      refine wpIn_mono (hbody _ (up S) i hi W _ (by omega) (upB (A := W) (by omega) hT2) (by rw [← hWA]; simp) (fun k hk' => by rw [← hWA]; exact World.putObj_heap_other (by omega)) hI2) ?_
      have kcap : ∀ k, cap k → k ≠ w.heap.size + 1 := fun k h e => by have := hcap k h; omega
      have kp : ∀ (o : Obj) (A : World), BodyZ cap S A (A.putObj (w.heap.size + 1) o) := fun o A =>
        ⟨by simp, fun k _ hb => World.putObj_heap_other fun e => by subst e; rcases hb with h | h; exact kcap _ h rfl; exact (off hT).1 h⟩
      have narrow : ∀ {A C : World}, BodyZ cap (up S) A C → BodyZ cap S A C := fun h => ⟨h.size, fun k hk hb => h.block k hk (hb.imp_right (upS S k))⟩
      have fin : ∀ (jump : Option Code) (W3 : World), BodyZ cap (up S) (WA.putObj (w.heap.size + 1) (.loop { rec .ready none with state := .busy })) W3 →
          (Instr.endRound (w.heap.size + 1) jump).run P W3 = .ok (.bool jump.isNone) (W3.putObj (w.heap.size + 1) (.loop (rec (if jump.isNone then .ready else .done) jump))) ∧
          (W3.putObj (w.heap.size + 1) (.loop (rec (if jump.isNone then .ready else .done) jump))).heap[w.heap.size + 1]? = some (.loop (rec (if jump.isNone then .ready else .done) jump)) ∧
          (W3.putObj (w.heap.size + 1) (.loop (rec (if jump.isNone then .ready else .done) jump))).heap[w.heap.size]? = some (.deferred (some [])) ∧
          W1.heap.size ≤ (W3.putObj (w.heap.size + 1) (.loop (rec (if jump.isNone then .ready else .done) jump))).heap.size ∧
          BodyZ cap S W (W3.putObj (w.heap.size + 1) (.loop (rec (if jump.isNone then .ready else .done) jump))) := fun jump W3 hk3 => by
        have hl3 := (hk3.block (w.heap.size + 1) (by simp; omega) (.inr (upL S))).trans hl2
        have hk4 := (hk3.block w.heap.size (by simp; omega) (.inr (upD S))).trans hk2
        have hz3 := hk3.size
        have hr := run_endRound (P := P) jump hl3
        rw [hrec] at hr ⊢
        simp at hz3
        exact ⟨hr, World.putObj_heap_same (by omega), (World.putObj_heap_other (by omega)).trans hk4, by simp; omega, ((BodyZ.of_below hbA).trans ((kp _ WA).trans (narrow (by rw [hrec] at hk3; exact hk3)))).trans (kp _ W3)⟩
      have last : ∀ (o : Obj) (A : World), StepsZ (up S) (up S) A (A.putObj (w.heap.size + 1) o) := fun o A => StepsZ.putObj o (upL S)
      rintro e a3 W3 hp
      cases e with
      | normal =>
        obtain ⟨hk3, hi3⟩ := hp
        obtain ⟨hr, hl4, hk4, hz4, hb4⟩ := fin none W3 hk3
        exact ⟨_, _, hr, .inl ⟨rfl, ⟨hI _ _ _ _ _ hi3 (last _ _), hl4, hk4, hz4, hT⟩, hb4⟩⟩
      | ret =>
        obtain ⟨hk3, hi3⟩ := hp
        obtain ⟨hr, hl4, hk4, hz4, hb4⟩ := fin (some .ret) W3 hk3
        exact ⟨_, _, hr, .inr ⟨rfl, ⟨.ret, hIx _ _ _ _ _ _ hi3 (last _ _), hl4, hk4, hz4, hT⟩, hb4⟩⟩
      | exit id =>
        obtain ⟨hk3, hi3⟩ := hp
        obtain ⟨hr, hl4, hk4, hz4, hb4⟩ := fin (some (.exit id)) W3 hk3
        exact ⟨_, _, hr, .inr ⟨rfl, ⟨.exit id, hIx _ _ _ _ _ _ hi3 (last _ _), hl4, hk4, hz4, hT⟩, hb4⟩⟩
      | goto t =>
        obtain ⟨hk3, hi3⟩ := hp
        obtain ⟨hr, hl4, hk4, hz4, hb4⟩ := fin (some (.goto t)) W3 hk3
        exact ⟨_, _, hr, .inr ⟨rfl, ⟨.goto t, hIx _ _ _ _ _ _ hi3 (last _ _), hl4, hk4, hz4, hT⟩, hb4⟩⟩
      | panic ch => exact hp.elim
      | outgrown => exact hp.elim
    · -- BEHIND THE ITERATOR
      have upW : ∀ {S : Nat → Prop}, (∀ k, S k → W1.heap.size ≤ k) → ∀ k, up S k → w.heap.size ≤ k := fun {S} h k hk => by
        rw [hup] at hk
        rcases hk with hk | hk | hk
        · have := h k hk; omega
        · omega
        · omega
      rintro e W2 ⟨⟨v, rfl⟩, S, hS, (⟨hi, hl, hk, hz, hT'⟩ | ⟨i, hi', c, hi, hl, hk, hz, hT'⟩)⟩
      · exact ⟨none, _, by have := run_endLoop (P := P) hl (by rw [hrec]; simp); rw [hrec] at this; exact this,
          hdone _ (up S) _ (Nat.le_refl _) (upD S) (upW hT') (hI _ _ _ _ _ hi (StepsZ.putObj _ (upL S))) ((World.putObj_heap_other (by omega)).trans hk)⟩
      · exact ⟨some c, _, by have := run_endLoop (P := P) hl (by rw [hrec]; simp); rw [hrec] at this; exact this,
          hstop _ (up S) c i _ (Nat.le_refl _) (upD S) (upW hT') hi' (hIx c _ _ _ _ _ hi (StepsZ.putObj _ (upL S))) ((World.putObj_heap_other (by omega)).trans hk)⟩
theorem below_putObjZ {n₀ : Nat} {w W : World} (h : Below n₀ w W) {D : Nat} (hD : n₀ ≤ D) (o : Obj) : Below n₀ w (W.putObj D o) :=
  ⟨h.os, h.tape, h.output, by simpa using h.size, fun k hk => (World.putObj_heap_other (by omega)).trans (h.block k hk)⟩
end Go.Proofs.YtnkdhmoocomjfaaGreatDoor
set_option linter.unusedSimpArgs false
set_option linter.unusedVariables false
namespace Go.Proofs.YtnkdhmoocomjfaaGreatDoor
open Go.RowKit
variable {F : Fence} {n : Nat} {P : Program}

/-- THE ITERATOR's CONTRACT: it gives the elements of xs in order, until a round says 'no more'. -/
def SeqV {α β : Type} (F : Fence) (n : Nat) (P : Program) (g : Nat) (lb : Array Value) (encs : α → β → Array Value) (rel : (Nat → Prop) → World → α → β → Prop) (xs : List α) (cap : Nat → Prop) (w : World) : Prop :=
  ∀ (l : Nat) (J Jx : (Nat → Prop) → Nat → World → Prop) (W : World), Below w.heap.size w W → StableZ J →
    (∀ S i (hi : i < xs.length) W1 (b : β), W.heap.size ≤ W1.heap.size → (∀ k, S k → W.heap.size ≤ k ∧ k < W1.heap.size) → rel S W1 xs[i] b → J S i W1 → YieldAt F (n - 1) P l (encs xs[i] b) W1 fun e W' =>
      (e = .returned (.bool true) ∧ J S (i + 1) W' ∧ BodyZ cap S W1 W') ∨ (e = .returned (.bool false) ∧ Jx S (i + 1) W' ∧ BodyZ cap S W1 W')) →
    StableZ Jx → J (fun _ => False) 0 W →
    CallsIn F n P g (#[.func (.yield l) #[] #[]] ++ lb) W fun e W' => (∃ v, e = .returned v) ∧ ∃ S, (∀ k, S k → W.heap.size ≤ k) ∧ (J S xs.length W' ∨ ∃ i, i ≤ xs.length ∧ Jx S i W')

theorem wpIn_rangeV {α β : Type} {g : Operand} {ps : Array Tmp} {assign body : Code} {Q : Exit → Act → World → Prop} {a : Act} {w : World}
    (hro : F.round = none) (h1 : 1 ≤ n) {gf : Nat} {lb : Array Value} (hg : a.eval g = .func (.func gf) #[] lb) (hFg : F.fn gf) (eg : ∀ args w, (callFunc gf args).run P w = .ok (.enter gf args) w)
    {encs : α → β → Array Value} {rel : (Nat → Prop) → World → α → β → Prop} {xs : List α} {cap : Nat → Prop} (hseq : SeqV F (n - 1) P gf lb encs rel xs cap w) (hcap : ∀ k, cap k → k < w.heap.size) (hps : ∀ x b, (encs x b).size = ps.size)
    (hrel : ∀ S S' W W' x b, rel S W x b → (∀ k, S k → S' k) → NoTurn W W' → rel S' W' x b)
    (I : (Nat → Prop) → Nat → World → Prop) (Ix : Code → (Nat → Prop) → Nat → World → Prop)
    (hI : StableZ I) (hIx : ∀ c, StableZ (Ix c))
    (h0 : I (fun _ => False) 0 w) (a₁ : α → β → World → Act) (w₁ : α → β → World → World) (hw₁ : ∀ x b W, Below W.heap.size W (w₁ x b W))
    (hassign : ∀ (l : Nat) (x : α) (b : β) (W : World) (K : Act → World → Prop), K (a₁ x b W) (w₁ x b W) →
      assign.wpIn (F.inRound l) (n - 1 - 1) P (Exit.then K (fun _ _ _ => False)) { tmps := (ps.zip (encs x b)).foldl (fun t (p, v) => t.setIfInBounds p v) a.tmps, defers := [] } W)
    (hbody : ∀ (l : Nat) (S : Nat → Prop) (i : Nat) (hi : i < xs.length) (b : β) (W0 W : World), w.heap.size + 2 ≤ W0.heap.size → (∀ k, S k → w.heap.size ≤ k ∧ k < W0.heap.size) → W.heap.size = (w₁ xs[i] b W0).heap.size → (∀ k, W0.heap.size ≤ k → W.heap[k]? = (w₁ xs[i] b W0).heap[k]?) → rel S W xs[i] b → I S i W →
      body.wpIn (F.inRound l) (n - 1 - 1) P (bodyPostZ cap S (I S) (fun c => Ix c S) (i + 1) W) (a₁ xs[i] b W0) W)
    (hdone : ∀ (D : Nat) (S : Nat → Prop) (W : World), w.heap.size ≤ D → S D → (∀ k, S k → w.heap.size ≤ k) → I S xs.length W → W.heap[D]? = some (.deferred (some [])) → Q .normal { a with defers := { target := .collected D, args := #[] } :: a.defers } W)
    (hstop : ∀ (D : Nat) (S : Nat → Prop) (c : Code) (i : Nat) (W : World), w.heap.size ≤ D → S D → (∀ k, S k → w.heap.size ≤ k) → i ≤ xs.length → Ix c S i W → W.heap[D]? = some (.deferred (some [])) → c.wpIn F n P Q { a with defers := { target := .collected D, args := #[] } :: a.defers } W) :
    (Code.rangeFunc g ps assign body).wpIn F n P Q a w := by
  refine wpIn_rangeFunc ?_
  intro fn hfn
  rw [hro]
  obtain ⟨rec, hrec⟩ : ∃ rec : LoopState → Option Code → Loop, rec = fun st pe => { state := st, pending := pe, fn, tmps := a.tmps, params := ps, assign, body, defers := w.heap.size } := ⟨_, rfl⟩
  obtain ⟨W1, hW1⟩ : ∃ W1, (w.alloc (.deferred (some []))).alloc (.loop (rec .ready none)) = W1 := ⟨_, rfl⟩
  have hs1 : W1.heap.size = w.heap.size + 2 := by rw [← hW1]; simp
  have hL1 : W1.heap[w.heap.size + 1]? = some (.loop (rec .ready none)) := by
    rw [← hW1]; have := World.alloc_heap_new (w.alloc (.deferred (some []))) (.loop (rec .ready none)); rwa [World.size_alloc] at this
  have hK1 : W1.heap[w.heap.size]? = some (.deferred (some [])) := by
    rw [← hW1]; exact (Below.heap_alloc _ _ _ (by simp)).trans (World.alloc_heap_new w _)
  have hbW : Below w.heap.size w W1 := by rw [← hW1]; exact ((Below.refl _ w).alloc (Nat.le_refl _) _).alloc (by simp) _
  -- THE SET, WITH THE LOOP's OWN TWO BLOCKS
  obtain ⟨up, hup⟩ : ∃ up : (Nat → Prop) → Nat → Prop, up = fun S k => S k ∨ k = w.heap.size ∨ k = w.heap.size + 1 := ⟨_, rfl⟩
  have upL : ∀ S, up S (w.heap.size + 1) := fun S => by rw [hup]; exact .inr (.inr rfl)
  have upD : ∀ S, up S w.heap.size := fun S => by rw [hup]; exact .inr (.inl rfl)
  have upS : ∀ S k, S k → up S k := fun S k h => by rw [hup]; exact .inl h
  have upSt : ∀ {S S' : Nat → Prop} {A C : World}, StepsZ S S' A C → StepsZ (up S) (up S') A C := fun {S S' A C} h =>
    ⟨h.os, h.tape, h.output, h.size, fun k hk hb => h.block k hk fun e => hb (upS S k e), fun k hk => by
      rw [hup] at hk ⊢
      rcases hk with hk | hk
      · exact (h.new k hk).imp_left .inl
      · exact .inl (.inr hk)⟩
  have upB : ∀ {S : Nat → Prop} {A : World}, w.heap.size + 2 ≤ A.heap.size → (∀ k, S k → W1.heap.size ≤ k ∧ k < A.heap.size) → ∀ k, up S k → w.heap.size ≤ k ∧ k < A.heap.size := fun {S A} hz h k hk => by
    rw [hup] at hk
    rcases hk with hk | hk | hk
    · have := h k hk; omega
    · omega
    · omega
  have off : ∀ {S : Nat → Prop}, (∀ k, S k → W1.heap.size ≤ k) → ¬ S (w.heap.size + 1) ∧ ¬ S w.heap.size := fun h => ⟨fun e => by have := h _ e; omega, fun e => by have := h _ e; omega⟩
  refine ⟨w.heap.size + 1, [{ target := .collected w.heap.size, args := #[] }], W1, { target := .fn (.func gf) lb, args := #[.func (.yield (w.heap.size + 1)) #[] #[]] }, W1, gf,
    #[.func (.yield (w.heap.size + 1)) #[] #[]] ++ lb, W1, ?_, ?_, ?_, ?_, fun _ => h1, ?_⟩
  · rw [← hW1, hrec]; exact run_enterLoop_outer _ _ _ _ _
  · simp only [resolve, hg]
    simp [go_sem]
  · intro f' hf'; simp [Target.leads] at hf'; subst hf'; exact hFg
  · simp [invoke, go_sem, eg]
  · refine (hseq (w.heap.size + 1)
      (fun S i W => I (up S) i W ∧ W.heap[w.heap.size + 1]? = some (.loop (rec .ready none)) ∧ W.heap[w.heap.size]? = some (.deferred (some [])) ∧ W1.heap.size ≤ W.heap.size ∧ (∀ k, S k → W1.heap.size ≤ k))
      (fun S i W => ∃ c, Ix c (up S) i W ∧ W.heap[w.heap.size + 1]? = some (.loop (rec .done (some c))) ∧ W.heap[w.heap.size]? = some (.deferred (some [])) ∧ W1.heap.size ≤ W.heap.size ∧ (∀ k, S k → W1.heap.size ≤ k))
      W1 hbW
      (fun S S' i A C hs hst => ⟨hI _ _ i A C hs.1 (upSt hst), (hst.block _ (by omega) (off hs.2.2.2.2).1).trans hs.2.1, (hst.block _ (by omega) (off hs.2.2.2.2).2).trans hs.2.2.1, Nat.le_trans hs.2.2.2.1 hst.size,
        fun k hk => (hst.new k hk).elim (hs.2.2.2.2 k) fun e => Nat.le_trans hs.2.2.2.1 e⟩)
      ?_
      (fun S S' i A C hs hst => by
        obtain ⟨c, hc, hl, hk, hz, hT⟩ := hs
        exact ⟨c, hIx c _ _ i A C hc (upSt hst), (hst.block _ (by omega) (off hT).1).trans hl, (hst.block _ (by omega) (off hT).2).trans hk, Nat.le_trans hz hst.size, fun k hk => (hst.new k hk).elim (hT k) fun e => Nat.le_trans hz e⟩)
      ⟨hI _ _ 0 w W1 h0 ⟨hbW.os, hbW.tape, hbW.output, hbW.size, fun k hk _ => hbW.block k hk, fun k hk => by
        rw [hup] at hk
        rcases hk with hk | hk | hk
        · exact hk.elim
        · exact .inr (by omega)
        · exact .inr (by omega)⟩, hL1, hK1, Nat.le_refl _, fun k hk => hk.elim⟩).mono ?_
    · -- ONE ROUND
      rintro S i hi W b hT1 hT2 hrb ⟨hi0, hl, hk, hz, hT⟩
      have hlt : w.heap.size + 1 < W.heap.size := by omega
      have hy := run_yield (P := P) (args := encs xs[i] b) hl (by rw [hrec]; exact hps _ _)
      rw [hrec] at hy
      have hbA := hw₁ xs[i] b W
      obtain ⟨WA, hWA⟩ : ∃ WA, WA = w₁ xs[i] b W := ⟨_, rfl⟩
      rw [← hWA] at hbA
      have hzA := hbA.size
      have hlA := (hbA.block _ hlt).trans hl
      have hkA := (hbA.block w.heap.size (by omega)).trans hk
      refine ⟨fn, _, assign, body, hy, roundIn_of_wpIn hfn (hassign _ xs[i] b W _ ?_)⟩
      rw [← hWA]
      refine ⟨_, run_beginRound hlA (by rw [hrec]), ?_⟩
      have hl2 : (WA.putObj (w.heap.size + 1) (.loop { rec .ready none with state := .busy })).heap[w.heap.size + 1]? = some (.loop { rec .ready none with state := .busy }) := World.putObj_heap_same (by omega)
      have hk2 : (WA.putObj (w.heap.size + 1) (.loop { rec .ready none with state := .busy })).heap[w.heap.size]? = some (.deferred (some [])) := (World.putObj_heap_other (by omega)).trans hkA
      have hI2 := hI _ _ i W _ hi0 ((StepsZ.of_below hbA).trans (StepsZ.putObj (W := WA) (.loop { rec .ready none with state := .busy }) (upL S)))
      have hr2 := hrel S (up S) WA _ xs[i] b (hrel S S W WA xs[i] b hrb (fun _ h => h) (NoTurn.of_below hbA)) (upS S) (NoTurn.putObj (.loop { rec .ready none with state := .busy }) (l := w.heap.size + 1) (fun cs T f h' => by rw [hlA] at h'; cases h'))
      refine wpIn_mono (hbody _ (up S) i hi b W _ (by omega) (upB (A := W) (by omega) hT2) (by rw [← hWA]; simp) (fun k hk' => by rw [← hWA]; exact World.putObj_heap_other (by omega)) hr2 hI2) ?_
      have kcap : ∀ k, cap k → k ≠ w.heap.size + 1 := fun k h e => by have := hcap k h; omega
      have kp : ∀ (o : Obj) (A : World), BodyZ cap S A (A.putObj (w.heap.size + 1) o) := fun o A =>
        ⟨by simp, fun k _ hb => World.putObj_heap_other fun e => by subst e; rcases hb with h | h; exact kcap _ h rfl; exact (off hT).1 h⟩
      have narrow : ∀ {A C : World}, BodyZ cap (up S) A C → BodyZ cap S A C := fun h => ⟨h.size, fun k hk hb => h.block k hk (hb.imp_right (upS S k))⟩
      have fin : ∀ (jump : Option Code) (W3 : World), BodyZ cap (up S) (WA.putObj (w.heap.size + 1) (.loop { rec .ready none with state := .busy })) W3 →
          (Instr.endRound (w.heap.size + 1) jump).run P W3 = .ok (.bool jump.isNone) (W3.putObj (w.heap.size + 1) (.loop (rec (if jump.isNone then .ready else .done) jump))) ∧
          (W3.putObj (w.heap.size + 1) (.loop (rec (if jump.isNone then .ready else .done) jump))).heap[w.heap.size + 1]? = some (.loop (rec (if jump.isNone then .ready else .done) jump)) ∧
          (W3.putObj (w.heap.size + 1) (.loop (rec (if jump.isNone then .ready else .done) jump))).heap[w.heap.size]? = some (.deferred (some [])) ∧
          W1.heap.size ≤ (W3.putObj (w.heap.size + 1) (.loop (rec (if jump.isNone then .ready else .done) jump))).heap.size ∧
          BodyZ cap S W (W3.putObj (w.heap.size + 1) (.loop (rec (if jump.isNone then .ready else .done) jump))) := fun jump W3 hk3 => by
        have hl3 := (hk3.block (w.heap.size + 1) (by simp; omega) (.inr (upL S))).trans hl2
        have hk4 := (hk3.block w.heap.size (by simp; omega) (.inr (upD S))).trans hk2
        have hz3 := hk3.size
        have hr := run_endRound (P := P) jump hl3
        rw [hrec] at hr ⊢
        simp at hz3
        exact ⟨hr, World.putObj_heap_same (by omega), (World.putObj_heap_other (by omega)).trans hk4, by simp; omega, ((BodyZ.of_below hbA).trans ((kp _ WA).trans (narrow (by rw [hrec] at hk3; exact hk3)))).trans (kp _ W3)⟩
      have last : ∀ (o : Obj) (A : World), StepsZ (up S) (up S) A (A.putObj (w.heap.size + 1) o) := fun o A => StepsZ.putObj o (upL S)
      rintro e a3 W3 hp
      cases e with
      | normal =>
        obtain ⟨hk3, hi3⟩ := hp
        obtain ⟨hr, hl4, hk4, hz4, hb4⟩ := fin none W3 hk3
        exact ⟨_, _, hr, .inl ⟨rfl, ⟨hI _ _ _ _ _ hi3 (last _ _), hl4, hk4, hz4, hT⟩, hb4⟩⟩
      | ret =>
        obtain ⟨hk3, hi3⟩ := hp
        obtain ⟨hr, hl4, hk4, hz4, hb4⟩ := fin (some .ret) W3 hk3
        exact ⟨_, _, hr, .inr ⟨rfl, ⟨.ret, hIx _ _ _ _ _ _ hi3 (last _ _), hl4, hk4, hz4, hT⟩, hb4⟩⟩
      | exit id =>
        obtain ⟨hk3, hi3⟩ := hp
        obtain ⟨hr, hl4, hk4, hz4, hb4⟩ := fin (some (.exit id)) W3 hk3
        exact ⟨_, _, hr, .inr ⟨rfl, ⟨.exit id, hIx _ _ _ _ _ _ hi3 (last _ _), hl4, hk4, hz4, hT⟩, hb4⟩⟩
      | goto t =>
        obtain ⟨hk3, hi3⟩ := hp
        obtain ⟨hr, hl4, hk4, hz4, hb4⟩ := fin (some (.goto t)) W3 hk3
        exact ⟨_, _, hr, .inr ⟨rfl, ⟨.goto t, hIx _ _ _ _ _ _ hi3 (last _ _), hl4, hk4, hz4, hT⟩, hb4⟩⟩
      | panic ch => exact hp.elim
      | outgrown => exact hp.elim
    · -- BEHIND THE ITERATOR
      have upW : ∀ {S : Nat → Prop}, (∀ k, S k → W1.heap.size ≤ k) → ∀ k, up S k → w.heap.size ≤ k := fun {S} h k hk => by
        rw [hup] at hk
        rcases hk with hk | hk | hk
        · have := h k hk; omega
        · omega
        · omega
      rintro e W2 ⟨⟨v, rfl⟩, S, hS, (⟨hi, hl, hk, hz, hT'⟩ | ⟨i, hi', c, hi, hl, hk, hz, hT'⟩)⟩
      · exact ⟨none, _, by have := run_endLoop (P := P) hl (by rw [hrec]; simp); rw [hrec] at this; exact this,
          hdone _ (up S) _ (Nat.le_refl _) (upD S) (upW hT') (hI _ _ _ _ _ hi (StepsZ.putObj _ (upL S))) ((World.putObj_heap_other (by omega)).trans hk)⟩
      · exact ⟨some c, _, by have := run_endLoop (P := P) hl (by rw [hrec]; simp); rw [hrec] at this; exact this,
          hstop _ (up S) c i _ (Nat.le_refl _) (upD S) (upW hT') hi' (hIx c _ _ _ _ _ hi (StepsZ.putObj _ (upL S))) ((World.putObj_heap_other (by omega)).trans hk)⟩
end Go.Proofs.YtnkdhmoocomjfaaGreatDoor
