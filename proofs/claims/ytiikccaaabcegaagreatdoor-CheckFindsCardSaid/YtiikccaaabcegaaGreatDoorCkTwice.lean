/-
  Walks over package check: rule 3: what stands twice. Conditions: those in the theorems.
-/
import Derived.Test.YtiikccaaabcegaaGreatDoorCkMisnamed
set_option linter.unusedSimpArgs false
set_option linter.unusedVariables false
namespace Go.Proofs.YtiikccaaabcegaaGreatDoor
open Go.RowKit
attribute [local go_sem] Oper.semAt_some

/-- append, its run known, in a fenced walk. -/
theorem wpListIn_append_run {F : Fence} {n : Nat} {P : Program} (w : World) {ops : Array Oper} {rest : List Oper} {o : Oper} {a : Act} {Q : Exit → Act → World → Prop}
    (hg : o.guard = none) (s x : Operand) (t : TypeId) (hop : o.op = Op.call { callee := Callee.builtin Builtin.append, args := #[s, x], argTypes := #[t, t] })
    (vs vx : Value) (hs : a.eval s = vs) (hx : a.eval x = vx) (v' : Value) (w' : World) (hr : (Builtin.append_ #[t, t] o.type #[vs, vx]).run P w = .ok v' w') (hK : wpListIn F n P ops Q rest (a.put o.dst v') w') :
    wpListIn F n P ops Q (o :: rest) a w := by
  refine wpListIn_plain hg fun K hK' => ?_
  unfold Oper.wpIn
  refine ⟨?_, ?_⟩
  · simp [Oper.about, hop, resolve, Target.leads, Sem.run_pure]
  · rw [Oper.semAt_plain F _ _ (by rw [hop]; intro c hc'; cases hc')]
    simp [execOp, hop, resolve, invoke, builtin, hs, hx, hr, Result.andThen]
    exact hK' _ _ hK
theorem OwnTx.keepRow {A C : World} {T : Nat} {v : Value} {ss : List ByteArray} (h : OwnTx A T v ss) (hb : ∀ k, v.ownBlock = some k → C.heap[k]? = A.heap[k]?) : OwnTx C T v ss := by
  refine ⟨h.1, ?_⟩
  rcases h.2 with hn | ⟨g, cap, cur, rfl, h1, h2, h3⟩
  · exact .inl hn
  · exact .inr ⟨g, cap, cur, rfl, h1, (hb g rfl).trans h2, h3⟩
theorem TextsAt.take {W : World} {p : Option Addr} {ss : List ByteArray} (h : TextsAt W p ss) (k : Nat) : TextsAt W p (ss.take k) := fun i hi => by
  have hi2 : i < ss.length := by rw [List.length_take] at hi; omega
  obtain ⟨a, h1, h2, h3⟩ := h i hi2
  exact ⟨a, h1, h2, by rw [h3, List.getElem_take]⟩
def rowO (v : Value) : Obj := .cells #[v] 77 (0, 0)
/-- The names ahead, in their row; the rule so far. -/
def TwI (s : Ip.Sch) (p1 : Option Addr) (c1 : Nat) (p2 : Option Addr) (c2 : Nat) (p3 : Option Addr) (c3 : Nat) (u w : World) (base r3 : Nat) (S : Nat → Prop) (i : Nat) (W : World) : Prop := ∃ v seen, RuleI u w base [(w.heap.size + 1, strO ⟨#[]⟩), (w.heap.size + 1 + 1, errO 0), (w.heap.size, schO s p1 c1 p2 c2 p3 c3), (r3, rowO v)] S W ∧
  OwnTx W base v seen ∧ seen.length = i ∧ (∀ k, v.ownBlock = some k → ¬ S k) ∧ Ck.doubles s = Ck.doublesF seen ((Ck.decls s).drop i)
theorem TwI.steps {s : Ip.Sch} {p1 p2 p3 : Option Addr} {c1 c2 c3 : Nat} {u w : World} {base r3 : Nat} {S S' : Nat → Prop} {i : Nat} {W W' : World} (h : TwI s p1 c1 p2 c2 p3 c3 u w base r3 S i W) (st : StepsZ S S' W W') : TwI s p1 c1 p2 c2 p3 c3 u w base r3 S' i W' := by
  obtain ⟨v, seen, h1, h2, h3, h4, h5⟩ := h
  refine ⟨v, seen, h1.steps st, h2.keepRow fun k hk => st.block k (h2.lt k hk).2 (h4 k hk), h3, fun k hk hs => ?_, h5⟩
  rcases st.new k hs with e | e
  · exact h4 k hk e
  · have := (h2.lt k hk).2; omega
def TwStop (s : Ip.Sch) (u w : World) (base : Nat) (c : Code) (S : Nat → Prop) (_i : Nat) (W : World) : Prop := c = .ret ∧ ∃ x, Ck.doubles s = some x ∧ RuleI u w base [(w.heap.size + 1, strO x), (w.heap.size + 1 + 1, errO 130)] S W
theorem TwStop.steps {s : Ip.Sch} {u w : World} {base i : Nat} {c : Code} {S S' : Nat → Prop} {W W' : World} (h : TwStop s u w base c S i W) (st : StepsZ S S' W W') : TwStop s u w base c S' i W' := by
  obtain ⟨a, x, b, d⟩ := h; exact ⟨a, x, b, d.steps st⟩
/-- The body tells, from whatever world it has made of the round's. -/
theorem tw_stop {s : Ip.Sch} {u w A X : World} {base b i : Nat} {C : List (Nat × Obj)} {S : Nat → Prop} {pl : ByteArray} (hr : RuleI u w base ((w.heap.size + 1, strO ⟨#[]⟩) :: (w.heap.size + 1 + 1, errO 0) :: C) S X) (hA : BodyZ (fun k => k < u.heap.size ∨ k = b) S A X) (hu : u.heap.size ≤ w.heap.size) (hb : w.heap.size + 3 ≤ b) (hd : Ck.doubles s = some pl) :
    BodyZ (fun k => k < u.heap.size ∨ k = b) S A ((X.setCell ⟨w.heap.size + 1, 0, none⟩ (.string pl)).setCell ⟨w.heap.size + 1 + 1, 0, none⟩ (.int .i64 130)) ∧ TwStop s u w base .ret S (i + 1) ((X.setCell ⟨w.heap.size + 1, 0, none⟩ (.string pl)).setCell ⟨w.heap.size + 1 + 1, 0, none⟩ (.int .i64 130)) := by
  have l0 := (hr.box (w.heap.size + 1, strO ⟨#[]⟩) (by simp)).2
  have l1 := (hr.box (w.heap.size + 1 + 1, errO 0) (by simp)).2
  simp only at l0 l1
  refine ⟨hA.trans (body_tell (Below.refl _ _) ⟨by omega, by omega, fun e => by have := hr.set _ e; omega⟩ ⟨by omega, by omega, fun e => by have := hr.set _ e; omega⟩ _ _), rfl, pl, hd, ?_⟩
  exact hr.tell (by omega) ⟨by omega, by omega⟩ ⟨by omega, by omega⟩ pl 130
/-- A name more. -/
theorem tw_more {s : Ip.Sch} {p1 p2 p3 : Option Addr} {c1 c2 c3 : Nat} {u w A V : World} {base b r3 : Nat} {S : Nat → Prop} {v v' : Value} {seen : List ByteArray} {x : ByteArray}
    (hr : RuleI u w base [(w.heap.size + 1, strO ⟨#[]⟩), (w.heap.size + 1 + 1, errO 0), (w.heap.size, schO s p1 c1 p2 c2 p3 c3), (r3, rowO v)] S A) (ho : OwnTx A base v seen) (hS : ∀ k, v.ownBlock = some k → ¬ S k) (hSz : ∀ k, S k → k < A.heap.size)
    (hg : GrewT v v' A V) (hn : OwnTx V base v' (seen ++ [x])) (hu : u.heap.size ≤ w.heap.size) (h3 : r3 = w.heap.size + 3) (hb : r3 < b ∧ b < base) :
    RuleI u w base [(w.heap.size + 1, strO ⟨#[]⟩), (w.heap.size + 1 + 1, errO 0), (w.heap.size, schO s p1 c1 p2 c2 p3 c3), (r3, rowO v')] S (V.setCell ⟨r3, 0, none⟩ v') ∧ OwnTx (V.setCell ⟨r3, 0, none⟩ v') base v' (seen ++ [x]) ∧ (∀ k, v'.ownBlock = some k → ¬ S k) ∧ BodyZ (fun k => k < u.heap.size ∨ k = b) S A (V.setCell ⟨r3, 0, none⟩ v') := by
  have hlt := ho.lt
  have hbl : ∀ k, k < A.heap.size → v.ownBlock ≠ some k → k ≠ r3 → (V.setCell ⟨r3, 0, none⟩ v').heap[k]? = A.heap[k]? := fun k hk h1 h2 => (Below.heap_setCell _ _ _ _ h2).trans (hg.block k hk h1)
  have hlo : ∀ k, k < base → k ≠ r3 → (V.setCell ⟨r3, 0, none⟩ v').heap[k]? = A.heap[k]? := fun k hk h2 => hbl k (Nat.lt_of_lt_of_le hk hr.size) (fun e => by have := (hlt k e).1; omega) h2
  have hkn := hr.kp.size
  have hown : ∀ k, v'.ownBlock = some k → ¬ S k := fun k hk hs => by
    rcases hg.own k hk with e | e
    · exact hS k e hs
    · have := hSz k hs; omega
  have hne : ∀ k, v'.ownBlock = some k → k ≠ r3 := fun k hk e => by have := (hn.lt k hk).1; omega
  refine ⟨⟨hr.set, by simp [World.setCell]; exact Nat.le_trans hr.size hg.size, hr.low, ⟨by simp [World.setCell]; exact Nat.le_trans hkn hg.size, fun k hk => (hlo k (by have := hr.ku; omega) (by omega)).trans (hr.kp.block k hk)⟩, hr.ku, ?_, fun q hq => ?_⟩, hn.keepRow fun k hk => Below.heap_setCell _ _ _ _ (hne k hk), hown, ⟨by simp [World.setCell]; exact hg.size, fun k hk hc => hbl k hk (fun e => ?_) fun e => ?_⟩⟩
  · exact ⟨hg.os.trans hr.below.os, hg.tape.trans hr.below.tape, hg.output.trans hr.below.output, by simp [World.setCell]; exact Nat.le_trans hr.below.size hg.size, fun k hk => (hlo k (by have := hr.low; omega) (by omega)).trans (hr.below.block k hk)⟩
  · simp only [List.mem_cons, List.not_mem_nil, or_false] at hq
    have q0 := hr.box (w.heap.size + 1, strO ⟨#[]⟩) (by simp)
    have q1 := hr.box (w.heap.size + 1 + 1, errO 0) (by simp)
    have q2 := hr.box (w.heap.size, schO s p1 c1 p2 c2 p3 c3) (by simp)
    have q3 := hr.box (r3, rowO v) (by simp)
    rcases hq with rfl | rfl | rfl | rfl
    · exact ⟨(hlo _ q0.2 (by dsimp only; omega)).trans q0.1, q0.2⟩
    · exact ⟨(hlo _ q1.2 (by dsimp only; omega)).trans q1.1, q1.2⟩
    · exact ⟨(hlo _ q2.2 (by dsimp only; omega)).trans q2.1, q2.2⟩
    · exact ⟨tk_set ((hg.block r3 (Nat.lt_of_lt_of_le q3.2 hr.size) fun e => by have := (hlt _ e).1; have := q3.2; simp only at this; omega).trans q3.1) _, q3.2⟩
  · have h1 := hlt k e
    rcases hc with (hc | hc) | hc
    · omega
    · omega
    · exact hS k e hc
  · rcases hc with (hc | hc) | hc
    · omega
    · omega
    · have := hr.set k hc; omega
theorem twice_res {W : World} {tmps : Array Value} {r0 r1 : Nat} {x : ByteArray} {e : Nat} (h2 : tmps[2]? = some (.pointer (some ⟨r0, 0, none⟩))) (h3 : tmps[3]? = some (.pointer (some ⟨r1, 0, none⟩))) (h0 : W.heap[r0]? = some (strO x)) (h1 : W.heap[r1]? = some (errO e)) :
    (results Tryz.f43 tmps).run Tryz.prog W = .ok (.tuple #[.string x, .int .i64 (e : Nat)]) W := by
  have c0 := cells1' h0
  have c1 := cells1' h1
  simp [results, Tryz.results43, h2, h3, go_sem, c0, c1]
set_option maxRecDepth 100000 in
set_option maxHeartbeats 8000000 in
theorem twice_any {u w : World} {sv : Value} {s : Ip.Sch} (h : RoSch u sv s) (hu : Kp u w) (hS : Ck.Small s) : Calls Tryz.prog 43 #[sv] w (Told (Ck.doubles s) 130 w) := by
  obtain ⟨p1, c1, p2, c2, p3, c3, rfl, -, hr, hs, hg, l1, l2, l3⟩ := sch_parts h
  refine (callsIn_wide (n := 9)).1 ?_
  refine callsIn_of_wp_marks Tryz.func43 rfl trivial ?_ rfl
  simp only [Tryz.ntmps43, List.size_toArray, List.length_cons, List.length_nil, Nat.reduceAdd, Nat.reduceSub, Array.replicate_succ, Array.replicate_zero, List.push_toArray, List.append_toArray, List.nil_append, List.cons_append]
  obtain ⟨W0, hW0⟩ : ∃ W0, W0 = allocs w [schO s p1 c1 p2 c2 p3 c3, strO ⟨#[]⟩, errO 0, rowO (.slice none 0 0)] := ⟨_, rfl⟩
  have hz0 : w.heap.size + 4 ≤ W0.heap.size := by rw [hW0, allocs_size]; exact Nat.le_refl _
  have HX : Hid (∀ W, Below W0.heap.size W0 W → W.heap[w.heap.size]? = some (schO s p1 c1 p2 c2 p3 c3) ∧ W.heap[w.heap.size + 1]? = some (strO ⟨#[]⟩) ∧ W.heap[w.heap.size + 2]? = some (errO 0) ∧ W.heap[w.heap.size + 3]? = some (rowO (.slice none 0 0)) ∧ Below w.heap.size w W) := Lib.hid (by subst hW0; exact fun W hW => ⟨allocs_box (i := 0) rfl hW, allocs_box (i := 1) rfl hW, allocs_box (i := 2) rfl hW, allocs_box (i := 3) rfl hW, allocs_on hW⟩)
  obtain ⟨b0, -, -, -, B0⟩ := HX.out W0 (Below.refl _ _)
  obtain ⟨x0, x1, x2, x3⟩ := cells4' b0
  have HU := Lib.hid hu
  have H := Lib.hid h
  have HSV := Lib.hid hs
  have HRC := Lib.hid hr
  have HSG3 := Lib.hid hg
  have HSM := Lib.hid hS
  clear h hr hs hg hu hS b0 B0
  simp only [allocs, schO, strO, errO, rowO] at hW0
  rw [show (((0 : Nat) : Int)) = 0 from rfl] at hW0
  gi_wp2_with fail
  rw [← hW0]
  clear hW0
  refine ⟨trivial, ?_⟩
  refine (callsIn_wide.2 (declared_any W0 rfl)).mono ?_
  rintro e w1 ⟨rfl, rfl⟩
  obtain ⟨W3, hW3⟩ : ∃ W3, W3 = W0.alloc (schO s p1 c1 p2 c2 p3 c3) := ⟨_, rfl⟩
  have hb3 : Below W0.heap.size W0 W3 := by rw [hW3]; exact tk_alloc W0 _
  have hn3 : W3.heap[W0.heap.size]? = some (schO s p1 c1 p2 c2 p3 c3) := by rw [hW3]; exact heap_alloc_new W0 _
  have hz3 : W0.heap.size + 1 ≤ W3.heap.size := by rw [hW3, World.size_alloc]; exact Nat.le_refl _
  obtain ⟨q0, q1, q2, q4, q3⟩ := HX.out W3 hb3
  have hku : Kp u W3 := HU.out.below (q3.mono (Nat.le_refl _))
  have hus := HU.out.size
  have hsq := declared1_seq 8 HRC.out HSV.out HSG3.out HSM.out hku hn3
  have hI0 : TwI s p1 c1 p2 c2 p3 c3 u w W3.heap.size (w.heap.size + 1 + 1 + 1) (fun _ => False) 0 W3 :=
    ⟨.slice none 0 0, [], ⟨fun k hk => hk.elim, Nat.le_refl _, q3.size, hku, by omega, q3, fun q hq => by
      simp only [List.mem_cons, List.not_mem_nil, or_false] at hq
      rcases hq with rfl | rfl | rfl | rfl
      · exact ⟨q1, by dsimp only; omega⟩
      · exact ⟨q2, by dsimp only; omega⟩
      · exact ⟨q0, by dsimp only; omega⟩
      · exact ⟨q4, by dsimp only; omega⟩⟩, OwnTx.nil _ _, rfl, fun k hk => by simp [Value.ownBlock] at hk, rfl⟩
  rw [← hW3]
  clear hW3 q0 q1 q2 q3 q4 hn3 hb3 x0 x1 x2 x3
  gi_wp2_with fail
  apply wpIn_rangeV rfl (by omega) (gf := 106) (lb := #[.pointer (some ⟨W0.heap.size, 0, none⟩)]) rfl trivial (enters_of Tryz.func106 (by kernel_rfl) rfl)
    (encs := encD) (rel := relD) (xs := Ck.decls s) (cap := fun k => k < u.heap.size ∨ k = W0.heap.size) hsq (fun k hk => by rcases hk with hk | hk <;> omega) (fun _ _ => rfl) (fun _ _ _ _ _ _ h hs hn => relD_nt h hs hn)
    (fun S i A => TwI s p1 c1 p2 c2 p3 c3 u w W3.heap.size (w.heap.size + 1 + 1 + 1) S i A)
    (fun c S i A => TwStop s u w W3.heap.size c S i A)
    (fun S S' i A C hs st => hs.steps st) (fun c S S' i A C hs st => hs.steps st) hI0
    (w₁ := fun x b A => A)
    (hw₁ := fun x b A => Below.refl _ _)
  case hassign =>
    intro l x b W K hK
    simp only [encD]
    gi_wp2
    exact hK
  case hstop =>
    rintro D S c i A hD hSD hS hi ⟨rfl, x, hf, hr⟩ hK
    have HF9 := Lib.hid hf
    obtain ⟨hb9, hq9⟩ := hr.mark hD (.deferred none)
    have HR0 := Lib.hid (hq9 (w.heap.size + 1, strO x) (by simp))
    have HR1 := Lib.hid (hq9 (w.heap.size + 1 + 1, errO 130) (by simp))
    have HB9 := Lib.hid hb9
    clear hf hr hb9 hq9 hsq hI0
    gi_wp2_with fail
    refine rule_leaves (fn := Tryz.f43) hK (twice_res rfl rfl HR0.out HR1.out) ?_
    exact ⟨by rw [HF9.out]; rfl, HB9.out⟩
  case hdone =>
    rintro D S A hD hSD hS ⟨v, seen, hr, ho, hsl, hvS, hdb⟩ hK
    have HF9 : Hid (Ck.doubles s = none) := Lib.hid (by rw [hdb, List.drop_length]; rfl)
    clear ho hsl hvS hdb
    have f0 := frozen2 (hr.at (b := w.heap.size + 1) (o := strO ⟨#[]⟩) (by simp)) 0
    have f1 := frozen2 (hr.at (b := w.heap.size + 1 + 1) (o := errO 0) (by simp)) 0
    have z0 := cells1' (hr.at (b := w.heap.size + 1) (o := strO ⟨#[]⟩) (by simp))
    have z1 := cells1' (hr.at (b := w.heap.size + 1 + 1) (o := errO 0) (by simp))
    have hrt := hr.tell (by omega) ⟨by omega, by omega⟩ ⟨by omega, by omega⟩ ⟨#[]⟩ 0
    obtain ⟨hb9, hq9⟩ := hrt.mark hD (.deferred none)
    have HR0 := Lib.hid (hq9 (w.heap.size + 1, strO ⟨#[]⟩) (by simp))
    have HR1 := Lib.hid (hq9 (w.heap.size + 1 + 1, errO 0) (by simp))
    have HB9 := Lib.hid hb9
    have HK9 : Hid (((A.setCell ⟨w.heap.size + 1, 0, none⟩ (.string ⟨#[]⟩)).setCell ⟨w.heap.size + 1 + 1, 0, none⟩ (.int .i64 ((0 : Nat) : Int))).heap[D]? = some (.deferred (some []))) := Lib.hid (((Below.heap_setCell _ _ _ _ (by dsimp only; omega)).trans (Below.heap_setCell _ _ _ _ (by dsimp only; omega))).trans hK)
    clear hr hsq hI0 hrt hb9 hq9 hK
    gi_wp2_with fail
    refine rule_leaves (fn := Tryz.f43) HK9.out (twice_res rfl rfl HR0.out HR1.out) ?_
    exact ⟨by rw [HF9.out]; rfl, HB9.out⟩
  case hbody =>
    rintro l S i hi b A0 A hz0' hSA hzA hnew hrel ⟨v, seen, hr, ho, hsl, hvS, hdb⟩
    have hshort := decls_short HSM.out (List.getElem_mem hi)
    have hdl : (Ck.decls s).drop i = (Ck.decls s)[i] :: (Ck.decls s).drop (i + 1) := List.drop_eq_getElem_cons hi
    have hdc : (Ck.decls s).length ≤ 300 := by rw [decl_len]; have := HSM.out.nr; have := HSM.out.ns; have := HSM.out.ng; omega
    generalize (Ck.decls s)[i] = x at *
    obtain ⟨nm, ps⟩ := x
    obtain ⟨bp, bc⟩ := b
    obtain ⟨htx, hbc, hbm, hbS⟩ := hrel
    simp only at htx hbc hbm hbS
    obtain ⟨hs1, hs2, hs3⟩ := hshort
    simp only at hs1 hs2 hs3
    rw [hdl, Ck.doublesF_cons] at hdb
    simp only at hdb
    have hSz : ∀ k, S k → k < A.heap.size := fun k hk => by rw [hzA]; exact (hSA k hk).2
    obtain ⟨pv, cv, rfl, hsc, hsm, hst⟩ := ho.texts
    have hsl3 : seen.length ≤ 1000 := by omega
    have HR := Lib.hid hr
    have HO := Lib.hid ho
    have HST := Lib.hid hst
    have HVS := Lib.hid hvS
    have HSZ := Lib.hid hSz
    have HTX := Lib.hid htx
    have HBS := Lib.hid hbS
    have HS3 := Lib.hid hs3
    have HDB := Lib.hid hdb
    have HSL := Lib.hid hsl
    have HN1 : Hid (nm.size ≤ 1000000) := Lib.hid (by omega)
    have HBC : Hid (ps.length ≤ bc ∧ bc ≤ maxLen) := Lib.hid ⟨hbc, hbm⟩
    have g3 := cells1' (hr.at (b := w.heap.size + 1 + 1 + 1) (o := rowO (.slice pv seen.length cv)) (by simp))
    have f3 := frozen2 (hr.at (b := w.heap.size + 1 + 1 + 1) (o := rowO (.slice pv seen.length cv)) (by simp)) 0
    clear hr ho hst hvS hSz htx hbS hs3 hdb hdl hnew hzA hsq hI0 hs1 hsc hsm hsl hSA hdc
    gi_wp2_with fail
    refine ⟨trivial, ?_⟩
    refine (CallsIn.inRound l (callsIn_wide.2 (contains_any (c := cv) HST.out (by omega) nm))).mono ?_
    rintro e w9 ⟨rfl, hw9⟩
    obtain rfl := hw9.symm
    cases hq : Ck.inB seen nm with
    | true =>
      have HD : Hid (Ck.doubles s = some nm) := Lib.hid (by rw [HDB.out, hq]; rfl)
      have z0 := cells1' (HR.out.at (b := w.heap.size + 1) (o := strO ⟨#[]⟩) (by simp))
      have z1 := cells1' (HR.out.at (b := w.heap.size + 1 + 1) (o := errO 0) (by simp))
      have f0 := frozen2 (HR.out.at (b := w.heap.size + 1) (o := strO ⟨#[]⟩) (by simp)) 0
      have f1 := frozen2 (HR.out.at (b := w.heap.size + 1 + 1) (o := errO 0) (by simp)) 0
      have HSTOP := Lib.hid (tw_stop (i := i) (b := W0.heap.size) HR.out (BodyZ.refl _ _ _) hus (by omega) HD.out)
      clear hq
      gi_wp2_with fail
      exact HSTOP.out
    | false =>
      have HDB2 : Hid (Ck.doubles s = match Ck.twice [] ps with
        | some p => some (Ck.dot nm p)
        | none => Ck.doublesF (seen ++ [nm]) ((Ck.decls s).drop (i + 1))) := Lib.hid (by rw [HDB.out, hq]; rfl)
      clear hq
      obtain ⟨pw, cw, V, hrun, hov, hgr⟩ := tx_append HO.out nm (by omega) HR.out.size 77
      have hmore := tw_more HR.out HO.out HVS.out HSZ.out hgr hov hus rfl ⟨by omega, by omega⟩ (b := W0.heap.size)
      have g4 : V.cell? ⟨w.heap.size + 1 + 1 + 1, 0, none⟩ = some (.slice pv seen.length cv) := by
        have q3 := HR.out.box (w.heap.size + 1 + 1 + 1, rowO (.slice pv seen.length cv)) (by simp)
        exact cells1' ((hgr.block _ (Nat.lt_of_lt_of_le q3.2 HR.out.size) fun e => by have := (HO.out.lt _ e).1; omega).trans q3.1)
      have f4 : V.frozen? ⟨w.heap.size + 1 + 1 + 1, 0, none⟩ = false := by
        have q3 := HR.out.box (w.heap.size + 1 + 1 + 1, rowO (.slice pv seen.length cv)) (by simp)
        exact frozen2 ((hgr.block _ (Nat.lt_of_lt_of_le q3.2 HR.out.size) fun e => by have := (HO.out.lt _ e).1; omega).trans q3.1) 0
      have htn : TextsAt (V.setCell ⟨w.heap.size + 1 + 1 + 1, 0, none⟩ (.slice pw (seen.length + 1) cw)) bp ps := fun j hj => by
        obtain ⟨a, h1, h2, h3⟩ := HTX.out j hj
        have hk := HBS.out a h1
        have hk2 := HR.out.set _ hk
        have he : (V.setCell ⟨w.heap.size + 1 + 1 + 1, 0, none⟩ (.slice pw (seen.length + 1) cw)).heap[(a.add j).block]? = A.heap[(a.add j).block]? := by
          rw [tadd_block]
          exact (Below.heap_setCell _ _ _ _ (by dsimp only; omega)).trans (hgr.block _ h2 fun e => HVS.out _ e hk)
        exact ⟨a, h1, by simp [World.setCell]; exact Nat.lt_of_lt_of_le h2 hgr.size, by rw [World.cell?_of_block (w := A) he]; exact h3⟩
      obtain ⟨X, hX⟩ : ∃ X, X = V.setCell ⟨w.heap.size + 1 + 1 + 1, 0, none⟩ (.slice pw (seen.length + 1) cw) := ⟨_, rfl⟩
      rw [← hX] at hmore htn
      have HM := Lib.hid hmore
      have HTN := Lib.hid htn
      clear hov hgr hmore htn
      gi_wp2_with (gi_at_builtin; refine wpListIn_append_run _ rfl (.tmp 17) (.tmp 19) _ rfl _ _ rfl rfl _ _ hrun ?_)
      rw [← hX]
      clear hX hrun g3 f3 g4 f4
      gi_loopw [23] (fun kv wx => ∃ k : Nat, k ≤ ps.length ∧ kv = .int .i64 (k : Nat) ∧ wx = X ∧ Hid (Ck.twice [] ps = Ck.twice (ps.take k) (ps.drop k))) (fun kv _ => ps.length - (intOf kv).toNat)
      case atStart => exact ⟨0, Nat.zero_le _, rfl, rfl, Lib.hid rfl⟩
      case round =>
        obtain ⟨k, hk, rfl, hwx, HT⟩ := hrel
        obtain rfl := hwx.symm
        by_cases hlk : k < ps.length
        · have j1 : (k : Int) < (ps.length : Int) := by omega
          have j2 : (0 : Int) ≤ (k : Int) := by omega
          have j3 : k ≤ bc := by have := HBC.out.1; omega
          have j4 : bc ≤ 9223372036854775807 := by have := HBC.out.2; unfold maxLen at this; omega
          obtain ⟨B, e5, hB, d0⟩ := HTN.out k hlk
          cases e5
          have hcon := contains_any (c := bc) (HTN.out.take k) (by rw [List.length_take]; omega) ps[k]
          rw [show (ps.take k).length = k by rw [List.length_take]; omega] at hcon
          have HPS : Hid (ps[k].size ≤ 1000000) := Lib.hid (by have := HS3.out _ (List.getElem_mem hlk); omega)
          have HTK : Hid (Ck.twice [] ps = if Ck.inB (ps.take k) ps[k] then some ps[k] else Ck.twice (ps.take (k + 1)) (ps.drop (k + 1))) := Lib.hid (by
            rw [HT.out, List.drop_eq_getElem_cons hlk, Ck.twice_cons, List.take_succ_eq_append_getElem hlk])
          have HCON := Lib.hid hcon
          clear hcon
          generalize ps[k] = pn at *
          gi_wp2_with fail
          refine ⟨trivial, ?_⟩
          refine (CallsIn.inRound l (callsIn_wide.2 HCON.out)).mono ?_
          rintro e w9 ⟨rfl, hw9⟩
          obtain rfl := hw9.symm
          cases hq : Ck.inB (ps.take k) pn with
          | true =>
            have HD : Hid (Ck.doubles s = some (Ck.dot nm pn)) := Lib.hid (by rw [HDB2.out, HTK.out, hq]; rfl)
            have z0 := cells1' (HM.out.1.at (b := w.heap.size + 1) (o := strO ⟨#[]⟩) (by simp))
            have z1 := cells1' (HM.out.1.at (b := w.heap.size + 1 + 1) (o := errO 0) (by simp))
            have f0 := frozen2 (HM.out.1.at (b := w.heap.size + 1) (o := strO ⟨#[]⟩) (by simp)) 0
            have f1 := frozen2 (HM.out.1.at (b := w.heap.size + 1 + 1) (o := errO 0) (by simp)) 0
            have HSTOP := Lib.hid (tw_stop (i := i) (b := W0.heap.size) HM.out.1 HM.out.2.2.2 hus (by omega) HD.out)
            clear hq
            gi_wp2_with fail
            refine ⟨trivial, ?_⟩
            refine (CallsIn.inRound l (callsIn_wide.2 (place_any nm pn X HN1.out HPS.out))).mono ?_
            rintro e w9 ⟨rfl, hw9⟩
            obtain rfl := hw9.symm
            gi_wp2_with fail
            exact HSTOP.out
          | false =>
            have HQ : Hid (Ck.twice [] ps = Ck.twice (ps.take (k + 1)) (ps.drop (k + 1))) := Lib.hid (by rw [HTK.out, hq]; rfl)
            clear hq
            gi_wp2_with fail
            go_roundw
            case rel => exact ⟨k + 1, by omega, by go_num, trivial, HQ⟩
            case measure => simp [intOf]; omega
        · obtain rfl : k = ps.length := by omega
          have j1 : ¬ (ps.length : Int) < (ps.length : Int) := by omega
          have HD : Hid (Ck.doubles s = Ck.doublesF (seen ++ [nm]) ((Ck.decls s).drop (i + 1))) := Lib.hid (by
            rw [HDB2.out, HT.out, List.drop_length]; rfl)
          gi_wp2_with fail
          exact ⟨HM.out.2.2.2, _, _, HM.out.1, HM.out.2.1, by rw [List.length_append, HSL.out]; rfl, HM.out.2.2.1, HD.out⟩
end Go.Proofs.YtiikccaaabcegaaGreatDoor
