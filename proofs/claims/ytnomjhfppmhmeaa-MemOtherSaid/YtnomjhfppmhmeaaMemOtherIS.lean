/-
  Walks over package mem: Other of a table of numbers, as MemOthers asks for it. Condition: a table of few keys.
-/
import Derived.Test.YtnomjhfppmhmeaaMemAnswer
import Derived.Test.YtnomjhfppmhmeaaMemRangeS
import Derived.Test.YtnomjhfppmhmeaaMemAwake
namespace Go.Proofs.Ytnomjhfppmhmeaa
open Go.RowKit
attribute [local go_sem] Oper.semAt_some

/-- Is it an even number? -/
def evenV : Value → Bool
  | .int _ x => x.tmod 2 == 0
  | _ => false
/-- What the law's function makes of a table. -/
def oth (L : Mm.Row) : Mm.Row := L.foldl (fun M q => if evenV q.2 = true then Mm.put M q.1 (.string (q.1 ++ ⟨#[33]⟩)) else M) []
theorem oth_succ {L : Mm.Row} {i : Nat} (h : i < L.length) : oth (L.take (i + 1)) = if evenV L[i].2 = true then Mm.put (oth (L.take i)) L[i].1 (.string (L[i].1 ++ ⟨#[33]⟩)) else oth (L.take i) := by
  unfold oth; rw [List.take_succ_eq_append_getElem h, List.foldl_append]; rfl
theorem oth_len (L : Mm.Row) : ∀ i, i ≤ L.length → (oth (L.take i)).length ≤ i := by
  intro i
  induction i with
  | zero => intro _; exact Nat.le_refl _
  | succ i ih =>
    intro h
    rw [oth_succ (by omega)]
    have h1 := ih (by omega)
    split
    · have := Mm.length_put_le (oth (L.take i)) L[i].1 (.string (L[i].1 ++ ⟨#[33]⟩)); omega
    · omega

/-- Behind a call of the law's function: a table of texts, its boxes and further roots, are as they were. -/
theorem asked_mem {w0 A C : World} {o base g : Nat} {Lo : Mm.Row} {B : List (Nat × Obj)} {ss : List ByteArray} {v : Value} (h : MS.Mem w0 A o Lo [] ((g, .cells #[v] 67 (0, 0)) :: B)) (ha : Asked g base ss A C) (h0 : w0.heap.size ≤ base) (ho : o < base) (hB : ∀ q ∈ B, q.1 < base) :
    ∃ v', OwnTexts C base v' ss ∧ MS.Mem w0 C o Lo [] ((g, .cells #[v'] 67 (0, 0)) :: B) ∧ Kept A C := by
  obtain ⟨p, h1, h2, h3⟩ := h
  obtain ⟨v', hv, hov⟩ := ha.row
  have hgt : ¬ IsNode A g := not_node (h1.box (g, .cells #[v] 67 (0, 0)) (by simp)) (by unfold nodeT; decide)
  have hk : Kept A C := ⟨ha.size, fun k hk => ha.block k hk.lt (fun e => hgt (e ▸ hk)) (.inr (.inl hk))⟩
  have hap := h1.apart
  simp only [List.map_cons, List.nodup_cons, List.mem_cons, not_or] at hap
  refine ⟨v', hov, ⟨p, ⟨⟨ha.os.trans h1.below.os, ha.tape.trans h1.below.tape, ha.output.trans h1.below.output, Nat.le_trans h1.below.size ha.size, fun k hk => ?_⟩, fun q hq => ?_, fun q hq => ?_, h1.apart⟩, h2.kept hk, fun r hr => (h3 r hr).kept hk⟩, hk⟩
  · refine (ha.block k (Nat.lt_of_lt_of_le hk h1.below.size) (fun e => ?_) (.inl (by omega))).trans (h1.below.block k hk)
    have := h1.new (g, .cells #[v] 67 (0, 0)) (by simp)
    simp only at this; omega
  · rcases List.mem_cons.1 hq with rfl | hq
    · exact (ha.block o (h1.lt List.mem_cons_self) hap.1.1 (.inl ho)).trans h1.head
    · rcases List.mem_cons.1 hq with rfl | hq
      · exact hv
      · refine (ha.block q.1 (h1.lt (by simp [hq])) (fun e => ?_) (.inl (hB q hq))).trans (h1.box q (by simp [hq]))
        exact hap.2.1 (List.mem_map.2 ⟨q, hq, e⟩)
  · rcases List.mem_cons.1 hq with rfl | hq
    · exact h1.new _ List.mem_cons_self
    · rcases List.mem_cons.1 hq with rfl | hq
      · exact h1.new (g, .cells #[v] 67 (0, 0)) (by simp)
      · exact h1.new q (by simp [hq])
theorem asked_bodyK {A C W : World} {g base : Nat} {ss : List ByteArray} {v : Value} (ha : Asked g base ss A C) (hg : A.heap[g]? = some (.cells #[v] 67 (0, 0))) (hz : W.heap.size ≤ base) (hgn : ¬ IsNode W g) : BodyK (IsNode W) A C :=
  ⟨ha.size, fun k hk hb => by
    by_cases e : k = g
    · subst e
      rcases hb with hb | hb
      · exact absurd hb hgn
      · exact absurd hg (hb _ _ _)
    · exact ha.block k hk e (hb.elim (fun h => .inl (Nat.lt_of_lt_of_le h.lt hz)) fun h => .inr (.inr h))⟩

theorem kept_its {A C : World} {n : Nat} (st : ItS n A C) : Kept A C := ⟨st.size, fun k hk => st.block k hk.lt (.inr fun hn => by obtain ⟨cs, T, -, h⟩ := hk; exact hn _ _ _ h)⟩
theorem kept_mark {W : World} {D : Nat} (hK : W.heap[D]? = some (.deferred (some []))) : Kept W (W.putObj D (.deferred none)) :=
  ⟨by simp, fun k hk => World.putObj_heap_other fun e => by subst e; obtain ⟨cs, T, -, h⟩ := hk; rw [hK] at h; cases h⟩
theorem unmark {w0 W : World} {o D : Nat} {Lo : Mm.Row} {B : List (Nat × Obj)} (h : MS.Mem w0 W o Lo [] ((D, MarkO) :: B)) : MS.Mem w0 (W.putObj D (.deferred none)) o Lo [] B := by
  obtain ⟨p, h1, h2, h3⟩ := h
  have hK : W.heap[D]? = some (.deferred (some [])) := h1.swap.head
  have hk := kept_mark hK
  have h4 : Now w0 (W.putObj D (.deferred none)) ((D, .deferred none) :: (o, MS.memO p) :: B) :=
    h1.swap.turn rfl rfl rfl (by simp) (fun k _ hk => World.putObj_heap_other hk) (World.putObj_heap_same (Array.getElem?_eq_some_iff.1 hK).1)
  exact ⟨p, h4.tail, h2.kept hk, fun r hr => (h3 r hr).kept hk⟩
/-- A table of numbers and one of texts, beside one another. -/
def Both (w0 w : World) (a : Nat) (L : Mm.Row) (o : Nat) (Lo : Mm.Row) (B : List (Nat × Obj)) : Prop := ∃ p po, Now w0 w ((a, MI.memO p) :: (o, MS.memO po) :: B) ∧ MI.Root w p L ∧ MS.Root w po Lo
/-- What Other leaves. -/
def Othered (w0 : World) (a g : Nat) (L : Mm.Row) (B : List (Nat × Obj)) (e : Ending) (w' : World) : Prop :=
  ∃ o v base, e = .returned (.pointer (some ⟨o, 0, none⟩)) ∧ Both w0 w' a L o (oth L) ((g, .cells #[v] 67 (0, 0)) :: B) ∧ OwnTexts w' base v (L.map Prod.fst)

set_option maxRecDepth 100000 in
set_option maxHeartbeats 8000000 in
theorem other_any {w0 w : World} {a g : Nat} {L : Mm.Row} {B : List (Nat × Obj)} (h : MI.Mem w0 w a L [] ((g, .cells #[.slice none 0 0] 67 (0, 0)) :: B)) (hl : L.length ≤ 300) (hks : ∀ q ∈ L, q.1.size ≤ 30000) :
    Calls Try.prog 48 #[.pointer (some ⟨a, 0, none⟩), .func (.func 49) #[] #[.pointer (some ⟨g, 0, none⟩)]] w (Othered w0 a g L B) := by
  refine (callsIn_wide (n := 9)).1 ?_
  refine callsIn_of_wp_marks Try.func48 rfl trivial ?_ rfl
  simp only [Try.ntmps48, List.size_toArray, List.length_cons, List.length_nil, Nat.reduceAdd, Nat.reduceSub, Array.replicate_succ, Array.replicate_zero, List.push_toArray, List.append_toArray, List.nil_append, List.cons_append]
  have h1 := h.alloc (.cells #[.func (.func 49) #[] #[.pointer (some ⟨g, 0, none⟩)]] 80)
  obtain ⟨bf, hbf⟩ : ∃ bf, bf = w.heap.size := ⟨_, rfl⟩
  rw [← hbf] at h1
  have HG := Lib.hid h1.good
  have HS := Lib.hid h1.sorted
  have HL := Lib.hid hl
  have HK := Lib.hid hks
  clear h hl hks
  gi_wp2_with fail
  rw [← hbf]
  refine ⟨trivial, ?_⟩
  obtain ⟨p, n1, r1, -⟩ := h1
  refine (callsIn_wide.2 (MS.new_m (R := []) n1 (fun _ h => nomatch h))).mono ?_
  rintro e w2 ⟨o, rfl, h2, hk2⟩
  have r2 := r1.kept hk2
  clear n1 r1 hk2 hbf
  have h3 := h2.alloc (.cells #[.pointer (some ⟨o, 0, none⟩)] 37)
  have r3 := r2.kept (.alloc w2 (.cells #[.pointer (some ⟨o, 0, none⟩)] 37))
  obtain ⟨go, hgo⟩ : ∃ go, go = w2.heap.size := ⟨_, rfl⟩
  rw [← hgo] at h3
  obtain ⟨po, n3, q3, -⟩ := h3
  obtain ⟨opo, rfl⟩ := q3.ptr
  have h4 : MI.Mem w0 (w2.alloc (.cells #[.pointer (some ⟨o, 0, none⟩)] 37)) a L [] ((o, MS.memO (.pointer opo)) :: (go, .cells #[.pointer (some ⟨o, 0, none⟩)] 37 (0, 0)) :: (bf, .cells #[.func (.func 49) #[] #[.pointer (some ⟨g, 0, none⟩)]] 80 (0, 0)) :: (g, .cells #[.slice none 0 0] 67 (0, 0)) :: B) :=
    ⟨p, n3.perm (List.perm_middle (l₁ := [(o, MS.memO (.pointer opo)), (go, _)])), r3, fun _ h => nomatch h⟩
  clear n3 r3 h2 r2
  gi_wp2_with fail
  rw [← hgo]
  refine ⟨trivial, ?_⟩
  refine (callsIn_wide.2 (MI.from_m h4 ⟨#[]⟩ (by decide))).mono ?_
  rintro e w5 ⟨b1, b2, p1, rfl, h5, hb5⟩
  have q5 := q3.kept (.of_below hb5)
  clear h4 q3 hb5 hgo
  unfold MI.fromV
  gi_wp2_with fail
  have hsq := h5.seq (p := p1) (L := L) (b1 := b1) (b2 := b2) (key := ⟨#[]⟩) (by simp) (by simp) (by simp) 8
  rw [Mm.from_empty] at hsq
  obtain ⟨p5, n5, r5, -⟩ := h5
  have h6 : MS.Mem w0 w5 o [] [] ((g, .cells #[.slice none 0 0] 67 (0, 0)) :: (a, MI.memO p5) :: (go, .cells #[.pointer (some ⟨o, 0, none⟩)] 37 (0, 0)) :: (bf, .cells #[.func (.func 49) #[] #[.pointer (some ⟨g, 0, none⟩)]] 80 (0, 0)) :: B) := by
    refine ⟨.pointer opo, ((n5.sub (B' := (a, MI.memO p5) :: (o, MS.memO (.pointer opo)) :: (go, .cells #[.pointer (some ⟨o, 0, none⟩)] 37 (0, 0)) :: (bf, .cells #[.func (.func 49) #[] #[.pointer (some ⟨g, 0, none⟩)]] 80 (0, 0)) :: (g, .cells #[.slice none 0 0] 67 (0, 0)) :: B) (by simp)).swap).perm (List.Perm.cons _ (List.perm_middle (l₁ := [(a, MI.memO p5), (go, _), (bf, _)]))), ?_, fun _ h => nomatch h⟩
    exact q5
  obtain ⟨rest, hrest⟩ : ∃ rest : List (Nat × Obj), rest = (a, MI.memO p5) :: (go, .cells #[.pointer (some ⟨o, 0, none⟩)] 37 (0, 0)) :: (bf, .cells #[.func (.func 49) #[] #[.pointer (some ⟨g, 0, none⟩)]] 80 (0, 0)) :: B := ⟨_, rfl⟩
  rw [← hrest] at h6
  have HR := Lib.hid hrest
  have hgb : w5.heap[g]? = some (.cells #[.slice none 0 0] 67 (0, 0)) := h6.box (q := (g, .cells #[.slice none 0 0] 67 (0, 0))) (by simp)
  have hgl : g < w5.heap.size := (Array.getElem?_eq_some_iff.1 hgb).1
  have hgn : ¬ IsNode w5 g := not_node hgb (by unfold nodeT; decide)
  have hon : ¬ IsNode w5 o := h6.aNot
  have hol := h6.alt
  have hlr : ∀ q ∈ rest, q.1 < w5.heap.size := fun q hq => h6.lt (by simp [hq])
  have hl0 := h6.below.size
  have R5 := Lib.hid r5
  clear n5 q5 r5 hrest hgb
  apply wpIn_rangeY rfl (by omega) (gf := 54) (lb := #[.pointer (some ⟨b1, 0, none⟩), .pointer (some ⟨b2, 0, none⟩)]) rfl trivial (enters_of Try.func54 (by kernel_rfl) rfl)
    (encs := fun q : ByteArray × Value => #[.string q.1, q.2]) (xs := L) (cap := IsNode w5) hsq (fun k hk => hk.lt) (fun _ => rfl)
    (fun i A => ∃ v, MS.Mem w0 A o (oth (L.take i)) [] ((g, .cells #[v] 67 (0, 0)) :: rest) ∧ OwnTexts A w5.heap.size v ((L.take i).map Prod.fst) ∧ Kept w5 A)
    (fun _ _ _ => False)
    (fun i C E hs st => by
      obtain ⟨v, q1, q2, q3⟩ := hs
      exact ⟨v, q1.its st hl0 hol (fun q hq => by
        rcases List.mem_cons.1 hq with rfl | hq
        · exact hgl
        · exact hlr q hq), q2.its st, q3.trans (kept_its st)⟩)
    (fun _ _ _ _ hs _ => hs)
    ⟨_, h6, OwnTexts.nil _ _, Kept.refl _⟩
  case hassign =>
    intro l x W K hK
    gi_wp2
    exact hK
  case hstop =>
    rintro D c i A _ _ h _
    exact h.elim
  case hbody =>
    rintro l i hi A hT ⟨v, hm, hov, hk⟩
    have hlen := HL.out
    have hmem := List.getElem_mem hi
    have hsz := HK.out _ hmem
    obtain ⟨-, x, hx⟩ := HG.out _ hmem
    have hsu := oth_succ hi
    have hli : ((L.take i).map Prod.fst).length = i := by rw [List.length_map, List.length_take]; omega
    have hT1 : (L.take (i + 1)).map Prod.fst = (L.take i).map Prod.fst ++ [L[i].1] := by rw [List.take_succ_eq_append_getElem hi, List.map_append]; rfl
    have hol2 := oth_len L i (by omega)
    have HSU := Lib.hid hsu
    have HT1 := Lib.hid hT1
    clear hmem hsu hT1
    generalize L[i] = q at *
    obtain ⟨k, vv⟩ := q
    obtain rfl : vv = .int .i64 x := hx
    simp only at HSU HT1 hsz
    have HC : Hid (∀ (C : World) (Lo : Mm.Row) (v : Value), MS.Mem w0 C o Lo [] ((g, .cells #[v] 67 (0, 0)) :: rest) → C.heap[g]? = some (.cells #[v] 67 (0, 0)) ∧ C.cell? ⟨go, 0, none⟩ = some (.pointer (some ⟨o, 0, none⟩)) ∧ C.cell? ⟨bf, 0, none⟩ = some (.func (.func 49) #[] #[.pointer (some ⟨g, 0, none⟩)])) := Lib.hid fun C Lo v h => by
      rw [HR.out] at h
      exact ⟨h.box (q := (g, .cells #[v] 67 (0, 0))) (by simp), (cells1 (h.box (q := (go, .cells #[.pointer (some ⟨o, 0, none⟩)] 37 (0, 0))) (by simp))).1,
        (cells1 (h.box (q := (bf, .cells #[.func (.func 49) #[] #[.pointer (some ⟨g, 0, none⟩)]] 80 (0, 0))) (by simp))).1⟩
    obtain ⟨hgA, -, cf⟩ := HC.out _ _ _ hm
    have hA0 : w5.heap.size ≤ A.heap.size := by omega
    have HQ := Lib.hid (answer_of (ask_any hgA hgl hA0 hov (by omega) k (by omega) x))
    have HM := Lib.hid hm
    have HKA := Lib.hid hk
    have HGA := Lib.hid hgA
    clear hm hk hov hgA
    gi_wp2_with fail
    first | refine ⟨trivial, fun _ => by omega, ?_⟩ | refine ⟨trivial, ?_⟩
    refine (CallsIn.inRound l (callsIn_wide.2 HQ.out)).mono ?_
    rintro e A1 ⟨rfl, ha⟩
    obtain ⟨v1, hov1, hm1, hk1⟩ := asked_mem HM.out ha hl0 hol hlr
    obtain ⟨-, cgo, -⟩ := HC.out _ _ _ hm1
    have HB1 := Lib.hid (asked_bodyK (W := w5) ha HGA.out (Nat.le_refl _) hgn)
    have HK1 := Lib.hid (HKA.out.trans hk1)
    have HO1 := Lib.hid hov1
    have HM1 := Lib.hid hm1
    clear ha hov1 hm1 hk1 cf
    cases hev : (x.tmod 2 == 0) with
    | false =>
      have HE : Hid (oth (L.take (i + 1)) = oth (L.take i)) := Lib.hid (by rw [HSU.out, if_neg (by simp [evenV, hev])])
      clear hev
      gi_wp2_with fail
      exact ⟨HB1.out, v1, by rw [HE.out]; exact HM1.out, by rw [HT1.out]; exact HO1.out, HK1.out⟩
    | true =>
      have HE : Hid (oth (L.take (i + 1)) = Mm.put (oth (L.take i)) k (.string (k ++ ⟨#[33]⟩))) := Lib.hid (by rw [HSU.out, if_pos (by simp [evenV, hev])])
      clear hev
      gi_wp2_with fail
      first | refine ⟨trivial, fun _ => by omega, ?_⟩ | refine ⟨trivial, ?_⟩
      have e1 : k.size ≤ 281474976710656 := by omega
      have e2 : (oth (L.take i)).length ≤ 999999 := by omega
      (with_reducible refine (CallsIn.inRound l (callsIn_wide.2 (MS.set_m HM1.out k e1 e2 (k ++ ⟨#[33]⟩) rfl))).mono ?_)
      clear e1 e2
      rintro e A2 ⟨rfl, hm2, hk2, ho2⟩
      have HB2 := Lib.hid (HB1.out.trans (MS.bodyK_only HM1.out ho2 hon))
      have HM2 := Lib.hid hm2
      have HK2 := Lib.hid (HK1.out.trans hk2)
      have HO2 : Hid (OwnTexts A2 w5.heap.size v1 ((L.take i).map Prod.fst ++ [k])) := Lib.hid (HO1.out.stays fun q hq1 hq2 _ => ho2.block q hq1 (by omega))
      clear hm2 hk2 ho2 cgo
      gi_wp2_with fail
      exact ⟨HB2.out, v1, by rw [HE.out]; exact HM2.out, by rw [HT1.out]; exact HO2.out, HK2.out⟩
  case hdone =>
    rintro D A hD ⟨v, hm, hov, hk⟩ hK
    rw [List.take_length] at hm hov
    have h7 := hm.mark hK (by omega) (by omega) (fun q hq => by
      rcases List.mem_cons.1 hq with rfl | hq
      · show g ≠ D; omega
      · have := hlr q hq; omega)
    have cgo : A.cell? ⟨go, 0, none⟩ = some (.pointer (some ⟨o, 0, none⟩)) := by
      rw [HR.out] at hm
      exact (cells1 (hm.box (q := (go, .cells #[.pointer (some ⟨o, 0, none⟩)] 37 (0, 0))) (by simp))).1
    have h8 := unmark h7
    have k8 := kept_mark hK
    have HP : Hid (Othered w0 a g L B (.returned (.pointer (some ⟨o, 0, none⟩))) (A.putObj D (.deferred none))) := Lib.hid (by
      rw [HR.out] at h8
      obtain ⟨po8, n8, q8, -⟩ := h8
      refine ⟨o, v, w5.heap.size, rfl, ⟨p5, po8, (n8.perm (List.perm_middle (l₁ := [(o, MS.memO po8), (g, .cells #[v] 67 (0, 0))]))).sub (by simp), R5.out.kept (hk.trans k8), q8⟩, hov.stays fun q hq1 hq2 hq3 => World.putObj_heap_other fun e => hq3 fun cs T f h => by rw [e, hK] at h; cases h⟩)
    have HD := Lib.hid hK
    clear hm hov hk hK h7 h8 k8 hlr hol hgl hon hgn hl0 hD hsq h6
    gi_wp2_with fail
    refine ⟨by simp, .inl ⟨_, _, rfl, run_takeDeferred HD.out, ?_⟩⟩
    refine ⟨.pointer (some ⟨o, 0, none⟩), ?_, HP.out⟩
    simp [results, Try.results48, go_sem]
end Go.Proofs.Ytnomjhfppmhmeaa
