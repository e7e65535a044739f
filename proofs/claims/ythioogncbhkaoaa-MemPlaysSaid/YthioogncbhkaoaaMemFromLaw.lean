/-
  Walks over the laws of package mem: what is gone over, as a list (MemPlays' from). Condition: few pairs.
-/
import Derived.Test.YthioogncbhkaoaaMemRowGet
import Derived.Test.YthioogncbhkaoaaMemRangeS
import Derived.Test.YthioogncbhkaoaaMemAwake
import Derived.Test.YthioogncbhkaoaaMemRefD
namespace Go.Proofs.Ythioogncbhkaoaa
open Go.RowKit
attribute [local go_sem] Oper.semAt_some

theorem eql_seqS (w : World) (fn : Fn) (cs bs : Array Value) : (binOp .eql 80 (.func fn cs bs) .nilFunc).run Try.prog w = .ok (.bool false) w := by
  have h : ∀ d : Nat, (Op.equalIn (d + 1) 80 (.func fn cs bs) .nilFunc).run Try.prog w = .ok false w := fun d => by
    simp [Op.equalIn, run_underlying Try.underlying80]
  simp only [binOp]
  simp [Op.equal, Op.maxDepth, h 9999]
def boxP (v : Value) : Obj := .cells #[v] 30 (0, 0)
/-- The box gx holds a row of the pairs xs, made since w5; else nothing that lay has turned. -/
def FRel (gx : Nat) (w5 : World) (xs : List Pr) (A : World) : Prop := ∃ v, A.heap[gx]? = some (boxP v) ∧ OwnPairs A w5.heap.size v xs ∧ Outs [gx] w5 A
theorem own_stays {A C : World} {T : Nat} {v : Value} {xs : List Pr} (h : OwnPairs A T v xs) (hb : ∀ k, k < A.heap.size → T ≤ k → ¬ NoCells A k → C.heap[k]? = A.heap[k]?) : OwnPairs C T v xs := by
  refine ⟨h.1, ?_⟩
  rcases h.2 with hn | ⟨g, cap, cur, rfl, h1, h2, h3⟩
  · exact .inl hn
  · exact .inr ⟨g, cap, cur, rfl, h1, (hb g (Array.getElem?_eq_some_iff.1 h2).1 h1 fun hn => hn _ _ _ h2).trans h2, h3⟩
theorem own_cells {A : World} {T : Nat} {v : Value} {xs : List Pr} (h : OwnPairs A T v xs) : ∀ k, v.ownBlock = some k → ∃ cs f, A.heap[k]? = some (.cells cs 44 f) := by
  intro k hk
  rcases h.2 with ⟨rfl, -⟩ | ⟨g, cap, cur, rfl, h1, h2, h3⟩
  · simp [Value.ownBlock] at hk
  · simp [Value.ownBlock] at hk
    subst hk
    exact ⟨_, _, h2⟩
theorem FRel.its {gx : Nat} {w5 A C : World} {xs : List Pr} (h : FRel gx w5 xs A) (hg : gx < w5.heap.size) (st : ItS w5.heap.size A C) : FRel gx w5 xs C := by
  obtain ⟨v, h1, h2, h3⟩ := h
  exact ⟨v, (st.block gx (Array.getElem?_eq_some_iff.1 h1).1 (.inl hg)).trans h1, own_stays h2 fun k hk _ hn => st.block k hk (.inr hn), h3.its st⟩
theorem frel_of {gx : Nat} {w5 A W' : World} {v v' : Value} {o : Obj} {xs ys : List Pr} (hg : gx < w5.heap.size) (hgn : ¬ IsNode w5 gx) (hv : A.heap[gx]? = some (boxP v)) (ho : OwnPairs A w5.heap.size v xs) (hout : Outs [gx] w5 A)
    (hgr : (A.alloc o).grownBy W' v.ownBlock) (hn : OwnPairs W' w5.heap.size v' ys) : W'.heap[gx]? = some (boxP v) ∧ FRel gx w5 ys (W'.setCell ⟨gx, 0, none⟩ v') ∧ BodyK (IsNode w5) A (W'.setCell ⟨gx, 0, none⟩ v') := by
  have hlt := ho.lt
  have hgl : gx < A.heap.size := (Array.getElem?_eq_some_iff.1 hv).1
  have hsz := hgr.size
  simp only [World.size_alloc] at hsz
  have r1 : W'.heap[gx]? = some (boxP v) :=
    (hgr.block gx (by simp; omega) (fun e => by have := (hlt gx e.symm).1; omega)).trans ((Below.heap_alloc _ _ _ hgl).trans hv)
  have hb : ∀ k, k < A.heap.size → k ≠ gx → v.ownBlock ≠ some k → (W'.setCell ⟨gx, 0, none⟩ v').heap[k]? = A.heap[k]? := fun k hk h1 h2 =>
    (Below.heap_setCell _ _ _ _ h1).trans ((hgr.block k (by simp; omega) fun e => h2 e.symm).trans (Below.heap_alloc _ _ _ hk))
  refine ⟨r1, ⟨v', heap_setCell_same W' gx 0 _ _ _ r1, own_stays hn fun k hk hk2 _ => Below.heap_setCell _ _ _ _ (by simp; omega), ⟨?_, ?_, ?_, ?_, fun k hk hm => ?_⟩⟩, ⟨?_, fun k hk hc => hb k hk (fun e => ?_) fun e => ?_⟩⟩
  · exact hgr.os.trans hout.os
  · exact hgr.tape.trans hout.tape
  · exact hgr.output.trans hout.output
  · have := hout.size; simp [World.setCell]; omega
  · exact (hb k (Nat.lt_of_lt_of_le hk hout.size) (fun e => hm (by simp [e])) (fun e => by have := (hlt k e).1; omega)).trans (hout.block k hk hm)
  · simp [World.setCell]; omega
  · subst e
    rcases hc with hc | hc
    · exact hgn hc
    · exact hc _ _ _ hv
  · obtain ⟨cs, f, h2⟩ := own_cells ho k e
    rcases hc with hc | hc
    · have := hc.lt; have := (hlt k e).1; omega
    · exact hc _ _ _ h2
/-- What From of a table, or of none, gives. -/
def GivesK (key : ByteArray) (L : List Pr) (w : World) (e : Ending) (w' : World) : Prop := ∃ b1 b2 p M, e = .returned (MS.fromV b1 b2) ∧ w'.heap[b1]? = some (.cells #[p] 27 (0, 0)) ∧ w'.heap[b2]? = some (.cells #[.string key] 9 (0, 0)) ∧ MS.Root w' p M ∧ Mm.from_ M key = Rf.row L ∧ Below w.heap.size w w'

set_option maxRecDepth 100000 in
set_option maxHeartbeats 8000000 in
theorem fromS_any {w : World} {mv : Value} {key : ByteArray} {L : List Pr} (hl : L.length ≤ 1000) (hin : ∀ x ∈ L, PrIn x) (hfrom : ∀ w', Below w.heap.size w w' → Calls Try.prog 41 #[mv, .string key] w' (GivesK key L w')) :
    Calls Try.prog 17 #[mv, .string key] w fun e w' => ∃ v, e = .returned v ∧ MadeP w w' v L := by
  obtain ⟨i00, hi0, hz0, hz1, hz2⟩ := info_parts infoP
  have HI := Lib.hid (And.intro hi0 (And.intro hz0 (And.intro hz1 hz2)))
  refine (callsIn_wide (n := 9)).1 ?_
  refine callsIn_of_wp_marks Try.func17 rfl trivial ?_ rfl
  simp only [Try.ntmps17, List.size_toArray, List.length_cons, List.length_nil, Nat.reduceAdd, Nat.reduceSub, Array.replicate_succ, Array.replicate_zero, List.push_toArray, List.append_toArray, List.nil_append, List.cons_append]
  have hnew := new_row w (boxP (.slice none 0 0))
  have hbw := below_alloc w (boxP (.slice none 0 0))
  obtain ⟨gx, hgx⟩ : ∃ gx, gx = w.heap.size := ⟨_, rfl⟩
  rw [← hgx] at hnew
  have HF := Lib.hid hfrom
  have HL := Lib.hid hl
  have HIN := Lib.hid hin
  have HBW := Lib.hid hbw
  have HNW := Lib.hid hnew
  have hgw : w.heap.size ≤ gx := Nat.le_of_eq hgx.symm
  clear hfrom hl hin hbw hnew hi0 hz0 hz1 hz2
  gi_wp2_with fail
  rw [← hgx]
  refine ⟨trivial, ?_⟩
  refine (callsIn_wide.2 (HF.out _ HBW.out)).mono ?_
  rintro e w5 ⟨b1, b2, p5, M, rfl, r1, r2, r5, hM, hb5⟩
  have hw5 : Below w.heap.size w w5 := HBW.out.trans (hb5.mono HBW.out.size)
  have hg5 : w5.heap[gx]? = some (boxP (.slice none 0 0)) := (hb5.block gx (Array.getElem?_eq_some_iff.1 HNW.out).1).trans HNW.out
  have hgl : gx < w5.heap.size := (Array.getElem?_eq_some_iff.1 hg5).1
  have hgn : ¬ IsNode w5 gx := not_node hg5 (by unfold nodeT; decide)
  have hsq := MS.from_seq 8 r1 r2 r5
  rw [hM] at hsq
  have hen := fun (u : World) => eql_seqS u (.func 58) #[] #[.pointer (some ⟨b1, 0, none⟩), .pointer (some ⟨b2, 0, none⟩)]
  have HW5 := Lib.hid hw5
  have hrl : (Rf.row L).length = L.length := Rf.row_length L
  clear hgx r1 r2 r5 hb5 hw5 hM
  unfold MS.fromV
  gi_wp2_with fail
  clear hen
  apply wpIn_rangeY rfl (by omega) (gf := 58) (lb := #[.pointer (some ⟨b1, 0, none⟩), .pointer (some ⟨b2, 0, none⟩)]) rfl trivial (enters_of Try.func58 (by kernel_rfl) rfl)
    (encs := fun q : ByteArray × Value => #[.string q.1, q.2]) (xs := Rf.row L) (cap := IsNode w5) hsq (fun k hk => hk.lt) (fun _ => rfl)
    (fun i A => FRel gx w5 (L.take i) A)
    (fun _ _ _ => False)
    (fun i C E hs st => hs.its hgl st)
    (fun _ _ _ _ hs _ => hs)
    ⟨_, hg5, OwnPairs.nil _ _, Outs.refl _ _⟩
  case hassign =>
    intro l x W K hK
    gi_wp2
    exact hK
  case hstop =>
    rintro D c i A _ _ h _
    exact h.elim
  case hbody =>
    rintro l i hi A hT ⟨v, hgA, hov, hout⟩
    have hi' : i < L.length := by rw [← hrl]; exact hi
    have hrow : (Rf.row L)[i] = (L[i].1, .string L[i].2) := row_get L i hi hi'
    have htk : L.take (i + 1) = L.take i ++ [L[i]] := List.take_succ_eq_append_getElem hi'
    have hli : (L.take i).length = i := by rw [List.length_take]; omega
    have hlen := HL.out
    have HL1 : Hid ((L.take (i + 1)).length = i + 1) := Lib.hid (by rw [List.length_take]; omega)
    rw [hrow]
    generalize L[i] = q at *
    obtain ⟨k, s⟩ := q
    simp only
    obtain ⟨cg, fg⟩ := cells1 hgA
    have ho2 := hov.below (below_alloc A (.cells #[.string k, .string s] 44))
    have hA0 : w5.heap.size ≤ A.heap.size := hout.size
    have HST := Lib.hid (fun (W' : World) (v' : Value) (hgr : (A.alloc (.cells #[.string k, .string s] 44)).grownBy W' v.ownBlock) (hn : OwnPairs W' w5.heap.size v' (L.take (i + 1))) => frel_of hgl hgn hgA hov hout hgr hn)
    have HAPP : Hid (∀ v' W', OwnPairs W' w5.heap.size v' (L.take (i + 1)) = W'.ownsRow w5.heap.size 44 2 v' (i + 1) (prsCells (L.take i) ++ [.string k, .string s])) := Lib.hid fun v' W' => by
      rw [htk]; unfold OwnPairs; rw [List.length_append, hli, prsCells_append]; rfl
    have ho3 : (A.alloc (.cells #[.string k, .string s] 44)).ownsRow w5.heap.size 44 2 v i (prsCells (L.take i)) := by
      have := ho2; unfold OwnPairs at this; rw [hli] at this; exact this
    have hnt := news_two A (.string k) (.string s) 44
    clear hgA hov hout ho2 htk hrow fg
    gi_wp2_with (first | (gi_at_builtin; refine wpListIn_append_own _ rfl _ _ 30 rfl w5.heap.size 44 i00 (.agg #[.string ⟨#[]⟩, .string ⟨#[]⟩]) 2 32 Try.underlying30 HI.out.1 HI.out.2.1 HI.out.2.2.1 HI.out.2.2.2 rfl (by decide) _ _ _ rfl ho3 ⟨A.heap.size, 0, none⟩ 1 1 [.string k, .string s] rfl rfl hnt (fun u hu => by simp at hu; rcases hu with rfl | rfl <;> rfl) (by unfold maxLen; omega) (by omega) (by simp; omega) ?_; intro v' W' hn hg _; rw [← HAPP.out v' W'] at hn; have hs := HST.out W' v' hg hn; obtain ⟨p', cap', hve, -, -⟩ := OwnPairs.shape hn; rw [HL1.out] at hve; subst hve; obtain ⟨q1, q2⟩ := cells1 hs.1; have q3 := q2 0; have HS := Lib.hid hs.2; clear hs q2) | fail)
    exact ⟨HS.out.2, HS.out.1⟩
  case hdone =>
    rintro D A hD ⟨v, hgA, hov, hout⟩ hK
    rw [hrl, List.take_length] at hov
    obtain ⟨cg, -⟩ := cells1 hgA
    have HP : Hid (MadeP w (A.putObj D (.deferred none)) v L) := Lib.hid (by
      obtain ⟨p', cap', hv, -, -, hp⟩ := (own_stays (C := A.putObj D (.deferred none)) hov fun k hk _ hn => World.putObj_heap_other fun e => hn fun cs T f h => by rw [e, hK] at h; cases h).pairs HIN.out
      refine ⟨p', cap', hv, hp, ⟨hout.os.trans HW5.out.os, hout.tape.trans HW5.out.tape, hout.output.trans HW5.out.output, ?_, fun k hk => ?_⟩⟩
      · have := hout.size; have := HW5.out.size; simp; omega
      · have h1 := HW5.out.size
        refine (World.putObj_heap_other (by omega)).trans ((hout.block k (by omega) fun hm => ?_).trans (HW5.out.block k hk))
        simp only [List.mem_singleton] at hm
        omega)
    have HD := Lib.hid hK
    clear hgA hov hout hK hsq hg5 hgl hgn hD
    gi_wp2_with fail
    refine ⟨by simp, .inl ⟨_, _, rfl, run_takeDeferred HD.out, ?_⟩⟩
    refine ⟨v, ?_, v, rfl, HP.out⟩
    simp [results, Try.results17, go_sem]
end Go.Proofs.Ythioogncbhkaoaa
