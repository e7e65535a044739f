/-
  Walks over package table: Ends. Condition: a right list's table.
-/
import Derived.Test.YtgmaccfhgeocdaaTabGreat
import Derived.Shelf.Abstract
import Derived.Sort.QuietIn
namespace Go.Proofs.Ytgmaccfhgeocdaa
open Go.RowKit Go.Shelf Tb
attribute [local go_sem] Oper.semAt_some

theorem wpIn_calm {F : Fence} {n : Nat} {P : Program} {c : Code} {Q : Exit → Act → World → Prop} {a : Act} {w : World}
    (h : c.wpIn F n P (fun e a' w' => match e with | .normal => Q .normal a' w' | _ => False) a w) : c.wpIn F n P Q a w :=
  wpIn_mono h (fun e a' w' h => by cases e <;> first | exact h | exact h.elim)
/-- What Ends answers. -/
def endsV (l : List En) : Value := .tuple #[.string ((l.head?.map En.key).getD ⟨#[]⟩), .string ((l.getLast?.map En.key).getD ⟨#[]⟩)]
theorem results_ends (tmps : Array Value) (w : World) (g : Nat) (s t : ByteArray) (hp : tmps.getD 3 undef = .pointer (some ⟨g, 0, none⟩)) (hb : tmps.getD 2 undef = .string s) (hc : w.heap[g]? = some (.cells #[.string t] 9 (0, 0))) :
    (results Try.f12 tmps).run Try.prog w = .ok (.tuple #[.string s, .string t]) w := by
  have r0 := (cells1 hc).1
  have hp' : tmps[3]?.getD undef = .pointer (some ⟨g, 0, none⟩) := by simpa using hp
  have hb' : tmps[2]?.getD undef = .string s := by simpa using hb
  simp [results, hp', hb', asAddr, loadVar, r0, go_sem]
theorem leaves_none {F : Fence} {n : Nat} {P : Program} {fn : Func} {tmps : Array Value} {R : Ending → World → Prop} {v : Value} {W : World} (hres : (results fn tmps).run P W = .ok v W) (hR : R (.returned v) W) :
    LeavesInM F n P fn tmps R [] .returning W := ⟨v, hres, hR⟩
theorem leaves_one' {F : Fence} {n : Nat} {P : Program} {fn : Func} {tmps : Array Value} {R : Ending → World → Prop} {v : Value} {D : Nat} {W : World} (hK : W.heap[D]? = some (.deferred (some []))) (hres : (results fn tmps).run P (W.putObj D (.deferred none)) = .ok v (W.putObj D (.deferred none))) (hR : R (.returned v) (W.putObj D (.deferred none))) :
    LeavesInM F n P fn tmps R [{ target := .collected D, args := #[] }] .returning W :=
  ⟨by simp, .inl ⟨_, _, rfl, run_takeDeferred hK, ⟨v, hres, hR⟩⟩⟩

set_option maxRecDepth 100000 in
set_option maxHeartbeats 8000000 in
theorem ends_any {w : World} {a : Nat} {l : List En} (hT : IsTab w a l) :
    Calls Try.prog 12 #[.pointer (some ⟨a, 0, none⟩)] w fun e w' => e = .returned (endsV l) ∧ Below w.heap.size w w' := by
  refine (callsIn_wide (n := 9)).1 ?_
  refine callsIn_of_wp_marks Try.func12 rfl trivial ?_ rfl
  simp only [Try.ntmps12, List.size_toArray, List.length_cons, List.length_nil, Nat.reduceAdd, Nat.reduceSub, Array.replicate_succ, Array.replicate_zero, List.push_toArray, List.append_toArray, List.nil_append, List.cons_append]
  have h0 := (now_start w).alloc (.cells #[.string ⟨#[]⟩] 9)
  have hT1 := hT.below (below_alloc w (.cells #[.string ⟨#[]⟩] 9))
  have HT := Lib.hid hT
  have HT1 := Lib.hid hT1
  have H0 := Lib.hid h0
  have hgk := h0.head
  obtain ⟨cg, fg⟩ := cells1 hgk
  have fg0 := fg 0
  have HGK := Lib.hid hgk
  clear hT hT1 h0 hgk fg
  gi_wp2_with fail
  refine ⟨trivial, ?_⟩
  refine (callsIn_wide.2 (len_any HT1.out)).mono ?_
  rintro e w1 ⟨rfl, rfl⟩
  by_cases hl : l.length = 0
  · obtain rfl := List.eq_nil_of_length_eq_zero hl
    simp only [List.length_nil]
    gi_wp2_with fail
    exact leaves_none (results_ends _ _ w.heap.size ⟨#[]⟩ ⟨#[]⟩ rfl rfl HGK.out) ⟨rfl, below_alloc w _⟩
  · have d0 : ((l.length : Int) == 0) = false := by rw [beq_eq_false_iff_ne]; omega
    obtain ⟨n, hn⟩ : ∃ n, n = (blocks 0 0 l).length := ⟨_, rfl⟩
    have hnl : n = (l.length + 15) / 16 := by rw [hn, blocks_len]
    have hfew := HT.out.2.few
    obtain ⟨p, cap, ht, hc⟩ := HT.out.blk
    obtain ⟨A, rfl, b0, b1⟩ := hc (n - 1) (by omega)
    obtain ⟨A', e0, b2, -⟩ := hc 0 (by omega)
    cases e0
    have h2 := block_at l (n - 1)
    rw [List.getElem?_eq_getElem (by omega), List.getElem?_eq_getElem (by omega)] at h2
    simp only [Option.map_some, Option.some.injEq] at h2
    rw [h2] at b1
    have h3 := block_at l 0
    rw [List.getElem?_eq_getElem (by omega), List.getElem?_eq_getElem (by omega)] at h3
    simp only [Option.map_some, Option.some.injEq] at h3
    rw [h3] at b2
    simp only [Nat.mul_zero, Nat.zero_mul] at b1 b2
    obtain ⟨x0, hx0⟩ : ∃ x0, x0 = l[0]'(by omega) := ⟨_, rfl⟩
    rw [← hx0] at b2
    have HX0 : Hid (l.head? = some x0) := Lib.hid (by rw [hx0, List.head?_eq_getElem?, List.getElem?_eq_getElem])
    have ha : a < w.heap.size := (Array.getElem?_eq_some_iff.1 ht).1
    have hAb : (A.add ((n - 1) * 2)).block < w.heap.size := cell_block b0
    have c1 := (cells3 ht).2.1
    rw [← hn] at c1
    have i0 : (0 : Int) ≤ (n : Int) - 1 := by omega
    have i1 : (n : Int) - 1 < (n : Int) := by omega
    have i2 : ((n : Int) - 1).toNat = n - 1 := by omega
    have i3 : (n : Int) ≤ 257 := by omega
    have i4 : (1 : Int) ≤ (n : Int) := by omega
    have i5 : IntKind.i64.wrap ((n : Int) - 1) = (n : Int) - 1 := IntWalk.i64_in _ (by omega)
    have i6 : 1 ≤ n := by omega
    have i7 : (0 : Int) < (n : Int) := by omega
    have i8 : 0 < n := by omega
    obtain ⟨m0, hm0⟩ : ∃ m0, m0 = 16 * (n - 1) := ⟨_, rfl⟩
    have hml : m0 < l.length := by omega
    have HM := Lib.hid hm0
    rw [← hm0] at b1
    rw [show A.add 0 = A by unfold Addr.add; simp] at b2
    have HB2 := Lib.hid b2
    have HC1 := Lib.hid c1
    have HA0 : Hid (A.block < w.heap.size) := Lib.hid (cell_block b2)
    have HN := Lib.hid hn
    clear hc h2 h3 ht hn hnl b0 hm0 b2 hx0
    have mixed : Try.prog.follows .mixedOrders = true := by kernel_rfl
    gi_wp2_with fail
    refine wpIn_calm ?_
    gi_region_with_o (refine ⟨trivial, ?_⟩; gi_at_call 31; refine (callsIn_wide.2 (behind_any _ _ _)).mono ?_; rintro e w2 ⟨p1, p2, rfl, hp1, hp2, hl1, hl2, hbe⟩)
    all_goals
      dsimp only
      have HB12 := Lib.hid ((below_drew (w.alloc (.cells #[.string ⟨#[]⟩] 9))).trans hbe)
      have hT2 := HT1.out.below HB12.out
      have hgk2 : w2.heap[w.heap.size]? = some (.cells #[.string ⟨#[]⟩] 9 (0, 0)) := (HB12.out.block _ (by simp)).trans HGK.out
      obtain ⟨xs, hx, hxl⟩ := ents_from hT2.2 m0 (by omega)
      have hrs := rows_small hT2.2
      have hom := Nat.le_trans (off_le l m0) hrs
      have hsq := behind1_seq 8 (rows l) (by omega) (off l m0) (by omega) xs hx a p1 p2 w2 hT2.1.rows hp1 hp2
      have q1 : p1 < w2.heap.size := (Array.getElem?_eq_some_iff.1 hp1).1
      have q2 : p2 < w2.heap.size := (Array.getElem?_eq_some_iff.1 hp2).1
      have q4 : w.heap.size < w2.heap.size := (Array.getElem?_eq_some_iff.1 hgk2).1
      have q5 : a < w2.heap.size := hT2.1.cells.2.1
      have hn1 : p1 ≠ w.heap.size := by simp at hl1; omega
      have hn2 : p2 ≠ w.heap.size := by simp at hl1; omega
      have hna : a ≠ w.heap.size := by omega
      have HXL := Lib.hid hxl
      have HT2 := Lib.hid hT2
      have HGK2 := Lib.hid hgk2
      clear hxl hx hT2 hgk2 hp1 hp2 hbe hl1 cg fg0 c1 b1 i0 i1 i2 i3 i4 i5 i7 i8 d0
      gi_wp2_with fail
      apply wpIn_rangeZ rfl (by omega) (gf := 42) (lb := #[.pointer (some ⟨p1, 0, none⟩), .pointer (some ⟨p2, 0, none⟩)]) rfl trivial (enters_of Try.func42 (by kernel_rfl) rfl)
        (encs := fun x : En × Nat => #[.agg #[.string x.1.key, .string x.1.value, .bool x.1.gone]]) (xs := xs) (cap := fun k => k = p1 ∨ k = p2 ∨ k = a) hsq (fun k hk => by rcases hk with rfl | rfl | rfl <;> assumption) (fun _ => rfl)
        (fun S i A => Outs [w.heap.size] w2 A ∧ (∀ k, S k → w2.heap.size ≤ k) ∧ A.heap[w.heap.size]? = some (.cells #[.string (((xs.take i).getLast?.map fun x => x.1.key).getD ⟨#[]⟩)] 9 (0, 0)))
        (fun _ _ _ _ => False)
        (fun S S' i A C hs st => by
          obtain ⟨r1, r2, r4⟩ := hs
          have hz := r1.size
          exact ⟨r1.steps st r2, fun k hk => (st.new k hk).elim (r2 k) fun e => by omega, (st.block _ (by omega) fun e => by have := r2 _ e; omega).trans r4⟩)
        (fun _ _ _ _ _ _ hs _ => hs)
        ⟨Outs.refl _ _, fun k hk => hk.elim, HGK2.out⟩
        (w₁ := fun x A => A.alloc (.cells #[.string x.1.key, .string x.1.value, .bool x.1.gone] 31)) (hw₁ := fun x A => below_alloc A _)
      case hassign =>
        intro l x W K hK
        gi_wp2
        exact hK
      case hstop =>
        rintro D S cd i A hD hSD hS hi h hK
        exact h.elim
      case hbody =>
        rintro l1 S i hi A0 A hz0 hSA hzA hnew ⟨ho, hS2, hgA⟩
        have hbx : A.heap[A0.heap.size]? = some (entO xs[i].1) := (hnew _ (Nat.le_refl _)).trans (heap_alloc_new A0 _)
        obtain ⟨d0, d1, d2⟩ := cells3 hbx
        obtain ⟨cg, fg⟩ := cells1 hgA
        have fg0 := fg 0
        have HTK : Hid ((((xs.take (i + 1)).getLast?.map fun x => x.1.key).getD ⟨#[]⟩) = xs[i].1.key) := Lib.hid (by rw [List.take_succ_eq_append_getElem hi, List.getLast?_concat]; rfl)
        have HGA := Lib.hid hgA
        have HO := Lib.hid ho
        have HS2 := Lib.hid hS2
        have HSA := Lib.hid hSA
        clear hbx fg hgA ho hS2 hSA hnew hzA
        obtain ⟨x, hx⟩ : ∃ x, x = xs[i].1 := ⟨_, rfl⟩
        rw [← hx] at d0 d1 d2 HTK ⊢
        clear hx
        gi_wp2_with fail
        refine ⟨BodyZ.setCell _ (by intro h; rcases h with h | h | h <;> simp only at h <;> omega) (fun h => by have := HSA.out _ h; simp only at this; omega), HO.out.set (by simp) 0 _, HS2.out, ?_⟩
        rw [HTK.out]; exact heap_setCell_same A w.heap.size 0 _ _ _ HGA.out
      case hdone =>
        rintro D S A hD hSD hS ⟨ho, hS2, hgA⟩ hK
        rw [List.take_length] at hgA
        have hbA : Below w.heap.size w A := Outs.upon ((below_alloc w _).trans (HB12.out.mono (by simp))) ho (Nat.le_refl _)
        have HLAST : Hid (((xs.getLast?.map fun x => x.1.key).getD ⟨#[]⟩) = ((l.getLast?.map En.key).getD ⟨#[]⟩)) := Lib.hid (by
          have e : l.getLast? = (xs.map Prod.fst).getLast? := by
            rw [HXL.out, List.getLast?_drop, if_neg (by omega)]
          rw [e, List.getLast?_map]
          cases xs.getLast? <;> rfl)
        obtain ⟨y, hy⟩ : ∃ y, y = ((xs.getLast?.map fun x => x.1.key).getD ⟨#[]⟩) := ⟨_, rfl⟩
        rw [← hy] at hgA HLAST
        have c1 := (hbA.cell (p := ⟨a, 1, none⟩) (show a < w.heap.size by omega)).trans HC1.out
        have b2 := (hbA.cell (p := _) HA0.out).trans HB2.out
        obtain ⟨cg, fg⟩ := cells1 hgA
        have fg0 := fg 0
        have hne : ¬ a = w.heap.size := hna
        have HBA := Lib.hid hbA
        have HGA := Lib.hid hgA
        have HKK := Lib.hid hK
        have i7 : (0 : Int) < (n : Int) := by omega
        have i8 : 0 < n := by omega
        clear hy fg hbA hgA hK ho hS2 hsq
        gi_wp2_with fail
        refine wpIn_calm ?_
        gi_region_with_o (fail)
        all_goals
          dsimp only
          gi_wp2_with fail
          have hDg : D ≠ w.heap.size := by omega
          have hK' : ((A.setCell ⟨w.heap.size, 0, none⟩ (.string y)).drew).heap[D]? = some (.deferred (some [])) := (Below.heap_setCell _ _ _ _ hDg).trans HKK.out
          have hg' : (((A.setCell ⟨w.heap.size, 0, none⟩ (.string y)).drew).putObj D (.deferred none)).heap[w.heap.size]? = some (.cells #[.string y] 9 (0, 0)) :=
            (World.putObj_heap_other (Ne.symm hDg)).trans (heap_setCell_same A w.heap.size 0 _ _ (.string y) HGA.out)
          exact leaves_one' (fn := Try.f12) hK' (results_ends _ _ w.heap.size x0.key y rfl rfl hg') ⟨by unfold endsV; rw [HX0.out, ← HLAST.out]; rfl, below_putObjZ ((HBA.out.setCell (Nat.le_refl _) _).drew) (by omega) _⟩
end Go.Proofs.Ytgmaccfhgeocdaa
