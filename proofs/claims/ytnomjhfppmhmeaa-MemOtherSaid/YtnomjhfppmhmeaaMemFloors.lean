/-
  Walks over the laws of package mem: MemFloors. No condition.
-/
import Derived.Test.YtnomjhfppmhmeaaMemAwake
import Derived.Test.YtnomjhfppmhmeaaMemTable
namespace Go.Proofs.Ytnomjhfppmhmeaa
open Go.RowKit MI
attribute [local go_sem] Oper.semAt_some

theorem floor_take {L : Mm.Row} {key : ByteArray} {i : Nat} (h : i < L.length) : Mm.floor (L.take (i + 1)) key = if Mm.lt key L[i].1 = true then Mm.floor (L.take i) key else some L[i] := by
  unfold Mm.floor Mm.upTo
  rw [List.take_succ_eq_append_getElem h, List.filter_append]
  split
  · rename_i e
    rw [List.filter_cons_of_neg (by simp [e])]; simp
  · rename_i e
    rw [List.filter_cons_of_pos (by simpa using e)]; simp
def wantK (o : Option (ByteArray × Value)) : ByteArray := (o.map (·.1)).getD ⟨#[]⟩
def wantB (o : Option (ByteArray × Value)) : Bool := o.isSome
theorem leq_eqs {a b : ByteArray} : (Mm.lt b a = true → (Op.bytesLess a.toList b.toList || a.toList == b.toList) = false) ∧ (¬ Mm.lt b a = true → (Op.bytesLess a.toList b.toList || a.toList == b.toList) = true) := by
  refine ⟨fun h => ?_, fun h => ?_⟩
  · obtain ⟨-, h2, -, h4⟩ := lt_eqs.1 h
    rw [h2, h4]; rfl
  · by_cases e : a = b
    · rw [e]; simp
    · rcases Mm.lt_total e with h' | h'
      · unfold Mm.lt at h'; rw [h']; rfl
      · exact absurd h' h

set_option maxRecDepth 100000 in
set_option maxHeartbeats 16000000 in
theorem memFloors_any (p : Option Addr) (cap : Nat) (ss : List ByteArray) (key : ByteArray) (w : World) (hl : TextsAt w p ss) (hkm : key.size ≤ maxLen) :
    Calls Try.prog 9 #[.slice p ss.length cap, .string key] w fun e w' => e = .returned (.bool true) ∧ Below w.heap.size w w' := by
  unfold maxLen at hkm
  refine (callsIn_wide (n := 9)).1 ?_
  refine callsIn_of_wp_marks Try.func9 rfl trivial ?_ rfl
  simp only [Try.ntmps9, List.size_toArray, List.length_cons, List.length_nil, Nat.reduceAdd, Nat.reduceSub, Array.replicate_succ, Array.replicate_zero, List.push_toArray, List.append_toArray, List.nil_append, List.cons_append]
  have h0 := (now_start w).alloc (.cells #[.string key] 9)
  obtain ⟨bk, hbk⟩ : ∃ bk, bk = w.heap.size := ⟨_, rfl⟩
  gi_wp2_with fail
  refine ⟨trivial, ?_⟩
  refine (callsIn_wide.2 (memAwake_any _)).mono ?_
  rintro e w1 ⟨rfl, hb1⟩
  have h1 := h0.same hb1
  rw [← hbk] at h1 ⊢
  obtain ⟨ck, -⟩ := cells1 h1.head
  have hT1 : TextsAt w1 p ss := hl.below h1.below
  have H1 := Lib.hid h1
  clear h0 h1 hb1 hbk
  gi_wp2_with fail
  gi_loop [5, 6] (fun n i => ∃ k : Nat, k ≤ ss.length ∧ k ≤ 301 ∧ n = .int .i64 (lensTo 30001 (ss.take k) : Nat) ∧ i = .int .i64 (k : Nat)) (fun _ i => match i with | .int _ n => 301 - n.toNat | _ => 0)
  case atStart => exact ⟨0, by omega, by omega, rfl, rfl⟩
  case round =>
    obtain ⟨k, hk, hk41, rfl, rfl⟩ := hrel
    have hlk := lensTo_le 30001 (ss.take k)
    have hlk2 : (ss.take k).length ≤ k := by simp; omega
    have hlk3 : lensTo 30001 (ss.take k) ≤ 10000000 := by
      have := Nat.mul_le_mul_right 30001 (Nat.le_trans hlk2 hk41); omega
    by_cases hlt : k < ss.length ∧ k ≤ 300
    · obtain ⟨a, rfl, hab, hca⟩ := hT1 k hlt.1
      have hst := lensTo_take 30001 ss k hlt.1
      have i0 : (k : Int) < (ss.length : Int) := by omega
      have i1 : (k : Int) ≤ 300 := by omega
      have i2 : (0 : Int) ≤ (k : Int) := by omega
      have i3 : ((lensTo 30001 (ss.take k) : Nat) : Int) ≤ 10000000 := by omega
      have HST := Lib.hid hst
      clear hst
      generalize ss[k] = t at *
      gi_wp2_with fail
      refine ⟨⟨k + 1, by omega, by omega, by rw [HST.out]; congr 1; omega, by simp⟩, ?_⟩
      simp; omega
    · by_cases hA : k < ss.length
      · have i0 : (k : Int) < (ss.length : Int) := by omega
        have i1 : ¬ (k : Int) ≤ 300 := by omega
        have i2 : (300 : Int) < (ss.length : Int) := by omega
        gi_wp2_with fail
        exact leaves_now w (fun W => results_tmp rfl _ _ _) [] w1 (H1.out.sub (List.nil_sublist _)) (fun W' hb => ⟨rfl, hb⟩)
      · obtain rfl : k = ss.length := by omega
        have i0 : ¬ (ss.length : Int) < (ss.length : Int) := by omega
        rw [List.take_length] at hlk hlk3 ⊢
        by_cases hB : 300 < ss.length
        · have i2 : (300 : Int) < (ss.length : Int) := by omega
          gi_wp2_with fail
          exact leaves_now w (fun W => results_tmp rfl _ _ _) [] w1 (H1.out.sub (List.nil_sublist _)) (fun W' hb => ⟨rfl, hb⟩)
        · have i2 : ¬ (300 : Int) < (ss.length : Int) := by omega
          by_cases hC : 30000 < lensTo 30001 ss
          · have i3 : (30000 : Int) < (lensTo 30001 ss : Int) := by omega
            gi_wp2_with fail
            exact leaves_now w (fun W => results_tmp rfl _ _ _) [] w1 (H1.out.sub (List.nil_sublist _)) (fun W' hb => ⟨rfl, hb⟩)
          · have i3 : ¬ (30000 : Int) < (lensTo 30001 ss : Int) := by omega
            by_cases hD : 30000 < key.size
            · have i4 : (30000 : Int) < (key.size : Int) := by omega
              gi_wp2_with fail
              exact leaves_now w (fun W => results_tmp rfl _ _ _) [] w1 (H1.out.sub (List.nil_sublist _)) (fun W' hb => ⟨rfl, hb⟩)
            · have i4 : ¬ (30000 : Int) < (key.size : Int) := by omega
              have hle := lensTo_each (m := 30001) (n := 30000) (by omega) ss (by omega)
              have HLE := Lib.hid hle
              have HL := Lib.hid hl
              clear hle hT1 hl
              gi_wp2_with fail
              refine ⟨trivial, ?_⟩
              refine (callsIn_wide.2 (table_any H1.out p cap ss HL.out (by omega) 30000 HLE.out (by omega))).mono ?_
              rintro e w2 ⟨a, L, rfl, h2, hfew⟩
              have HF := Lib.hid hfew
              obtain ⟨ck2, -⟩ := cells1 (h2.box (q := (bk, .cells #[.string key] 9 (0, 0))) List.mem_cons_self)
              have h3 := (h2.alloc (.cells #[.string ⟨#[]⟩] 9)).alloc (.cells #[.bool false] 4)
              obtain ⟨gs, hgs⟩ : ∃ gs, gs = w2.heap.size := ⟨_, rfl⟩
              have hz3 : (w2.alloc (.cells #[.string ⟨#[]⟩] 9)).heap.size = gs + 1 := by rw [hgs]; simp
              rw [hz3, ← hgs] at h3
              clear hz3 h2 hfew ck i0 i2 i3 i4 hB hC hD hlk hlk2 hlk3 hk hk41 hlt hA
              gi_wp2_with fail
              refine ⟨trivial, ?_⟩
              refine (callsIn_wide.2 (from_m h3 ⟨#[]⟩ (by decide))).mono ?_
              rintro e w4 ⟨b1, b2, p2, rfl, h4, -⟩
              rw [← hgs]
              clear h3 ck2 hgs
              have hen := fun (u : World) => eql_seq u (.func 54) #[] #[.pointer (some ⟨b1, 0, none⟩), .pointer (some ⟨b2, 0, none⟩)]
              unfold fromV
              gi_wp2_with fail
              clear hen
              have hsq := h4.seq (p := p2) (L := L) (b1 := b1) (b2 := b2) (key := ⟨#[]⟩) (by simp) (by simp) (by simp) 8
              rw [Mm.from_empty] at hsq
              have hgb1 : w4.heap[gs + 1]? = some (.cells #[.bool false] 4 (0, 0)) := h4.box (q := (gs + 1, .cells #[.bool false] 4 (0, 0))) (by simp)
              have hgb2 : w4.heap[gs]? = some (.cells #[.string ⟨#[]⟩] 9 (0, 0)) := h4.box (q := (gs, .cells #[.string ⟨#[]⟩] 9 (0, 0))) (by simp)
              have hbk4 : w4.heap[bk]? = some (.cells #[.string key] 9 (0, 0)) := h4.box (q := (bk, .cells #[.string key] 9 (0, 0))) (by simp)
              have hl1 : gs + 1 < w4.heap.size := (Array.getElem?_eq_some_iff.1 hgb1).1
              have hl3 : bk < w4.heap.size := (Array.getElem?_eq_some_iff.1 hbk4).1
              have hn1 : ¬ IsNode w4 (gs + 1) := not_node hgb1 bool_not
              have hn2 : ¬ IsNode w4 gs := not_node hgb2 string_not
              have hkb : bk ∉ [gs + 1, gs] := by
                intro hm
                have hap := h4.now.apart
                simp only [List.map_cons, List.nodup_cons, List.mem_cons, not_or] at hap
                simp only [List.mem_cons, List.not_mem_nil, or_false] at hm
                rcases hm with e | e
                · exact hap.2.2.1.2.1 e.symm
                · exact hap.2.2.2.1.1 e.symm
              have hsame : ∀ A, Outs [gs + 1, gs] w4 A → A.heap[bk]? = some (.cells #[.string key] 9 (0, 0)) := fun A ho => (ho.block bk hl3 hkb).trans hbk4
              have HSM := Lib.hid hsame
              have H4 := Lib.hid (h4.sub (B' := [(gs + 1, .cells #[.bool false] 4 (0, 0)), (gs, .cells #[.string ⟨#[]⟩] 9 (0, 0)), (bk, .cells #[.string key] 9 (0, 0))]) (by simp))
              clear h4 hbk4 hl3 hkb hsame
              apply wpIn_rangeY rfl (by omega) (gf := 54) (lb := #[.pointer (some ⟨b1, 0, none⟩), .pointer (some ⟨b2, 0, none⟩)]) rfl trivial (enters_of Try.func54 (by kernel_rfl) rfl)
                (encs := fun q : ByteArray × Value => #[.string q.1, q.2]) (xs := L) (cap := IsNode w4) hsq (fun k hk => hk.lt) (fun _ => rfl)
                (fun i A => Outs [gs + 1, gs] w4 A ∧ A.heap[gs]? = some (.cells #[.string (wantK (Mm.floor (L.take i) key))] 9 (0, 0)) ∧ A.heap[gs + 1]? = some (.cells #[.bool (wantB (Mm.floor (L.take i) key))] 4 (0, 0)))
                (fun _ _ _ => False)
                (fun i A C hs st => ⟨hs.1.its st, (st.block gs (by have := hs.1.size; omega) (.inl (by omega))).trans hs.2.1, (st.block (gs + 1) (by have := hs.1.size; omega) (.inl hl1)).trans hs.2.2⟩)
                (fun _ _ _ _ hs _ => hs)
                ⟨Outs.refl _ _, hgb2, hgb1⟩
              case hassign =>
                intro l x W K hK
                gi_wp2
                exact hK
              case hbody =>
                rintro l i hi A hT ⟨ho, hg2, hg1⟩
                obtain ⟨c2, f2⟩ := cells1 hg2
                obtain ⟨c1, f1⟩ := cells1 hg1
                obtain ⟨ck, -⟩ := cells1 (HSM.out A ho)
                have f1' := f1 0
                have f2' := f2 0
                have hft := floor_take (key := key) hi
                by_cases hlt : Mm.lt key L[i].1 = true
                · rw [if_pos hlt] at hft
                  have d1 := leq_eqs.1 hlt
                  have HFT := Lib.hid hft
                  clear hft hlt f1 f2
                  generalize L[i] = q at *
                  gi_wp2_with fail
                  exact ⟨BodyK.refl _ _, ho, by rw [HFT.out]; exact hg2, by rw [HFT.out]; exact hg1⟩
                · rw [if_neg hlt] at hft
                  have d1 := leq_eqs.2 hlt
                  have HFT := Lib.hid hft
                  clear hft hlt f1 f2
                  generalize L[i] = q at *
                  have hb1 : BodyK (IsNode w4) A (A.setCell ⟨gs, 0, none⟩ (.string q.1)) := BodyK.setCell _ hg2 hn2
                  have hg1' : (A.setCell ⟨gs, 0, none⟩ (.string q.1)).heap[gs + 1]? = some (.cells #[.bool (wantB (Mm.floor (L.take i) key))] 4 (0, 0)) := (Below.heap_setCell _ _ _ _ (by simp)).trans hg1
                  have hb2 : BodyK (IsNode w4) (A.setCell ⟨gs, 0, none⟩ (.string q.1)) ((A.setCell ⟨gs, 0, none⟩ (.string q.1)).setCell ⟨gs + 1, 0, none⟩ (.bool true)) := BodyK.setCell _ hg1' hn1
                  have HB := Lib.hid (hb1.trans hb2)
                  have HG1 := Lib.hid hg1'
                  clear hb1 hb2 hg1'
                  gi_wp2_with fail
                  refine ⟨HB.out, (ho.set (by simp) 0 _).set (by simp) 0 _, ?_, ?_⟩
                  · rw [HFT.out]; exact (Below.heap_setCell _ _ _ _ (by simp)).trans (heap_setCell_same A gs 0 _ _ _ hg2)
                  · rw [HFT.out]; exact heap_setCell_same _ (gs + 1) 0 _ _ _ HG1.out
              case hstop =>
                rintro D c i A _ _ h _
                exact h.elim
              case hdone =>
                rintro D A hD ⟨ho, hg2, hg1⟩ hK
                rw [List.take_length] at hg2 hg1
                have h5 := H4.out.ranged (G := [(gs + 1, .cells #[.bool false] 4 (0, 0)), (gs, .cells #[.string ⟨#[]⟩] 9 (0, 0))])
                  (G' := [(gs + 1, .cells #[.bool (wantB (Mm.floor L key))] 4 (0, 0)), (gs, .cells #[.string (wantK (Mm.floor L key))] 9 (0, 0))]) (B := [(bk, .cells #[.string key] 9 (0, 0))]) ho rfl
                  (fun q hq => by
                    simp only [List.mem_cons, List.not_mem_nil, or_false] at hq
                    rcases hq with rfl | rfl
                    · exact hg1
                    · exact hg2) (fun b hb => by
                    simp only [List.map_cons, List.map_nil, List.mem_cons, List.not_mem_nil, or_false] at hb
                    rcases hb with rfl | rfl
                    · exact hn1
                    · exact hn2) hD hK
                obtain ⟨ck, -⟩ := cells1 (HSM.out A ho)
                have HS := Lib.hid h5.sorted
                clear hgb1 hgb2 hl1 hn1 hn2 ho hK hsq hg1 hg2
                gi_wp2_with fail
                refine ⟨trivial, ?_⟩
                refine (callsIn_wide.2 (floor_m h5 key rfl)).mono ?_
                rintro e w6 ⟨rfl, h6, -⟩
                have hq1 : w6.heap[gs + 1]? = some (.cells #[.bool (wantB (Mm.floor L key))] 4 (0, 0)) := h6.box (q := (gs + 1, .cells #[.bool (wantB (Mm.floor L key))] 4 (0, 0))) (by simp)
                have hq2 : w6.heap[gs]? = some (.cells #[.string (wantK (Mm.floor L key))] 9 (0, 0)) := h6.box (q := (gs, .cells #[.string (wantK (Mm.floor L key))] 9 (0, 0))) (by simp)
                have hq3 : w6.heap[bk]? = some (.cells #[.string key] 9 (0, 0)) := h6.box (q := (bk, .cells #[.string key] 9 (0, 0))) (by simp)
                obtain ⟨c1, -⟩ := cells1 hq1
                obtain ⟨c2, -⟩ := cells1 hq2
                obtain ⟨c3, -⟩ := cells1 hq3
                clear hq1 hq2 hq3 h5 ck
                have hfg := Mm.floor_get HS.out (k := key)
                cases hfl : Mm.floor L key with
                | none =>
                  rw [hfl] at hfg c1 c2
                  have e0 : Mm.get L ⟨#[]⟩ = Mm.get L ⟨#[]⟩ := rfl
                  simp only [wantB, wantK, Option.isSome_none, Option.map_none, Option.getD_none] at c1 c2
                  unfold floorV
                  clear hfl e0
                  have HG := Lib.hid hfg
                  clear hfg
                  gi_wp2_with fail
                  refine ⟨trivial, ?_⟩
                  refine (callsIn_wide.2 (get_m h6 key HG.out)).mono ?_
                  rintro e w7 ⟨rfl, h7, hb7⟩
                  have c4 := cell_below c3 hb7
                  clear h6 c1 c2 c3 hb7
                  gi_wp2_with fail
                  refine ⟨trivial, ?_⟩
                  refine (callsIn_wide.2 (get_m h7 ⟨#[]⟩ rfl)).mono ?_
                  rintro e w8 ⟨rfl, h8, hb8⟩
                  have HN := Lib.hid (h8.now.sub (B' := [(D, MarkO)]) (by simp))
                  have c5 := cell_below c4 hb8
                  clear h7 h8 hb8 c4
                  generalize (Mm.get L ⟨#[]⟩).getD (.int .i64 0) = gv at *
                  generalize (Mm.get L ⟨#[]⟩).isSome = gb at *
                  gi_wp2_with fail
                  exact leaves_now w (fun W => results_tmp rfl _ _ _) [D] w8 HN.out (fun W' hb => ⟨rfl, hb⟩)
                | some q =>
                  obtain ⟨k, v⟩ := q
                  obtain ⟨m1, m2, m3⟩ := Mm.floor_some HS.out hfl
                  have hgk := HS.out.get m1
                  obtain ⟨-, x, hx⟩ := h6.good _ m1
                  simp only at hx hgk
                  subst hx
                  rw [hfl] at hfg c1 c2
                  simp only [wantB, wantK, Option.isSome_some, Option.map_some, Option.getD_some] at c1 c2 hfg
                  unfold floorV
                  have HK := Lib.hid hgk
                  clear hfl m1 m2 m3 hgk
                  by_cases e : k = key
                  · subst e
                    rw [if_pos rfl] at hfg
                    have HG := Lib.hid hfg
                    clear hfg
                    gi_wp2_with fail
                    refine ⟨trivial, ?_⟩
                    refine (callsIn_wide.2 (get_m h6 k HG.out)).mono ?_
                    rintro e w7 ⟨rfl, h7, hb7⟩
                    have c4 := cell_below c3 hb7
                    clear h6 c1 c2 c3 hb7
                    gi_wp2_with fail
                    refine ⟨trivial, ?_⟩
                    refine (callsIn_wide.2 (get_m h7 k HK.out)).mono ?_
                    rintro e w8 ⟨rfl, h8, hb8⟩
                    have HN := Lib.hid (h8.now.sub (B' := [(D, MarkO)]) (by simp))
                    have c5 := cell_below c4 hb8
                    clear h7 h8 hb8 c4
                    gi_wp2_with fail
                    exact leaves_now w (fun W => results_tmp rfl _ _ _) [D] w8 HN.out (fun W' hb => ⟨rfl, hb⟩)
                  · rw [if_neg e] at hfg
                    have HG := Lib.hid hfg
                    clear hfg e
                    gi_wp2_with fail
                    refine ⟨trivial, ?_⟩
                    refine (callsIn_wide.2 (get_m h6 key HG.out)).mono ?_
                    rintro e w7 ⟨rfl, h7, hb7⟩
                    have c4 := cell_below c3 hb7
                    clear h6 c1 c2 c3 hb7
                    gi_wp2_with fail
                    refine ⟨trivial, ?_⟩
                    refine (callsIn_wide.2 (get_m h7 k HK.out)).mono ?_
                    rintro e w8 ⟨rfl, h8, hb8⟩
                    have HN := Lib.hid (h8.now.sub (B' := [(D, MarkO)]) (by simp))
                    have c5 := cell_below c4 hb8
                    clear h7 h8 hb8 c4
                    gi_wp2_with fail
                    exact leaves_now w (fun W => results_tmp rfl _ _ _) [D] w8 HN.out (fun W' hb => ⟨rfl, hb⟩)
end Go.Proofs.Ytnomjhfppmhmeaa
