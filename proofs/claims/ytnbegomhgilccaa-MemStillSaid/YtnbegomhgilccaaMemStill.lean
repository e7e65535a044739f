/-
  Walks over the laws of package mem: MemStill. No condition.
-/
import Derived.Test.YtnbegomhgilccaaMemFloors
import Derived.Test.YtnbegomhgilccaaMemOwn
import Derived.Maps.AppendAt
namespace Go.Proofs.Ytnbegomhgilccaa
open Go.RowKit MI
attribute [local go_sem] Oper.semAt_some

theorem results_still (tmps : Array Value) (w : World) (g : Nat) (v : Value) (hp : tmps.getD 4 undef = .pointer (some ⟨g, 0, none⟩)) (hc : w.cell? ⟨g, 0, none⟩ = some v) :
    (results Try.f7 tmps).run Try.prog w = .ok v w := by
  have hp' : tmps[4]?.getD undef = .pointer (some ⟨g, 0, none⟩) := by simpa using hp
  simp [results, hp', asAddr, loadVar, hc, go_sem]

/-- A round's append: what it leaves. -/
theorem own_step {w7 A W' : World} {gk : Nat} {v v' : Value} {o : Obj} {ss ss' : List ByteArray} (ho : Outs [gk] w7 A) (hgl : gk < w7.heap.size) (hgn : ¬ IsNode w7 gk) (hgk : A.heap[gk]? = some (.cells #[v] 67 (0, 0))) (hov : OwnTexts A w7.heap.size v ss)
    (hg : (A.alloc o).grownBy W' v.ownBlock) (hn : OwnTexts W' w7.heap.size v' ss') :
    W'.heap[gk]? = some (.cells #[v] 67 (0, 0)) ∧ Outs [gk] w7 (W'.setCell ⟨gk, 0, none⟩ v') ∧ (W'.setCell ⟨gk, 0, none⟩ v').heap[gk]? = some (.cells #[v'] 67 (0, 0)) ∧ OwnTexts (W'.setCell ⟨gk, 0, none⟩ v') w7.heap.size v' ss' ∧
      BodyK (IsNode w7) A (W'.setCell ⟨gk, 0, none⟩ v') := by
  have hlt := hov.lt
  have hA := ho.size
  have r1 : W'.heap[gk]? = some (.cells #[v] 67 (0, 0)) :=
    (hg.block gk (by simp; omega) (fun e => by have := (hlt gk e.symm).1; omega)).trans ((Below.heap_alloc _ _ _ (by omega)).trans hgk)
  have r2 : Outs [gk] w7 W' := grown_outs (ho.below (below_alloc A o)) hg fun k hk => (hlt k hk).1
  have b1 : BodyK (IsNode w7) A W' := (BodyK.of_below (below_alloc A o)).trans (grown_bodyK hg fun k hk => ⟨fun h => by have := (hlt k hk).1; have := h.lt; omega, fun h => by
    obtain ⟨cs, f, hc⟩ := hov.cells k hk
    exact h _ _ _ ((Below.heap_alloc _ _ _ (hlt k hk).2).trans hc)⟩)
  refine ⟨r1, r2.set (by simp) 0 _, heap_setCell_same W' gk 0 _ _ _ r1, hn.stays fun k hk hk2 _ => Below.heap_setCell _ _ _ _ (by simp; omega), b1.trans (BodyK.setCell _ r1 hgn)⟩
theorem own_only {w0 A C : World} {a T : Nat} {L : Mm.Row} {R : List (Value × Mm.Row)} {B : List (Nat × Obj)} {v : Value} {ss : List ByteArray} (h : OwnTexts A T v ss) (hm : Mem w0 A a L R B) (ho : Only a A C) : OwnTexts C T v ss := by
  obtain ⟨p, h1, -⟩ := hm
  have hr := h1.head
  refine ⟨h.1, ?_⟩
  rcases h.2 with hn | ⟨g, cap, cur, rfl, q1, q2, q3⟩
  · exact .inl hn
  · refine .inr ⟨g, cap, cur, rfl, q1, (ho.block g (Array.getElem?_eq_some_iff.1 q2).1 fun e => ?_).trans q2, q3⟩
    subst e
    rw [hr] at q2
    unfold memO at q2
    injection q2 with q2
    injection q2 with _ q4
    exact absurd q4 (by decide)
theorem own_box {A : World} {b T : Nat} {x v : Value} {ss : List ByteArray} (h : OwnTexts A T v ss) (hb : A.heap[b]? = some (.cells #[x] 3 (0, 0))) (y : Value) : OwnTexts (A.setCell ⟨b, 0, none⟩ y) T v ss := by
  refine ⟨h.1, ?_⟩
  rcases h.2 with hn | ⟨g, cap, cur, rfl, q1, q2, q3⟩
  · exact .inl hn
  · refine .inr ⟨g, cap, cur, rfl, q1, (Below.heap_setCell _ _ _ _ fun e => ?_).trans q2, q3⟩
    subst e
    rw [hb] at q2
    injection q2 with q2
    injection q2 with _ q4
    exact absurd q4 (by decide)
theorem ptrM_not : ¬ nodeT 54 := by unfold nodeT; decide
theorem strs_not : ¬ nodeT 67 := by unfold nodeT; decide
theorem from_sorted {L : Mm.Row} (h : Mm.Sorted L) (k : ByteArray) : Mm.Sorted (Mm.from_ L k) := h.filter _

set_option maxRecDepth 100000 in
set_option maxHeartbeats 32000000 in
theorem memStill_any (p : Option Addr) (cap : Nat) (ss : List ByteArray) (key : ByteArray) (w : World) (hl : TextsAt w p ss) (hkm : key.size ≤ maxLen) :
    Calls Try.prog 7 #[.slice p ss.length cap, .string key] w fun e w' => e = .returned (.bool true) ∧ Below w.heap.size w w' := by
  unfold maxLen at hkm
  refine (callsIn_wide (n := 9)).1 ?_
  refine callsIn_of_wp_marks Try.func7 rfl trivial ?_ rfl
  simp only [Try.ntmps7, List.size_toArray, List.length_cons, List.length_nil, Nat.reduceAdd, Nat.reduceSub, Array.replicate_succ, Array.replicate_zero, List.push_toArray, List.append_toArray, List.nil_append, List.cons_append]
  have h0 := ((now_start w).alloc (.cells #[.string key] 9)).alloc (.cells #[.bool false] 4)
  obtain ⟨bk, hbk⟩ : ∃ bk, bk = w.heap.size := ⟨_, rfl⟩
  have hz : (w.alloc (.cells #[.string key] 9)).heap.size = bk + 1 := by rw [hbk]; simp
  rw [hz, ← hbk] at h0
  clear hz
  gi_wp2_with fail
  refine ⟨trivial, ?_⟩
  refine (callsIn_wide.2 (memAwake_any _)).mono ?_
  rintro e w1 ⟨rfl, hb1⟩
  have h1 := h0.same hb1
  rw [← hbk]
  obtain ⟨cr, fr⟩ := cells1 h1.head
  have fr0 := fr 0
  obtain ⟨ck, -⟩ := cells1 h1.tail.head
  have hT1 : TextsAt w1 p ss := hl.below h1.below
  have H1 := Lib.hid h1
  have HEnd := Lib.hid (h1.set (.bool true))
  clear h0 h1 hb1 hbk fr
  gi_wp2_with fail
  gi_loop [5, 6] (fun n i => ∃ k : Nat, k ≤ ss.length ∧ k ≤ 301 ∧ n = .int .i64 (lensTo 30001 (ss.take k) : Nat) ∧ i = .int .i64 (k : Nat)) (fun _ i => match i with | .int _ n => 301 - n.toNat | _ => 0)
  case atStart => exact ⟨0, by omega, by omega, rfl, rfl⟩
  case round =>
    obtain ⟨k, hk, hk41, rfl, rfl⟩ := hrel
    have hlk := lensTo_le 30001 (ss.take k)
    have hlk2 : (ss.take k).length ≤ k := by simp; omega
    have hlk3 : lensTo 30001 (ss.take k) ≤ 10000000 := by
      have := Nat.mul_le_mul_right 30001 (Nat.le_trans hlk2 hk41); omega
    by_cases hlt : k < ss.length ∧ k ≤ 300
    · obtain ⟨a, rfl, hab, hca⟩ := hT1 k hlt.1
      have hst := lensTo_take 30001 ss k hlt.1
      have i0 : (k : Int) < (ss.length : Int) := by omega
      have i1 : (k : Int) ≤ 300 := by omega
      have i2 : (0 : Int) ≤ (k : Int) := by omega
      have i3 : ((lensTo 30001 (ss.take k) : Nat) : Int) ≤ 10000000 := by omega
      have HST := Lib.hid hst
      clear hst
      generalize ss[k] = t at *
      gi_wp2_with fail
      refine ⟨⟨k + 1, by omega, by omega, by rw [HST.out]; congr 1; omega, by simp⟩, ?_⟩
      simp; omega
    · by_cases hA : k < ss.length
      · have i0 : (k : Int) < (ss.length : Int) := by omega
        have i1 : ¬ (k : Int) ≤ 300 := by omega
        have i2 : (300 : Int) < (ss.length : Int) := by omega
        gi_wp2_with fail
        exact leaves_box w (bk + 1) 4 (fun W hc => results_still _ W _ _ rfl hc) [] _ (HEnd.out.sub (by simp)) (fun W' hb => ⟨rfl, hb⟩)
      · obtain rfl : k = ss.length := by omega
        have i0 : ¬ (ss.length : Int) < (ss.length : Int) := by omega
        rw [List.take_length] at hlk hlk3 ⊢
        by_cases hB : 300 < ss.length
        · have i2 : (300 : Int) < (ss.length : Int) := by omega
          gi_wp2_with fail
          exact leaves_box w (bk + 1) 4 (fun W hc => results_still _ W _ _ rfl hc) [] _ (HEnd.out.sub (by simp)) (fun W' hb => ⟨rfl, hb⟩)
        · have i2 : ¬ (300 : Int) < (ss.length : Int) := by omega
          by_cases hC : 30000 < lensTo 30001 ss
          · have i3 : (30000 : Int) < (lensTo 30001 ss : Int) := by omega
            gi_wp2_with fail
            exact leaves_box w (bk + 1) 4 (fun W hc => results_still _ W _ _ rfl hc) [] _ (HEnd.out.sub (by simp)) (fun W' hb => ⟨rfl, hb⟩)
          · have i3 : ¬ (30000 : Int) < (lensTo 30001 ss : Int) := by omega
            by_cases hD : 30000 < key.size
            · have i4 : (30000 : Int) < (key.size : Int) := by omega
              gi_wp2_with fail
              exact leaves_box w (bk + 1) 4 (fun W hc => results_still _ W _ _ rfl hc) [] _ (HEnd.out.sub (by simp)) (fun W' hb => ⟨rfl, hb⟩)
            · have i4 : ¬ (30000 : Int) < (key.size : Int) := by omega
              have hle := lensTo_each (m := 30001) (n := 30000) (by omega) ss (by omega)
              have HLE := Lib.hid hle
              have HL := Lib.hid hl
              have HLN : Hid (ss.length ≤ 300) := Lib.hid (by omega)
              have HKS : Hid (key.size ≤ 281474976710656) := Lib.hid (by omega)
              clear hle hT1 hl
              gi_wp2_with fail
              refine ⟨trivial, ?_⟩
              refine (callsIn_wide.2 (table_any H1.out p cap ss HL.out HLN.out 30000 HLE.out (by omega))).mono ?_
              rintro e w2 ⟨a, L, rfl, h2, hfew⟩
              have HF := Lib.hid (hfew.more HLN.out)
              have h3 := h2.alloc (.cells #[.pointer (some ⟨a, 0, none⟩)] 54)
              obtain ⟨bm, hbm⟩ : ∃ bm, bm = w2.heap.size := ⟨_, rfl⟩
              rw [← hbm] at h3
              obtain ⟨cm, -⟩ := cells1 (h3.box (q := (bm, .cells #[.pointer (some ⟨a, 0, none⟩)] 54 (0, 0))) List.mem_cons_self)
              clear h2 hfew ck cr fr0 i0 i2 i3 i4 hB hC hD hlk hlk2 hlk3 hk hk41 hlt hA
              gi_wp2_with fail
              rw [← hbm]
              refine ⟨trivial, ?_⟩
              refine (callsIn_wide.2 (twin_m h3)).mono ?_
              rintro e w3 ⟨b, pT, rfl, h4, -⟩
              clear h3 cm hbm
              have h5 := h4.alloc (.cells #[.pointer (some ⟨b, 0, none⟩)] 54)
              obtain ⟨bt, hbt⟩ : ∃ bt, bt = w3.heap.size := ⟨_, rfl⟩
              rw [← hbt] at h5
              have h6 := h5
              obtain ⟨cm, -⟩ := cells1 (h6.box (q := (bm, .cells #[.pointer (some ⟨a, 0, none⟩)] 54 (0, 0))) (by simp))
              obtain ⟨ck, -⟩ := cells1 (h6.box (q := (bk, .cells #[.string key] 9 (0, 0))) (by simp))
              clear h4 h5
              gi_wp2_with fail
              rw [← hbt]
              refine ⟨trivial, ?_⟩
              refine (callsIn_wide.2 (from_m h6 key HKS.out)).mono ?_
              rintro e w5 ⟨b1, b2, p1, rfl, h7, -⟩
              clear h6 cm ck hbt
              have h8 := h7.alloc (.cells #[.slice none 0 0] 67)
              obtain ⟨gk, hgk⟩ : ∃ gk, gk = w5.heap.size := ⟨_, rfl⟩
              rw [← hgk] at h8
              obtain ⟨pa, h9⟩ := ((h8.fewer (R' := [(pT, L), (p1, L)]) (by simp)).perm (List.perm_middle (l₁ := [(gk, .cells #[.slice none 0 0] 67 (0, 0)), (b1, .cells #[p1] 95 (0, 0)), (b2, .cells #[.string key] 9 (0, 0)), (bt, .cells #[.pointer (some ⟨b, 0, none⟩)] 54 (0, 0))]) (a := (b, memO pT))
                (l₂ := [(bm, .cells #[.pointer (some ⟨a, 0, none⟩)] 54 (0, 0)), (bk + 1, .cells #[.bool false] 4 (0, 0)), (bk, .cells #[.string key] 9 (0, 0))]))).other
              obtain ⟨ct, -⟩ := cells1 (h9.box (q := (bt, .cells #[.pointer (some ⟨b, 0, none⟩)] 54 (0, 0))) (by simp))
              obtain ⟨ck, -⟩ := cells1 (h9.box (q := (bk, .cells #[.string key] 9 (0, 0))) (by simp))
              clear h7 h8
              gi_wp2_with fail
              rw [← hgk]
              refine ⟨trivial, ?_⟩
              refine (callsIn_wide.2 (from_m h9 key HKS.out)).mono ?_
              rintro e w7 ⟨b3, b4, p2, rfl, h10, -⟩
              clear h9 ct ck hgk
              have hen := fun (u : World) => eql_seq u (.func 62) #[] #[.pointer (some ⟨b3, 0, none⟩), .pointer (some ⟨b4, 0, none⟩)]
              unfold fromV
              gi_wp2_with fail
              clear hen
              obtain ⟨M, hM⟩ : ∃ M, M = Mm.from_ L key := ⟨_, rfl⟩
              have hsq := h10.seq (p := p2) (L := L) (b1 := b3) (b2 := b4) (key := key) (by simp) (by simp) (by simp) 8
              rw [← hM] at hsq
              have HM : Hid (∀ i (h : i < M.length), Mm.get L M[i].1 = some M[i].2 ∧ (∃ x : Int, M[i].2 = .int .i64 x) ∧ Mm.lt M[i].1 key = false ∧ M[i].1.size ≤ 30000) := Lib.hid fun i hi => by
                have hm1 : ∀ q ∈ M, q ∈ Mm.from_ L key := fun q hq => by rw [← hM]; exact hq
                have hm2 := Mm.mem_from.1 (hm1 _ (List.getElem_mem hi))
                exact ⟨h10.sorted.get hm2.1, (h10.good _ hm2.1).2, hm2.2, HF.out.2 _ hm2.1⟩
              have HML : Hid (M.length ≤ 300) := Lib.hid (by rw [hM]; exact Nat.le_trans (List.length_filter_le _ _) HF.out.1)
              have HMF := Lib.hid hM
              clear hM
              have hgkb : w7.heap[gk]? = some (.cells #[.slice none 0 0] 67 (0, 0)) := h10.box (q := (gk, .cells #[.slice none 0 0] 67 (0, 0))) (by simp)
              have hgl : gk < w7.heap.size := (Array.getElem?_eq_some_iff.1 hgkb).1
              have hgn : ¬ IsNode w7 gk := not_node hgkb strs_not
              have H10 := Lib.hid (((h10.fewer (R' := [(pa, L), (p1, L)]) (by simp)).sub ((List.sublist_cons_self _ _).trans (List.sublist_cons_self _ _))).perm (B' := [(gk, .cells #[.slice none 0 0] 67 (0, 0))] ++ [(a, memO pa), (b1, .cells #[p1] 95 (0, 0)), (b2, .cells #[.string key] 9 (0, 0)),
                (bt, .cells #[.pointer (some ⟨b, 0, none⟩)] 54 (0, 0)), (bm, .cells #[.pointer (some ⟨a, 0, none⟩)] 54 (0, 0)), (bk + 1, .cells #[.bool false] 4 (0, 0)), (bk, .cells #[.string key] 9 (0, 0))]) (List.Perm.swap _ _ _))
              clear h10
              have HMEM : Hid (∀ A v, Outs [gk] w7 A → A.heap[gk]? = some (.cells #[v] 67 (0, 0)) → Mem w A b L [(pa, L), (p1, L)] ([(gk, .cells #[v] 67 (0, 0))] ++ [(a, memO pa), (b1, .cells #[p1] 95 (0, 0)), (b2, .cells #[.string key] 9 (0, 0)),
                (bt, .cells #[.pointer (some ⟨b, 0, none⟩)] 54 (0, 0)), (bm, .cells #[.pointer (some ⟨a, 0, none⟩)] 54 (0, 0)), (bk + 1, .cells #[.bool false] 4 (0, 0)), (bk, .cells #[.string key] 9 (0, 0))])) := Lib.hid fun A v ho hv =>
                H10.out.outs ho rfl (fun q hq => by rw [List.mem_singleton.1 hq]; exact hv) (fun g hg => by simp at hg; rw [hg]; exact hgn)
              obtain ⟨i00, hi0, hz0, hz1, hz2⟩ := info_parts infoS
              have HI := Lib.hid (And.intro hi0 (And.intro hz0 (And.intro hz1 hz2)))
              clear hi0 hz0 hz1 hz2
              apply wpIn_rangeY rfl (by omega) (gf := 62) (lb := #[.pointer (some ⟨b3, 0, none⟩), .pointer (some ⟨b4, 0, none⟩)]) rfl trivial (enters_of Try.func62 (by kernel_rfl) rfl)
                (encs := fun q : ByteArray × Value => #[.string q.1, q.2]) (xs := M) (cap := IsNode w7) hsq (fun k hk => hk.lt) (fun _ => rfl)
                (fun i A => Outs [gk] w7 A ∧ ∃ v, A.heap[gk]? = some (.cells #[v] 67 (0, 0)) ∧ OwnTexts A w7.heap.size v ((M.take i).map Prod.fst))
                (fun _ _ _ => False)
                (fun i A C hs st => ⟨hs.1.its st, hs.2.elim fun v hv => ⟨v, (st.block gk (by have := hs.1.size; omega) (.inl hgl)).trans hv.1, hv.2.its st⟩⟩)
                (fun _ _ _ _ hs _ => hs)
                ⟨Outs.refl _ _, _, hgkb, OwnTexts.nil _ _⟩
              case hassign =>
                intro l x W K hK
                gi_wp2
                exact hK
              case hstop =>
                rintro D c i A _ _ h _
                exact h.elim
              case hbody =>
                rintro l i hi A hT ⟨ho, v, hgA, hov⟩
                obtain ⟨hget, ⟨x, hx⟩, hlow, hsz⟩ := HM.out i hi
                obtain ⟨T1, hT1⟩ : ∃ T1, T1 = (M.take (i + 1)).map Prod.fst := ⟨_, rfl⟩
                have happ : ∀ v' W', OwnTexts W' w7.heap.size v' T1 = W'.ownsRow w7.heap.size 9 1 v' (((M.take i).map Prod.fst).length + 1) (((M.take i).map Prod.fst).map Value.string ++ [.string M[i].1]) := fun v' W' => by
                  rw [hT1, List.take_succ_eq_append_getElem hi, List.map_append]; unfold OwnTexts; rw [List.length_append, List.map_append]; rfl
                have HT1 := Lib.hid hT1
                clear hT1
                have hli : ((M.take i).map Prod.fst).length = i := by rw [List.length_map, List.length_take]; omega
                have hml := HML.out
                have ho2 := World.ownsRow.alloc hov (.cells #[.string M[i].1] 9)
                have HST := Lib.hid (fun (W' : World) (v' : Value) (ss' : List ByteArray) (hg : (A.alloc (.cells #[.string M[i].1] 9)).grownBy W' v.ownBlock) (hn : OwnTexts W' w7.heap.size v' ss') => own_step ho hgl hgn hgA hov hg hn)
                obtain ⟨cgk, -⟩ := cells1 hgA
                have hAz := ho.size
                have HAPP := Lib.hid happ
                have HLI := Lib.hid hli
                have HO := Lib.hid ho
                have hll : ((M.take i).map Prod.fst).length ≤ 300 := by omega
                clear happ hli ho
                generalize M[i] = q at *
                obtain ⟨k, vv⟩ := q
                obtain rfl : vv = .int .i64 x := hx
                have d1 : Op.bytesLess k.toList key.toList = false := hlow
                clear hlow
                gi_wp2_with (first | (gi_at_builtin; refine wpListIn_append_own _ rfl _ _ 67 rfl w7.heap.size 9 i00 (.string ⟨#[]⟩) 1 16 Try.underlying67 HI.out.1 HI.out.2.1 HI.out.2.2.1 HI.out.2.2.2 rfl (by decide) _ _ _ rfl ho2 ⟨A.heap.size, 0, none⟩ 1 1 [.string k] rfl rfl (cell_one_new _ _ _) (fun u hu => by simp at hu; subst hu; rfl) (by unfold maxLen; omega) (by omega) (by simp; omega) ?_; intro v' W' hn hg _; rw [← HAPP.out v' W'] at hn; have hs := HST.out W' v' _ hg hn; obtain ⟨p', cap', hve, -, -, -⟩ := OwnTexts.texts hn; subst hve; obtain ⟨q1, q2⟩ := cells1 hs.1; have q3 := q2 0; have hm2 := HMEM.out _ _ hs.2.1 hs.2.2.1; have ct := (cells1 (hm2.box (q := (bt, .cells #[.pointer (some ⟨b, 0, none⟩)] 54 (0, 0))) (by simp))).1; have HS2 := Lib.hid hs; have HM2 := Lib.hid hm2; clear hs hm2 q2) | fail)
                first | refine ⟨trivial, fun _ => by omega, ?_⟩ | refine ⟨trivial, ?_⟩
                refine (CallsIn.inRound l (callsIn_wide.2 (get_m HM2.out k hget))).mono ?_
                rintro e A3 ⟨rfl, hm3, hb3⟩
                obtain ⟨ck, -⟩ := cells1 (hm3.box (q := (bk, .cells #[.string key] 9 (0, 0))) (by simp))
                have HB3 := Lib.hid hb3
                clear hb3 hm3 ct q1 q3 cgk hn hg
                gi_wp2_with fail
                exact ⟨HS2.out.2.2.2.2.trans (.of_below HB3.out), HS2.out.2.1.below HB3.out, _, (HB3.out.block gk (Array.getElem?_eq_some_iff.1 HS2.out.2.2.1).1).trans HS2.out.2.2.1, by rw [← HT1.out]; exact HS2.out.2.2.2.1.below HB3.out⟩
              case hdone =>
                rintro D A hD ⟨ho, v, hgA, hov⟩ hK
                rw [List.take_length] at hov
                obtain ⟨pk, ck', hve, -, -, -⟩ := hov.texts
                obtain ⟨N, hN⟩ : ∃ N, N = (M.map Prod.fst).length := ⟨_, rfl⟩
                rw [← hN] at hve
                subst hve
                have HN : Hid (N = M.length) := Lib.hid (by rw [hN, List.length_map])
                have h11 := H10.out.ranged (G' := [(gk, .cells #[.slice pk N ck'] 67 (0, 0))]) ho rfl (fun q hq => by rw [List.mem_singleton.1 hq]; exact hgA) (fun g hg => by simp at hg; rw [hg]; exact hgn) hD hK
                have h12 := h11.alloc (.cells #[.int .i64 0] 3)
                have hov12 := hov.below (below_alloc A (.cells #[.int .i64 0] 3))
                obtain ⟨gi, hgi⟩ : ∃ gi, gi = A.heap.size := ⟨_, rfl⟩
                rw [← hgi] at h12
                clear h11 hov hgA hK ho hsq hgkb hgl hgn hN
                gi_wp2_with fail
                rw [← hgi]
                obtain ⟨W8, hW8⟩ : ∃ W8, A.alloc (.cells #[.int .i64 0] 3) = W8 := ⟨_, rfl⟩
                rw [hW8] at h12 hov12 ⊢
                clear hgi hW8 hD
                have hsq := h12.seq (p := p1) (L := L) (b1 := b1) (b2 := b2) (key := key) (by simp) (by simp) (by simp) 8
                rw [← HMF.out] at hsq
                obtain ⟨pB, h13⟩ := (h12.perm (List.perm_middle (l₁ := [(gi, .cells #[.int .i64 0] 3 (0, 0)), (D, MarkO), (gk, .cells #[.slice pk N ck'] 67 (0, 0))]) (a := (a, memO pa)))).other
                have h14 := (h13.fewer (R' := [(pB, L)]) (by simp)).sub (B' := (b, memO pB) :: (gi, .cells #[.int .i64 ((0 : Nat) : Int)] 3 (0, 0)) :: [(D, MarkO), (gk, .cells #[.slice pk N ck'] 67 (0, 0)), (bt, .cells #[.pointer (some ⟨b, 0, none⟩)] 54 (0, 0)), (bm, .cells #[.pointer (some ⟨a, 0, none⟩)] 54 (0, 0)), (bk + 1, .cells #[.bool false] 4 (0, 0))]) (by simp)
                obtain ⟨rest, hrest⟩ : ∃ rest : List (Nat × Obj), rest = [(D, MarkO), (gk, .cells #[.slice pk N ck'] 67 (0, 0)), (bt, .cells #[.pointer (some ⟨b, 0, none⟩)] 54 (0, 0)), (bm, .cells #[.pointer (some ⟨a, 0, none⟩)] 54 (0, 0)), (bk + 1, .cells #[.bool false] 4 (0, 0))] := ⟨_, rfl⟩
                rw [← hrest] at h14
                have hlb : b < W8.heap.size := h14.lt (q := (b, memO pB)) (by simp)
                have hlg : gi < W8.heap.size := h14.lt (q := (gi, .cells #[.int .i64 ((0 : Nat) : Int)] 3 (0, 0))) (by simp)
                have hlr : ∀ q ∈ rest, q.1 < W8.heap.size := fun q hq => h14.lt (by simp [hq])
                have hla := h14.alt
                have hl0 := h14.below.size
                have hna : ¬ IsNode W8 a := h14.aNot
                have hng : ¬ IsNode W8 gi := h14.notNode (b := gi) (cs := #[.int .i64 ((0 : Nat) : Int)]) (T := 3) (by simp) int_not
                have HR := Lib.hid hrest
                clear h12 h13 hrest
                apply wpIn_rangeY rfl (by omega) (gf := 62) (lb := #[.pointer (some ⟨b1, 0, none⟩), .pointer (some ⟨b2, 0, none⟩)]) rfl trivial (enters_of Try.func62 (by kernel_rfl) rfl)
                  (encs := fun q : ByteArray × Value => #[.string q.1, q.2]) (xs := M) (cap := IsNode W8) hsq (fun k hk => hk.lt) (fun _ => rfl)
                  (fun i C => ∃ La pB, Mem w C a La [(pB, L)] ((b, memO pB) :: (gi, .cells #[.int .i64 (i : Int)] 3 (0, 0)) :: rest) ∧ Few La (300 + 2 * i) 40000 ∧ OwnTexts C w7.heap.size (.slice pk N ck') (M.map Prod.fst))
                  (fun _ _ _ => False)
                  (fun i C E hs st => by
                    obtain ⟨La, pB, q1, q2, q3⟩ := hs
                    exact ⟨La, pB, q1.its st hl0 hla (fun q hq => by
                      rcases List.mem_cons.1 hq with rfl | hq
                      · exact hlb
                      · rcases List.mem_cons.1 hq with rfl | hq
                        · exact hlg
                        · exact hlr q hq), q2, q3.its st⟩)
                  (fun _ _ _ _ hs _ => hs)
                  ⟨L, pB, h14, ⟨HF.out.1, fun q hq => Nat.le_trans (HF.out.2 q hq) (by omega)⟩, hov12⟩
                case hassign =>
                  intro l x W K hK
                  gi_wp2
                  exact hK
                case hstop =>
                  rintro D c i A _ _ h _
                  exact h.elim
                case hbody =>
                  rintro l i hi A ho' ⟨La, pB0, hm, hfew, hov⟩
                  obtain ⟨hget, ⟨x, hx⟩, -, hsz⟩ := HM.out i hi
                  have hml := HML.out
                  obtain ⟨p', cap', e', -, -, ht⟩ := hov.texts
                  simp only [Value.slice.injEq] at e'
                  obtain ⟨e1, -, -⟩ := e'
                  subst e1
                  obtain ⟨A0, e0, -, hcA0⟩ := ht i (by rw [List.length_map]; exact hi)
                  subst e0
                  rw [List.getElem_map] at hcA0
                  have hNm := HN.out
                  have i0 : (i : Int) < (N : Int) := by omega
                  have i1 : (0 : Int) ≤ (i : Int) := by omega
                  have i2 : (i : Int) ≤ 300 := by omega
                  have i3 : (N : Int) ≤ 300 := by omega
                  have i4 : (0 : Int) ≤ (N : Int) := by omega
                  have hi300 : i < 300 := by omega
                  have HIM := Lib.hid hi
                  generalize M[i] = q at *
                  obtain ⟨k, vv⟩ := q
                  obtain rfl : vv = .int .i64 x := hx
                  simp only at hget hsz hcA0
                  have HR2 : ∀ (C : World) (La' : Mm.Row) (pB' : Value) (y : Value), Mem w C a La' [(pB', L)] ((b, memO pB') :: (gi, .cells #[y] 3 (0, 0)) :: rest) → C.cell? ⟨gi, 0, none⟩ = some y ∧ C.cell? ⟨gk, 0, none⟩ = some (.slice (some A0) N ck') ∧ C.cell? ⟨bt, 0, none⟩ = some (.pointer (some ⟨b, 0, none⟩)) ∧ C.cell? ⟨bm, 0, none⟩ = some (.pointer (some ⟨a, 0, none⟩)) := fun C La' pB' y h => by
                    rw [HR.out] at h
                    exact ⟨(cells1 (h.box (q := (gi, .cells #[y] 3 (0, 0))) (by simp))).1, (cells1 (h.box (q := (gk, .cells #[.slice (some A0) N ck'] 67 (0, 0))) (by simp))).1, (cells1 (h.box (q := (bt, .cells #[.pointer (some ⟨b, 0, none⟩)] 54 (0, 0))) (by simp))).1, (cells1 (h.box (q := (bm, .cells #[.pointer (some ⟨a, 0, none⟩)] 54 (0, 0))) (by simp))).1⟩
                  have HCELL := Lib.hid HR2
                  clear HR2
                  obtain ⟨cg, cgk, ct, cm⟩ := HCELL.out _ _ _ _ hm
                  obtain ⟨pa1, hmb⟩ := hm.other
                  have HFW := Lib.hid hfew
                  have HOV := Lib.hid hov
                  have HM0 := Lib.hid hm
                  clear hfew hov hm ht
                  gi_wp2_with fail
                  first | refine ⟨trivial, fun _ => by omega, ?_⟩ | refine ⟨trivial, ?_⟩
                  refine (CallsIn.inRound l (callsIn_wide.2 (get_m hmb k hget))).mono ?_
                  rintro e A3 ⟨rfl, hmb3, hb3⟩
                  obtain ⟨pB3, hm3⟩ := hmb3.other
                  have HOV3 := Lib.hid (HOV.out.below hb3)
                  have HK3 := Lib.hid (BodyK.of_below (cap := IsNode W8) hb3)
                  clear cg cgk ct cm hmb hmb3 hb3 hcA0
                  obtain ⟨cg, cgk, ct, cm⟩ := HCELL.out _ _ _ _ hm3
                  gi_wp2_with fail
                  first | refine ⟨trivial, fun _ => by omega, ?_⟩ | refine ⟨trivial, ?_⟩
                  refine (CallsIn.inRound l (callsIn_wide.2 (set_m hm3 k (by omega) (by have := HFW.out.1; omega) (-1) rfl))).mono ?_
                  rintro e A4 ⟨rfl, hm4, -, ho4⟩
                  have HF4 := Lib.hid (HFW.out.put (k := k) (by omega) (.int .i64 (-1)))
                  have HOV4 := Lib.hid (own_only HOV3.out hm3 ho4)
                  have HK4 := Lib.hid (HK3.out.trans (bodyK_only hm3 ho4 hna))
                  clear cg cgk ct cm ho4 hm3
                  obtain ⟨cg, cgk, ct, cm⟩ := HCELL.out _ _ _ _ hm4
                  generalize Mm.put La k (.int .i64 (-1)) = L4 at *
                  generalize (Mm.get La k).isSome = bo at *
                  have hadd := fun u => run_string_add_sum (P := Try.prog) u k ⟨#[120]⟩ (by show k.size + 1 ≤ _; omega)
                  have hkx : (k ++ (⟨#[120]⟩ : ByteArray)).size ≤ 30001 := by rw [ByteArray.size_append]; show k.size + 1 ≤ _; omega
                  gi_wp2_with fail
                  first | refine ⟨trivial, fun _ => by omega, ?_⟩ | refine ⟨trivial, ?_⟩
                  refine (CallsIn.inRound l (callsIn_wide.2 (set_m hm4 (k ++ ⟨#[120]⟩) (by omega) (by have := HF4.out.1; omega) (-2) rfl))).mono ?_
                  rintro e A5 ⟨rfl, hm5, -, ho5⟩
                  have HF5 := Lib.hid (HF4.out.put (k := k ++ ⟨#[120]⟩) (by omega) (.int .i64 (-2)))
                  have HOV5 := Lib.hid (own_only HOV4.out hm4 ho5)
                  have HK5 := Lib.hid (HK4.out.trans (bodyK_only hm4 ho5 hna))
                  clear cg cgk ct cm ho5 hm4 hadd hkx
                  obtain ⟨cg, cgk, ct, cm⟩ := HCELL.out _ _ _ _ hm5
                  generalize Mm.put L4 (k ++ ⟨#[120]⟩) (.int .i64 (-2)) = L5 at *
                  generalize (Mm.get L4 (k ++ ⟨#[120]⟩)).isSome = bo2 at *
                  gi_wp2_with fail
                  first | refine ⟨trivial, fun _ => by omega, ?_⟩ | refine ⟨trivial, ?_⟩
                  refine (CallsIn.inRound l (callsIn_wide.2 (delete_m hm5 k (by have := HF5.out.1; omega) rfl))).mono ?_
                  rintro e A6 ⟨rfl, hm6, -, ho6⟩
                  have HF6 := Lib.hid ((HF5.out.del k).more (n' := 300 + 2 * (i + 1)) (by omega))
                  have HOV6 := Lib.hid (own_only HOV5.out hm5 ho6)
                  have HK6 := Lib.hid (HK5.out.trans (bodyK_only hm5 ho6 hna))
                  clear cg cgk ct cm ho6 hm5
                  generalize Mm.del L5 k = L6 at *
                  generalize (Mm.get L5 k).isSome = bo3 at *
                  have hgr : A6.heap[gi]? = some (.cells #[.int .i64 (i : Int)] 3 (0, 0)) := hm6.box (q := (gi, .cells #[.int .i64 (i : Int)] 3 (0, 0))) (by simp)
                  obtain ⟨cg, fg⟩ := cells1 hgr
                  have fg0 := fg 0
                  have hm7 := ((hm6.perm (List.Perm.swap _ _ _)).set (b := gi) (x := .int .i64 (i : Int)) (T := 3) int_not (.int .i64 ((i : Int) + 1))).perm (List.Perm.swap _ _ _)
                  have HOV7 := Lib.hid (own_box HOV6.out hgr (.int .i64 ((i : Int) + 1)))
                  have HK7 := Lib.hid (HK6.out.trans (BodyK.setCell (p := ⟨gi, 0, none⟩) (.int .i64 ((i : Int) + 1)) hgr hng))
                  obtain ⟨cg7, cgk, ct, cm⟩ := HCELL.out _ _ _ _ hm7
                  have HM7 := Lib.hid hm7
                  clear fg hgr hm6 hm7
                  by_cases hE : i + 1 = N / 2
                  · have d2 : (((i : Int) + 1) == (N : Int) / 2) = true := by rw [beq_iff_eq]; omega
                    clear hE
                    gi_wp2_with fail
                    first | refine ⟨trivial, fun _ => by omega, ?_⟩ | refine ⟨trivial, ?_⟩
                    refine (CallsIn.inRound l (callsIn_wide.2 (clear_m HM7.out))).mono ?_
                    rintro e A8 ⟨rfl, hm8, -, ho8⟩
                    have HOV8 := Lib.hid (own_only HOV7.out HM7.out ho8)
                    have HK8 := Lib.hid (HK7.out.trans (bodyK_only HM7.out ho8 hna))
                    have HM8 := Lib.hid hm8
                    clear cg cg7 cgk ct cm fg0 hm8 ho8
                    gi_wp2_with fail
                    exact ⟨HK8.out, [], _, HM8.out, ⟨Nat.zero_le _, fun _ h => nomatch h⟩, HOV8.out⟩
                  · have d2 : (((i : Int) + 1) == (N : Int) / 2) = false := by rw [beq_eq_false_iff_ne]; omega
                    clear hE
                    gi_wp2_with fail
                    exact ⟨HK7.out, L6, _, HM7.out, HF6.out, HOV7.out⟩
                case hdone =>
                  rintro D2 A2 hD2 ⟨La, pB2, h15, -, -⟩ hK
                  have hE : Hid (M.length = N) := Lib.hid HN.out.symm
                  have h16 := h15.mark hK (by omega) (by omega) (fun q hq => by
                    rcases List.mem_cons.1 hq with rfl | hq
                    · show b ≠ D2; omega
                    · rcases List.mem_cons.1 hq with rfl | hq
                      · show gi ≠ D2; omega
                      · have := hlr q hq; omega)
                  rw [HR.out, hE.out] at h16
                  have cg := (cells1 (h16.box (q := (gi, .cells #[.int .i64 (N : Int)] 3 (0, 0))) (by simp))).1
                  have ck := (cells1 (h16.box (q := (gk, .cells #[.slice pk N ck'] 67 (0, 0))) (by simp))).1
                  obtain ⟨cr, fr⟩ := cells1 (h16.box (q := (bk + 1, .cells #[.bool false] 4 (0, 0))) (by simp))
                  have fr0 := fr 0
                  have HE := Lib.hid (((h16.now.sub (B' := [(D2, MarkO), (D, MarkO), (bk + 1, .cells #[.bool false] 4 (0, 0))]) (by simp)).perm (B' := (bk + 1, .cells #[.bool false] 4 (0, 0)) :: [(D2, MarkO), (D, MarkO)]) (List.perm_middle (l₁ := [(D2, MarkO), (D, MarkO)]))).set (.bool true))
                  clear h15 h16 hK hE fr hlb hlg hlr hla hl0 hna hng
                  gi_wp2_with fail
                  exact leaves_box w (bk + 1) 4 (fun W hc => results_still _ W _ _ rfl hc) [D2, D] _ (HE.out.perm (List.perm_middle (l₁ := [(D2, MarkO), (D, MarkO)])).symm) (fun W' hb => ⟨rfl, hb⟩)
end Go.Proofs.Ytnbegomhgilccaa
