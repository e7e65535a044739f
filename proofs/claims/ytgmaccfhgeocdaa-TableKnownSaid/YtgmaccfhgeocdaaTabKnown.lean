/-
  Walks over the laws of package table: TableKnown. No condition.
-/
import Derived.Test.YtgmaccfhgeocdaaTabNil
import Derived.Test.YtgmaccfhgeocdaaNulls
namespace Go.Proofs.Ytgmaccfhgeocdaa
open Go.RowKit Go.Shelf Tb
attribute [local go_sem] Oper.semAt_some

theorem eql_seqK (w : World) (fn : Fn) (cs bs : Array Value) : (binOp .eql 35 (.func fn cs bs) .nilFunc).run Try.prog w = .ok (.bool false) w := by
  have h : ∀ d : Nat, (Op.equalIn (d + 1) 35 (.func fn cs bs) .nilFunc).run Try.prog w = .ok false w := fun d => by
    simp [Op.equalIn, run_underlying Try.underlying35]
  simp only [binOp]
  simp [Op.equal, Op.maxDepth, h 9999]
theorem results_known (tmps : Array Value) (w : World) (g : Nat) (v : Value) (hp : tmps.getD 0 undef = .pointer (some ⟨g, 0, none⟩)) (hc : w.cell? ⟨g, 0, none⟩ = some v) :
    (results Try.f3 tmps).run Try.prog w = .ok v w := by
  have hp' : tmps[0]?.getD undef = .pointer (some ⟨g, 0, none⟩) := by simpa using hp
  simp [results, hp', asAddr, loadVar, hc, go_sem]
def LBA : List En := [⟨⟨#[98]⟩, ⟨#[]⟩, false⟩, ⟨⟨#[97]⟩, ⟨#[]⟩, false⟩]
def LAA : List En := [⟨⟨#[97]⟩, ⟨#[]⟩, false⟩, ⟨⟨#[97]⟩, ⟨#[]⟩, false⟩]
def LNO : List En := [⟨⟨#[]⟩, ⟨#[]⟩, false⟩]
def LGX : List En := [⟨⟨#[98]⟩, ⟨#[120]⟩, true⟩]
def LBIG (s : ByteArray) : List En := [⟨s, ⟨#[]⟩, false⟩]
theorem bars_of {l : List En} (h1 : Fits l) (h2 : ¬ (Rises l ∧ ∀ e ∈ l, WholeE e)) : bars l = 1 := by unfold bars; rw [if_pos h1, if_neg h2]
theorem fits_ba : Fits LBA := ⟨by decide, by
  intro e he
  simp only [LBA, List.mem_cons, List.not_mem_nil, or_false] at he
  rcases he with rfl | rfl <;> exact ⟨by decide, by decide⟩, by decide⟩
theorem fits_aa : Fits LAA := ⟨by decide, by
  intro e he
  simp only [LAA, List.mem_cons, List.not_mem_nil, or_false] at he
  rcases he with rfl | rfl <;> exact ⟨by decide, by decide⟩, by decide⟩
theorem fits_no : Fits LNO := ⟨by decide, by
  intro e he
  simp only [LNO, List.mem_cons, List.not_mem_nil, or_false] at he
  rcases he with rfl; exact ⟨by decide, by decide⟩, by decide⟩
theorem fits_gx : Fits LGX := ⟨by decide, by
  intro e he
  simp only [LGX, List.mem_cons, List.not_mem_nil, or_false] at he
  rcases he with rfl; exact ⟨by decide, by decide⟩, by decide⟩
theorem bars_ba : bars LBA = 1 := bars_of fits_ba fun h => by
  have h2 := h.1 1 (by decide) (by decide)
  have h3 : Mm.lt (⟨#[98]⟩ : ByteArray) ⟨#[97]⟩ = false := by decide +kernel
  exact absurd (show Mm.lt (⟨#[98]⟩ : ByteArray) ⟨#[97]⟩ = true from h2) (by rw [h3]; decide)
theorem bars_aa : bars LAA = 1 := bars_of fits_aa fun h => by
  have h2 := h.1 1 (by decide) (by decide)
  have h3 := Mm.lt_irrefl (⟨#[97]⟩ : ByteArray)
  exact absurd (show Mm.lt (⟨#[97]⟩ : ByteArray) ⟨#[97]⟩ = true from h2) (by rw [h3]; decide)
theorem bars_no : bars LNO = 1 := bars_of fits_no fun h => by
  have h2 := (h.2 _ (List.mem_cons_self)).1
  exact absurd h2 (by decide)
theorem bars_gx : bars LGX = 1 := bars_of fits_gx fun h => by
  have h2 := (h.2 _ (List.mem_cons_self)).2 rfl
  exact absurd h2 (by decide)
theorem bars_big {s : ByteArray} (h : s.size = 129) : bars (LBIG s) = 3 := by
  unfold bars
  rw [if_neg]
  intro hf
  have := (hf.2.1 _ List.mem_cons_self).1
  simp only at this; omega
theorem right_none : Right [] := ⟨by simp, fun e h => by simp at h, by simp [weight], List.Pairwise.nil⟩
theorem in_of_fits {l : List En} (h : Fits l) : ∀ e ∈ l, EnIn e := fun e he => ⟨Nat.le_trans (h.2.1 e he).1 (by decide), Nat.le_trans (h.2.1 e he).2 (by decide)⟩
theorem empty_no : ¬ ∃ l, IsText ⟨#[]⟩ l := by
  rintro ⟨l, hl⟩
  have h := isText_eq hl
  have h2 := congrArg List.length h
  rw [text_len] at h2
  simp [bl] at h2
theorem get3_a : getE L3 ⟨#[97]⟩ = some ⟨⟨#[97]⟩, ⟨#[49]⟩, false⟩ := getE_at right3 (i := 0) (by decide)
theorem below3_b : below L3 ⟨#[98]⟩ = 1 := right3.find (i := 1) (by decide)

set_option maxRecDepth 100000 in
set_option maxHeartbeats 16000000 in
theorem tableKnown_any (w : World) : Calls Try.prog 3 #[] w fun e w' => e = .returned (.bool true) ∧ Below w.heap.size w w' := by
  refine (callsIn_wide (n := 9)).1 ?_
  refine callsIn_of_wp_marks Try.func3 rfl trivial ?_ rfl
  simp only [Try.ntmps3, List.size_toArray, List.length_cons, List.length_nil, Nat.reduceAdd, Nat.reduceSub, Array.replicate_succ, Array.replicate_zero, List.push_toArray, List.append_toArray, List.nil_append, List.cons_append]
  have h0 := (now_start w).alloc (.cells #[.bool false] 4)
  obtain ⟨gr, hgr⟩ : ∃ gr, gr = w.heap.size := ⟨_, rfl⟩
  rw [← hgr] at h0
  have H0 := Lib.hid h0
  clear h0
  gi_wp2_with fail
  rw [← hgr]
  refine ⟨trivial, ?_⟩
  refine (callsIn_wide.2 (three_any _)).mono ?_
  rintro e w1 ⟨p, rfl, hp, hb1⟩
  have H1 := Lib.hid (H0.out.same hb1)
  have HP := Lib.hid hp
  clear hb1 hp hgr
  gi_wp2_with fail
  refine ⟨trivial, ?_⟩
  refine (callsIn_wide.2 (build_any (l := L3) (cap := 3) HP.out)).mono ?_
  rintro e w2 ⟨S, n, rfl, hn, hs, -, hb2⟩
  obtain rfl : n = 0 := hn.trans ((bars_right _).2 right3)
  have hS := hs right3
  have HS := Lib.hid hS
  have hSs := text_small right3
  have hSl : 4 ≤ (Tb.text L3).length := by rw [text_len]; omega
  have hSz : S.size = (Tb.text L3).length := by rw [hS, tsize]
  have s1 : S.size ≤ 2000000 := by omega
  have s2 : 4 ≤ S.size := by omega
  have HSZ := Lib.hid hSz
  have HO : Hid (∀ W, Calls Try.prog 9 #[.string S] W fun e w' => ∃ a, e = .returned (.tuple #[.pointer (some ⟨a, 0, none⟩), .int .i64 0]) ∧ IsTab w' a L3 ∧ W.heap.size ≤ a ∧ Below W.heap.size W w') := Lib.hid fun W => by rw [HS.out]; exact open_yes right3
  have H2 := Lib.hid (H1.out.same hb2)
  clear hn hs hb2 hS hSs hSl hSz
  gi_wp2_with fail
  refine ⟨trivial, ?_⟩
  refine (callsIn_wide.2 (HO.out w2)).mono ?_
  rintro e w3 ⟨a, rfl, ht, -, hb3⟩
  have H3 := Lib.hid (H2.out.same hb3)
  have HT := Lib.hid ht
  clear ht hb3
  gi_wp2_with fail
  refine ⟨trivial, ?_⟩
  refine (callsIn_wide.2 (get_any HT.out ⟨#[97]⟩)).mono ?_
  rintro e w4 ⟨rfl, hb4⟩
  rw [get3_a]
  unfold getV enV
  simp only [Option.getD_some, Option.isSome_some]
  have h5 := ((H3.out.same hb4).alloc (.cells #[.string ⟨#[97]⟩, .string ⟨#[49]⟩, .bool false] 31)).alloc (.cells #[.int .i64 0] 3)
  have hz : (w4.alloc (.cells #[.string ⟨#[97]⟩, .string ⟨#[49]⟩, .bool false] 31)).heap.size = w4.heap.size + 1 := by simp
  rw [hz] at h5
  have HB35 := Lib.hid (hb4.trans (((below_alloc w4 (.cells #[.string ⟨#[97]⟩, .string ⟨#[49]⟩, .bool false] 31)).alloc (by simp) (.cells #[.int .i64 0] 3)).mono hb4.size))
  have HZ4 := Lib.hid hb4.size
  have hT5 := HT.out.below (hb4.trans (((below_alloc w4 (.cells #[.string ⟨#[97]⟩, .string ⟨#[49]⟩, .bool false] 31)).alloc (by simp) (.cells #[.int .i64 0] 3)).mono hb4.size))
  have H5 := Lib.hid h5
  have HT5 := Lib.hid hT5
  clear h5 hT5 hb4 hz
  gi_wp2_with fail
  refine ⟨trivial, ?_⟩
  refine (callsIn_wide.2 (from_any HT5.out ⟨#[98]⟩)).mono ?_
  rintro e w6 ⟨b1, b2, rfl, hb1, hb2, hl1, hl2, hbe⟩
  rw [below3_b] at hb2
  have h6 := H5.out.same hbe
  have hT6 := HT5.out.below hbe
  have HB36 := Lib.hid (HB35.out.trans (hbe.mono HB35.out.size))
  have hen := fun (u : World) => eql_seqK u (.func 42) #[] #[.pointer (some ⟨b1, 0, none⟩), .pointer (some ⟨b2, 0, none⟩)]
  gi_wp2_with fail
  obtain ⟨xs, hx, hxl⟩ := ents_from right3 1 (by decide)
  have hrs := rows_small right3
  have hom := Nat.le_trans (off_le L3 1) hrs
  have hsq := behind1_seq 8 (rows L3) (by omega) (off L3 1) (by omega) xs hx a b1 b2 w6 hT6.1.rows hb1 hb2
  have hgn6 : w6.heap[w4.heap.size + 1]? = some (.cells #[.int .i64 0] 3 (0, 0)) := h6.head
  have l1 : b1 < w6.heap.size := (Array.getElem?_eq_some_iff.1 hb1).1
  have l2 : b2 < w6.heap.size := (Array.getElem?_eq_some_iff.1 hb2).1
  have l4 : w4.heap.size + 1 < w6.heap.size := (Array.getElem?_eq_some_iff.1 hgn6).1
  have l5 : a < w6.heap.size := hT6.1.cells.2.1
  have la : a ≠ w4.heap.size + 1 := by
    intro e
    obtain ⟨q, cq, h, -⟩ := hT6.1
    rw [e] at h
    rw [hgn6] at h
    unfold tabO at h
    simp at h
  have hn1 : b1 ≠ w4.heap.size + 1 := by simp at hl1; omega
  have hn2 : b2 ≠ w4.heap.size + 1 := by simp at hl1; omega
  have hxn : xs.length = 2 := by have := congrArg List.length hxl; simpa [L3] using this
  have H6 := Lib.hid h6
  have HT6 := Lib.hid hT6
  have HXL := Lib.hid hxl
  have HXN := Lib.hid hxn
  have HGN6 := Lib.hid hgn6
  clear h6 hT6 hx hxl hgn6 hb1 hb2 hbe hen hl1 hxn
  apply wpIn_rangeZ rfl (by omega) (gf := 42) (lb := #[.pointer (some ⟨b1, 0, none⟩), .pointer (some ⟨b2, 0, none⟩)]) rfl trivial (enters_of Try.func42 (by kernel_rfl) rfl)
    (encs := fun x : En × Nat => #[.agg #[.string x.1.key, .string x.1.value, .bool x.1.gone]]) (xs := xs) (cap := fun k => k = b1 ∨ k = b2 ∨ k = a) hsq (fun k hk => by rcases hk with rfl | rfl | rfl <;> assumption) (fun _ => rfl)
    (fun S i A => Outs [w4.heap.size + 1] w6 A ∧ (∀ k, S k → w6.heap.size ≤ k) ∧ A.heap[w4.heap.size + 1]? = some (.cells #[.int .i64 (if i < 2 then 0 else 1)] 3 (0, 0)))
    (fun _ _ _ _ => False)
    (fun S S' i A C hs st => by
      obtain ⟨r1, r2, r4⟩ := hs
      have hz := r1.size
      exact ⟨r1.steps st r2, fun k hk => (st.new k hk).elim (r2 k) fun e => by omega, (st.block _ (by omega) fun e => by have := r2 _ e; omega).trans r4⟩)
    (fun _ _ _ _ _ _ hs _ => hs)
    ⟨Outs.refl _ _, fun k hk => hk.elim, HGN6.out⟩
    (w₁ := fun x A => A.alloc (.cells #[.string x.1.key, .string x.1.value, .bool x.1.gone] 31)) (hw₁ := fun x A => below_alloc A _)
  case hassign =>
    intro l x W K hK
    gi_wp2
    exact hK
  case hstop =>
    rintro D S cd i A hD hSD hS hi h hK
    exact h.elim
  case hbody =>
    rintro l1 S i hi A0 A hz0 hSA hzA hnew ⟨ho, hS2, hgA⟩
    have hbx : A.heap[A0.heap.size]? = some (entO xs[i].1) := (hnew _ (Nat.le_refl _)).trans (heap_alloc_new A0 _)
    obtain ⟨d0, d1, d2⟩ := cells3 hbx
    obtain ⟨cg, fg⟩ := cells1 hgA
    have fg0 := fg 0
    have hi2 : i < 2 := by have := HXN.out; omega
    have hvs : xs[i].1.value.size = i := by
      have e1 : xs[i].1 = (xs.map Prod.fst)[i]'(by rw [List.length_map]; exact hi) := by simp
      have e2 : (xs.map Prod.fst)[i]? = (L3.drop 1)[i]? := by rw [HXL.out]
      rw [List.getElem?_eq_getElem (by rw [List.length_map]; exact hi)] at e2
      match i, hi2 with
      | 0, _ => simp [L3] at e2; rw [e2]; rfl
      | 1, _ => simp [L3] at e2; rw [e2]; rfl
    have HVS := Lib.hid hvs
    have HGA := Lib.hid hgA
    have HO2 := Lib.hid ho
    have HS2 := Lib.hid hS2
    have HSA := Lib.hid hSA
    rw [if_pos hi2] at cg
    obtain ⟨x, hx⟩ : ∃ x, x = xs[i].1 := ⟨_, rfl⟩
    rw [← hx] at d0 d1 d2 HVS ⊢
    have hv1 : (x.value.size : Int) ≤ 1 := by have := HVS.out; omega
    clear hbx fg hgA ho hS2 hSA hnew hzA hvs hx
    gi_wp2_with fail
    refine ⟨BodyZ.setCell _ (by intro h; rcases h with h | h | h <;> simp only at h <;> omega) (fun h => by have := HSA.out _ h; simp only at this; omega), HO2.out.set (by simp) 0 _, HS2.out, ?_⟩
    have hset := heap_setCell_same A (w4.heap.size + 1) 0 _ _ (.int .i64 (x.value.size : Int)) HGA.out
    rw [HVS.out] at hset ⊢
    match i, hi2 with
    | 0, _ => exact hset
    | 1, _ => exact hset
  case hdone =>
    rintro D S' A hD hSD hS ⟨ho, hS2, hgA⟩ hK
    rw [HXN.out, if_neg (by omega)] at hgA
    have hnow : Now w A [(D, MarkO), (w4.heap.size + 1, .cells #[.int .i64 1] 3 (0, 0)), (w4.heap.size, .cells #[.string ⟨#[97]⟩, .string ⟨#[49]⟩, .bool false] 31 (0, 0)), (gr, .cells #[.bool false] 4 (0, 0))] := by
      have h := H6.out.outs (G := [(w4.heap.size + 1, .cells #[.int .i64 0] 3 (0, 0))]) (G' := [(w4.heap.size + 1, .cells #[.int .i64 1] 3 (0, 0))]) (B := [(w4.heap.size, .cells #[.string ⟨#[97]⟩, .string ⟨#[49]⟩, .bool false] 31 (0, 0)), (gr, .cells #[.bool false] 4 (0, 0))]) ho rfl (fun q hq => by rw [List.mem_singleton.1 hq]; exact hgA)
      have hw6 := H6.out.below.size
      refine h.add hK (by omega) (fun q hq => ?_)
      have hl : q.1 < w6.heap.size := by
        simp only [List.cons_append, List.nil_append, List.mem_cons, List.not_mem_nil, or_false] at hq
        rcases hq with rfl | rfl | rfl
        · exact l4
        · exact Nat.lt_of_succ_lt l4
        · exact H6.out.lt (q := (gr, .cells #[.bool false] 4 (0, 0))) (by simp)
      omega
    have hTA : IsTab A a L3 := HT.out.below (Outs.upon HB36.out ho (by have := HZ4.out; omega))
    have HNW := Lib.hid hnow
    have HTA := Lib.hid hTA
    clear hnow hTA hgA ho hS2 hS hsq hK
    gi_wp2_with fail
    refine ⟨trivial, ?_⟩
    refine (callsIn_wide.2 (ends_any HTA.out)).mono ?_
    rintro e w7 ⟨rfl, hb7⟩
    have H7 := Lib.hid (HNW.out.same hb7)
    obtain ⟨x0, x1, x2⟩ := cells3 (H7.out.box (w4.heap.size, .cells #[.string ⟨#[97]⟩, .string ⟨#[49]⟩, .bool false] 31 (0, 0)) (by simp))
    have xn := (cells1 (H7.out.box (w4.heap.size + 1, .cells #[.int .i64 1] 3 (0, 0)) (by simp))).1
    rw [show endsV L3 = .tuple #[.string ⟨#[97]⟩, .string ⟨#[99]⟩] from rfl]
    clear hb7
    gi_wp2_with fail
    refine ⟨trivial, ?_⟩
    refine (callsIn_wide.2 (build_any (l := []) (cap := 0) (EntsAt.nil w7 none))).mono ?_
    rintro e w8 ⟨s0, n0, rfl, hn, hs, -, hb⟩
    obtain rfl : n0 = 0 := hn.trans ((bars_right _).2 right_none)
    have hs0 := hs right_none
    have HO0 : Hid (∀ W, Calls Try.prog 9 #[.string s0] W fun e w' => ∃ a, e = .returned (.tuple #[.pointer (some ⟨a, 0, none⟩), .int .i64 0]) ∧ IsTab w' a [] ∧ W.heap.size ≤ a ∧ Below W.heap.size W w') := Lib.hid fun W => by rw [hs0]; exact open_yes right_none
    have H8 := Lib.hid (H7.out.same hb)
    clear hn hb hs hs0 x0 x1 x2 xn
    gi_wp2_with fail
    refine ⟨trivial, ?_⟩
    refine (callsIn_wide.2 (HO0.out w8)).mono ?_
    rintro e w9 ⟨a0, rfl, ht0, ha0, hb⟩
    obtain ⟨⟨p0, c0, hq0, -⟩, -⟩ := ht0
    have H9 := Lib.hid ((H8.out.same hb).add hq0 (Nat.le_trans H8.out.below.size ha0) (fun q hq => by have := H8.out.lt hq; omega))
    clear hb hq0 ha0
    gi_wp2_with fail
    refine ⟨trivial, ?_⟩
    refine (callsIn_wide.2 (build_any (l := LBA) (cap := 2) (ents_alloc w9 LBA _ rfl (in_of_fits fits_ba)))).mono ?_
    rintro e w10 ⟨sX1, nX1, rfl, hn, -, -, hb⟩
    obtain rfl : nX1 = 1 := hn.trans bars_ba
    have H10 := Lib.hid ((H9.out.same (below_alloc w9 _)).same hb)
    clear hn hb
    gi_wp2_with fail
    refine ⟨trivial, ?_⟩
    refine (callsIn_wide.2 (build_any (l := LAA) (cap := 2) (ents_alloc w10 LAA _ rfl (in_of_fits fits_aa)))).mono ?_
    rintro e w11 ⟨sX2, nX2, rfl, hn, -, -, hb⟩
    obtain rfl : nX2 = 1 := hn.trans bars_aa
    have H11 := Lib.hid ((H10.out.same (below_alloc w10 _)).same hb)
    clear hn hb
    gi_wp2_with fail
    refine ⟨trivial, ?_⟩
    refine (callsIn_wide.2 (build_any (l := LNO) (cap := 1) (ents_alloc w11 LNO _ rfl (in_of_fits fits_no)))).mono ?_
    rintro e w12 ⟨sX3, nX3, rfl, hn, -, -, hb⟩
    obtain rfl : nX3 = 1 := hn.trans bars_no
    have H12 := Lib.hid ((H11.out.same (below_alloc w11 _)).same hb)
    clear hn hb
    have hmk : (Instr.makeSlice 39 (.int .i64 129) (.int .i64 129)).run Try.prog w12 = .ok (.slice (some ⟨w12.heap.size, 0, none⟩) 129 129) (w12.alloc (.cells (nulls 129) 5)) := make_nulls .i64 129 (by omega) w12
    have htx := text_nulls 129 w12.heap.size (w12.alloc (.cells (nulls 129) 5)) (heap_alloc_new w12 _)
    have hbig := nullText_size 129
    generalize nullText 129 = big at *
    have HBG := Lib.hid hbig
    have H12a := Lib.hid (H12.out.same (below_alloc w12 (.cells (nulls 129) 5)))
    clear hbig
    gi_wp2_with fail
    clear hmk htx
    have hat : EntsAt ((w12.alloc (.cells (nulls 129) 5)).alloc (.cells #[.string big, .string ⟨#[]⟩, .bool false] 31)) (some ⟨w12.heap.size + 1, 0, none⟩) (LBIG big) := by
      have h := ents_alloc (w12.alloc (.cells (nulls 129) 5)) (LBIG big) #[.string big, .string ⟨#[]⟩, .bool false] rfl (fun e he => by rw [List.mem_singleton.1 he]; exact ⟨by show big.size ≤ _; rw [HBG.out]; decide, Nat.zero_le _⟩)
      rw [World.size_alloc] at h
      exact h
    have HAT := Lib.hid hat
    clear hat
    refine ⟨trivial, ?_⟩
    refine (callsIn_wide.2 (build_any (l := LBIG big) (cap := 1) HAT.out)).mono ?_
    rintro e w13 ⟨sX4, nX4, rfl, hn, -, -, hb⟩
    obtain rfl : nX4 = 3 := hn.trans (bars_big HBG.out)
    have H13 := Lib.hid ((H12a.out.same (below_alloc (w12.alloc (.cells (nulls 129) 5)) _)).same hb)
    clear hn hb
    gi_wp2_with fail
    refine ⟨trivial, ?_⟩
    refine (callsIn_wide.2 (build_any (l := LGX) (cap := 1) (ents_alloc w13 LGX _ rfl (in_of_fits fits_gx)))).mono ?_
    rintro e w14 ⟨sX5, nX5, rfl, hn, -, -, hb⟩
    obtain rfl : nX5 = 1 := hn.trans bars_gx
    have H14 := Lib.hid ((H13.out.same (below_alloc w13 _)).same hb)
    clear hn hb
    gi_wp2_with fail
    refine ⟨trivial, ?_⟩
    refine (callsIn_wide.2 (open_no (by decide) empty_no)).mono ?_
    rintro e w15 ⟨rfl, hb⟩
    have H15 := Lib.hid (H14.out.same hb)
    clear hb
    have hadd := fun u => run_string_add_sum (P := Try.prog) u S ⟨#[120]⟩ (by show S.size + 1 ≤ _; omega)
    have HMO : Hid (¬ ∃ m, IsText (S ++ ⟨#[120]⟩) m) := Lib.hid (by rw [HS.out]; exact more_no right3 _ (by decide))
    have HMS : Hid ((S ++ (⟨#[120]⟩ : ByteArray)).size ≤ 70000000000000) := Lib.hid (by rw [ByteArray.size_append]; show S.size + 1 ≤ _; omega)
    have HCU : Hid (¬ ∃ m, IsText (S.extract 0 (S.size - 1)) m) := Lib.hid (by rw [HS.out]; exact cut_no right3 (by rw [tsize, text_len]; omega))
    have HCS : Hid ((S.extract 0 (S.size - 1)).size ≤ 70000000000000) := Lib.hid (by rw [ByteArray.size_extract]; omega)
    have j1 : (0 : Int) ≤ (S.size : Int) - 1 := by omega
    have j2 : (S.size : Int) - 1 ≤ (S.size : Int) := by omega
    have j3 : ((S.size : Int) - 1).toNat = S.size - 1 := by omega
    have j4 : (1 : Int) ≤ (S.size : Int) := by omega
    have j5 : (S.size : Int) ≤ 2000000 := by omega
    gi_wp2_with fail
    refine ⟨trivial, ?_⟩
    refine (callsIn_wide.2 (open_no HMS.out HMO.out)).mono ?_
    rintro e w16 ⟨rfl, hb⟩
    have H16 := Lib.hid (H15.out.same hb)
    clear hb
    gi_wp2_with fail
    refine ⟨trivial, ?_⟩
    refine (callsIn_wide.2 (open_no HCS.out HCU.out)).mono ?_
    rintro e w17 ⟨rfl, hb⟩
    have H17 := Lib.hid (H16.out.same hb)
    clear hb
    have hT0 : IsTab w17 a0 [] := ⟨⟨p0, c0, H17.out.box (a0, tabO 0 (.slice p0 (blocks 0 0 []).length c0) (ba (rows []))) (by simp), fun i hi => nomatch hi⟩, right_none⟩
    have HT0 := Lib.hid hT0
    clear hT0
    gi_wp2_with fail
    refine ⟨trivial, ?_⟩
    refine (callsIn_wide.2 (len_any HT0.out)).mono ?_
    rintro e w18 ⟨rfl, rfl⟩
    rw [show ([] : List En).length = 0 from rfl]
    gi_wp2_with fail
    refine ⟨trivial, ?_⟩
    refine (callsIn_wide.2 (get_nil _ ⟨#[97]⟩)).mono ?_
    rintro e w19 ⟨rfl, hb⟩
    have H19 := Lib.hid ((H17.out.same hb).same (below_alloc w19 (.cells #[.string ⟨#[]⟩, .string ⟨#[]⟩, .bool false] 31)))
    unfold getV enV
    simp only [Option.getD_none, Option.isSome_none]
    clear hb hadd j1 j2 j3 j4 j5
    gi_wp2_with fail
    refine ⟨trivial, ?_⟩
    refine (callsIn_wide.2 (ends_nil _)).mono ?_
    rintro e w20 ⟨rfl, hb⟩
    have H20 := Lib.hid (H19.out.same hb)
    rw [show endsV [] = .tuple #[.string ⟨#[]⟩, .string ⟨#[]⟩] from rfl]
    clear hb
    gi_wp2_with fail
    refine ⟨trivial, ?_⟩
    refine (callsIn_wide.2 (from_nil _ ⟨#[]⟩)).mono ?_
    rintro e w21 ⟨n1, n2, rfl, hn1, hn2, -, -, hb⟩
    have H21 := Lib.hid (H20.out.same hb)
    have hen := fun (u : World) => eql_seqK u (.func 42) #[] #[.pointer (some ⟨n1, 0, none⟩), .pointer (some ⟨n2, 0, none⟩)]
    have hsq := behind1_nil 8 n1 n2 w21 hn1 hn2
    have k1 : n1 < w21.heap.size := (Array.getElem?_eq_some_iff.1 hn1).1
    have k2 : n2 < w21.heap.size := (Array.getElem?_eq_some_iff.1 hn2).1
    clear hb hn1 hn2
    gi_wp2_with fail
    clear hen
    apply wpIn_rangeZ rfl (by omega) (gf := 42) (lb := #[.pointer (some ⟨n1, 0, none⟩), .pointer (some ⟨n2, 0, none⟩)]) rfl trivial (enters_of Try.func42 (by kernel_rfl) rfl)
      (encs := fun x : En × Nat => #[enV x.1]) (xs := []) (cap := fun k => k = n1 ∨ k = n2) hsq (fun k hk => by rcases hk with rfl | rfl <;> assumption) (fun _ => rfl)
      (fun S i A => Outs [] w21 A ∧ (∀ k, S k → w21.heap.size ≤ k))
      (fun _ _ _ _ => False)
      (fun S S' i A C hs st => by
        obtain ⟨r1, r2⟩ := hs
        have hz := r1.size
        exact ⟨r1.steps st r2, fun k hk => (st.new k hk).elim (r2 k) fun e => by omega⟩)
      (fun _ _ _ _ _ _ hs _ => hs)
      ⟨Outs.refl _ _, fun k hk => hk.elim⟩
      (w₁ := fun _ A => A) (hw₁ := fun _ A => Below.refl _ _)
    case hassign =>
      intro l x W K hK
      gi_wp2
      exact hK
    case hstop =>
      rintro D2 S2 cd i A2 hD2 hSD2 hS2 hi h hK
      exact h.elim
    case hbody =>
      rintro l1 S2 i hi A0 A2 _ _ _ _ _
      exact absurd hi (by simp)
    case hdone =>
      rintro D2 S2 A2 hD2 hSD2 hS2 ⟨ho, hS3⟩ hK
      have hnow := (H21.out.outs (G := []) (G' := []) ho rfl (fun q hq => nomatch hq)).add hK (by have := H21.out.below.size; omega) (fun q hq => by have := H21.out.lt hq; omega)
      have HNW2 := Lib.hid hnow
      clear hnow ho hS3 hS2 hsq hK
      gi_wp2_with fail
      refine ⟨trivial, ?_⟩
      refine (callsIn_wide.2 (awake_any _)).mono ?_
      rintro e w22 ⟨rfl, hb⟩
      have H22 := Lib.hid (HNW2.out.same hb)
      obtain ⟨cr, fr⟩ := cells1 (H22.out.box (gr, .cells #[.bool false] 4 (0, 0)) (by simp))
      have fr0 := fr 0
      have HE := Lib.hid (((H22.out.sub (B' := [(D2, MarkO), (D, MarkO), (gr, .cells #[.bool false] 4 (0, 0))]) (.cons_cons _ (.cons _ (.cons_cons _ (.cons _ (.cons _ (.cons_cons _ .slnil))))))).perm (B' := (gr, .cells #[.bool false] 4 (0, 0)) :: [(D2, MarkO), (D, MarkO)]) (List.perm_middle (l₁ := [(D2, MarkO), (D, MarkO)]))).set (.bool true))
      clear hb fr
      gi_wp2_with fail
      refine ⟨trivial, ?_⟩
      refine (callsIn_wide.2 (len_nil _)).mono ?_
      rintro e w23 ⟨rfl, rfl⟩
      gi_wp2_with fail
      exact leaves_box w gr 4 (fun W hc => results_known _ W _ _ rfl hc) [D2, D] _ (HE.out.perm (List.perm_middle (l₁ := [(D2, MarkO), (D, MarkO)])).symm) (fun W' hb => ⟨rfl, hb⟩)
end Go.Proofs.Ytgmaccfhgeocdaa
