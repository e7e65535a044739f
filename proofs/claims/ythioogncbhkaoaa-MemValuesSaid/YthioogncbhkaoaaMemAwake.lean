/-
  The law's wake of package mem. No condition.
-/
import Derived.Test.YthioogncbhkaoaaRows
import Derived.Test.YthioogncbhkaoaaMemLawI
import Derived.Test.YthioogncbhkaoaaMemOuts
namespace Go.Proofs.Ythioogncbhkaoaa
open Go.RowKit MI
attribute [local go_sem] Oper.semAt_some

theorem lt_ab : Mm.lt ⟨#[97]⟩ ⟨#[98]⟩ = true := by unfold Mm.lt; rw [ByteArray.toList_eq, ByteArray.toList_eq]; decide
theorem eql_seq (w : World) (fn : Fn) (cs bs : Array Value) : (binOp .eql 69 (.func fn cs bs) .nilFunc).run Try.prog w = .ok (.bool false) w := by
  have h : ∀ d : Nat, (Op.equalIn (d + 1) 69 (.func fn cs bs) .nilFunc).run Try.prog w = .ok false w := fun d => by
    simp [Op.equalIn, run_underlying Try.underlying69]
  simp only [binOp]
  simp [Op.equal, Op.maxDepth, h 9999]
def awL : Mm.Row := [(⟨#[97]⟩, .int .i64 1), (⟨#[98]⟩, .int .i64 3)]
theorem aw1 : Mm.put [] ⟨#[98]⟩ (.int .i64 2) = [(⟨#[98]⟩, .int .i64 2)] := rfl
theorem aw2 : Mm.put [(⟨#[98]⟩, .int .i64 2)] ⟨#[97]⟩ (.int .i64 1) = [(⟨#[97]⟩, .int .i64 1), (⟨#[98]⟩, .int .i64 2)] := by
  have h := lt_ab
  simp [Mm.put, Mm.below, Mm.above, h, Mm.lt_asymm h]
theorem aw3 : Mm.put [(⟨#[97]⟩, .int .i64 1), (⟨#[98]⟩, .int .i64 2)] ⟨#[98]⟩ (.int .i64 3) = awL := by
  have h := lt_ab
  simp [Mm.put, Mm.below, Mm.above, h, Mm.lt_asymm h, Mm.lt_irrefl, awL]
theorem ne_ab : ¬ (⟨#[97]⟩ : ByteArray) = ⟨#[98]⟩ := Mm.lt_ne lt_ab
theorem aw_from : Mm.from_ awL ⟨#[]⟩ = awL := Mm.from_empty _

/-- Keys one behind the other. -/
def joinK (L : Mm.Row) : ByteArray := L.foldl (fun s q => s ++ q.1) ⟨#[]⟩
theorem joinK_succ {L : Mm.Row} {i : Nat} (h : i < L.length) : joinK (L.take (i + 1)) = joinK (L.take i) ++ L[i].1 := by
  unfold joinK; rw [List.take_succ_eq_append_getElem h, List.foldl_append]; rfl
theorem joinK_aw : joinK awL = ⟨#[97, 98]⟩ := Mm.toList_inj (by rw [ByteArray.toList_eq, ByteArray.toList_eq]; simp [joinK, awL, ByteArray.data_append])
theorem joinK_small {i : Nat} (h : i < awL.length) : (joinK (awL.take i)).size + awL[i].1.size ≤ 9223372036854775807 := by
  have : i = 0 ∨ i = 1 := by simp [awL] at h; omega
  rcases this with rfl | rfl <;> simp [joinK, awL, ByteArray.size_append] <;> decide

theorem mem_now {w0 w : World} {a : Nat} {L : Mm.Row} {R : List (Value × Mm.Row)} {B : List (Nat × Obj)} (h : MI.Mem w0 w a L R B) : Now w0 w B := by obtain ⟨p, h1, -⟩ := h; exact h1.tail
/-- A law's table and its ranges: what the iterator owes, from what From gave. -/
theorem seq_of {w0 w : World} {a b1 b2 : Nat} {p : Value} {L : Mm.Row} {key : ByteArray} {R : List (Value × Mm.Row)} {B : List (Nat × Obj)} {L' : Mm.Row}
    (h : MI.Mem w0 w a L' ((p, L) :: R) ((b1, .cells #[p] 92 (0, 0)) :: (b2, .cells #[.string key] 9 (0, 0)) :: B)) (n : Nat) :
    SeqY Fence.wide n Try.prog 52 #[.pointer (some ⟨b1, 0, none⟩), .pointer (some ⟨b2, 0, none⟩)] pairV (Mm.from_ L key) (IsNode w) w := by
  have r1 := h.box (q := (b1, _)) List.mem_cons_self
  have r2 := h.box (q := (b2, _)) (List.mem_cons_of_mem _ List.mem_cons_self)
  obtain ⟨p', -, -, h3⟩ := h
  exact from_seq n r1 r2 (h3 (p, L) List.mem_cons_self)

set_option maxRecDepth 100000 in
set_option maxHeartbeats 4000000 in
theorem memAwake_any (w : World) : Calls Try.prog 5 #[] w fun e w' => e = .returned (.bool true) ∧ Below w.heap.size w w' := by
  refine (callsIn_wide (n := 9)).1 ?_
  refine callsIn_of_wp_marks Try.func5 rfl trivial ?_ rfl
  simp only [Try.ntmps5, List.size_toArray, List.length_cons, List.length_nil, Nat.reduceAdd, Nat.reduceSub, Array.replicate_succ, Array.replicate_zero, List.push_toArray, List.append_toArray, List.nil_append, List.cons_append]
  gi_wp2_with fail
  refine ⟨trivial, ?_⟩
  refine (callsIn_wide.2 (new_m (B := []) (R := []) (now_start w) (fun _ h => nomatch h))).mono ?_
  rintro e w1 ⟨a, rfl, h1, -⟩
  gi_wp2_with fail
  refine ⟨trivial, ?_⟩
  refine (callsIn_wide.2 (set_m h1 ⟨#[98]⟩ (by decide) (by decide) 2 (b := false) rfl)).mono ?_
  rintro e w2 ⟨rfl, h2, -⟩
  rw [aw1] at h2
  clear h1
  gi_wp2_with fail
  refine ⟨trivial, ?_⟩
  refine (callsIn_wide.2 (set_m h2 ⟨#[97]⟩ (by decide) (by decide) 1 (b := false) (by simp [Mm.get, Ne.symm ne_ab]))).mono ?_
  rintro e w3 ⟨rfl, h3, -⟩
  rw [aw2] at h3
  clear h2
  gi_wp2_with fail
  refine ⟨trivial, ?_⟩
  refine (callsIn_wide.2 (set_m h3 ⟨#[98]⟩ (by decide) (by decide) 3 (b := true) (by simp [Mm.get, ne_ab]))).mono ?_
  rintro e w4 ⟨rfl, h4, -⟩
  rw [aw3] at h4
  clear h3
  gi_wp2_with fail
  refine ⟨trivial, ?_⟩
  refine (callsIn_wide.2 (len_m h4 (c := 2) rfl)).mono ?_
  rintro e w5 ⟨rfl, rfl⟩
  gi_wp2_with fail
  refine ⟨trivial, ?_⟩
  refine (callsIn_wide.2 (get_m h4 ⟨#[98]⟩ (o := some (.int .i64 3)) (by simp [Mm.get, awL, ne_ab]))).mono ?_
  rintro e w5 ⟨rfl, h5, -⟩
  clear h4
  gi_wp2_with fail
  refine ⟨trivial, ?_⟩
  have h6 := h5.alloc (.cells #[.string ⟨#[]⟩] 9)
  refine (callsIn_wide.2 (from_m h6 ⟨#[]⟩ (by decide))).mono ?_
  rintro e w7 ⟨b1, b2, p, rfl, h7, hb7⟩
  have hen := fun (u : World) => eql_seq u (.func 52) #[] #[.pointer (some ⟨b1, 0, none⟩), .pointer (some ⟨b2, 0, none⟩)]
  unfold fromV
  clear h5 h6 hb7
  gi_wp2_with fail
  have hsq := seq_of h7 8
  rw [aw_from] at hsq
  obtain ⟨g, hg⟩ : ∃ g, g = w5.heap.size := ⟨_, rfl⟩
  rw [← hg] at h7 ⊢
  have hgb : w7.heap[g]? = some (.cells #[.string ⟨#[]⟩] 9 (0, 0)) := h7.box (q := (g, _)) (by simp)
  have hgl : g < w7.heap.size := (Array.getElem?_eq_some_iff.1 hgb).1
  have hgn : ¬ IsNode w7 g := not_node hgb string_not
  have H7 := Lib.hid (mem_now (h7.sub (B' := [(g, .cells #[.string ⟨#[]⟩] 9 (0, 0))]) (by simp)))
  clear hen hg h7
  apply wpIn_rangeY rfl (by omega) (gf := 52) (lb := #[.pointer (some ⟨b1, 0, none⟩), .pointer (some ⟨b2, 0, none⟩)]) rfl trivial (enters_of Try.func52 (by kernel_rfl) rfl)
    (encs := fun q : ByteArray × Value => #[.string q.1, q.2]) (xs := awL) (cap := IsNode w7) hsq (fun k hk => hk.lt) (fun _ => rfl)
    (fun i A => Outs [g] w7 A ∧ A.heap[g]? = some (.cells #[.string (joinK (awL.take i))] 9 (0, 0)))
    (fun _ _ _ => False)
    (fun i A C hs st => ⟨hs.1.its st, (st.block g (by have := hs.1.size; omega) (.inl hgl)).trans hs.2⟩)
    (fun _ _ _ _ hs _ => hs)
    ⟨Outs.refl _ _, hgb⟩
  case hassign =>
    intro l x W K hK
    gi_wp2
    exact hK
  case hbody =>
    rintro l i hi A hT ⟨ho, hgA⟩
    obtain ⟨c0, f0⟩ := cells1 hgA
    have f1 := f0 0
    have hadd := fun u => run_string_add_sum (P := Try.prog) u (joinK (awL.take i)) awL[i].1 (joinK_small hi)
    have HJ := Lib.hid (joinK_succ hi)
    have hb : BodyK (IsNode w7) A (A.setCell ⟨g, 0, none⟩ (.string (joinK (awL.take i) ++ awL[i].1))) := BodyK.setCell _ hgA hgn
    have HB := Lib.hid hb
    clear f0 hb
    gi_wp2_with fail
    exact ⟨HB.out, ho.set (by simp) 0 _, by rw [HJ.out]; exact heap_setCell_same A g 0 _ _ _ hgA⟩
  case hdone =>
    rintro D A hD ⟨ho, hgA⟩ hK
    rw [List.take_length, joinK_aw] at hgA
    obtain ⟨c0, f0⟩ := cells1 hgA
    have hn : Now w A [(D, MarkO)] := by
      have n2 : Now w A [(g, .cells #[.string ⟨#[97, 98]⟩] 9 (0, 0))] := H7.out.outs (G := [(g, .cells #[.string ⟨#[]⟩] 9 (0, 0))]) (G' := [(g, .cells #[.string ⟨#[97, 98]⟩] 9 (0, 0))]) (B := []) ho rfl (fun q hq => by rw [List.mem_singleton.1 hq]; exact hgA)
      have := H7.out.below.size
      exact (n2.sub (List.nil_sublist _)).add hK (by omega) (fun _ h => nomatch h)
    have HN := Lib.hid hn
    clear hn f0
    gi_wp2_with fail
    exact leaves_now w (fun W => results_tmp rfl _ _ _) [D] A HN.out (fun W' hb => ⟨rfl, hb⟩)
  case hstop =>
    rintro D c i A _ _ h _
    exact h.elim
end Go.Proofs.Ythioogncbhkaoaa
