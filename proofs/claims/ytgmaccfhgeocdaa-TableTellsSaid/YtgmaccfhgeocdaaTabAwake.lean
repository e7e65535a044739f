/-
  Walks over the laws of package table: their list, their wake, Great. Conditions: those in the theorems.
-/
import Derived.Test.YtgmaccfhgeocdaaTabGet
import Derived.Test.YtgmaccfhgeocdaaTabFrom
namespace Go.Proofs.Ytgmaccfhgeocdaa
open Go.RowKit Tb

def L3 : List En := [⟨⟨#[97]⟩, ⟨#[49]⟩, false⟩, ⟨⟨#[98]⟩, ⟨#[]⟩, true⟩, ⟨⟨#[99]⟩, ⟨#[51]⟩, false⟩]
theorem right3 : Right L3 := by
  rw [right_iff]
  refine ⟨⟨by decide, ?_, by decide⟩, ?_, ?_⟩
  · intro e he
    simp only [L3, List.mem_cons, List.not_mem_nil, or_false] at he
    rcases he with rfl | rfl | rfl <;> exact ⟨by decide, by decide⟩
  · rw [rises_iff]
    simp only [L3, List.pairwise_cons, List.mem_cons, List.not_mem_nil, or_false]
    refine ⟨?_, ?_, ?_⟩
    · rintro e (rfl | rfl) <;> decide +kernel
    · rintro e rfl; decide +kernel
    · simp
  · intro e he
    simp only [L3, List.mem_cons, List.not_mem_nil, or_false] at he
    rcases he with rfl | rfl | rfl <;> exact ⟨by decide, by decide⟩
/-- The list of the chapter's examples lies at p. -/
def Three (w : World) (e : Ending) (w' : World) : Prop := ∃ p, e = .returned (.slice p 3 3) ∧ EntsAt w' p L3 ∧ Below w.heap.size w w'
set_option maxHeartbeats 4000000 in
theorem three_any (w : World) : Calls Try.prog 8 #[] w (Three w) := by
  go_enter Try.func8, Try.ntmps8
  go_wp2_with fail
  go_ret
  refine ⟨some ⟨w.heap.size, 0, none⟩, rfl, ?_, below_alloc _ _⟩
  have hb := heap_alloc_new w (.cells #[.string ⟨#[97]⟩, .string ⟨#[49]⟩, .bool false, .string ⟨#[98]⟩, .string ⟨#[]⟩, .bool true, .string ⟨#[99]⟩, .string ⟨#[51]⟩, .bool false] 31)
  intro i hi
  refine ⟨⟨w.heap.size, 0, none⟩, rfl, by simp, fun j hj => ?_, ?_⟩
  · have hadd : (⟨w.heap.size, 0, none⟩ : Addr).add (i * 3 + j) = ⟨w.heap.size, i * 3 + j, none⟩ := by unfold Addr.add; split <;> simp_all
    rw [hadd, cell_of_row _ _ _ _ _ _ hb]
    have hi3 : i < 3 := hi
    match i, hi3, j, hj with
    | 0, _, 0, _ => rfl
    | 0, _, 1, _ => rfl
    | 0, _, 2, _ => rfl
    | 1, _, 0, _ => rfl
    | 1, _, 1, _ => rfl
    | 1, _, 2, _ => rfl
    | 2, _, 0, _ => rfl
    | 2, _, 1, _ => rfl
    | 2, _, 2, _ => rfl
  · have h := right3.ok _ (List.getElem_mem hi)
    exact ⟨Nat.le_trans h.2.1 (by decide), Nat.le_trans h.2.2.1 (by decide)⟩
theorem get3_b : getE L3 ⟨#[98]⟩ = some ⟨⟨#[98]⟩, ⟨#[]⟩, true⟩ := getE_at right3 (i := 1) (by decide)
theorem get3_bb : getE L3 ⟨#[98, 98]⟩ = none := by
  rw [← Option.not_isSome_iff_eq_none]
  intro h
  obtain ⟨e, he, hk⟩ := (getE_is right3 ⟨#[98, 98]⟩).1 h
  simp only [L3, List.mem_cons, List.not_mem_nil, or_false] at he
  rcases he with rfl | rfl | rfl <;> exact absurd hk (by decide)
set_option maxRecDepth 100000 in
set_option maxHeartbeats 4000000 in
theorem awake_any (w : World) : Calls Try.prog 14 #[] w fun e w' => e = .returned (.bool true) ∧ Below w.heap.size w w' := by
  go_enter Try.func14, Try.ntmps14
  go_wp2_with fail
  refine (three_any _).mono ?_
  rintro e w1 ⟨p, rfl, hp, hb1⟩
  have HB1 := Lib.hid hb1
  have HP := Lib.hid hp
  clear hb1 hp
  go_wp2_with fail
  refine (build_any (l := L3) (cap := 3) HP.out).mono ?_
  rintro e w2 ⟨s, n, rfl, hn, hs, -, hb2⟩
  obtain rfl : n = 0 := hn.trans ((bars_right _).2 right3)
  have HS := Lib.hid (hs right3)
  have HB2 := Lib.hid (HB1.out.trans (hb2.mono HB1.out.size))
  have hsz : s.size ≤ 70000000000000 := by rw [HS.out, tsize]; have := text_small right3; omega
  clear hn hs hb2
  go_wp2_with fail
  refine (open_any s _ hsz).mono ?_
  rintro e w3 ⟨hb3, h⟩
  have HB3 := Lib.hid (HB2.out.trans (hb3.mono HB2.out.size))
  clear hb3
  rcases h with ⟨a, l, hl, rfl, ht, -⟩ | ⟨hno, -⟩
  · obtain rfl : l = L3 := text_inj hl.1 right3 (by
      have h1 := hl.2.symm.trans HS.out
      have h2 := congrArg bl h1
      rwa [bl_of, bl_of] at h2)
    have HT := Lib.hid ht
    clear hl ht
    go_wp2_with fail
    refine (get_any HT.out ⟨#[98]⟩).mono ?_
    rintro e w4 ⟨rfl, hb4⟩
    have HB4 := Lib.hid hb4
    rw [get3_b]
    unfold getV enV
    simp only [Option.getD_some, Option.isSome_some]
    clear hb4
    go_wp2_with fail
    refine (get_any (HT.out.below (HB4.out.alloc HB4.out.size _)) ⟨#[98, 98]⟩).mono ?_
    rintro e w5 ⟨rfl, hb5⟩
    have hbA := below_alloc w4 (.cells #[.string ⟨#[98]⟩, .string ⟨#[]⟩, .bool true] 31)
    have HB5 := Lib.hid (HB3.out.trans (((HB4.out.trans (hbA.mono HB4.out.size)).trans (hb5.mono (Nat.le_trans HB4.out.size hbA.size))).mono HB3.out.size))
    have hx5 : w5.heap[w4.heap.size]? = some (.cells #[.string ⟨#[98]⟩, .string ⟨#[]⟩, .bool true] 31 (0, 0)) := (hb5.block _ (by simp)).trans (heap_alloc_new w4 _)
    have hl5 : w4.heap.size < w5.heap.size := (Array.getElem?_eq_some_iff.1 hx5).1
    obtain ⟨d0, d1, d2⟩ := cells3 hx5
    have HT5 := Lib.hid ((HT.out.below (HB4.out.alloc HB4.out.size (.cells #[.string ⟨#[98]⟩, .string ⟨#[]⟩, .bool true] 31))).below hb5)
    rw [get3_bb]
    unfold getV enV
    simp only [Option.getD_none, Option.isSome_none]
    clear hb5 hbA hx5
    go_wp2_with fail
    refine (len_any (HT5.out.below (below_alloc w5 _))).mono ?_
    rintro e w6 ⟨rfl, rfl⟩
    rw [show L3.length = 3 from rfl]
    go_wp2_with fail
    go_ret
    exact ⟨rfl, HB5.out.alloc HB5.out.size _⟩
  · exact absurd ⟨L3, right3, HS.out⟩ hno
end Go.Proofs.Ytgmaccfhgeocdaa
