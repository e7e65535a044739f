/-
  Walks over package table: a nil table; lists that are written out. No condition.
-/
import Derived.Test.YtgmaccfhgeocdaaTabEnds
import Derived.Test.YtgmaccfhgeocdaaTabNoTab
namespace Go.Proofs.Ytgmaccfhgeocdaa
open Go.RowKit Go.Shelf Tb
attribute [local go_sem] Oper.semAt_some

set_option maxHeartbeats 4000000 in
theorem get_nil (w : World) (key : ByteArray) : Calls Try.prog 10 #[.pointer none, .string key] w fun e w' => e = .returned (getV none) ∧ Below w.heap.size w w' := by
  have hb1 := below_alloc w (.cells #[.string ⟨#[]⟩, .string ⟨#[]⟩, .bool false] 31)
  have HB1 := Lib.hid hb1
  have HN := Lib.hid (heap_alloc_new w (.cells #[.string ⟨#[]⟩, .string ⟨#[]⟩, .bool false] 31))
  clear hb1
  go_enter Try.func10, Try.ntmps10
  go_wp2_with fail
  refine (place_nil _ key).mono ?_
  rintro e w2 ⟨rfl, hb2⟩
  have HB2 := Lib.hid (HB1.out.trans (hb2.mono HB1.out.size))
  have HN2 := Lib.hid ((hb2.block w.heap.size (by simp)).trans HN.out)
  clear hb2
  go_wp2_with fail
  refine (at_nil _ _).mono ?_
  rintro e w3 ⟨rfl, hb3⟩
  have HB3 := Lib.hid (HB2.out.trans (hb3.mono HB2.out.size))
  have hn3 : w3.heap[w.heap.size]? = some (.cells #[.string ⟨#[]⟩, .string ⟨#[]⟩, .bool false] 31 (0, 0)) := (hb3.block _ (Array.getElem?_eq_some_iff.1 HN2.out).1).trans HN2.out
  have HN3 := Lib.hid hn3
  have hl3 : w.heap.size < w3.heap.size := (Array.getElem?_eq_some_iff.1 hn3).1
  obtain ⟨r0, r1, r2⟩ := cells3 hn3
  have rf := frozen_of_row w3 w.heap.size 0 _ _ hn3
  have rf1 := frozen_of_row w3 w.heap.size 1 _ _ hn3
  have rf2 := frozen_of_row w3 w.heap.size 2 _ _ hn3
  have hne : (w3.heap.size = w.heap.size) = False := by simp; omega
  have HL3 := Lib.hid hl3
  clear hb3 hn3
  rw [atV_eq, atE_none, atN_none, Option.isSome_none]
  unfold enV
  simp only
  go_wp2_with fail
  refine bodyPost_ret (v := getV none) (results_get _ _ w.heap.size ⟨⟨#[]⟩, ⟨#[]⟩, false⟩ false rfl rfl (getbox (e := ⟨⟨#[]⟩, ⟨#[]⟩, false⟩) HN3.out HL3.out ⟨⟨#[]⟩, ⟨#[]⟩, false⟩ _)) rfl ⟨rfl, getbelow HB3.out _ _ _ _⟩
set_option maxHeartbeats 4000000 in
theorem ends_nil (w : World) : Calls Try.prog 12 #[.pointer none] w fun e w' => e = .returned (endsV []) ∧ Below w.heap.size w w' := by
  refine (callsIn_wide (n := 9)).1 ?_
  refine callsIn_of_wp_marks Try.func12 rfl trivial ?_ rfl
  simp only [Try.ntmps12, List.size_toArray, List.length_cons, List.length_nil, Nat.reduceAdd, Nat.reduceSub, Array.replicate_succ, Array.replicate_zero, List.push_toArray, List.append_toArray, List.nil_append, List.cons_append]
  have hgk := heap_alloc_new w (.cells #[.string ⟨#[]⟩] 9)
  have HGK := Lib.hid hgk
  clear hgk
  gi_wp2_with fail
  refine ⟨trivial, ?_⟩
  refine (callsIn_wide.2 (len_nil _)).mono ?_
  rintro e w1 ⟨rfl, rfl⟩
  gi_wp2_with fail
  exact leaves_none (results_ends _ _ w.heap.size ⟨#[]⟩ ⟨#[]⟩ rfl rfl HGK.out) ⟨rfl, below_alloc w _⟩
set_option maxHeartbeats 4000000 in
theorem from_nil (w : World) (key : ByteArray) : Calls Try.prog 11 #[.pointer none, .string key] w (Beh w (.pointer none) 0) := by
  go_enter Try.func11, Try.ntmps11
  go_wp2_with fail
  refine (place_nil _ key).mono ?_
  rintro e w2 ⟨rfl, hb2⟩
  have HB2 := Lib.hid hb2
  clear hb2
  go_wp2_with fail
  refine (behind_any _ _ _).mono ?_
  rintro e w3 ⟨b1, b2, rfl, h1, h2, h3, h4, hb3⟩
  have HE : Hid (w3.heap[b1]? = some (.cells #[.pointer none] 27 (0, 0)) ∧ w3.heap[b2]? = some (.cells #[.int .i64 0] 3 (0, 0)) ∧ w.heap.size ≤ b1 ∧ b1 < b2 ∧ Below w.heap.size w w3) :=
    Lib.hid ⟨h1, h2, Nat.le_trans HB2.out.size h3, h4, HB2.out.trans (hb3.mono HB2.out.size)⟩
  clear h1 h2 h3 h4 hb3
  go_wp2_with fail
  go_ret
  exact ⟨b1, b2, rfl, HE.out⟩
set_option maxRecDepth 100000 in
set_option maxHeartbeats 4000000 in
theorem behind1_nil (n : Nat) (b1 b2 : Nat) (w : World) (h1 : w.heap[b1]? = some (.cells #[.pointer none] 27 (0, 0))) (h2 : w.heap[b2]? = some (.cells #[.int .i64 0] 3 (0, 0))) :
    SeqZ Fence.wide n Try.prog 42 #[.pointer (some ⟨b1, 0, none⟩), .pointer (some ⟨b2, 0, none⟩)] (fun x : En × Nat => #[enV x.1]) [] (fun k => k = b1 ∨ k = b2) w := fun l J Jx W hW hJ _ _ h0 => by
  refine callsIn_of_wp Try.func42 rfl trivial ?_ rfl
  simp only [Try.ntmps42, List.size_toArray, List.length_cons, List.length_nil, Nat.reduceAdd, Nat.reduceSub, Array.replicate_succ, Array.replicate_zero, List.push_toArray, List.append_toArray, List.nil_append, List.cons_append]
  have c1 := (cells1 ((hW.block b1 (Array.getElem?_eq_some_iff.1 h1).1).trans h1)).1
  have c2 := (cells1 ((hW.block b2 (Array.getElem?_eq_some_iff.1 h2).1).trans h2)).1
  gi_wp2_with fail
  refine ⟨trivial, wideN, ?_⟩
  refine (callsIn_wide.2 (at_nil W 0)).mono ?_
  rintro e w1 ⟨rfl, hb1⟩
  have HJ : Hid (J (fun _ => False) 0 (w1.alloc (.cells #[.string ⟨#[]⟩, .string ⟨#[]⟩, .bool false] 31))) := Lib.hid (hJ _ _ _ _ _ h0 (StepsZ.of_below (hb1.trans ((below_alloc w1 _).mono hb1.size))))
  rw [atV_eq, atE_none, atN_none, Option.isSome_none]
  unfold enV
  clear hb1 c1 c2
  gi_wp2_with fail
  gi_loopw [4, 5, 6] (fun _ _ kv wr => kv = .bool false ∧ Hid (J (fun _ => False) 0 wr)) (fun _ _ _ _ => 0)
  case atStart => exact ⟨rfl, HJ⟩
  case round =>
    obtain ⟨rfl, H⟩ := hrel
    gi_wp2_with fail
    refine ⟨fun _ h => (by cases h), ?_⟩
    gi_wp2_with fail
    go_end0
    exact ⟨⟨_, rfl⟩, fun _ => False, fun k hk => hk.elim, .inl H.out⟩

/-! ### lists that are written out -/
theorem ents_alloc (w : World) (l : List En) (cs : Array Value) (h : cs = (ensCells l).toArray) (hin : ∀ e ∈ l, EnIn e) : EntsAt (w.alloc (.cells cs 31)) (some ⟨w.heap.size, 0, none⟩) l := by
  intro i hi
  refine ⟨⟨w.heap.size, 0, none⟩, rfl, by simp, fun j hj => ?_, hin _ (List.getElem_mem hi)⟩
  have hadd : (⟨w.heap.size, 0, none⟩ : Addr).add (i * 3 + j) = ⟨w.heap.size, i * 3 + j, none⟩ := by unfold Addr.add; split <;> simp_all
  rw [hadd, cell_of_row _ _ _ _ _ _ (heap_alloc_new w (.cells cs 31)), h, ← ensCells_get hi hj]
  simp
end Go.Proofs.Ytgmaccfhgeocdaa
