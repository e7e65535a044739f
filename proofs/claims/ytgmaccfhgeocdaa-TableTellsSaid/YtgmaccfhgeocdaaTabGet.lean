/-
  Walks over package table: Get. Condition: a right list's table.
-/
import Derived.Test.YtgmaccfhgeocdaaTabPlace
namespace Go.Proofs.Ytgmaccfhgeocdaa
open Go.RowKit Tb

theorem results_get (tmps : Array Value) (w : World) (g : Nat) (e : En) (b : Bool) (hp : tmps.getD 4 undef = .pointer (some ⟨g, 0, none⟩)) (hb : tmps.getD 5 undef = .bool b) (hc : w.heap[g]? = some (entO e)) :
    (results Try.f10 tmps).run Try.prog w = .ok (.tuple #[enV e, .bool b]) w := by
  obtain ⟨r0, r1, r2⟩ := cells3 hc
  have hp' : tmps[4]?.getD undef = .pointer (some ⟨g, 0, none⟩) := by simpa using hp
  have hb' : tmps[5]?.getD undef = .bool b := by simpa using hb
  simp [results, hp', hb', asAddr, loadVar, r0, r1, r2, go_sem, enV]
theorem getbox {w3 : World} {g : Nat} {e : En} (h : w3.heap[g]? = some (entO e)) (hg : g < w3.heap.size) (e' : En) (o : Obj) : ((((w3.setCell ⟨g, 0, none⟩ (.string e'.key)).setCell ⟨g, 1, none⟩ (.string e'.value)).setCell ⟨g, 2, none⟩ (.bool e'.gone)).alloc o).heap[g]? = some (entO e') :=
  (Below.heap_alloc _ _ _ (by simpa [World.setCell] using hg)).trans (ent_set h e')
theorem getbelow {w w3 : World} (h : Below w.heap.size w w3) (v0 v1 v2 : Value) (o : Obj) : Below w.heap.size w ((((w3.setCell ⟨w.heap.size, 0, none⟩ v0).setCell ⟨w.heap.size, 1, none⟩ v1).setCell ⟨w.heap.size, 2, none⟩ v2).alloc o) := by
  have h2 := ((h.setCell (p := ⟨w.heap.size, 0, none⟩) (Nat.le_refl _) v0).setCell (p := ⟨w.heap.size, 1, none⟩) (Nat.le_refl _) v1).setCell (p := ⟨w.heap.size, 2, none⟩) (Nat.le_refl _) v2
  exact h2.alloc h2.size o
set_option maxRecDepth 100000 in
set_option maxHeartbeats 8000000 in
theorem get_any {w : World} {a : Nat} {l : List En} (h : IsTab w a l) (key : ByteArray) :
    Calls Try.prog 10 #[.pointer (some ⟨a, 0, none⟩), .string key] w fun e w' => e = .returned (getV (getE l key)) ∧ Below w.heap.size w w' := by
  have hb1 := below_alloc w (.cells #[.string ⟨#[]⟩, .string ⟨#[]⟩, .bool false] 31)
  have HP := Lib.hid (place_any (h.below hb1) key)
  have HT := Lib.hid h
  have HB1 := Lib.hid hb1
  have HN := Lib.hid (heap_alloc_new w (.cells #[.string ⟨#[]⟩, .string ⟨#[]⟩, .bool false] 31))
  have hrl := rows_small h.2
  have hof := Nat.le_trans (off_le l (below l key)) hrl
  clear h hb1
  go_enter Try.func10, Try.ntmps10
  go_wp2_with fail
  refine HP.out.mono ?_
  rintro e w2 ⟨rfl, hb2⟩
  have HB2 := Lib.hid (HB1.out.trans (hb2.mono HB1.out.size))
  have HN2 := Lib.hid ((hb2.block w.heap.size (by simp)).trans HN.out)
  clear hb2
  go_wp2_with fail
  refine (at_any (HT.out.below HB2.out).1.rows (by omega) (off l (below l key)) (by omega)).mono ?_
  rintro e w3 ⟨rfl, hb3⟩
  rw [at_offs HT.out.2 (below_le l key)]
  have HB3 := Lib.hid (HB2.out.trans (hb3.mono HB2.out.size))
  have hn3 : w3.heap[w.heap.size]? = some (.cells #[.string ⟨#[]⟩, .string ⟨#[]⟩, .bool false] 31 (0, 0)) := (hb3.block _ (Array.getElem?_eq_some_iff.1 HN2.out).1).trans HN2.out
  have HN3 := Lib.hid hn3
  have hl3 : w.heap.size < w3.heap.size := (Array.getElem?_eq_some_iff.1 hn3).1
  obtain ⟨r0, r1, r2⟩ := cells3 hn3
  have rf := frozen_of_row w3 w.heap.size 0 _ _ hn3
  have rf1 := frozen_of_row w3 w.heap.size 1 _ _ hn3
  have rf2 := frozen_of_row w3 w.heap.size 2 _ _ hn3
  have hne : (w3.heap.size = w.heap.size) = False := by simp; omega
  clear hb3 hn3
  have HG : Hid (getE l key = if h : below l key < l.length then (if l[below l key].key = key then some l[below l key] else none) else none) := Lib.hid rfl
  have HL3 := Lib.hid hl3
  by_cases hlt : below l key < l.length
  · rw [dif_pos hlt]
    by_cases hk : l[below l key].key = key
    · rw [dif_pos hlt, if_pos hk] at HG
      have d1 : (l[below l key].key.toList == key.toList) = true := by rw [hk]; exact beq_self_eq_true _
      clear hk
      rw [atV_eq, atE_some, atN_some, Option.isSome_some]
      generalize l[below l key] = x at *
      unfold enV
      simp only at *
      go_wp2_with fail
      rw [HG.out]
      refine bodyPost_ret (v := getV (some x)) (results_get _ _ w.heap.size x true rfl rfl (getbox (e := ⟨⟨#[]⟩, ⟨#[]⟩, false⟩) HN3.out HL3.out x _)) rfl ⟨rfl, getbelow HB3.out _ _ _ _⟩
    · rw [dif_pos hlt, if_neg hk] at HG
      have d1 := toList_ne hk
      clear hk
      rw [atV_eq, atE_some, atN_some, Option.isSome_some]
      generalize l[below l key] = x at *
      unfold enV
      simp only at *
      go_wp2_with fail
      rw [HG.out]
      refine bodyPost_ret (v := getV none) (results_get _ _ w.heap.size ⟨⟨#[]⟩, ⟨#[]⟩, false⟩ false rfl rfl (getbox (e := ⟨⟨#[]⟩, ⟨#[]⟩, false⟩) HN3.out HL3.out ⟨⟨#[]⟩, ⟨#[]⟩, false⟩ _)) rfl ⟨rfl, getbelow HB3.out _ _ _ _⟩
  · rw [dif_neg hlt]
    rw [dif_neg hlt] at HG
    rw [atV_eq, atE_none, atN_none, Option.isSome_none]
    unfold enV
    simp only
    go_wp2_with fail
    rw [HG.out]
    refine bodyPost_ret (v := getV none) (results_get _ _ w.heap.size ⟨⟨#[]⟩, ⟨#[]⟩, false⟩ false rfl rfl (getbox (e := ⟨⟨#[]⟩, ⟨#[]⟩, false⟩) HN3.out HL3.out ⟨⟨#[]⟩, ⟨#[]⟩, false⟩ _)) rfl ⟨rfl, getbelow HB3.out _ _ _ _⟩
end Go.Proofs.Ytgmaccfhgeocdaa
