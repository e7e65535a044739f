/-
  Walks over package table: place, Get, From. Condition: a right list's table.
-/
import Derived.Test.YtgmaccfhgeocdaaTabOpen
namespace Go.Proofs.Ytgmaccfhgeocdaa
open Go.RowKit Tb

theorem IsTab.blk {W : World} {a : Nat} {l : List En} (h : IsTab W a l) : ∃ p cap, W.heap[a]? = some (tabO l.length (.slice p (blocks 0 0 l).length cap) (ba (rows l))) ∧
    ∀ i (h : i < (blocks 0 0 l).length), ∃ A, p = some A ∧ W.cell? (A.add (i * 2)) = some (.string (blocks 0 0 l)[i].1) ∧ W.cell? ⟨(A.add (i * 2)).block, (A.add (i * 2)).off + 1, none⟩ = some (.int .i64 ((blocks 0 0 l)[i].2 : Nat)) := by
  obtain ⟨⟨p, cap, h1, h2⟩, -⟩ := h
  refine ⟨p, cap, h1, fun i hi => ?_⟩
  obtain ⟨A, rfl, -, hc⟩ := h2 i hi
  refine ⟨A, rfl, hc 0 (by omega), ?_⟩
  have := hc 1 (by omega)
  rw [← tadd] at this
  exact this
theorem gt_eq (a b : ByteArray) : (!Op.bytesLess a.toList b.toList && !(a.toList == b.toList)) = Mm.lt b a := by
  by_cases e : a = b
  · subst e; rw [Mm.lt_irrefl]; simp
  · rcases Mm.lt_total e with h | h
    · obtain ⟨q1, q2, q3, q4⟩ := lt_eqs.1 h
      rw [q1, q3]; unfold Mm.lt; rw [q2]; rfl
    · obtain ⟨q1, q2, q3, q4⟩ := lt_eqs.1 h
      rw [h, q2, q4]; rfl
set_option maxRecDepth 100000 in
set_option maxHeartbeats 4000000 in
theorem place1_any {W : World} {a b1 b2 : Nat} {l : List En} {key : ByteArray} (h : IsTab W a l) (h1 : W.heap[b1]? = some (.cells #[.pointer (some ⟨a, 0, none⟩)] 27 (0, 0))) (h2 : W.heap[b2]? = some (.cells #[.string key] 9 (0, 0))) (i : Nat) (hi : i < (blocks 0 0 l).length) :
    Calls Try.prog 41 #[.int .i64 (i : Nat), .pointer (some ⟨b1, 0, none⟩), .pointer (some ⟨b2, 0, none⟩)] W fun e w' => e = .returned (.bool (Mm.lt key (blocks 0 0 l)[i].1)) ∧ ∃ q, w' = W.drewN q := by
  obtain ⟨p, cap, ht, hc⟩ := h.blk
  obtain ⟨A, rfl, d0, -⟩ := hc i hi
  have c0 := (cells1 h1).1
  have c1 := (cells1 h2).1
  have c2 := (cells3 ht).2.1
  have i0 : (i : Int) < ((blocks 0 0 l).length : Int) := by omega
  have i1 : (0 : Int) ≤ (i : Int) := by omega
  generalize (blocks 0 0 l)[i] = x at *
  obtain ⟨n, hn⟩ : ∃ n, n = (blocks 0 0 l).length := ⟨_, rfl⟩
  rw [← hn] at c2 hi i0
  clear hc ht h1 h2 h hn
  go_enter Try.func41, Try.ntmps41
  go_wp2_with fail
  go_quiet (fail)
  go_wp2_with fail
  go_ret
  refine ⟨?_, _, rfl⟩
  rw [← gt_eq]; rfl

set_option maxRecDepth 100000 in
set_option maxHeartbeats 4000000 in
theorem search_gen {W : World} {b1 b2 : Nat} {key : ByteArray} (B : List Blk) (n : Nat) (hn : n = B.length) (hfew : n ≤ 257)
    (hP : ∀ (q i : Nat) (hi : i < B.length), Calls Try.prog 41 #[.int .i64 (i : Nat), .pointer (some ⟨b1, 0, none⟩), .pointer (some ⟨b2, 0, none⟩)] (W.drewN q) fun e w' => e = .returned (.bool (Mm.lt key B[i].1)) ∧ ∃ q', w' = W.drewN q') :
    Calls Try.prog 40 #[.int .i64 (n : Nat), .func (.func 41) #[] #[.pointer (some ⟨b1, 0, none⟩), .pointer (some ⟨b2, 0, none⟩)]] W fun e w' =>
      ∃ s : Nat, e = .returned (.int .i64 (s : Nat)) ∧ s ≤ n ∧ (∀ (_ : 0 < s) (hl : s - 1 < B.length), Mm.lt key B[s - 1].1 = false) ∧ (∀ (_ : s = 0) (hl : 0 < B.length), Mm.lt key B[0].1 = true) ∧ ∃ q, w' = W.drewN q := by
  have HP := Lib.hid hP
  have HN := Lib.hid hn
  clear hP hn
  go_enter Try.func40, Try.ntmps40
  go_wp2_with fail
  go_loopw [5, 6] (fun iv jv wr => ∃ i j q : Nat, i ≤ j ∧ j ≤ n ∧ iv = .int .i64 (i : Nat) ∧ jv = .int .i64 (j : Nat) ∧ Hid ((∀ (hs : 0 < i) (hl : i - 1 < B.length), Mm.lt key B[i - 1].1 = false) ∧ (∀ (_ : j < n) (hl : j < B.length), Mm.lt key B[j].1 = true) ∧ wr = W.drewN q)) (fun iv jv _ => (intOf jv).toNat - (intOf iv).toNat)
  case atStart => exact ⟨0, n, 0, Nat.zero_le _, Nat.le_refl _, rfl, rfl, Lib.hid ⟨fun h => by omega, fun h => by omega, rfl⟩⟩
  case round =>
    obtain ⟨i, j, q, hij, hj, rfl, rfl, H⟩ := hrel
    by_cases hlt : i < j
    · have i0 : (i : Int) < (j : Int) := by omega
      have i1 : (0 : Int) ≤ (i : Int) := by omega
      have i2 : (j : Int) ≤ 257 := by omega
      have hw := H.out.2.2
      subst hw
      obtain ⟨m, hm⟩ : ∃ m, m = (i + j) / 2 := ⟨_, rfl⟩
      have hm1 : i ≤ m := by omega
      have hm2 : m < j := by omega
      have hmn : m < B.length := by rw [← HN.out]; omega
      have em : ((i : Int) + (j : Int)) / 2 = (m : Int) := by omega
      clear hm
      go_wp2_with fail
      refine (HP.out q m hmn).mono ?_
      rintro e w2 ⟨rfl, q', rfl⟩
      cases hb : Mm.lt key B[m].1 with
      | true =>
        have HH : Hid ((∀ (_ : 0 < i) (hl : i - 1 < B.length), Mm.lt key B[i - 1].1 = false) ∧ (∀ (_ : m < n) (hl : m < B.length), Mm.lt key B[m].1 = true)) := Lib.hid ⟨H.out.1, fun _ _ => hb⟩
        clear hb
        go_wp2_with fail
        exact ⟨⟨i, m, q', hm1, by omega, rfl, rfl, Lib.hid ⟨HH.out.1, HH.out.2, rfl⟩⟩, by simp only [intOf]; omega⟩
      | false =>
        have HH : Hid ((∀ (_ : 0 < m + 1) (hl : m + 1 - 1 < B.length), Mm.lt key B[m + 1 - 1].1 = false) ∧ (∀ (_ : j < n) (hl : j < B.length), Mm.lt key B[j].1 = true)) := Lib.hid ⟨fun _ _ => hb, H.out.2.1⟩
        clear hb
        go_wp2_with fail
        exact ⟨⟨m + 1, j, q', by omega, hj, by go_num, rfl, Lib.hid ⟨HH.out.1, HH.out.2, rfl⟩⟩, by simp only [intOf]; omega⟩
    · obtain rfl : i = j := by omega
      have i0 : ¬ (i : Int) < (i : Int) := by omega
      go_wp2_with fail
      go_ret
      exact ⟨i, rfl, by omega, H.out.1, fun h hl => by
        subst h
        exact H.out.2.1 (by rw [HN.out]; exact hl) hl, q, H.out.2.2⟩
theorem search_any {W : World} {a b1 b2 : Nat} {l : List En} {key : ByteArray} (h : IsTab W a l) (h1 : W.heap[b1]? = some (.cells #[.pointer (some ⟨a, 0, none⟩)] 27 (0, 0))) (h2 : W.heap[b2]? = some (.cells #[.string key] 9 (0, 0))) (n : Nat) (hn : n = (blocks 0 0 l).length) :
    Calls Try.prog 40 #[.int .i64 (n : Nat), .func (.func 41) #[] #[.pointer (some ⟨b1, 0, none⟩), .pointer (some ⟨b2, 0, none⟩)]] W fun e w' =>
      ∃ s : Nat, e = .returned (.int .i64 (s : Nat)) ∧ s ≤ n ∧ (∀ (_ : 0 < s) (hl : s - 1 < (blocks 0 0 l).length), Mm.lt key (blocks 0 0 l)[s - 1].1 = false) ∧ (∀ (_ : s = 0) (hl : 0 < (blocks 0 0 l).length), Mm.lt key (blocks 0 0 l)[0].1 = true) ∧ ∃ q, w' = W.drewN q :=
  search_gen (blocks 0 0 l) n hn (by rw [hn, blocks_len]; have := h.2.few; omega) fun q i hi => (place1_any (W := W.drewN q) h h1 h2 i hi).mono fun _ _ ⟨e, q', hw⟩ => ⟨e, q + q', by rw [hw]; simp [World.drewN, Nat.add_assoc]⟩

/-- The block that is found begins where, or ahead of, the key's place. -/
theorem start_le {l : List En} (h : Right l) (key : ByteArray) {m : Nat} (hm : m < l.length) (hk : Mm.lt key l[m].key = false) : m ≤ below l key := by
  by_cases hb : m ≤ below l key
  · exact hb
  · have h1 := h.le hm (show below l key < m by omega)
    have h2 := below_at l key (by omega)
    -- the key at the place is not below the key, and is below the one at m, which is not above the key
    have h3 : Mm.lt l[m].key key = false := h.from_ key hm (by omega)
    by_cases e : l[below l key].key = key
    · rw [e] at h1; rw [h1] at hk; cases hk
    · rcases Mm.lt_total e with h4 | h4
      · rw [h4] at h2; cases h2
      · rw [Mm.lt_trans h4 h1] at hk; cases hk
/-- What at answers at the places of a table. -/
theorem at_offs {l : List En} (h : Right l) {m : Nat} (hm : m ≤ l.length) : atR (rows l) (off l m) = if hm : m < l.length then some (l[m], off l (m + 1)) else none := by
  by_cases hlt : m < l.length
  · rw [dif_pos hlt]; exact at_off l h.ok hlt
  · rw [dif_neg hlt]
    obtain rfl : m = l.length := by omega
    exact at_end _ (by rw [off_all]; exact Nat.le_refl _)
theorem rows_small {l : List En} (h : Right l) : (rows l).length ≤ 1000000 := by
  have h2 := rows_len l
  have h3 := h.few
  have h4 := h.light
  omega
set_option maxRecDepth 100000 in
set_option maxHeartbeats 8000000 in
theorem place_any {w : World} {a : Nat} {l : List En} (h : IsTab w a l) (key : ByteArray) :
    Calls Try.prog 30 #[.pointer (some ⟨a, 0, none⟩), .string key] w fun e w' => e = .returned (.int .i64 (off l (below l key) : Nat)) ∧ Below w.heap.size w w' := by
  obtain ⟨W, hW⟩ : ∃ W, W = (w.alloc (.cells #[.pointer (some ⟨a, 0, none⟩)] 27)).alloc (.cells #[.string key] 9) := ⟨_, rfl⟩
  have h1 : W.heap[w.heap.size]? = some (.cells #[.pointer (some ⟨a, 0, none⟩)] 27 (0, 0)) := by rw [hW]; exact (Below.heap_alloc _ _ _ (by simp)).trans (heap_alloc_new w _)
  have h2 : W.heap[w.heap.size + 1]? = some (.cells #[.string key] 9 (0, 0)) := by
    rw [hW]
    have := heap_alloc_new (w.alloc (.cells #[.pointer (some ⟨a, 0, none⟩)] 27)) (.cells #[.string key] 9); rw [World.size_alloc] at this; exact this
  have hbW : Below w.heap.size w W := by rw [hW]; exact (below_alloc w _).alloc (by simp) _
  have hT := h.below hbW
  have hzW : W.heap.size = w.heap.size + 2 := by rw [hW]; simp
  obtain ⟨p, cap, ht, hc⟩ := h.blk
  have ha : a < w.heap.size := (Array.getElem?_eq_some_iff.1 ht).1
  have c2 := (cells3 ht).2.1
  obtain ⟨n, hn⟩ : ∃ n, n = (blocks 0 0 l).length := ⟨_, rfl⟩
  have hse := search_any (key := key) hT h1 h2 n hn
  have hnl : n = (l.length + 15) / 16 := by rw [hn, blocks_len]
  have hfew := h.2.few
  have hn257 : n ≤ 257 := by omega
  rw [← hn] at c2
  rw [hW] at hse
  have HSE := Lib.hid hse
  have HT := Lib.hid hT
  have HN := Lib.hid hn
  have HNL := Lib.hid hnl
  have HC := Lib.hid hc
  have HBW := Lib.hid hbW
  have HZ := Lib.hid hzW
  have H1 := Lib.hid h1
  have H2 := Lib.hid h2
  have HW := Lib.hid hW
  clear hn hnl hc ht h h1 h2 hbW hzW hse hW hT
  go_enter Try.func30, Try.ntmps30
  go_wp2_with fail
  refine HSE.out.mono ?_
  rintro e w2 ⟨s, rfl, hsn, hs1, hs2, q, rfl⟩
  have HS1 := Lib.hid hs1
  have HS2 := Lib.hid hs2
  clear hs1 hs2
  by_cases hs0 : s = 0
  · have d0 : ((s : Int) == 0) = true := by rw [beq_iff_eq]; omega
    have HS0 := Lib.hid hs0
    clear hs0
    go_wp2_with fail
    go_ret
    refine ⟨?_, by rw [← HW.out]; exact HBW.out.trans (below_drewN (Below.refl _ _) q)⟩
    have e0 : below l key = 0 := by
      by_cases hl : l.length = 0
      · have := below_le l key; omega
      · have h1 := HS2.out HS0.out (by rw [← HN.out, HNL.out]; omega)
        have h2 := block_at l 0
        rw [List.getElem?_eq_getElem (by rw [← HN.out, HNL.out]; omega), List.getElem?_eq_getElem (by omega)] at h2
        simp only [Option.map_some, Option.some.injEq] at h2
        rw [h2] at h1
        simp only [Nat.mul_zero] at h1
        by_cases hb : 0 < below l key
        · obtain ⟨_, h3⟩ := below_lt l key hb
          rw [Mm.lt_asymm h1] at h3; cases h3
        · omega
    rw [e0, off_zero]; rfl
  · have d0 : ((s : Int) == 0) = false := by rw [beq_eq_false_iff_ne]; omega
    have i1 : (0 : Int) ≤ (s : Int) - 1 := by omega
    have i2 : (s : Int) - 1 < (n : Int) := by omega
    have i3 : ((s : Int) - 1).toNat = s - 1 := by omega
    have i4 : (s : Int) ≤ 257 := by omega
    have i5 : (1 : Int) ≤ (s : Int) := by omega
    have hsl : s - 1 < (blocks 0 0 l).length := by rw [← HN.out]; omega
    obtain ⟨A, rfl, b0, b1⟩ := HC.out (s - 1) hsl
    have hAb : (A.add ((s - 1) * 2)).block < w.heap.size := cell_block b0
    have h2 := block_at l (s - 1)
    have h16 : 16 * (s - 1) < l.length := by have := HNL.out; omega
    rw [List.getElem?_eq_getElem hsl, List.getElem?_eq_getElem h16] at h2
    simp only [Option.map_some, Option.some.injEq] at h2
    have HK : Hid (Mm.lt key (l[16 * (s - 1)]).key = false) := Lib.hid (by have := HS1.out (by omega) hsl; rw [h2] at this; exact this)
    rw [h2] at b1
    simp only at b1
    have HM := Lib.hid (start_le HT.out.2 key h16 HK.out)
    obtain ⟨m0, hm0⟩ : ∃ m0, m0 = 16 * (s - 1) := ⟨_, rfl⟩
    rw [← hm0] at b1 HM h16
    clear h2 hm0 b0
    go_wp2_with fail
    rw [← HW.out]
    have HR : Hid (∀ W', Below W.heap.size W W' → RowsAt W' a (rows l)) := Lib.hid fun W' hb => (HT.out.1.rows).below hb
    have hrl := rows_small HT.out.2
    have HOL : Hid (∀ m, off l m ≤ 1000000) := Lib.hid fun m => Nat.le_trans (off_le l m) hrl
    refine (at_any (HR.out _ (below_drewN (Below.refl _ _) q)) (by omega) (off l m0) (by have := HOL.out m0; omega)).mono ?_
    rintro e w3 ⟨rfl, hb3⟩
    obtain ⟨o, ho⟩ : ∃ o, o = atR (rows l) (off l m0) := ⟨_, rfl⟩
    have HO := Lib.hid ho
    rw [← ho, atV_eq]
    unfold enV
    have HB3 := Lib.hid ((below_drewN (Below.refl W.heap.size W) q).trans hb3)
    have HAL := Lib.hid (below_alloc w3 (.cells #[.string (atE o).key, .string (atE o).value, .bool (atE o).gone] 31))
    have HNW := Lib.hid (heap_alloc_new w3 (.cells #[.string (atE o).key, .string (atE o).value, .bool (atE o).gone] 31))
    clear ho hb3 c2 b1
    go_wp2_with fail
    go_loopw [6, 7, 8, 9] (fun pv bv nv kv wr => ∃ m b : Nat, m ≤ below l key ∧ pv = .int .i64 (off l m : Nat) ∧ bv = .pointer (some ⟨b, 0, none⟩) ∧ nv = .int .i64 (atN (atR (rows l) (off l m)) : Nat) ∧ kv = .bool (atR (rows l) (off l m)).isSome ∧
        Hid (wr.heap[b]? = some (entO (atE (atR (rows l) (off l m)))) ∧ W.heap.size ≤ b ∧ Below W.heap.size W wr)) (fun pv _ _ _ _ => 2000000 - (intOf pv).toNat)
    case atStart => exact ⟨m0, w3.heap.size, HM.out, rfl, rfl, by rw [← HO.out], by rw [← HO.out], Lib.hid ⟨by rw [← HO.out]; exact HNW.out, HB3.out.size, HB3.out.trans (HAL.out.mono HB3.out.size)⟩⟩
    case round =>
      obtain ⟨m, b, hm, rfl, rfl, rfl, rfl, H⟩ := hrel
      have hbl := below_le l key
      have hro := at_offs HT.out.2 (show m ≤ l.length by omega)
      have hzW := HZ.out
      have c1 := (cells1 ((H.out.2.2.block (w.heap.size + 1) (by omega)).trans H2.out)).1
      have c0 := (cells1 ((H.out.2.2.block w.heap.size (by omega)).trans H1.out)).1
      obtain ⟨e0, e1, e2⟩ := cells3 (show wr.heap[b]? = some (.cells #[.string (atE (atR (rows l) (off l m))).key, .string (atE (atR (rows l) (off l m))).value, .bool (atE (atR (rows l) (off l m))).gone] 31 (0, 0)) from H.out.1)
      have hw0 : w.heap.size < wr.heap.size := by have := H.out.2.2.size; omega
      clear hzW
      by_cases hml : m < l.length
      · rw [dif_pos hml] at hro
        rw [hro] at e0 e1 e2 ⊢
        rw [atE_some] at e0 e1 e2
        rw [atN_some, Option.isSome_some]
        simp only at e0 e1 e2 ⊢
        have hofs := off_succ l hml
        have hrw := row_len l[m]
        have HRO := Lib.hid hro
        have ho1 := HOL.out (m + 1)
        clear hro
        by_cases hmb : m < below l key
        · obtain ⟨_, hlt⟩ := below_lt l key hmb
          obtain ⟨q1, q2, q3, q4⟩ := lt_eqs.1 hlt
          have HOF : Hid (off l m < off l (m + 1)) := Lib.hid (by omega)
          obtain ⟨x, hx⟩ : ∃ x, x = l[m] := ⟨_, rfl⟩
          rw [← hx] at e0 e1 e2 q1 q2 q3 q4
          have hbA := below_alloc wr (.cells #[.string x.key, .string x.value, .bool x.gone] 31)
          have HBA := Lib.hid (H.out.2.2.trans (hbA.mono H.out.2.2.size))
          clear hx hlt hofs hrw hbA
          go_wp2_with fail
          refine (at_any (HR.out _ HBA.out) (by omega) (off l (m + 1)) (by omega)).mono ?_
          rintro e w4 ⟨rfl, hb4⟩
          obtain ⟨o4, ho4⟩ : ∃ o, o = atR (rows l) (off l (m + 1)) := ⟨_, rfl⟩
          have HO4 := Lib.hid ho4
          rw [← ho4, atV_eq]
          unfold enV
          have hbx : w4.heap[wr.heap.size]? = some (entO x) := (hb4.block wr.heap.size (by simp)).trans (heap_alloc_new wr _)
          obtain ⟨g0, g1, g2⟩ := cells3 (show w4.heap[wr.heap.size]? = some (.cells #[.string x.key, .string x.value, .bool x.gone] 31 (0, 0)) from hbx)
          have gf0 := frozen_of_row w4 wr.heap.size 0 _ _ hbx
          have gf1 := frozen_of_row w4 wr.heap.size 1 _ _ hbx
          have gf2 := frozen_of_row w4 wr.heap.size 2 _ _ hbx
          have HBX := Lib.hid hbx
          have HB4 := Lib.hid (HBA.out.trans (hb4.mono HBA.out.size))
          have HWR := Lib.hid H.out.2.2.size
          clear ho4 hbx hb4 e0 e1 e2 c0 c1 q1 q2 q3 q4 H
          go_wp2_with fail
          refine ⟨⟨m + 1, wr.heap.size, by omega, rfl, rfl, by rw [← HO4.out], by rw [← HO4.out], Lib.hid ⟨by rw [← HO4.out]; exact ent_set HBX.out (atE o4), HWR.out, ((HB4.out.setCell HWR.out _).setCell HWR.out _).setCell HWR.out _⟩⟩, by have := HOF.out; simp only [intOf]; omega⟩
        · obtain rfl : m = below l key := by omega
          have hlt := below_at l key hml
          have q1 := lt_eqs.2 hlt
          obtain ⟨x, hx⟩ : ∃ x, x = l[below l key] := ⟨_, rfl⟩
          rw [← hx] at e0 e1 e2 q1
          clear hx hlt hofs hrw
          go_wp2_with fail
          go_ret
          exact ⟨rfl, HBW.out.trans (H.out.2.2.mono HBW.out.size)⟩
      · rw [dif_neg hml] at hro
        rw [hro] at e0 e1 e2 ⊢
        rw [atE_none] at e0 e1 e2
        rw [atN_none, Option.isSome_none]
        obtain rfl : m = below l key := by omega
        clear hro
        go_wp2_with fail
        go_ret
        exact ⟨rfl, HBW.out.trans (H.out.2.2.mono HBW.out.size)⟩
set_option maxHeartbeats 4000000 in
theorem place_nil (w : World) (key : ByteArray) : Calls Try.prog 30 #[.pointer none, .string key] w fun e w' => e = .returned (.int .i64 0) ∧ Below w.heap.size w w' := by
  go_enter Try.func30, Try.ntmps30
  go_wp2_with fail
  go_ret
  exact ⟨rfl, (below_alloc w _).alloc (by simp) _⟩
/-- The entry of a key. -/
def getE (l : List En) (key : ByteArray) : Option En := if h : below l key < l.length then (if l[below l key].key = key then some l[below l key] else none) else none
def getV (o : Option En) : Value := .tuple #[enV (o.getD ⟨⟨#[]⟩, ⟨#[]⟩, false⟩), .bool o.isSome]
theorem getE_at {l : List En} (h : Right l) {i : Nat} (hi : i < l.length) : getE l l[i].key = some l[i] := by
  unfold getE
  have e := h.find hi
  simp only [e]
  rw [dif_pos hi]; simp
theorem getE_some {l : List En} {key : ByteArray} {e : En} (h : getE l key = some e) : e ∈ l ∧ e.key = key := by
  unfold getE at h
  split at h
  · rename_i hb
    split at h
    · rename_i hk
      simp only [Option.some.injEq] at h
      rw [← h]
      exact ⟨List.getElem_mem hb, hk⟩
    · cases h
  · cases h
theorem getE_is {l : List En} (h : Right l) (key : ByteArray) : (getE l key).isSome = true ↔ ∃ e ∈ l, e.key = key := by
  constructor
  · intro h2
    obtain ⟨e, he⟩ := Option.isSome_iff_exists.1 h2
    obtain ⟨h3, h4⟩ := getE_some he
    exact ⟨e, h3, h4⟩
  · rintro ⟨e, he, rfl⟩
    obtain ⟨i, hi, rfl⟩ := List.getElem_of_mem he
    rw [getE_at h hi]; rfl
end Go.Proofs.Ytgmaccfhgeocdaa
