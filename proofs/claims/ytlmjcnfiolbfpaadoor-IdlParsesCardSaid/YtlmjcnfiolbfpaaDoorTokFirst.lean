/-
  Walks over package token: skip, first. Conditions: those in the theorems.
-/
import Derived.Test.YtlmjcnfiolbfpaaDoorTokNum
import Derived.Deep.Cut
set_option linter.unusedSimpArgs false
set_option linter.unusedVariables false
namespace Tk
theorem skip_at {l : List UInt8} {k : Nat} (h : k < l.length) (hb : blank l[k] = true) : skip (l.drop k) = skip (l.drop (k + 1)) + 1 := by
  rw [List.drop_eq_getElem_cons h]; exact skip_blank hb
theorem skip_at_remark {l : List UInt8} {k : Nat} (hr : two 47 47 (l.drop k) = true) : skip (l.drop k) = line (l.drop k) + skip (l.drop (k + line (l.drop k))) := by
  rw [← List.drop_drop]; exact skip_remark hr
theorem skip_at_none {l : List UInt8} {k : Nat} (h : k < l.length) (hb : blank l[k] = false) (hr : two 47 47 (l.drop k) = false) : skip (l.drop k) = 0 := by
  refine skip_none (fun c r e => ?_) hr
  rw [List.drop_eq_getElem_cons h] at e
  cases e; exact hb
theorem skip_at_end {l : List UInt8} {k : Nat} (h : l.length ≤ k) : skip (l.drop k) = 0 := by rw [List.drop_of_length_le h]; rfl
end Tk
namespace Go.Proofs.YtlmjcnfiolbfpaaDoor
open Go.RowKit

theorem ext_list (s : ByteArray) (i j : Nat) : (s.extract i j).data.toList = (s.data.toList.drop i).take (j - i) := by
  simp [ByteArray.data_extract, Array.toList_extract, List.extract_eq_take_drop]
theorem ext_end (s : ByteArray) (i : Nat) : (s.extract i s.size).data.toList = s.data.toList.drop i := by
  rw [ext_list, List.take_of_length_le (by rw [List.length_drop, list_len]; omega)]
theorem ext_max {s : ByteArray} (i j : Nat) (h : s.size ≤ maxLen) : (s.extract i j).size ≤ maxLen := by rw [ByteArray.size_extract]; unfold maxLen at *; omega

set_option maxHeartbeats 2000000 in
theorem skip_any (s : ByteArray) (a : Nat) (w : World) (ha : a ≤ s.size) (hm : s.size ≤ maxLen) :
    Calls Tryd.prog 28 #[.string s, .int .i64 (a : Nat)] w fun e w' => e = .returned (.int .i64 (a + Tk.skip (s.data.toList.drop a) : Nat)) ∧ w' = w := by
  have hl := list_len s
  obtain ⟨n, hn⟩ : ∃ n, n = a + Tk.skip (s.data.toList.drop a) := ⟨_, rfl⟩
  have HN := Lib.hid hn
  rw [← hn]
  have hm2 : s.size ≤ 9223372036854775807 := hm
  have HM := Lib.hid hm
  have HST : Hid (∀ k (hk : k < s.size), n = k + Tk.skip (s.data.toList.drop k) → 
      (Tk.blank s[k] = true → n = (k + 1 : Nat) + Tk.skip (s.data.toList.drop (k + 1))) ∧
      (Tk.two 47 47 (s.data.toList.drop k) = true → Tk.blank s[k] = false → 1 ≤ Tk.line (s.data.toList.drop k) ∧ k + Tk.line (s.data.toList.drop k) ≤ s.size ∧ n = (k + Tk.line (s.data.toList.drop k)) + Tk.skip (s.data.toList.drop (k + Tk.line (s.data.toList.drop k)))) ∧
      (Tk.two 47 47 (s.data.toList.drop k) = false → Tk.blank s[k] = false → n = k)) := Lib.hid fun k hk e =>
    ⟨fun h => by rw [e, Tk.skip_at (by omega) h]; omega,
     fun h _ => ⟨Tk.line_pos h, by have := Tk.line_le (s.data.toList.drop k); rw [List.length_drop, hl] at this; omega, by rw [e]; have := Tk.skip_at_remark h; omega⟩,
     fun h hb => by rw [e, Tk.skip_at_none (by omega) hb h]; omega⟩
  have HEND : Hid (∀ k, s.size ≤ k → n = k + Tk.skip (s.data.toList.drop k) → n = k) := Lib.hid fun k hk e => by rw [e, Tk.skip_at_end (by omega)]; omega
  clear hl hn hm
  go_enter Tryd.func28, Tryd.ntmps28
  go_wp2_with fail
  go_loopw [1] (fun kv wr => ∃ k : Nat, k ≤ s.size ∧ kv = .int .i64 (k : Nat) ∧ Hid (n = k + Tk.skip (s.data.toList.drop k)) ∧ wr = w) (fun kv _ => s.size - (intOf kv).toNat)
  case atStart => exact ⟨a, ha, rfl, HN, rfl⟩
  case round =>
    obtain ⟨k, hk, rfl, HK, rfl⟩ := hrel
    by_cases hks : k < s.size
    · have j1 : (k : Int) < (s.size : Int) := by omega
      have j2 : (0 : Int) ≤ (k : Int) := by omega
      have j3 : (k : Int) ≤ (s.size : Int) := by omega
      have q1 := tk_strings_IndexByte ⟨#[32, 9, 10, 13]⟩ (s[k].toNat : Int) wr
      rw [show (⟨#[32, 9, 10, 13]⟩ : ByteArray).data.toList = [32, 9, 10, 13] from rfl, u8_back] at q1
      have hb := blank_index s[k]
      obtain ⟨y1, y2, y3⟩ := HST.out k hks HK.out
      generalize Go.Lib.indexByte [32, 9, 10, 13] s[k] = x at *
      cases hbl : Tk.blank s[k] with
      | true =>
        have hx : (0 : Int) ≤ x := by rw [hbl] at hb; exact of_decide_eq_true hb
        have HY := Lib.hid (y1 hbl)
        clear y1 y2 y3 hb hbl
        go_wp2_with (go_at_call 45; refine q1.mono ?_; rintro e w' ⟨rfl, hw'⟩; obtain rfl := hw')
        go_roundw
        case rel => exact ⟨k + 1, by omega, by go_num, HY, by first | trivial | rfl⟩
        case measure => simp [intOf]; omega
      | false =>
        have hx : ¬ (0 : Int) ≤ x := by rw [hbl] at hb; exact of_decide_eq_false hb
        have q2 := fun W => tk_strings_HasPrefix (s.extract k s.size) ⟨#[47, 47]⟩ W
        rw [show (⟨#[47, 47]⟩ : ByteArray).data.toList = [47, 47] from rfl, ext_end] at q2
        simp only [two_prefix, show (47 : UInt8).toNat = 47 from rfl] at q2
        cases ht : Tk.two 47 47 (s.data.toList.drop k) with
        | true =>
          have q3 := fun W => line_any (s.extract k s.size) W (ext_max _ _ HM.out)
          rw [ext_end] at q3
          obtain ⟨z1, z2, z3⟩ := y2 ht hbl
          rw [ht] at q2
          have HY := Lib.hid z3
          generalize Tk.line (s.data.toList.drop k) = m at *
          clear y1 y2 y3 hb hbl z3 ht
          go_wp2_with (first | (go_at_call 45; refine q1.mono ?_; rintro e w' ⟨rfl, hw'⟩; obtain rfl := hw') | (go_at_call 46; refine (q2 _).mono ?_; rintro e w' ⟨rfl, hw'⟩; obtain rfl := hw') | (go_at_call 47; refine (q3 _).mono ?_; rintro e w' ⟨rfl, hw'⟩; obtain rfl := hw') | fail)
          go_roundw
          case rel => exact ⟨k + m, by omega, by go_num, HY, by first | trivial | rfl⟩
          case measure => simp [intOf]; omega
        | false =>
          have HY := Lib.hid (y3 ht hbl)
          rw [ht] at q2
          clear y1 y2 y3 hb hbl ht
          go_wp2_with (first | (go_at_call 45; refine q1.mono ?_; rintro e w' ⟨rfl, hw'⟩; obtain rfl := hw') | (go_at_call 46; refine (q2 _).mono ?_; rintro e w' ⟨rfl, hw'⟩; obtain rfl := hw') | fail)
          go_ret
          exact ⟨by rw [HY.out]; rfl, rfl⟩
    · have HY := Lib.hid (HEND.out k (by omega) HK.out)
      have j1 : ¬ (k : Int) < (s.size : Int) := by omega
      go_wp2_with fail
      go_ret
      exact ⟨by rw [HY.out]; rfl, rfl⟩

theorem ext_bs (s : ByteArray) (n : Nat) : s.extract 0 n = Tk.bs (s.data.toList.take n) := by
  have e := ext_list s 0 n
  rw [List.drop_zero, Nat.sub_zero] at e
  show _ = (⟨(s.data.toList.take n).toArray⟩ : ByteArray)
  rw [← e]
theorem tk_set {w : World} {a i : Nat} {cs : Array Value} {T : TypeId} (h : w.heap[a]? = some (.cells cs T (0, 0))) (v : Value) : (w.setCell ⟨a, i, none⟩ v).heap[a]? = some (.cells (cs.setIfInBounds i v) T (0, 0)) := heap_setCell_same w a i cs T v h
theorem set_four {W : World} {a : Nat} {x0 x1 x2 x3 : Value} (y0 y1 y2 y3 : Value) {T : TypeId} (h : W.heap[a]? = some (.cells #[x0, x1, x2, x3] T (0, 0))) :
    ((((W.setCell ⟨a, 0, none⟩ y0).setCell ⟨a, 1, none⟩ y1).setCell ⟨a, 2, none⟩ y2).setCell ⟨a, 3, none⟩ y3).heap[a]? = some (.cells #[y0, y1, y2, y3] T (0, 0)) :=
  tk_set (tk_set (tk_set (tk_set h _) _) _) _
theorem below_four {B : Nat} {w W : World} {a : Nat} {x y z u : Value} (h : Below B w W) (ha : B ≤ a) : Below B w ((((W.setCell ⟨a, 0, none⟩ x).setCell ⟨a, 1, none⟩ y).setCell ⟨a, 2, none⟩ z).setCell ⟨a, 3, none⟩ u) :=
  (((h.setCell ha _).setCell ha _).setCell ha _).setCell ha _
theorem tk_alloc (w : World) (o : Obj) : Below w.heap.size w (w.alloc o) := (Below.refl _ _).alloc (Nat.le_refl _) _
theorem first_res {W : World} {tmps : Array Value} {b : Nat} {x0 x1 x2 x3 x : Value} (h2 : tmps[2]? = some (.pointer (some ⟨b, 0, none⟩))) (h3 : tmps[3]? = some x) (h : W.heap[b]? = some (.cells #[x0, x1, x2, x3] 41 (0, 0))) :
    (results Tryd.f29 tmps).run Tryd.prog W = .ok (.tuple #[.agg #[x0, x1, x2, x3], x]) W := by
  obtain ⟨c0, c1, c2, c3⟩ := tok_cells h
  simp [results, Tryd.results29, h2, h3, go_sem, c0, c1, c2, c3]
theorem numbered_take (l : List UInt8) (n : Nat) (hn : n ≤ l.length) : (Tk.numbered (l.take n)).tokenAt (l.take n) = (Tk.numbered (l.take n)).tokenAt l := by
  unfold Tk.numbered
  split
  · rfl
  · split
    · rfl
    · show (⟨2, Tk.bs ((l.take n).take (l.take n).length), _, 0⟩ : Tk.Token) = ⟨2, Tk.bs (l.take (l.take n).length), _, 0⟩
      rw [List.take_length, List.length_take, Nat.min_eq_left hn]
theorem zero_tok : tokV Tk.Token.zero = .agg #[.int .u8 0, .string ⟨#[]⟩, .int .i64 0, .int .i64 0] := rfl
set_option maxHeartbeats 2000000 in
theorem first_any (s : ByteArray) (w : World) (hm : s.size ≤ maxLen) :
    Calls Tryd.prog 29 #[.string s] w fun e w' => e = .returned (.tuple #[tokV ((Tk.first s.data.toList).tokenAt s.data.toList), .int .i64 ((Tk.first s.data.toList).err : Nat)]) ∧ Below w.heap.size w w' := by
  have hl := list_len s
  have q1 := fun W => word_any s W hm
  have q2 := fun W => number_any s W hm
  have q3 := fun W => sign_any s W hm
  have hw1 : Tk.word s.data.toList ≤ s.size := by rw [← hl]; exact Tk.word_le _
  have hw2 : Tk.number s.data.toList ≤ s.size := by rw [← hl]; exact Tk.run_le _ _
  have hw3 : Tk.sign s.data.toList ≤ s.size := by rw [← hl]; exact Tk.sign_le _
  have hnd : ∀ c ∈ s.data.toList.take (Tk.number s.data.toList), Tk.digit c = true := Tk.run_all _ _
  have hnt := numbered_take s.data.toList (Tk.number s.data.toList) (by omega)
  have hx := ext_bs s
  unfold Tk.first
  obtain ⟨L, hL⟩ : ∃ L, s.data.toList = L := ⟨_, rfl⟩
  rw [hL] at q1 q2 q3 hw1 hw2 hw3 hnd hnt hx ⊢
  have q4 : Tk.number L ≠ 0 → ∀ W, Calls Tryd.prog 50 #[.string (s.extract 0 (Tk.number L))] W fun e w' => e = .returned (.tuple #[tokV ((Tk.numbered (L.take (Tk.number L))).tokenAt L), .int .i64 ((Tk.numbered (L.take (Tk.number L))).err : Nat)]) ∧ Below W.heap.size W w' := fun h0 W => by
    have e : (s.extract 0 (Tk.number L)).data.toList = L.take (Tk.number L) := by rw [ext_list, hL, List.drop_zero, Nat.sub_zero]
    have := numbered_any (s.extract 0 (Tk.number L)) W (by rw [e]; exact hnd) (by rw [ByteArray.size_extract]; omega) (ext_max _ _ hm)
    rw [e, hnt] at this
    exact this
  generalize Tk.word L = n1 at *
  generalize Tk.sign L = n3 at *
  obtain ⟨R, hR⟩ : ∃ R, Tk.numbered (L.take (Tk.number L)) = R := ⟨_, rfl⟩
  rw [hR] at q4 ⊢
  generalize Tk.number L = n2 at *
  have hm2 : s.size ≤ 9223372036854775807 := hm
  have HX := Lib.hid hx
  clear hL hl hnd hnt hR hx hm
  by_cases h1 : 0 < n1
  · rw [if_pos h1]
    have i1 : (0 : Int) < (n1 : Int) := by omega
    by_cases h2 : 32 < n1
    · rw [if_pos h2]
      have i2 : (32 : Int) < (n1 : Int) := by omega
      clear q2 q3 q4
      go_enter Tryd.func29, Tryd.ntmps29
      go_wp2_with (go_at_call 48; refine (q1 _).mono ?_; rintro e w' ⟨rfl, rfl⟩)
      refine bodyPost_ret (first_res rfl rfl (heap_alloc_new _ _)) rfl ?_
      exact ⟨rfl, by go_grown⟩
    · rw [if_neg h2]
      have i2 : ¬ (32 : Int) < (n1 : Int) := by omega
      have i3 : (n1 : Int) ≤ (s.size : Int) := by omega
      have i4 : (0 : Int) ≤ (n1 : Int) := by omega
      clear q2 q3 q4
      go_enter Tryd.func29, Tryd.ntmps29
      go_wp2_with (go_at_call 48; refine (q1 _).mono ?_; rintro e w' ⟨rfl, rfl⟩)
      refine bodyPost_ret (first_res rfl rfl (heap_alloc_new _ _)) rfl ?_
      refine ⟨?_, by go_grown⟩
      unfold Tk.Res.tokenAt Tk.Res.err tokV
      simp only
      rw [← HX.out]
      rfl
  · rw [if_neg h1]
    have i1 : ¬ (0 : Int) < (n1 : Int) := by omega
    by_cases h2 : 0 < n2
    · rw [if_pos h2]
      have i2 : (0 : Int) < (n2 : Int) := by omega
      have i3 : (n2 : Int) ≤ (s.size : Int) := by omega
      have i4 : (0 : Int) ≤ (n2 : Int) := by omega
      have q5 := q4 (by omega)
      clear q3 q4
      unfold tokV at q5 ⊢
      generalize R.tokenAt L = t at *
      generalize R.err = er at *
      obtain ⟨W0, hW0⟩ : ∃ W0, W0 = w.alloc (.cells #[.int .u8 0, .string ⟨#[]⟩, .int .i64 0, .int .i64 0] 41) := ⟨_, rfl⟩
      have HB0 : Hid (Below w.heap.size w W0) := Lib.hid (by rw [hW0]; exact tk_alloc _ _)
      have HR0 : Hid (W0.heap[w.heap.size]? = some (.cells #[.int .u8 0, .string ⟨#[]⟩, .int .i64 0, .int .i64 0] 41 (0, 0))) := Lib.hid (by rw [hW0]; exact heap_alloc_new _ _)
      go_enter Tryd.func29, Tryd.ntmps29
      go_upto_region 1 with fail
      rw [← hW0]
      clear hW0
      go_wp2_with (first | (go_at_call 48; refine (q1 _).mono ?_; rintro e w' ⟨rfl, hw'⟩; obtain rfl := hw') | (go_at_call 49; refine (q2 _).mono ?_; rintro e w' ⟨rfl, hw'⟩; obtain rfl := hw') | fail)
      refine (q5 _).mono ?_
      rintro e w2 ⟨rfl, hb⟩
      have hr : w2.heap[w.heap.size]? = some (.cells #[.int .u8 0, .string ⟨#[]⟩, .int .i64 0, .int .i64 0] 41 (0, 0)) := (hb.block _ (Array.getElem?_eq_some_iff.1 HR0.out).1).trans HR0.out
      obtain ⟨c0, c1, c2, c3⟩ := tok_cells hr
      have f0 := frozen_of_row _ _ 0 _ _ hr
      have f1 := frozen_of_row _ _ 1 _ _ hr
      have f2 := frozen_of_row _ _ 2 _ _ hr
      have f3 := frozen_of_row _ _ 3 _ _ hr
      have HR := Lib.hid hr
      have HB := Lib.hid (HB0.out.trans (hb.mono HB0.out.size))
      clear hr hb q1 q2 q5
      go_wp2_with fail
      refine bodyPost_ret (first_res rfl rfl (set_four _ _ _ _ HR.out)) rfl ?_
      exact ⟨rfl, below_four HB.out (Nat.le_refl _)⟩
    · rw [if_neg h2]
      have i2 : ¬ (0 : Int) < (n2 : Int) := by omega
      by_cases h3 : 0 < n3
      · rw [if_pos h3]
        have i5 : (0 : Int) < (n3 : Int) := by omega
        have i3 : (n3 : Int) ≤ (s.size : Int) := by omega
        have i4 : (0 : Int) ≤ (n3 : Int) := by omega
        clear q4
        go_enter Tryd.func29, Tryd.ntmps29
        go_wp2_with (first | (go_at_call 48; refine (q1 _).mono ?_; rintro e w' ⟨rfl, hw'⟩; obtain rfl := hw') | (go_at_call 49; refine (q2 _).mono ?_; rintro e w' ⟨rfl, hw'⟩; obtain rfl := hw') | (go_at_call 51; refine (q3 _).mono ?_; rintro e w' ⟨rfl, hw'⟩; obtain rfl := hw') | fail)
        refine bodyPost_ret (first_res rfl rfl (heap_alloc_new _ _)) rfl ?_
        refine ⟨?_, by go_grown⟩
        unfold Tk.Res.tokenAt Tk.Res.err tokV
        simp only
        rw [← HX.out]
        rfl
      · rw [if_neg h3]
        have i3 : ¬ (0 : Int) < (n3 : Int) := by omega
        clear q4
        go_enter Tryd.func29, Tryd.ntmps29
        go_wp2_with (first | (go_at_call 48; refine (q1 _).mono ?_; rintro e w' ⟨rfl, hw'⟩; obtain rfl := hw') | (go_at_call 49; refine (q2 _).mono ?_; rintro e w' ⟨rfl, hw'⟩; obtain rfl := hw') | (go_at_call 51; refine (q3 _).mono ?_; rintro e w' ⟨rfl, hw'⟩; obtain rfl := hw') | fail)
        refine bodyPost_ret (first_res rfl rfl (heap_alloc_new _ _)) rfl ?_
        exact ⟨rfl, by go_grown⟩
end Go.Proofs.YtlmjcnfiolbfpaaDoor
