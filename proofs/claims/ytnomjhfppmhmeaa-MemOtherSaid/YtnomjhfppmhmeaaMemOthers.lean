/-
  Walks over the laws of package mem: MemOthers. No condition.
-/
import Derived.Test.YtnomjhfppmhmeaaMemOtherIS
import Derived.Test.YtnomjhfppmhmeaaMemFloors
namespace Go.Proofs.Ytnomjhfppmhmeaa
open Go.RowKit
theorem oth_keys {L : Mm.Row} (i : Nat) : i ≤ L.length → ∀ q ∈ oth (L.take i), ∃ p ∈ L.take i, p.1 = q.1 := by
  induction i with
  | zero => intro _ q hq; simp [oth] at hq
  | succ i ih =>
    intro h q hq
    have hm : ∀ p ∈ L.take i, p ∈ L.take (i + 1) := fun p hp => by rw [List.take_succ_eq_append_getElem (by omega)]; exact List.mem_append_left _ hp
    rw [oth_succ (by omega)] at hq
    split at hq
    · rcases Mm.mem_put.1 hq with rfl | ⟨hq, -⟩
      · exact ⟨L[i], by rw [List.take_succ_eq_append_getElem (by omega)]; exact List.mem_append_right _ (List.mem_singleton.2 rfl), rfl⟩
      · obtain ⟨p, h1, h2⟩ := ih (by omega) q hq; exact ⟨p, hm p h1, h2⟩
    · obtain ⟨p, h1, h2⟩ := ih (by omega) q hq; exact ⟨p, hm p h1, h2⟩
theorem oth_sorted (L : Mm.Row) (i : Nat) : i ≤ L.length → Mm.Sorted (oth (L.take i)) := by
  induction i with
  | zero => intro _; exact List.Pairwise.nil
  | succ i ih =>
    intro h
    rw [oth_succ (by omega)]
    split
    · exact (ih (by omega)).put _ _
    · exact ih (by omega)
/-- How many even ones there are among the first i. -/
def evens (L : Mm.Row) (i : Nat) : Nat := ((L.take i).filter fun q => evenV q.2).length
theorem evens_succ {L : Mm.Row} {i : Nat} (h : i < L.length) : evens L (i + 1) = evens L i + if evenV L[i].2 = true then 1 else 0 := by
  unfold evens; rw [List.take_succ_eq_append_getElem h, List.filter_append, List.length_append]
  split <;> rename_i e
  · simp [e]
  · simp [e]
theorem key_new {L : Mm.Row} (hs : Mm.Sorted L) {i : Nat} (h : i < L.length) : Mm.get (oth (L.take i)) L[i].1 = none := Mm.get_none.2 fun q hq e => by
  obtain ⟨p, h1, h2⟩ := oth_keys i (by omega) q hq
  have hL : L = L.take i ++ L[i] :: L.drop (i + 1) := by rw [← List.drop_eq_getElem_cons h, List.take_append_drop]
  have h3 : Mm.lt p.1 L[i].1 = true := by
    rw [hL] at hs
    exact (Mm.sorted_mid.1 hs).2.2.1 p h1
  exact Mm.lt_ne h3 (h2.trans e)
theorem length_put_new {L : Mm.Row} {k : ByteArray} (v : Value) (h : Mm.get L k = none) : (Mm.put L k v).length = L.length + 1 := by
  have h1 : (Mm.above L k).length = (L.filter fun p => !Mm.lt p.1 k).length := by
    unfold Mm.above
    congr 1
    refine List.filter_congr fun p hp => ?_
    have hn := Mm.get_none.1 h p hp
    rcases Mm.lt_total hn with h' | h'
    · rw [h', Mm.lt_asymm h']; rfl
    · rw [h', Mm.lt_asymm h']; rfl
  have h2 := Mm.length_filter_split (L := L) fun p => Mm.lt p.1 k
  unfold Mm.put
  rw [List.length_append, List.length_cons, h1]
  unfold Mm.below
  omega
theorem oth_count {L : Mm.Row} (hs : Mm.Sorted L) (i : Nat) : i ≤ L.length → (oth (L.take i)).length = evens L i := by
  induction i with
  | zero => intro _; rfl
  | succ i ih =>
    intro h
    rw [oth_succ (by omega), evens_succ (by omega)]
    split
    · rw [length_put_new _ (key_new hs (by omega)), ih (by omega)]
    · rw [ih (by omega)]; rfl
/-- What the other table tells of a key of the first one's. -/
theorem oth_get {L : Mm.Row} (hs : Mm.Sorted L) (n : Nat) : n ≤ L.length → ∀ i (h : i < n) (h' : i < L.length), Mm.get (oth (L.take n)) L[i].1 = if evenV L[i].2 = true then some (.string (L[i].1 ++ ⟨#[33]⟩)) else none := by
  induction n with
  | zero => intro _ i h; omega
  | succ n ih =>
    intro hn i h h'
    have hso := oth_sorted L n (by omega)
    rw [oth_succ (by omega)]
    by_cases e : i = n
    · subst e
      split
      · rw [Mm.get_put hso, if_pos rfl]
      · exact key_new hs h'
    · have hne : L[i].1 ≠ L[n].1 := by
        have h1 := List.pairwise_iff_getElem.1 hs i n h' (by omega) (by omega)
        exact Mm.lt_ne h1
      split
      · rw [Mm.get_put hso, if_neg hne]; exact ih (by omega) i (by omega) h'
      · exact ih (by omega) i (by omega) h'

section
variable {w0 w w' : World} {a o : Nat} {L Lo : Mm.Row} {B : List (Nat × Obj)}
theorem Both.same (h : Both w0 w a L o Lo B) (hb : Below w.heap.size w w') : Both w0 w' a L o Lo B := by
  obtain ⟨p, po, h1, h2, h3⟩ := h
  exact ⟨p, po, h1.same hb, h2.kept (.of_below hb), h3.kept (.of_below hb)⟩
theorem Both.now (h : Both w0 w a L o Lo B) : Now w0 w B := by obtain ⟨p, po, h1, -⟩ := h; exact h1.tail.tail
theorem Both.int (h : Both w0 w a L o Lo B) : ∃ po, MI.Mem w0 w a L [] ((o, MS.memO po) :: B) := by
  obtain ⟨p, po, h1, h2, h3⟩ := h; exact ⟨po, p, h1, h2, fun _ h => nomatch h⟩
theorem Both.str (h : Both w0 w a L o Lo B) : ∃ p, MS.Mem w0 w o Lo [] ((a, MI.memO p) :: B) := by
  obtain ⟨p, po, h1, h2, h3⟩ := h; exact ⟨p, po, h1.swap, h3, fun _ h => nomatch h⟩
theorem getI_b (h : Both w0 w a L o Lo B) (key : ByteArray) {r : Option Value} (hr : Mm.get L key = r) : Calls Try.prog 13 #[.pointer (some ⟨a, 0, none⟩), .string key] w fun e w' => e = .returned (.tuple #[r.getD (.int .i64 0), .bool r.isSome]) ∧ Both w0 w' a L o Lo B ∧ Below w.heap.size w w' := by
  obtain ⟨po, hm⟩ := h.int
  exact (MI.get_m hm key hr).mono fun e w' hw => ⟨hw.1, h.same hw.2.2, hw.2.2⟩
theorem getS_b (h : Both w0 w a L o Lo B) (key : ByteArray) {r : Option Value} (hr : Mm.get Lo key = r) : Calls Try.prog 23 #[.pointer (some ⟨o, 0, none⟩), .string key] w fun e w' => e = .returned (.tuple #[r.getD (.string ⟨#[]⟩), .bool r.isSome]) ∧ Both w0 w' a L o Lo B ∧ Below w.heap.size w w' := by
  obtain ⟨po, hm⟩ := h.str
  exact (MS.get_m hm key hr).mono fun e w' hw => ⟨hw.1, h.same hw.2.2, hw.2.2⟩
theorem lenI_b (h : Both w0 w a L o Lo B) {c : Int} (e : (L.length : Int) = c) : Calls Try.prog 18 #[.pointer (some ⟨a, 0, none⟩)] w fun e w' => e = .returned (.int .i64 c) ∧ w = w' := by
  obtain ⟨po, hm⟩ := h.int; exact MI.len_m hm e
theorem lenS_b (h : Both w0 w a L o Lo B) {c : Int} (e : (Lo.length : Int) = c) : Calls Try.prog 35 #[.pointer (some ⟨o, 0, none⟩)] w fun e w' => e = .returned (.int .i64 c) ∧ w = w' := by
  obtain ⟨po, hm⟩ := h.str; exact MS.len_m hm e
end

set_option maxRecDepth 100000 in
set_option maxHeartbeats 16000000 in
theorem memOthers_any (p : Option Addr) (cap : Nat) (ss : List ByteArray) (w : World) (hl : TextsAt w p ss) :
    Calls Try.prog 10 #[.slice p ss.length cap] w fun e w' => e = .returned (.bool true) ∧ Below w.heap.size w w' := by
  have hmf : ∀ (fn : Fn) (first cap : Array Value) (w : World), (Instr.makeFunc fn first cap).run Try.prog w = .ok (.func fn first cap) w := fun _ _ _ _ => rfl
  have HMF := Lib.hid hmf
  clear hmf
  go_enter Try.func10, Try.ntmps10
  go_wp2_with fail
  refine (memAwake_any _).mono ?_
  rintro e w1 ⟨rfl, hb1⟩
  have hT1 : TextsAt w1 p ss := hl.below hb1
  have H1 := Lib.hid ((now_start w).same hb1)
  have HB1 := Lib.hid hb1
  clear hb1
  go_wp2_with fail
  go_loop [3, 4] (fun n i => ∃ k : Nat, k ≤ ss.length ∧ k ≤ 301 ∧ n = .int .i64 (lensTo 30001 (ss.take k) : Nat) ∧ i = .int .i64 (k : Nat)) (fun _ i => 301 - (intOf i).toNat)
  case atStart => exact ⟨0, by omega, by omega, rfl, rfl⟩
  case round =>
    obtain ⟨k, hk, hk41, rfl, rfl⟩ := hrel
    have hlk := lensTo_le 30001 (ss.take k)
    have hlk2 : (ss.take k).length ≤ k := by simp; omega
    have hlk3 : lensTo 30001 (ss.take k) ≤ 10000000 := by
      have := Nat.mul_le_mul_right 30001 (Nat.le_trans hlk2 hk41); omega
    by_cases hlt : k < ss.length ∧ k ≤ 300
    · obtain ⟨a, rfl, hab, hca⟩ := hT1 k hlt.1
      have hst := lensTo_take 30001 ss k hlt.1
      have i0 : (k : Int) < (ss.length : Int) := by omega
      have i1 : (k : Int) ≤ 300 := by omega
      have i2 : (0 : Int) ≤ (k : Int) := by omega
      have i3 : ((lensTo 30001 (ss.take k) : Nat) : Int) ≤ 10000000 := by omega
      have HST := Lib.hid hst
      clear hst
      generalize ss[k] = t at *
      go_wp2_with fail
      go_round
      case rel => exact ⟨k + 1, by omega, by omega, by rw [HST.out]; congr 1; omega, by simp⟩
      case measure => simp [intOf]; omega
    · by_cases hA : k < ss.length
      · have i0 : (k : Int) < (ss.length : Int) := by omega
        have i1 : ¬ (k : Int) ≤ 300 := by omega
        have i2 : (300 : Int) < (ss.length : Int) := by omega
        go_wp2_with fail
        go_ret
        exact ⟨rfl, HB1.out⟩
      · obtain rfl : k = ss.length := by omega
        have i0 : ¬ (ss.length : Int) < (ss.length : Int) := by omega
        rw [List.take_length] at hlk hlk3 ⊢
        by_cases hB : 300 < ss.length
        · have i2 : (300 : Int) < (ss.length : Int) := by omega
          go_wp2_with fail
          go_ret
          exact ⟨rfl, HB1.out⟩
        · have i2 : ¬ (300 : Int) < (ss.length : Int) := by omega
          by_cases hC : 30000 < lensTo 30001 ss
          · have i3 : (30000 : Int) < (lensTo 30001 ss : Int) := by omega
            go_wp2_with fail
            go_ret
            exact ⟨rfl, HB1.out⟩
          · have i3 : ¬ (30000 : Int) < (lensTo 30001 ss : Int) := by omega
            have hle := lensTo_each (m := 30001) (n := 30000) (by omega) ss (by omega)
            have HLE := Lib.hid hle
            have HL := Lib.hid hl
            have HLN : Hid (ss.length ≤ 300) := Lib.hid (by omega)
            clear hle hT1 hl
            go_wp2_with fail
            refine (table_any H1.out p cap ss HL.out HLN.out 30000 HLE.out (by omega)).mono ?_
            rintro e w2 ⟨a, L, rfl, h2, hfew⟩
            have HF := Lib.hid (hfew.more HLN.out)
            have HS := Lib.hid h2.sorted
            have HG := Lib.hid h2.good
            clear i0 i2 i3 hB hC hlk hlk2 hlk3 hk hk41 hlt hA hfew
            go_wp2_with fail
            refine (MI.len_m h2 rfl).mono ?_
            rintro e w3 ⟨rfl, rfl⟩
            have h3 := h2.alloc (.cells #[.slice none 0 0] 67)
            obtain ⟨g, hg⟩ : ∃ g, g = w2.heap.size := ⟨_, rfl⟩
            rw [← hg] at h3
            have hmf := HMF.out
            clear h2
            go_wp2_with fail
            rw [← hg]
            clear hmf
            refine (other_any h3 HF.out.1 HF.out.2).mono ?_
            rintro e w4 ⟨o, v, base, rfl, h4, hov⟩
            obtain ⟨pk, ck, hve, -, -, -⟩ := hov.texts
            obtain ⟨N, hN⟩ : ∃ N, N = (L.map Prod.fst).length := ⟨_, rfl⟩
            rw [← hN] at hve
            subst hve
            have hNL : N = L.length := by rw [hN, List.length_map]
            have HNL := Lib.hid hNL
            rw [← hNL]
            obtain ⟨cg, -⟩ := cells1 (h4.now.head)
            have H4 := Lib.hid h4
            have HO := Lib.hid hov
            have hf1 := HF.out.1
            have hN3 : (N : Int) ≤ 300 := by omega
            have hN0 : (0 : Int) ≤ (N : Int) := by omega
            clear h3 hg h4 hov hN hNL
            go_wp2_with fail
            refine (lenI_b H4.out (c := (N : Int)) (by rw [HNL.out])).mono ?_
            rintro e w5 ⟨rfl, rfl⟩
            clear cg
            go_wp2_with fail
            go_loopw [9, 10] (fun nv iv wr => ∃ i : Nat, i ≤ N ∧ iv = .int .i64 (i : Nat) ∧ nv = .int .i64 (evens L i : Nat) ∧ Hid (Both w wr a L o (oth L) ((g, .cells #[.slice pk N ck] 67 (0, 0)) :: []) ∧ OwnTexts wr base (.slice pk N ck) (L.map Prod.fst))) (fun _ iv _ => N - (intOf iv).toNat)
            case atStart => exact ⟨0, Nat.zero_le _, rfl, rfl, Lib.hid ⟨H4.out, HO.out⟩⟩
            case round =>
              obtain ⟨i, hi, rfl, rfl, HI⟩ := hrel
              have hev := List.length_filter_le (fun q : ByteArray × Value => evenV q.2) (L.take i)
              have hev2 : evens L i ≤ i := by unfold evens; rw [List.length_take] at hev; omega
              clear hev
              by_cases hlt : i < N
              · have hiL : i < L.length := by have := HNL.out; omega
                have hmem := List.getElem_mem hiL
                have hgI := HS.out.get (k := L[i].1) (v := L[i].2) hmem
                have hgS := oth_get HS.out L.length (Nat.le_refl _) i hiL hiL
                rw [List.take_length] at hgS
                obtain ⟨-, x, hx⟩ := HG.out _ hmem
                have hsz := HF.out.2 _ hmem
                have hes := evens_succ hiL
                have hprev : Hid (∀ j (h : j < L.length), j < i → Mm.lt L[j].1 L[i].1 = true) := Lib.hid fun j h hj => List.pairwise_iff_getElem.1 HS.out j i h hiL hj
                have htx : ∀ C, OwnTexts C base (.slice pk N ck) (L.map Prod.fst) → ∀ j (h : j < L.length), ∃ A0, pk = some A0 ∧ C.cell? (A0.add j) = some (.string L[j].1) := fun C h j hj => by
                  obtain ⟨p', c', e, -, -, ht⟩ := h.texts
                  simp only [Value.slice.injEq] at e
                  obtain ⟨e1, -, -⟩ := e
                  obtain ⟨A0, q1, -, q2⟩ := ht j (by rw [List.length_map]; exact hj)
                  rw [List.getElem_map] at q2
                  exact ⟨A0, e1.trans q1, q2⟩
                have HTX := Lib.hid htx
                obtain ⟨A0, e0, cA⟩ := htx _ HI.out.2 i hiL
                have HE0 := Lib.hid e0
                obtain ⟨cg, -⟩ := cells1 (HI.out.1.now.head)
                rw [e0] at cg
                have i0 : (i : Int) < (N : Int) := by omega
                have i1 : (0 : Int) ≤ (i : Int) := by omega
                have i2 : ((evens L i : Nat) : Int) ≤ 300 := by omega
                have HES := Lib.hid hes
                have HGI := Lib.hid hgI
                have HGS := Lib.hid hgS
                clear hmem hgI hgS hes htx e0
                generalize hq : L[i] = q at *
                have HQ := Lib.hid hq
                clear hq
                obtain ⟨k, vv⟩ := q
                obtain rfl : vv = .int .i64 x := hx
                simp only at HGI HGS cA hsz HES
                go_wp2_with fail
                refine (getI_b HI.out.1 k HGI.out).mono ?_
                rintro e w6 ⟨rfl, h6, hb6⟩
                have ho6 := HI.out.2.below hb6
                obtain ⟨cg6, -⟩ := cells1 h6.now.head
                rw [HE0.out] at cg6
                obtain ⟨A1, e1, cA6⟩ := HTX.out _ ho6 i hiL
                rw [HE0.out] at e1
                cases e1
                rw [HQ.out] at cA6
                have H6 := Lib.hid h6
                have HO6 := Lib.hid ho6
                clear cg cA h6 ho6 hb6
                go_wp2_with fail
                cases hev : (x.tmod 2 == 0) with
                | false =>
                  have hne : ¬ evenV (.int .i64 x) = true := by simp [evenV, hev]
                  have HGS2 := Lib.hid (HGS.out.trans (if_neg hne))
                  have HEV : Hid (evens L (i + 1) = evens L i) := Lib.hid (HES.out.trans (by show evens L i + (if evenV (.int .i64 x) = true then 1 else 0) = _; rw [if_neg hne]; rfl))
                  clear hne
                  refine (getS_b H6.out k HGS2.out).mono ?_
                  rintro e w7 ⟨rfl, h7, hb7⟩
                  have ho7 := HO6.out.below hb7
                  obtain ⟨cg, -⟩ := cells1 h7.now.head
                  rw [HE0.out] at cg
                  obtain ⟨A1, e1, cA⟩ := HTX.out _ ho7 i hiL
                  rw [HE0.out] at e1
                  cases e1
                  rw [HQ.out] at cA
                  have HP : Hid (∀ j (h : j < L.length), j < i → w7.cell? (A0.add j) = some (.string L[j].1) ∧ Mm.lt L[j].1 k = true) := Lib.hid fun j h hj => by
                    obtain ⟨A2, e2, c2⟩ := HTX.out _ ho7 j h
                    rw [HE0.out] at e2
                    cases e2
                    exact ⟨c2, hprev.out j h hj⟩
                  have H7 := Lib.hid (And.intro h7 ho7)
                  have hadd := fun u => run_string_add_sum (P := Try.prog) u k ⟨#[33]⟩ (by show k.size + 1 ≤ _; omega)
                  clear cg6 cA6 h7 ho7 hb7
                  by_cases h0 : 0 < i
                  · have hj : i - 1 < L.length := by omega
                    obtain ⟨cP, hlt2⟩ := HP.out (i - 1) hj (by omega)
                    generalize L[i - 1].1 = kp at *
                    have d1 := leq_eqs.1 hlt2
                    have i4 : (0 : Int) < (i : Int) := by omega
                    have k2 : ((i : Int) - 1).toNat = i - 1 := by omega
                    have k3 : (1 : Int) ≤ (i : Int) := by omega
                    have k4 : (i : Int) - 1 < (N : Int) := by omega
                    clear hlt2 hj hlt
                    go_wp2_with fail
                    go_quiet (fail)
                    go_wp2_with fail
                    go_roundw
                    case rel => exact ⟨i + 1, by omega, by go_num, by rw [HEV.out], Lib.hid ⟨H7.out.1.same (MI.below_drewN _ _), H7.out.2.below (MI.below_drewN _ _)⟩⟩
                    case measure => simp [intOf]; omega
                  · have i4 : ¬ (0 : Int) < (i : Int) := by omega
                    clear hlt
                    go_wp2_with fail
                    go_quiet (fail)
                    go_wp2_with fail
                    go_roundw
                    case rel => exact ⟨i + 1, by omega, by go_num, by rw [HEV.out], Lib.hid ⟨H7.out.1.same (MI.below_drewN _ _), H7.out.2.below (MI.below_drewN _ _)⟩⟩
                    case measure => simp [intOf]; omega
                | true =>
                  have hne : evenV (.int .i64 x) = true := by simp [evenV, hev]
                  have HGS2 := Lib.hid (HGS.out.trans (if_pos hne))
                  have HEV : Hid (evens L (i + 1) = evens L i + 1) := Lib.hid (HES.out.trans (by show evens L i + (if evenV (.int .i64 x) = true then 1 else 0) = _; rw [if_pos hne]))
                  clear hne
                  refine (getS_b H6.out k HGS2.out).mono ?_
                  rintro e w7 ⟨rfl, h7, hb7⟩
                  have ho7 := HO6.out.below hb7
                  obtain ⟨cg, -⟩ := cells1 h7.now.head
                  rw [HE0.out] at cg
                  obtain ⟨A1, e1, cA⟩ := HTX.out _ ho7 i hiL
                  rw [HE0.out] at e1
                  cases e1
                  rw [HQ.out] at cA
                  have HP : Hid (∀ j (h : j < L.length), j < i → w7.cell? (A0.add j) = some (.string L[j].1) ∧ Mm.lt L[j].1 k = true) := Lib.hid fun j h hj => by
                    obtain ⟨A2, e2, c2⟩ := HTX.out _ ho7 j h
                    rw [HE0.out] at e2
                    cases e2
                    exact ⟨c2, hprev.out j h hj⟩
                  have H7 := Lib.hid (And.intro h7 ho7)
                  have hadd := fun u => run_string_add_sum (P := Try.prog) u k ⟨#[33]⟩ (by show k.size + 1 ≤ _; omega)
                  clear cg6 cA6 h7 ho7 hb7
                  by_cases h0 : 0 < i
                  · have hj : i - 1 < L.length := by omega
                    obtain ⟨cP, hlt2⟩ := HP.out (i - 1) hj (by omega)
                    generalize L[i - 1].1 = kp at *
                    have d1 := leq_eqs.1 hlt2
                    have i4 : (0 : Int) < (i : Int) := by omega
                    have k2 : ((i : Int) - 1).toNat = i - 1 := by omega
                    have k3 : (1 : Int) ≤ (i : Int) := by omega
                    have k4 : (i : Int) - 1 < (N : Int) := by omega
                    clear hlt2 hj hlt
                    go_wp2_with fail
                    go_quiet (fail)
                    go_wp2_with fail
                    go_roundw
                    case rel => exact ⟨i + 1, by omega, by go_num, by rw [HEV.out]; go_num, Lib.hid ⟨H7.out.1.same (MI.below_drewN _ _), H7.out.2.below (MI.below_drewN _ _)⟩⟩
                    case measure => simp [intOf]; omega
                  · have i4 : ¬ (0 : Int) < (i : Int) := by omega
                    clear hlt
                    go_wp2_with fail
                    go_quiet (fail)
                    go_wp2_with fail
                    go_roundw
                    case rel => exact ⟨i + 1, by omega, by go_num, by rw [HEV.out]; go_num, Lib.hid ⟨H7.out.1.same (MI.below_drewN _ _), H7.out.2.below (MI.below_drewN _ _)⟩⟩
                    case measure => simp [intOf]; omega
              · obtain rfl : i = N := by omega
                have i0 : ¬ (i : Int) < (i : Int) := by omega
                obtain ⟨cg, -⟩ := cells1 (HI.out.1.now.head)
                have hcnt := oth_count HS.out L.length (Nat.le_refl _)
                rw [List.take_length, ← HNL.out] at hcnt
                have HCN := Lib.hid hcnt
                clear hcnt hlt
                go_wp2_with fail
                refine (lenS_b HI.out.1 (c := (evens L i : Nat)) (by rw [HCN.out])).mono ?_
                rintro e w6 ⟨rfl, rfl⟩
                clear cg
                go_wp2_with fail
                go_ret
                exact ⟨rfl, HI.out.1.now.below⟩
end Go.Proofs.Ytnomjhfppmhmeaa
