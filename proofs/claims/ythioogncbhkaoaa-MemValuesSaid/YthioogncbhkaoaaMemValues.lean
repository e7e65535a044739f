/-
  Walks over the laws of package mem: MemValues. Condition: a slice that memory can hold.
-/
import Derived.Test.YthioogncbhkaoaaMemDelP
import Derived.Test.YthioogncbhkaoaaMemMoreP
import Derived.Test.YthioogncbhkaoaaMemAwake
import Derived.Test.YthioogncbhkaoaaTextsAt
import Derived.Deep.LoopGhost
namespace Go.Proofs.Ythioogncbhkaoaa
open Go.RowKit
/-- A value of the law: a number, and the row of bytes. -/
def pv (px : Option Addr) (n cx : Nat) (i : Nat) : Value := .agg #[.int .i64 (i : Nat), .slice px n cx]
/-- What the table has when k texts are set. -/
structure Filled (px : Option Addr) (n cx : Nat) (ss : List ByteArray) (k : Nat) (L : Mm.Row) : Prop where
  few : L.length ≤ k
  from_ : ∀ q ∈ L, ∃ j, ∃ hj : j < ss.length, j < k ∧ q = (ss[j], pv px n cx j)
  has : ∀ i (hi : i < ss.length), i < k → (Mm.get L ss[i]).isSome = true
theorem Filled.zero (px : Option Addr) (n cx : Nat) (ss : List ByteArray) : Filled px n cx ss 0 [] := ⟨Nat.le_refl _, (fun _ h => nomatch h), fun _ _ h => absurd h (Nat.not_lt_zero _)⟩
theorem Filled.step {px : Option Addr} {n cx : Nat} {ss : List ByteArray} {k : Nat} {L : Mm.Row} (h : Filled px n cx ss k L) (hs : Mm.Sorted L) (hk : k < ss.length) : Filled px n cx ss (k + 1) (Mm.put L ss[k] (pv px n cx k)) := by
  refine ⟨?_, fun q hq => ?_, fun i hi hik => ?_⟩
  · have := Mm.length_put_le L ss[k] (pv px n cx k); have := h.few; omega
  · rcases Mm.mem_put.1 hq with rfl | ⟨hq, -⟩
    · exact ⟨k, hk, by omega, rfl⟩
    · obtain ⟨j, hj, h1, h2⟩ := h.from_ q hq
      exact ⟨j, hj, by omega, h2⟩
  · rw [Mm.get_put hs]
    by_cases e : ss[i] = ss[k]
    · rw [if_pos e]; rfl
    · rw [if_neg e]
      exact h.has i hi (by
        rcases Nat.lt_or_eq_of_le (Nat.lt_succ_iff.1 hik) with h' | h'
        · exact h'
        · subst h'; exact absurd rfl e)
theorem Filled.get {px : Option Addr} {n cx : Nat} {ss : List ByteArray} {k : Nat} {L : Mm.Row} (h : Filled px n cx ss k L) {i : Nat} (hi : i < ss.length) (hik : i < k) : ∃ j, ∃ hj : j < ss.length, ss[j] = ss[i] ∧ Mm.get L ss[i] = some (pv px n cx j) := by
  have h1 := h.has i hi hik
  cases hg : Mm.get L ss[i] with
  | none => rw [hg] at h1; cases h1
  | some v =>
    obtain ⟨j, hj, -, e⟩ := h.from_ _ (Mm.get_mem hg)
    have e1 : ss[i] = ss[j] := congrArg Prod.fst e
    have e2 : v = pv px n cx j := congrArg Prod.snd e
    exact ⟨j, hj, e1.symm, by rw [e2]⟩
/-- What is left when k texts are taken away. -/
def LeftV (ss : List ByteArray) (k : Nat) (L M : Mm.Row) : Prop := ∀ q ∈ M, q ∈ L ∧ ∀ i (hi : i < ss.length), i < k → q.1 ≠ ss[i]
theorem LeftV.step {ss : List ByteArray} {k : Nat} {L M : Mm.Row} (h : LeftV ss k L M) (hk : k < ss.length) : LeftV ss (k + 1) L (Mm.del M ss[k]) := fun q hq => by
  obtain ⟨h1, h2⟩ := Mm.mem_del.1 hq
  obtain ⟨h3, h4⟩ := h q h1
  refine ⟨h3, fun i hi hik => ?_⟩
  rcases Nat.lt_or_eq_of_le (Nat.lt_succ_iff.1 hik) with h' | h'
  · exact h4 i hi h'
  · subst h'; exact h2
theorem LeftV.none {px : Option Addr} {n cx : Nat} {ss : List ByteArray} {L M : Mm.Row} (h : LeftV ss ss.length L M) (hf : Filled px n cx ss ss.length L) : M = [] := by
  cases M with
  | nil => rfl
  | cons q r =>
    obtain ⟨h1, h2⟩ := h q List.mem_cons_self
    obtain ⟨j, hj, h3, h4⟩ := hf.from_ q h1
    exact absurd (congrArg Prod.fst h4) (h2 j hj hj)
theorem lens_few (ss : List ByteArray) (k : Nat) (hk : k ≤ 101) : lensTo 20001 (ss.take k) ≤ 2020101 := by
  have h1 := lensTo_le 20001 (ss.take k)
  have h2 : (ss.take k).length ≤ 101 := by rw [List.length_take]; omega
  have := Nat.mul_le_mul_right 20001 h2
  omega
theorem below_dV {w W : World} (h : Below w.heap.size w W) (q : Nat) : Below w.heap.size w (W.drewN q) := ⟨h.os, h.tape, h.output, h.size, h.block⟩
theorem below_of_dN (W : World) (q : Nat) : Below W.heap.size W (W.drewN q) := ⟨rfl, rfl, rfl, Nat.le_refl _, fun _ _ => rfl⟩
def pO (px : Option Addr) (n cx j : Nat) : Obj := .cells #[.int .i64 (j : Nat), .slice px n cx] 58 (0, 0)

set_option maxRecDepth 100000 in
set_option maxHeartbeats 16000000 in
theorem memValues_any (p : Option Addr) (cap : Nat) (ss : List ByteArray) (px : Option Addr) (n cx : Nat) (s : ByteArray) (w : World) (hl : TextsAt w p ss) (hn : n ≤ 140737488355328)
    (hcv : ∀ W', Below w.heap.size w W' → (convert 54 9 (.slice px n cx)).run Try.prog W' = .ok (.string s) W') :
    Calls Try.prog 4 #[.slice p ss.length cap, .slice px n cx] w fun e w' => e = .returned (.bool true) ∧ Below w.heap.size w w' := by
  have HT := Lib.hid hl
  have HV := Lib.hid hcv
  clear hl hcv
  go_enter Try.func4, Try.ntmps4
  go_wp2_with fail
  refine (memAwake_any _).mono ?_
  rintro e w1 ⟨rfl, hb1⟩
  have HB1 := Lib.hid hb1
  clear hb1
  go_wp2_with fail
  go_loopw [5, 6] (fun nv iv wr => ∃ k : Nat, k ≤ ss.length ∧ k ≤ 101 ∧ iv = .int .i64 (k : Nat) ∧ nv = .int .i64 ((n + lensTo 20001 (ss.take k) : Nat)) ∧ Hid (Below w.heap.size w wr)) (fun _ iv _ => 101 - (intOf iv).toNat)
  case atStart => exact ⟨0, Nat.zero_le _, Nat.zero_le _, rfl, rfl, HB1⟩
  case round =>
    obtain ⟨k, hk, hk101, rfl, rfl, HB⟩ := hrel
    have hlf := lens_few ss k hk101
    by_cases hlt : k < ss.length
    · have i1 : (k : Int) < (ss.length : Int) := by omega
      have i2 : (0 : Int) ≤ (k : Int) := by omega
      by_cases hle : k ≤ 100
      · have i3 : (k : Int) ≤ 100 := by omega
        obtain ⟨A, rfl, hA, hc⟩ := HT.out k hlt
        have hc' : wr.cell? (A.add k) = some (.string ss[k]) := (HB.out.cell (by rw [add_block]; exact hA)).trans hc
        have hls := lensTo_take 20001 ss k hlt
        have HLS := Lib.hid hls
        have hsz : ss[k].size ≤ 9223372036854775807 ∨ True := .inr trivial
        clear hc hls hsz
        generalize ss[k] = t at *
        generalize lensTo 20001 (ss.take k) = z at *
        go_wp2_with fail
        go_roundw
        case rel => exact ⟨k + 1, by omega, by omega, by go_num, by rw [HLS.out]; congr 1; omega, HB⟩
        case measure => simp [intOf]; omega
      · obtain rfl : k = 101 := by omega
        have i3 : ¬ (101 : Int) ≤ 100 := by omega
        have i5 : (100 : Int) < (ss.length : Int) := by omega
        go_wp2_with fail
        go_ret
        exact ⟨rfl, HB.out⟩
    · obtain rfl : k = ss.length := by omega
      rw [List.take_length] at hlf ⊢
      have i1 : ¬ (ss.length : Int) < (ss.length : Int) := by omega
      by_cases h100 : 100 < ss.length
      · have i5 : (100 : Int) < (ss.length : Int) := by omega
        go_wp2_with fail
        go_ret
        exact ⟨rfl, HB.out⟩
      · have i5 : ¬ (100 : Int) < (ss.length : Int) := by omega
        by_cases hs : 20000 < n + lensTo 20001 ss
        · have i6 : (20000 : Int) < ((n + lensTo 20001 ss : Nat) : Int) := by omega
          generalize n + lensTo 20001 ss = z at *
          go_wp2_with fail
          go_ret
          exact ⟨rfl, HB.out⟩
        · have i6 : ¬ (20000 : Int) < ((n + lensTo 20001 ss : Nat) : Int) := by omega
          have hsz := lensTo_each (m := 20001) (n := 20000) (by omega) ss (by omega)
          have HSZ := Lib.hid hsz
          have HLN : Hid (ss.length ≤ 100) := Lib.hid (by omega)
          clear hsz hlf hk hk101
          generalize n + lensTo 20001 ss = z at *
          go_wp2_with fail
          refine (MP.new_m (w0 := w) (B := []) (R := []) ((now_start w).same HB.out) (fun _ h => nomatch h)).mono ?_
          rintro e w2 ⟨a, rfl, h2, -⟩
          have H2 := Lib.hid h2
          clear h2
          go_wp2_with fail
          go_loopw [8] (fun iv wr => ∃ (k : Nat) (L : Mm.Row), k ≤ ss.length ∧ iv = .int .i64 (k : Nat) ∧ Hid (MP.Mem w wr a L [] [] ∧ Filled px n cx ss k L)) (fun iv _ => ss.length - (intOf iv).toNat)
          case atStart => exact ⟨0, [], Nat.zero_le _, rfl, Lib.hid ⟨H2.out, Filled.zero px n cx ss⟩⟩
          case round =>
            obtain ⟨k, L, hk, rfl, HL⟩ := hrel
            have hln := HLN.out
            by_cases hlt : k < ss.length
            · have j1 : (k : Int) < (ss.length : Int) := by omega
              have j2 : (0 : Int) ≤ (k : Int) := by omega
              obtain ⟨A, rfl, hA, hc⟩ := HT.out k hlt
              have hc' : wr.cell? (A.add k) = some (.string ss[k]) := (HL.out.1.below.cell (by rw [add_block]; exact hA)).trans hc
              have hks := HSZ.out _ (List.getElem_mem hlt)
              have hfew := HL.out.2.few
              have HS := Lib.hid (MP.set_m HL.out.1 ss[k] (by omega) (by omega) ((k : Int), px, n, cx) rfl)
              have HF := Lib.hid (HL.out.2.step HL.out.1.sorted hlt)
              clear hc hks hfew
              generalize ss[k] = t at *
              go_wp2_with fail
              refine HS.out.mono ?_
              rintro e w3 ⟨rfl, h3, -, -⟩
              have H3 := Lib.hid h3
              clear h3 HS hc'
              go_wp2_with fail
              go_roundw
              case rel => exact ⟨k + 1, _, by omega, by go_num, Lib.hid ⟨H3.out, HF.out⟩⟩
              case measure => simp [intOf]; omega
            · obtain rfl : k = ss.length := by omega
              have j1 : ¬ (ss.length : Int) < (ss.length : Int) := by omega
              have HTW := Lib.hid (MP.twin_m HL.out.1)
              have HFL := Lib.hid HL.out.2
              clear HL H2
              go_wp2_with fail
              refine HTW.out.mono ?_
              rintro e w3 ⟨b, pt, rfl, h3, -⟩
              have H3 := Lib.hid h3
              clear h3 HTW
              go_wp2_with fail
              go_loopw [10, 11, 12] (fun iv _ _ wr => ∃ (k : Nat) (M : Mm.Row) (pt : Value), k ≤ ss.length ∧ iv = .int .i64 (k : Nat) ∧ Hid (MP.Mem w wr a M [(pt, L)] [(b, MP.memO pt)] ∧ LeftV ss k L M ∧ M.length ≤ 100)) (fun iv _ _ _ => ss.length - (intOf iv).toNat)
              case atStart => exact ⟨0, L, pt, Nat.zero_le _, rfl, Lib.hid ⟨H3.out, fun q hq => ⟨hq, fun i _ h => absurd h (Nat.not_lt_zero _)⟩, by have := HFL.out.few; omega⟩⟩
              case round =>
                obtain ⟨k, M, pt, hk, rfl, HM⟩ := hrel
                by_cases hlt : k < ss.length
                · have i3 : (k : Int) < (ss.length : Int) := by omega
                  have i4 : (0 : Int) ≤ (k : Int) := by omega
                  obtain ⟨j, hj, hjk, hget⟩ := HFL.out.get hlt hlt
                  have i7 : (j : Int) < (ss.length : Int) := by omega
                  have i8 : (0 : Int) ≤ (j : Int) := by omega
                  obtain ⟨A, eA, hA, hc⟩ := HT.out k hlt
                  obtain ⟨A', eA', -, hcj⟩ := HT.out j hj
                  subst eA
                  cases eA'
                  rw [hjk] at hcj
                  have HCC := Lib.hid (fun (W : World) (hb : Below w.heap.size w W) => And.intro ((hb.cell (by rw [add_block]; exact hA)).trans hc) ((hb.cell (by rw [add_block]; exact hA)).trans hcj))
                  obtain ⟨c0, -⟩ := HCC.out _ HM.out.1.below
                  obtain ⟨pa, ho⟩ := HM.out.1.other
                  have HG := Lib.hid (MP.get_m ho ss[k] hget)
                  have HLV := Lib.hid (HM.out.2.1.step hlt)
                  have hml := HM.out.2.2
                  have HML := Lib.hid hml
                  clear hc hcj hget ho hml hjk HM
                  generalize ss[k] = t at *
                  unfold pv at HG
                  simp only [Option.getD_some, Option.isSome_some] at HG
                  go_wp2_with fail
                  refine HG.out.mono ?_
                  rintro e w4 ⟨rfl, h4, hb4⟩
                  have h5 := h4.alloc (pO px n cx j)
                  obtain ⟨bx, hbx⟩ : ∃ bx, w4.heap.size = bx := ⟨_, rfl⟩
                  obtain ⟨W4, hW4⟩ : ∃ W4, w4.alloc (pO px n cx j) = W4 := ⟨_, rfl⟩
                  have hW4' : w4.alloc (.cells #[.int .i64 (j : Nat), .slice px n cx] 58) = W4 := hW4
                  rw [hW4, hbx] at h5
                  obtain ⟨q0, q1, -⟩ := cells2 (h5.box (q := (bx, pO px n cx j)) (by simp))
                  obtain ⟨c1, c2⟩ := HCC.out _ h5.below
                  have cv := fun q => HV.out (W4.drewN q) (below_dV h5.below q)
                  have H5 := Lib.hid h5
                  clear h4 h5 hb4 hW4 c0 HG
                  go_wp2_with fail
                  go_quiet (fail)
                  go_wp2_with fail
                  obtain ⟨pb, ha⟩ := ((H5.out.same (below_of_dN W4 _)).perm (B' := (a, MP.memO pa) :: [(bx, pO px n cx j)]) (List.Perm.swap _ _ _)).other
                  refine (MP.delete_m ha t (by have := HML.out; omega) rfl).mono ?_
                  rintro e w6 ⟨rfl, h6, -, -⟩
                  have H6 := Lib.hid (h6.sub (B' := [(b, MP.memO pb)]) (by simp))
                  have HL6 : Hid ((Mm.del M t).length ≤ 100) := Lib.hid (Nat.le_trans (List.length_filter_le _ _) HML.out)
                  clear h6 ha cv q0 q1 c1 c2
                  go_wp2_with fail
                  go_roundw
                  case rel => exact ⟨k + 1, Mm.del M t, pb, by omega, by go_num, Lib.hid ⟨H6.out, HLV.out, HL6.out⟩⟩
                  case measure => simp [intOf]; omega
                · obtain rfl : k = ss.length := by omega
                  have i3 : ¬ (ss.length : Int) < (ss.length : Int) := by omega
                  have hM := HM.out.1
                  obtain rfl : M = [] := HM.out.2.1.none HFL.out
                  have HL1 := Lib.hid (MP.len_m hM (c := 0) rfl)
                  have HC1 := Lib.hid (MP.clear_m hM)
                  clear hM HM
                  go_wp2_with fail
                  refine HL1.out.mono ?_
                  rintro e w4 ⟨rfl, rfl⟩
                  go_wp2_with fail
                  refine HC1.out.mono ?_
                  rintro e w4 ⟨rfl, h4, -, -⟩
                  obtain ⟨pa, h5⟩ := h4.other
                  have HC2 := Lib.hid (MP.clear_m h5)
                  clear h4 h5 HL1 HC1
                  go_wp2_with fail
                  refine HC2.out.mono ?_
                  rintro e w6 ⟨rfl, h6, -, -⟩
                  have HG6 := Lib.hid (MP.get_m h6 ⟨#[]⟩ (o := none) rfl)
                  simp only [Option.getD_none, Option.isSome_none] at HG6
                  clear h6 HC2
                  go_wp2_with fail
                  refine HG6.out.mono ?_
                  rintro e w7 ⟨rfl, h7, -⟩
                  have h8 := (h7.alloc (.cells #[.int .i64 0, .slice none 0 0] 58)).sub (B' := [(a, MP.memO pa)]) (by simp)
                  have HL8 := Lib.hid (MP.len_m h8 (c := 0) rfl)
                  obtain ⟨pb, h9⟩ := h8.other
                  have HS9 := Lib.hid (MP.set_m h9 ⟨#[113]⟩ (by decide) (by decide) (0, none, 0, 0) (b := false) rfl)
                  clear h7 h8 h9 HG6
                  go_wp2_with fail
                  refine HL8.out.mono ?_
                  rintro e w9 ⟨rfl, rfl⟩
                  go_wp2_with fail
                  refine HS9.out.mono ?_
                  rintro e w10 ⟨rfl, h10, -, -⟩
                  have HL10 := Lib.hid (MP.len_m h10 (c := 1) rfl)
                  have HB10 := Lib.hid h10.below
                  clear h10 HL8 HS9
                  go_wp2_with fail
                  refine HL10.out.mono ?_
                  rintro e w11 ⟨rfl, rfl⟩
                  go_wp2_with fail
                  go_ret
                  exact ⟨rfl, HB10.out⟩
end Go.Proofs.Ythioogncbhkaoaa
