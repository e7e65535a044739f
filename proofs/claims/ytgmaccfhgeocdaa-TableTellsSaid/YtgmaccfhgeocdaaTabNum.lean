/-
  Walks over package table: the cursor's number. Condition: at most four bytes.
-/
import Derived.Test.YtgmaccfhgeocdaaTabCursor
import Derived.Laws.BitsAllLaws
namespace Go.Proofs.Ytgmaccfhgeocdaa
open Go.RowKit Tb
theorem val_take {l : List UInt8} {j : Nat} (h : j < l.length) : val (l.take (j + 1)) = val (l.take j) + l[j].toNat * 256 ^ j := by
  induction l generalizing j with
  | nil => simp at h
  | cons x r ih =>
    cases j with
    | zero => simp [val]
    | succ j =>
      have h2 : j < r.length := by simpa using h
      rw [List.take_succ_cons, val, ih h2, List.take_succ_cons, val, List.getElem_cons_succ, Nat.pow_succ, Nat.mul_add, Nat.add_assoc]
      congr 2
      all_goals (first | rfl | (rw [Nat.mul_comm (256 ^ j) 256, ← Nat.mul_assoc, ← Nat.mul_assoc, Nat.mul_comm 256]) | skip)
theorem bl_extract (R : ByteArray) (a b : Nat) : bl (R.extract a b) = ((bl R).drop a).take (b - a) := by
  unfold bl
  rw [ByteArray.data_extract, Array.toList_extract]
theorem i64_or_nat (a b : Nat) (ha : a < 4611686018427387904) (hb : b < 4611686018427387904) : bits .or .i64 (a : Int) (b : Int) = ((a ||| b : Nat) : Int) := by
  show IntKind.i64.wrap ((BitVec.ofInt 64 (a : Int) ||| BitVec.ofInt 64 (b : Int)).toNat : Int) = _
  have e1 : (BitVec.ofInt 64 (a : Int)).toNat = a := by rw [BitVec.ofInt_natCast, BitVec.toNat_ofNat]; omega
  have e2 : (BitVec.ofInt 64 (b : Int)).toNat = b := by rw [BitVec.ofInt_natCast, BitVec.toNat_ofNat]; omega
  rw [BitVec.toNat_or, e1, e2]
  have h : a ||| b < 2 ^ 62 := Nat.or_lt_two_pow (by omega) (by omega)
  exact IntWalk.i64_in _ (by omega)
theorem or_at (i a y : Nat) (ha : a < 2 ^ i) (hy : y % 2 ^ i = 0) (ha2 : a < 4611686018427387904) (hy2 : y < 4611686018427387904) : bits .or .i64 (a : Int) (y : Int) = ((a + y : Nat) : Int) := by
  rw [i64_or_nat a y ha2 hy2, Nat.or_comm, nat_join i y a hy ha, Nat.add_comm]
set_option maxRecDepth 100000 in
set_option maxHeartbeats 4000000 in
theorem cnumber_any {w : World} {b : Nat} {R : ByteArray} (h : w.heap[b]? = some (curO R)) (wd : Nat) (hw : wd ≤ 4) (hR : R.size ≤ 140737488355328) :
    Calls Try.prog 38 #[.pointer (some ⟨b, 0, none⟩), .int .i64 (wd : Nat)] w fun e w' => e = .returned (.int .i64 (val ((bl R).take wd) : Nat)) ∧ ∃ q, w' = (w.drewN q).setCell ⟨b, 0, none⟩ (.string (R.extract (min wd R.size) R.size)) := by
  have HT := Lib.hid (take_any h wd (by omega) hR)
  obtain ⟨S, hS⟩ : ∃ S, S = R.extract 0 (min wd R.size) := ⟨_, rfl⟩
  rw [← hS] at HT
  have hbl : bl S = (bl R).take wd := by
    rw [hS, bl_extract, List.drop_zero, Nat.sub_zero]
    rcases Nat.le_total wd R.size with h | h
    · rw [Nat.min_eq_left h]
    · rw [Nat.min_eq_right h, List.take_of_length_le (by rw [bl_len]; exact Nat.le_refl _), List.take_of_length_le (by rw [bl_len]; exact h)]
  have hsz : S.size ≤ 4 := by rw [hS, ByteArray.size_extract]; omega
  have HBL := Lib.hid hbl
  clear h hS hbl
  go_enter Try.func38, Try.ntmps38
  go_wp2_with fail
  refine HT.out.mono ?_
  rintro e w1 ⟨rfl, q, rfl⟩
  have hw1 : ∃ q', (w.drewN q).setCell ⟨b, 0, none⟩ (.string (R.extract (min wd R.size) R.size)) = (w.drewN q').setCell ⟨b, 0, none⟩ (.string (R.extract (min wd R.size) R.size)) := ⟨q, rfl⟩
  have HW1 := Lib.hid hw1
  clear hw1
  generalize (w.drewN q).setCell ⟨b, 0, none⟩ (.string (R.extract (min wd R.size) R.size)) = W1 at *
  go_wp2_with fail
  go_loop [5, 7, 13] (fun nv _ iv => ∃ j : Nat, j ≤ S.size ∧ iv = .int .i64 (j : Nat) ∧ nv = .int .i64 (val ((bl S).take j) : Nat)) (fun _ _ iv => S.size - (intOf iv).toNat)
  case atStart => exact ⟨0, Nat.zero_le _, rfl, rfl⟩
  case round =>
    obtain ⟨j, hj, rfl, rfl⟩ := hrel
    by_cases hlt : j < S.size
    · have i0 : (j : Int) < (S.size : Int) := by omega
      have i1 : (0 : Int) ≤ (j : Int) := by omega
      have HV := Lib.hid (val_take (l := bl S) (j := j) (by rw [bl_len]; exact hlt))
      have hvl := val_lt ((bl S).take j)
      rw [List.length_take, bl_len, Nat.min_eq_left hj] at hvl
      have hx : (bl S)[j]'(by rw [bl_len]; exact hlt) = S[j] := rfl
      rw [hx] at HV
      have hx8 := S[j].toNat_lt
      generalize hav : val ((bl S).take j) = a at *
      have HH : Hid (a < 256 ^ j) := Lib.hid hvl
      clear hvl hx
      have hj3 : j ≤ 3 := by omega
      obtain rfl | rfl | rfl | rfl : j = 0 ∨ j = 1 ∨ j = 2 ∨ j = 3 := by omega
      · go_wp2_with fail
        refine ⟨⟨1, by omega, rfl, ?_⟩, by simp [intOf]; omega⟩
        rw [HV.out]; have h := HH.out; have e := or_at 0 a S[0].toNat (by simpa using h) (Nat.mod_one _) (by have := hx8; omega) (by have := hx8; omega); rw [e]; simp
      · go_wp2_with fail
        refine ⟨⟨2, by omega, rfl, ?_⟩, by simp [intOf]; omega⟩
        rw [HV.out]
        have h : a < 256 := by simpa using HH.out
        have e := or_at 8 a (S[1].toNat * 256) (by simpa using h) (by omega) (by omega) (by omega)
        have e2 : ((S[1].toNat * 256 : Nat) : Int) = (S[1].toNat : Int) * (256 : Int) := Int.natCast_mul _ _
        rw [e2] at e
        rw [e]
      · go_wp2_with fail
        refine ⟨⟨3, by omega, rfl, ?_⟩, by simp [intOf]; omega⟩
        rw [HV.out]
        have h : a < 65536 := by simpa using HH.out
        have e := or_at 16 a (S[2].toNat * 65536) (by simpa using h) (by omega) (by omega) (by omega)
        have e2 : ((S[2].toNat * 65536 : Nat) : Int) = (S[2].toNat : Int) * (65536 : Int) := Int.natCast_mul _ _
        rw [e2] at e
        rw [e]
      · go_wp2_with fail
        refine ⟨⟨4, by omega, rfl, ?_⟩, by simp [intOf]; omega⟩
        rw [HV.out]
        have h : a < 16777216 := by simpa using HH.out
        have e := or_at 24 a (S[3].toNat * 16777216) (by simpa using h) (by omega) (by omega) (by omega)
        have e2 : ((S[3].toNat * 16777216 : Nat) : Int) = (S[3].toNat : Int) * (16777216 : Int) := Int.natCast_mul _ _
        rw [e2] at e
        rw [e]
    · obtain rfl : j = S.size := by omega
      have i0 : ¬ (S.size : Int) < (S.size : Int) := by omega
      go_wp2_with fail
      go_ret
      exact ⟨by rw [← HBL.out]; exact congrArg (fun l => Ending.returned (.int .i64 (val l : Nat))) (List.take_of_length_le (by rw [bl_len]; exact Nat.le_refl _)), HW1.out⟩
end Go.Proofs.Ytgmaccfhgeocdaa
