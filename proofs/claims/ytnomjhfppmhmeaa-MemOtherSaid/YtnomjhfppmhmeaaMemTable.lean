/-
  Walks over the laws of package mem: table (of each text its place). Conditions: those in the theorem.
-/
import Derived.Test.YtnomjhfppmhmeaaMemRangeI
import Derived.Test.YtnomjhfppmhmeaaTextsAt
namespace Go.Proofs.Ytnomjhfppmhmeaa
open Go.RowKit MI

/-- A table of few keys, none of them long. -/
def Few (L : Mm.Row) (n m : Nat) : Prop := L.length ≤ n ∧ ∀ q ∈ L, q.1.size ≤ m
theorem Few.put {L : Mm.Row} {n m : Nat} (h : Few L n m) {k : ByteArray} (hk : k.size ≤ m) (v : Value) : Few (Mm.put L k v) (n + 1) m :=
  ⟨Nat.le_trans (Mm.length_put_le L k v) (by have := h.1; omega), fun q hq => by
    rcases Mm.mem_put.1 hq with rfl | ⟨hq, -⟩
    · exact hk
    · exact h.2 q hq⟩
theorem Few.del {L : Mm.Row} {n m : Nat} (h : Few L n m) (k : ByteArray) : Few (Mm.del L k) n m :=
  ⟨Nat.le_trans (Mm.length_del_le L k) h.1, fun q hq => h.2 q (Mm.mem_del.1 hq).1⟩
theorem Few.more {L : Mm.Row} {n n' m : Nat} (h : Few L n m) (hn : n ≤ n') : Few L n' m := ⟨Nat.le_trans h.1 hn, h.2⟩

/-- What table gives. -/
def Tabled (w0 : World) (B : List (Nat × Obj)) (n m : Nat) (e : Ending) (w' : World) : Prop := ∃ a L, e = .returned (.pointer (some ⟨a, 0, none⟩)) ∧ Mem w0 w' a L [] B ∧ Few L n m
set_option maxHeartbeats 4000000 in
theorem table_any {w0 w : World} {B : List (Nat × Obj)} (h : Now w0 w B) (p : Option Addr) (cap : Nat) (ss : List ByteArray) (hss : TextsAt w0 p ss) (hl : ss.length ≤ 300) (m : Nat) (hm : ∀ s ∈ ss, s.size ≤ m) (hm2 : m ≤ 1000000) :
    Calls Try.prog 45 #[.slice p ss.length cap] w (Tabled w0 B ss.length m) := by
  have HS := Lib.hid hss
  have HM := Lib.hid hm
  clear hss hm
  go_enter Try.func45, Try.ntmps45
  go_wp2_with fail
  refine (new_m (R := []) h (fun _ h => nomatch h)).mono ?_
  rintro e w1 ⟨a, rfl, h1, -⟩
  have H1 := Lib.hid h1
  clear h h1
  go_wp2_with fail
  go_loopw [4] (fun iv wr => ∃ (k : Nat) (L : Mm.Row), k ≤ ss.length ∧ iv = .int .i64 (k : Nat) ∧ Hid (Mem w0 wr a L [] B ∧ Few L k m)) (fun iv _ => ss.length - (intOf iv).toNat)
  case atStart => exact ⟨0, [], Nat.zero_le _, rfl, Lib.hid ⟨H1.out, Nat.le_refl _, fun _ h => nomatch h⟩⟩
  case round =>
    obtain ⟨k, L, hk, rfl, HL⟩ := hrel
    have hfew := HL.out.2.1
    by_cases hlt : k < ss.length
    · obtain ⟨A, rfl, hA, hcA⟩ := HS.out k hlt
      have hc1 : wr.cell? (A.add k) = some (.string ss[k]) := (HL.out.1.below.cell (by rw [add_block]; exact hA)).trans hcA
      have i1 : (k : Int) < (ss.length : Int) := by omega
      have i2 : (0 : Int) ≤ (k : Int) := by omega
      have hz := HM.out _ (List.getElem_mem hlt)
      clear hcA
      by_cases he : ss[k] = ⟨#[]⟩
      · by_cases h0 : 0 < k
        · have hlt1 : k - 1 < ss.length := by omega
          obtain ⟨A', e', hA', hcA'⟩ := HS.out (k - 1) hlt1
          cases e'
          have hc2 : wr.cell? (A.add (k - 1)) = some (.string ss[k - 1]) := (HL.out.1.below.cell (by rw [add_block]; exact hA)).trans hcA'
          have i4 : (0 : Int) < (k : Int) := by omega
          rw [he] at hc1
          have hk1 : ((k : Int) - 1) = ((k - 1 : Nat) : Int) := by omega
          have hk2 : ((k : Int) - 1).toNat = k - 1 := by omega
          have hk3 : (1 : Int) ≤ (k : Int) := by omega
          have hk4 : (k : Int) - 1 < (ss.length : Int) := by omega
          clear hcA' hA' he hk1
          generalize ss[k - 1] = t at *
          go_wp2_with fail
          refine (delete_m HL.out.1 t (by omega) rfl).mono ?_
          rintro e w2 ⟨rfl, h2, -⟩
          have H2 := Lib.hid h2
          clear h2 hc1 hc2
          go_wp2_with fail
          go_roundw
          case rel => exact ⟨k + 1, Mm.del L t, by omega, by go_num, Lib.hid ⟨H2.out, (HL.out.2.del t).more (by omega)⟩⟩
          case measure => simp [intOf]; omega
        · have i4 : ¬ (0 : Int) < (k : Int) := by omega
          rw [he] at hc1
          clear he
          go_wp2_with fail
          refine (set_m HL.out.1 ⟨#[]⟩ (by decide) (by omega) (k : Nat) rfl).mono ?_
          rintro e w2 ⟨rfl, h2, -⟩
          have H2 := Lib.hid h2
          clear h2 hc1
          go_wp2_with fail
          go_roundw
          case rel => exact ⟨k + 1, _, by omega, by go_num, Lib.hid ⟨H2.out, HL.out.2.put (Nat.zero_le _) _⟩⟩
          case measure => simp [intOf]; omega
      · have hne : ¬ ss[k].toList = [] := fun e => he (Mm.toList_inj (by rw [e, ByteArray.toList_eq]))
        have hne2 : (ss[k].toList == []) = false := by simpa using hne
        clear he
        generalize ss[k] = t at *
        go_wp2_with fail
        refine (set_m HL.out.1 t (by omega) (by omega) (k : Nat) rfl).mono ?_
        rintro e w2 ⟨rfl, h2, -⟩
        have H2 := Lib.hid h2
        clear h2 hc1
        go_wp2_with fail
        go_roundw
        case rel => exact ⟨k + 1, _, by omega, by go_num, Lib.hid ⟨H2.out, HL.out.2.put hz _⟩⟩
        case measure => simp [intOf]; omega
    · obtain rfl : k = ss.length := by omega
      have i0 : ¬ (ss.length : Int) < (ss.length : Int) := by omega
      go_wp2_with fail
      go_ret
      exact ⟨a, L, rfl, HL.out⟩
end Go.Proofs.Ytnomjhfppmhmeaa
