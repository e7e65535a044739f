/-
  Texts that are no tables: cut, with more behind, with one byte turned; texts as bytes. Conditions: those in the theorems.
-/
import Derived.Test.YtgmaccfhgeocdaaTabGreat
import Derived.Lib.ConvBytes
import Derived.Lib.SlBytesRow
import Derived.Laws.BitsAllLaws
namespace Go.Proofs.Ytgmaccfhgeocdaa
open Go.RowKit Tb

theorem isText_eq {s : ByteArray} {l : List En} (h : IsText s l) : bl s = Tb.text l := by rw [h.2, bl_of]
theorem cut_no {l : List En} (h : Right l) {k : Nat} (hk : k < (Tb.text l).length) : ¬ ∃ m, IsText ((⟨(Tb.text l).toArray⟩ : ByteArray).extract 0 k) m := by
  rintro ⟨m, hm⟩
  have e := isText_eq hm
  rw [bl_extract, bl_of, List.drop_zero, Nat.sub_zero] at e
  have h2 : Tb.text m ++ (Tb.text l).drop k = Tb.text l := by rw [← e, List.take_append_drop]
  obtain ⟨-, h3⟩ := text_free hm.1 h h2
  have := congrArg List.length h3
  rw [List.length_drop] at this
  simp at this; omega
theorem more_no {l : List En} (h : Right l) (o : ByteArray) (ho : 0 < o.size) : ¬ ∃ m, IsText ((⟨(Tb.text l).toArray⟩ : ByteArray) ++ o) m := by
  rintro ⟨m, hm⟩
  have e := isText_eq hm
  have e2 : bl ((⟨(Tb.text l).toArray⟩ : ByteArray) ++ o) = Tb.text l ++ bl o := by
    unfold bl; simp [ByteArray.data_append]
  rw [e2] at e
  obtain ⟨-, h3⟩ := text_free h hm.1 e
  have := congrArg List.length h3
  rw [bl_len, List.length_nil] at this
  omega
theorem turned_no {l : List En} {k : Nat} (hk : k < (Tb.text l).length) (y : UInt8) (hy : (Tb.text l)[k] ≠ y) : ¬ ∃ m, IsText (⟨((Tb.text l).set k y).toArray⟩ : ByteArray) m := by
  rintro ⟨m, hm⟩
  have e := isText_eq hm
  rw [bl_of] at e
  have e1 : Tb.text l = (Tb.text l).take k ++ (Tb.text l)[k] :: (Tb.text l).drop (k + 1) := by rw [← List.drop_eq_getElem_cons hk, List.take_append_drop]
  have e2 : (Tb.text l).set k y = (Tb.text l).take k ++ y :: (Tb.text l).drop (k + 1) := by rw [List.set_eq_take_append_cons_drop, if_pos hk]
  exact hy (text_turned _ _ _ _ e1 (e.symm.trans e2))
/-- A number taken below a length, from the end if it is below 0. -/
theorem mod_walk (c : Int) (n : Nat) (h0 : 0 < n) : ∃ k : Nat, k < n ∧ (c.tmod (n : Int) + (n : Int)).tmod (n : Int) = (k : Int) ∧ (c.tmod (n : Int) + (n : Int)) % (n : Int) = (k : Int) ∧ c.tmod (n : Int) < (n : Int) ∧ -(n : Int) < c.tmod (n : Int) := by
  have h1 : c.tmod (n : Int) < (n : Int) := Int.tmod_lt_of_pos c (b := (n : Int)) (by omega)
  have h2 : -(n : Int) < c.tmod (n : Int) := by
    have h := Int.tmod_lt_of_pos (-c) (b := (n : Int)) (by omega)
    rw [Int.neg_tmod] at h; omega
  generalize c.tmod (n : Int) = t at h1 h2
  have e : (t + (n : Int)).tmod (n : Int) = (t + (n : Int)) % (n : Int) := Int.tmod_eq_emod_of_nonneg (by omega)
  have hp := Int.emod_nonneg (t + (n : Int)) (b := (n : Int)) (by omega)
  have hq := Int.emod_lt_of_pos (t + (n : Int)) (b := (n : Int)) (by omega)
  refine ⟨((t + (n : Int)) % (n : Int)).toNat, by omega, ?_, by omega, h1, h2⟩
  rw [e]; omega
theorem open_no {s : ByteArray} {w : World} (hs : s.size ≤ 70000000000000) (hn : ¬ ∃ l, IsText s l) : Calls Try.prog 9 #[.string s] w fun e w' => e = .returned (.tuple #[.pointer none, .int .i64 8]) ∧ Below w.heap.size w w' := by
  refine (open_any s w hs).mono ?_
  rintro e w' ⟨hb, ⟨a, l, hl, -⟩ | ⟨-, rfl⟩⟩
  · exact absurd ⟨l, hl⟩ hn
  · exact ⟨rfl, hb⟩
theorem open_yes {l : List En} {w : World} (h : Right l) : Calls Try.prog 9 #[.string ⟨(Tb.text l).toArray⟩] w fun e w' => ∃ a, e = .returned (.tuple #[.pointer (some ⟨a, 0, none⟩), .int .i64 0]) ∧ IsTab w' a l ∧ w.heap.size ≤ a ∧ Below w.heap.size w w' := by
  refine (open_any _ w (by rw [tsize]; have := text_small h; omega)).mono ?_
  rintro e w' ⟨hb, ⟨a, l', hl, rfl, ht, ha⟩ | ⟨hn, -⟩⟩
  · obtain rfl : l' = l := text_inj hl.1 h (by have := isText_eq hl; rwa [bl_of, eq_comm] at this)
    exact ⟨a, rfl, ht, ha, hb⟩
  · exact absurd ⟨l, h, rfl⟩ hn

/-- Block b begins with the bytes l. -/
def BytesAt (W : World) (b : Nat) (l : List UInt8) : Prop := ∀ j (h : j < l.length), W.cell? ⟨b, j, none⟩ = some (.int .u8 (l[j].toNat : Int))
theorem bytesAt_conv (W : World) (s : ByteArray) (cap : Nat) (fr : Nat × Nat) : BytesAt (W.alloc (.cells (bytesRow s cap) 5 fr)) W.heap.size s.data.toList := by
  intro j hj
  rw [cell_of_row _ _ _ _ _ _ (heap_alloc_new W _), bytesRow_at s cap j (by have := hj; simp at this; exact this)]
  rfl
theorem bytesAt_drew {W : World} {b : Nat} {l : List UInt8} (h : BytesAt W b l) : BytesAt W.drew b l := h
theorem bytesAt_below {B : Nat} {W W' : World} {b : Nat} {l : List UInt8} (h : BytesAt W b l) (hb : Below B W W') (hB : b < B) : BytesAt W' b l :=
  fun j hj => (hb.cell hB).trans (h j hj)
theorem bytesAt_set {W : World} {b i : Nat} {l : List UInt8} (h : BytesAt W b l) (hi : i < l.length) (y : UInt8) : BytesAt (W.setCell ⟨b, i, none⟩ (.int .u8 (y.toNat : Int))) b (l.set i y) := by
  intro j hj
  have hj' : j < l.length := by simpa using hj
  by_cases e : i = j
  · subst e
    rw [World.cell?_setCell_same _ _ _ (h i hi)]
    simp
  · rw [World.cell?_setCell_other _ _ _ _ (by simp), h j hj']
    simp [e]
theorem back_text {W : World} {b : Nat} {l : List UInt8} (h : BytesAt W b l) (n cap : Nat) (hn : l.length = n) :
    (convert 39 9 (.slice (some ⟨b, 0, none⟩) n cap)).run Try.prog W = .ok (.string ⟨l.toArray⟩) W := by
  subst hn
  exact run_convert_bytes_back (P := Try.prog) W 39 9 5 ⟨b, 0, none⟩ cap l Try.underlying39 Try.underlying5 Try.underlying9 (fun j hj => by
    have hadd : (⟨b, 0, none⟩ : Addr).add j = ⟨b, j, none⟩ := by unfold Addr.add; split <;> simp_all
    rw [hadd]; exact h j hj)
theorem bytes_frozen (W : World) (s : ByteArray) (cap i : Nat) (hi : i < s.size) (n : Nat) : (W.alloc (.cells (bytesRow s cap) 5 ((bytesRow s cap).size, n))).frozen? ⟨W.heap.size, i, none⟩ = false := by
  rw [World.frozen?_alloc_mark]
  have h : s.data.size ≤ (bytesRow s cap).size := by unfold bytesRow; rw [Array.size_append, Array.size_map]; omega
  have h2 : s.size = s.data.size := rfl
  have : ¬ (bytesRow s cap).size ≤ i := by omega
  simp [this]
/-- A byte turned. -/
theorem xor_walk (x : UInt8) (c : Int) (h0 : 0 ≤ c) (h1 : c ≤ 255) : ∃ y : UInt8, bits BinOp.xor .u8 (x.toNat : Int) c = (y.toNat : Int) ∧ (c ≠ 0 → x ≠ y) := by
  have hx := x.toNat_lt
  have hlt : x.toNat ^^^ c.toNat < 256 := Nat.xor_lt_two_pow (n := 8) (by omega) (by omega)
  refine ⟨UInt8.ofNat (x.toNat ^^^ c.toNat), ?_, ?_⟩
  · rw [u8_xor _ _ (by omega) (by omega) h0 (by omega), Int.toNat_natCast, UInt8.toNat_ofNat', Nat.mod_eq_of_lt hlt]
  · intro hc e
    have e2 := congrArg UInt8.toNat e
    rw [UInt8.toNat_ofNat', Nat.mod_eq_of_lt hlt] at e2
    have e3 : x.toNat ^^^ 0 = x.toNat ^^^ c.toNat := by rw [Nat.xor_zero]; exact e2
    have := Sm.xor_cancel e3
    omega
end Go.Proofs.Ytgmaccfhgeocdaa
