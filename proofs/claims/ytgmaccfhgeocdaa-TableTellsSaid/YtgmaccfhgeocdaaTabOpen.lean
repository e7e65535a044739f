/-
  Walks over package table: Open, of whatever text; Len. Condition: a text of at most 70000000000000 bytes.
-/
import Derived.Test.YtgmaccfhgeocdaaTabBuild
import Derived.Test.YtgmaccfhgeocdaaTabList
namespace Go.Proofs.Ytgmaccfhgeocdaa
open Go.RowKit Tb

/-- A right list's table lies at a. -/
def IsTab (W : World) (a : Nat) (l : List En) : Prop := TabAt W a l.length (blocks 0 0 l) (rows l) ∧ Right l
theorem IsTab.below {W W' : World} {a : Nat} {l : List En} (h : IsTab W a l) (hb : Below W.heap.size W W') : IsTab W' a l := ⟨h.1.below hb, h.2⟩
/-- The text is the table of l. -/
def IsText (s : ByteArray) (l : List En) : Prop := Right l ∧ s = ⟨(Tb.text l).toArray⟩
/-- What Open answers. -/
def Opened (s : ByteArray) (w : World) (e : Ending) (w' : World) : Prop :=
  Below w.heap.size w w' ∧ ((∃ a l, IsText s l ∧ e = .returned (.tuple #[.pointer (some ⟨a, 0, none⟩), .int .i64 0]) ∧ IsTab w' a l ∧ w.heap.size ≤ a) ∨ ((¬ ∃ l, IsText s l) ∧ e = .returned (.tuple #[.pointer none, .int .i64 8])))
theorem listN_in (n p : Nat) (R : List UInt8) (hR : R.length ≤ 70000000000000) : ∀ e ∈ listN n p R, EnIn e := by
  induction n generalizing p with
  | zero => intro e he; simp [listN] at he
  | succ n ih =>
    intro e he
    rw [listN] at he
    cases h : atR R p with
    | none => rw [h] at he; simp at he
    | some x =>
      rw [h] at he
      simp only [List.mem_cons] at he
      rcases he with rfl | he
      · unfold atR at h
        split at h
        · simp only [Option.some.injEq] at h
          rw [← h]
          unfold EnIn maxLen
          simp only [ByteArray.size, List.size_toArray, List.length_take, List.length_drop]
          omega
        · cases h
      · exact ih _ e he
theorem listN_len (n p : Nat) (R : List UInt8) : (listN n p R).length ≤ n := by
  induction n generalizing p with
  | zero => simp [listN]
  | succ n ih =>
    rw [listN]
    cases atR R p with
    | none => simp
    | some x => simp only [List.length_cons]; have := ih x.2; omega
theorem isText_list {s : ByteArray} {l : List En} (h : IsText s l) : listOf ((bl s).take (s.size - 4)) = l := by
  obtain ⟨hr, rfl⟩ := h
  have e : (bl ⟨(Tb.text l).toArray⟩).take ((⟨(Tb.text l).toArray⟩ : ByteArray).size - 4) = Tb.body l := by
    rw [bl_of, tsize]; exact take_text l
  rw [e]
  have := listOf_body l hr []
  rwa [List.append_nil] at this
theorem index_le (b : List UInt8) : (index b).2.length ≤ b.length := by
  have key : ∀ (n : Nat) (b : List UInt8), (readIdx n b).2.length ≤ b.length := by
    intro n
    induction n with
    | zero => intro b; exact Nat.le_refl _
    | succ n ih => intro b; rw [readIdx]; simp only; have := ih (((b.drop 4).drop 1).drop (val ((b.drop 4).take 1))); simp only [List.length_drop] at this; omega
  unfold index
  have := key (nb 0 (cnt b)) (b.drop 2)
  rw [List.length_drop] at this; omega
theorem cnt_le (b : List UInt8) : cnt b ≤ 65535 := by
  unfold cnt
  have h := val_lt (b.take 2)
  rw [List.length_take] at h
  have : 256 ^ min 2 b.length ≤ 256 ^ 2 := Nat.pow_le_pow_right (by omega) (by omega)
  omega

theorem read_text {l : List En} (h : Right l) (w : World) :
    Calls Try.prog 27 #[.string ⟨(Tb.text l).toArray⟩] w fun e w' => ∃ a, e = .returned (.pointer (some ⟨a, 0, none⟩)) ∧ IsTab w' a l ∧ w.heap.size ≤ a ∧ Below w.heap.size w w' := by
  have hs := text_small h
  refine (read_any ⟨(Tb.text l).toArray⟩ w (by rw [tsize]; omega)).mono ?_
  have e : (bl ⟨(Tb.text l).toArray⟩).take ((⟨(Tb.text l).toArray⟩ : ByteArray).size - 4) = Tb.body l := by
    rw [bl_of, tsize]; exact take_text l
  have e1 := cnt_body l h.few []
  have e2 := index_body l h []
  rw [List.append_nil] at e1 e2
  rw [List.append_nil] at e2
  rw [e, e1, e2]
  rintro e w' ⟨a, rfl, ht, ha, hb⟩
  exact ⟨a, rfl, ⟨ht, h⟩, ha, hb⟩
theorem toList_ne {a b : ByteArray} (h : ¬ a = b) : (a.toList == b.toList) = false := beq_eq_false_iff_ne.2 fun e => h (Mm.toList_inj e)
set_option maxRecDepth 100000 in
set_option maxHeartbeats 4000000 in
theorem open_any (s : ByteArray) (w : World) (hs : s.size ≤ 70000000000000) : Calls Try.prog 9 #[.string s] w (Opened s w) := by
  obtain ⟨L, hL⟩ : ∃ L, L = (bl s).take (s.size - 4) := ⟨_, rfl⟩
  have hLl : L.length ≤ 70000000000000 := by rw [hL, List.length_take, bl_len]; omega
  have hil := index_le L
  have hcl := cnt_le L
  have HRD := Lib.hid (read_any s w (by omega))
  rw [← hL] at HRD
  have HIS : Hid (∀ l, IsText s l → listOf L = l) := Lib.hid fun l h => by rw [hL]; exact isText_list h
  obtain ⟨M, hM⟩ : ∃ M, M = listOf L := ⟨_, rfl⟩
  rw [← hM] at HIS
  have HIN : Hid (∀ e ∈ M, EnIn e) := Lib.hid (by rw [hM]; exact listN_in _ _ _ (by omega))
  have hml : M.length ≤ 65535 := by rw [hM]; exact Nat.le_trans (listN_len _ _ _) hcl
  have HM : Hid (listN (cnt L) 0 (index L).2 = M) := Lib.hid hM.symm
  clear hL hM
  go_enter Try.func9, Try.ntmps9
  go_wp2_with fail
  refine HRD.out.mono ?_
  rintro e w1 ⟨a, rfl, ht, ha, hb1⟩
  have HT := Lib.hid ht
  have HB1 := Lib.hid hb1
  clear ht hb1
  go_wp2_with fail
  refine (list_any HT.out (by omega) hcl).mono ?_
  rintro e w2 ⟨v, rfl, hov, hb2⟩
  rw [HM.out] at hov
  obtain ⟨p, cap, rfl, -, -, hat⟩ := hov.ents HIN.out
  have HB2 := Lib.hid (HB1.out.trans (hb2.mono HB1.out.size))
  have HA := Lib.hid hat
  clear hov hat hb2
  go_wp2_with fail
  refine (build_any HA.out).mono ?_
  rintro e w3 ⟨t, n, rfl, hn, hr, hnr, hb3⟩
  have HB3 := Lib.hid (HB2.out.trans (hb3.mono HB2.out.size))
  have HN := Lib.hid hn
  have HR := Lib.hid hr
  have HNR := Lib.hid hnr
  clear hn hr hnr hb3
  by_cases h0 : n = 0
  · have hR : Right M := (bars_right M).1 (by rw [← HN.out]; exact h0)
    have ht := HR.out hR
    have HRT := Lib.hid hR
    have HTT := Lib.hid ht
    have d0 : ((n : Int) == 0) = true := by rw [beq_iff_eq]; omega
    have HN0 := Lib.hid h0
    clear hR ht h0
    by_cases hts : t = s
    · have d1 : (t.toList == s.toList) = true := by rw [hts]; exact beq_self_eq_true _
      have HTS := Lib.hid hts
      clear hts
      have HOP : Hid (∀ W, Calls Try.prog 27 #[.string t] W fun e w' => ∃ a, e = .returned (.pointer (some ⟨a, 0, none⟩)) ∧ IsTab w' a M ∧ W.heap.size ≤ a ∧ Below W.heap.size W w') := Lib.hid fun W => by
        rw [HTT.out]; exact read_text HRT.out W
      go_wp2_with fail
      refine (HOP.out w3).mono ?_
      rintro e w4 ⟨a2, rfl, ht2, ha2, hb4⟩
      have HT2 := Lib.hid ht2
      have HA2 := Lib.hid (Nat.le_trans HB3.out.size ha2)
      have HB4 := Lib.hid (HB3.out.trans (hb4.mono HB3.out.size))
      clear ht2 ha2 hb4
      go_wp2_with fail
      go_ret2
      exact ⟨HB4.out, .inl ⟨a2, M, ⟨HRT.out, by rw [← HTS.out]; exact HTT.out⟩, rfl, HT2.out, HA2.out⟩⟩
    · have d1 := toList_ne hts
      have HTS := Lib.hid hts
      clear hts
      go_wp2_with fail
      go_ret2
      refine ⟨HB3.out, .inr ⟨?_, rfl⟩⟩
      rintro ⟨l, hl⟩
      have e := HIS.out l hl
      subst e
      exact HTS.out (HTT.out.trans hl.2.symm)
  · have d0 : ((n : Int) == 0) = false := by rw [beq_eq_false_iff_ne]; omega
    have HN0 := Lib.hid h0
    clear h0
    go_wp2_with fail
    go_ret2
    refine ⟨HB3.out, .inr ⟨?_, rfl⟩⟩
    rintro ⟨l, hl⟩
    have e := HIS.out l hl
    subst e
    exact HN0.out (HN.out.trans ((bars_right _).2 hl.1))

set_option maxHeartbeats 4000000 in
theorem len_any {W : World} {a : Nat} {l : List En} (h : IsTab W a l) : Calls Try.prog 13 #[.pointer (some ⟨a, 0, none⟩)] W fun e w' => e = .returned (.int .i64 (l.length : Nat)) ∧ W = w' := by
  have c := h.1.cells.2.2
  clear h
  go_enter Try.func13, Try.ntmps13
  go_wp2_with fail
  go_ret
  exact ⟨rfl, rfl⟩
set_option maxHeartbeats 4000000 in
theorem len_nil (W : World) : Calls Try.prog 13 #[.pointer none] W fun e w' => e = .returned (.int .i64 0) ∧ W = w' := by
  go_enter Try.func13, Try.ntmps13
  go_wp2_with fail
  go_ret
  exact ⟨rfl, rfl⟩
end Go.Proofs.Ytgmaccfhgeocdaa
