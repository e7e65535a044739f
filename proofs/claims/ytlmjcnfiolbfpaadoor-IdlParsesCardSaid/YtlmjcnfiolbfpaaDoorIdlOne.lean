/-
  Walks over package idl: one, name, number, ahead, got; the library's Contains. Conditions: those in the theorems (the keywords' variable holds what the row lists).
-/
import Derived.Test.YtlmjcnfiolbfpaaDoorIdlTake
set_option linter.unusedSimpArgs false
set_option linter.unusedVariables false
namespace Go.Proofs.YtlmjcnfiolbfpaaDoor
open Go.RowKit

theorem eqB_list (a b : ByteArray) : (a.toList == b.toList) = Ip.eqB a b := by rw [Go.Lib.toList_data, Go.Lib.toList_data]; rfl
theorem eqB_at (s : ByteArray) (l : List UInt8) : (s.toList == l) = Ip.eqB s (Tk.bs l) := by rw [Go.Lib.toList_data]; unfold Ip.eqB; rw [Tk.bs_data]
theorem is_kModule (s : ByteArray) : (s.toList == [109, 111, 100, 117, 108, 101]) = Ip.eqB s Ip.kModule := eqB_at s _
theorem is_kRecord (s : ByteArray) : (s.toList == [114, 101, 99, 111, 114, 100]) = Ip.eqB s Ip.kRecord := eqB_at s _
theorem is_kChoice (s : ByteArray) : (s.toList == [99, 104, 111, 105, 99, 101]) = Ip.eqB s Ip.kChoice := eqB_at s _
theorem is_kService (s : ByteArray) : (s.toList == [115, 101, 114, 118, 105, 99, 101]) = Ip.eqB s Ip.kService := eqB_at s _
theorem is_kSaga (s : ByteArray) : (s.toList == [115, 97, 103, 97]) = Ip.eqB s Ip.kSaga := eqB_at s _
theorem is_kDo (s : ByteArray) : (s.toList == [100, 111]) = Ip.eqB s Ip.kDo := eqB_at s _
theorem is_kAt (s : ByteArray) : (s.toList == [97, 116]) = Ip.eqB s Ip.kAt := eqB_at s _
theorem is_kUndo (s : ByteArray) : (s.toList == [117, 110, 100, 111]) = Ip.eqB s Ip.kUndo := eqB_at s _
theorem is_kGive (s : ByteArray) : (s.toList == [103, 105, 118, 101]) = Ip.eqB s Ip.kGive := eqB_at s _
theorem is_kTake (s : ByteArray) : (s.toList == [116, 97, 107, 101]) = Ip.eqB s Ip.kTake := eqB_at s _
theorem is_kNote (s : ByteArray) : (s.toList == [110, 111, 116, 101]) = Ip.eqB s Ip.kNote := eqB_at s _
theorem is_kNone (s : ByteArray) : (s.toList == [110, 111, 110, 101]) = Ip.eqB s Ip.kNone := eqB_at s _
theorem is_kBool (s : ByteArray) : (s.toList == [98, 111, 111, 108]) = Ip.eqB s Ip.kBool := eqB_at s _
theorem is_kInt (s : ByteArray) : (s.toList == [105, 110, 116]) = Ip.eqB s Ip.kInt := eqB_at s _
theorem is_kText (s : ByteArray) : (s.toList == [116, 101, 120, 116]) = Ip.eqB s Ip.kText := eqB_at s _
theorem is_kList (s : ByteArray) : (s.toList == [108, 105, 115, 116]) = Ip.eqB s Ip.kList := eqB_at s _
theorem is_kOpt (s : ByteArray) : (s.toList == [111, 112, 116]) = Ip.eqB s Ip.kOpt := eqB_at s _
theorem is_sOpen (s : ByteArray) : (s.toList == [123]) = Ip.eqB s Ip.sOpen := eqB_at s _
theorem is_sShut (s : ByteArray) : (s.toList == [125]) = Ip.eqB s Ip.sShut := eqB_at s _
theorem is_sIn (s : ByteArray) : (s.toList == [40]) = Ip.eqB s Ip.sIn := eqB_at s _
theorem is_sOut (s : ByteArray) : (s.toList == [41]) = Ip.eqB s Ip.sOut := eqB_at s _
theorem is_sSemi (s : ByteArray) : (s.toList == [59]) = Ip.eqB s Ip.sSemi := eqB_at s _
theorem is_sColon (s : ByteArray) : (s.toList == [58]) = Ip.eqB s Ip.sColon := eqB_at s _
theorem is_sDot (s : ByteArray) : (s.toList == [46]) = Ip.eqB s Ip.sDot := eqB_at s _
theorem is_sArrow (s : ByteArray) : (s.toList == [45, 62]) = Ip.eqB s Ip.sArrow := eqB_at s _
set_option maxRecDepth 100000 in
set_option maxHeartbeats 4000000 in
theorem Index_any {w : World} {p : Option Addr} {cap : Nat} {of : List ByteArray} (s : ByteArray) (h : TextsAt w p of) (hl : of.length ≤ 100000) :
    Calls Tryd.prog 69 #[.slice p of.length cap, .string s] w fun e w' => ∃ x : Int, e = .returned (.int .i64 x) ∧ decide (0 ≤ x) = Ip.among of s ∧ w = w' := by
  have HP := Lib.hid h
  have hw : ∀ k, (hk : k < of.length) → Ip.eqB s of[k] = true → Ip.among of s = true := fun k hk e => by rw [Ip.eqB_iff] at e; exact Ip.among_iff.2 (e ▸ List.getElem_mem hk)
  have hn : (∀ i, (hi : i < of.length) → Ip.eqB s of[i] = false) → Ip.among of s = false := fun h => by
    cases hb : Ip.among of s with
    | false => rfl
    | true =>
      obtain ⟨i, hi, e⟩ := List.getElem_of_mem (Ip.among_iff.1 hb)
      have := h i hi
      rw [e, Ip.eqB_self] at this; cases this
  have HW := Lib.hid hw
  have HN := Lib.hid hn
  clear h hw hn
  go_enter Tryd.func69, Tryd.ntmps69
  go_wp2_with fail
  go_loop [5, 8] (fun _ kv => ∃ k : Nat, k ≤ of.length ∧ kv = .int .i64 (k : Nat) ∧ Hid (∀ i, i < k → ∀ (hi : i < of.length), Ip.eqB s of[i] = false)) (fun _ kv => of.length - (intOf kv).toNat)
  case atStart => exact ⟨0, Nat.zero_le _, rfl, Lib.hid fun i hi => absurd hi (Nat.not_lt_zero _)⟩
  case round =>
    obtain ⟨k, hk, rfl, H⟩ := hrel
    by_cases hlt : k < of.length
    · have i1 : (k : Int) < (of.length : Int) := by omega
      have i2 : (0 : Int) ≤ (k : Int) := by omega
      obtain ⟨A, rfl, c0, c1⟩ := HP.out k hlt
      have HY := Lib.hid (HW.out k hlt)
      have HK2 : Hid (Ip.eqB s of[k] = false → ∀ i, i < k + 1 → ∀ (hi : i < of.length), Ip.eqB s of[i] = false) := Lib.hid fun h i hi hi2 => by
        rcases Nat.lt_or_ge i k with h1 | h1
        · exact H.out i h1 hi2
        · have : i = k := by omega
          subst this; exact h
      generalize of[k] = x at *
      have hx := eqB_list s x
      cases hb : Ip.eqB s x with
      | true =>
        rw [hb] at hx
        have HB := Lib.hid (HY.out hb)
        clear hb HY HK2
        go_wp2_with fail
        go_ret
        exact ⟨_, rfl, by rw [HB.out]; simp, rfl⟩
      | false =>
        rw [hb] at hx
        have HB := Lib.hid (HK2.out hb)
        clear hb HY HK2
        go_wp2_with fail
        go_round
        case rel => exact ⟨k + 1, by omega, by go_num, HB⟩
        case measure => simp [intOf]; omega
    · obtain rfl : k = of.length := by omega
      have i1 : ¬ (of.length : Int) < (of.length : Int) := by omega
      have HB := Lib.hid (HN.out fun i hi => H.out i hi hi)
      go_wp2_with fail
      go_ret
      exact ⟨_, rfl, by rw [HB.out]; rfl, rfl⟩
theorem Contains_any {w : World} {p : Option Addr} {cap : Nat} {of : List ByteArray} (s : ByteArray) (h : TextsAt w p of) (hl : of.length ≤ 100000) :
    Calls Tryd.prog 55 #[.slice p of.length cap, .string s] w fun e w' => e = .returned (.bool (Ip.among of s)) ∧ w = w' := by
  have q := Index_any (cap := cap) s h hl
  clear h
  generalize Ip.among of s = b at *
  go_enter Tryd.func55, Tryd.ntmps55
  go_wp2_with fail
  refine q.mono ?_
  rintro e w' ⟨x, rfl, hx, rfl⟩
  subst hx
  go_wp2_with fail
  go_ret
  exact ⟨rfl, rfl⟩
set_option maxRecDepth 100000 in
set_option maxHeartbeats 4000000 in
theorem one1_any {w : World} {q : Nat} {p : Option Addr} {cap : Nat} {of : List ByteArray} (t : Tk.Token) (hq : w.heap[q]? = some (.cells #[.slice p of.length cap] 98 (0, 0))) (h : TextsAt w p of) (hl : of.length ≤ 100000) :
    Calls Tryd.prog 54 (#[tokV t] ++ #[.pointer (some ⟨q, 0, none⟩)]) w fun e w' => e = .returned (.bool (Ip.among of t.text)) ∧ Below w.heap.size w w' := by
  have cq : w.cell? ⟨q, 0, none⟩ = some (.slice p of.length cap) := by rw [cell_of_row _ _ _ _ _ _ hq]; rfl
  have hlt := (Array.getElem?_eq_some_iff.1 hq).1
  have Q := fun W (hW : Below w.heap.size w W) => Contains_any (w := W) (cap := cap) t.text (h.below hW) hl
  have HQ := Lib.hid Q
  clear hq h Q
  show Calls _ _ #[tokV t, .pointer (some ⟨q, 0, none⟩)] _ _
  unfold tokV
  generalize Ip.among of t.text = b at *
  go_enter Tryd.func54, Tryd.ntmps54
  go_wp2_with fail
  refine (HQ.out _ (tk_alloc _ _)).mono ?_
  rintro e w' ⟨rfl, rfl⟩
  go_wp2_with fail
  go_ret
  exact ⟨rfl, tk_alloc _ _⟩
set_option maxRecDepth 100000 in
set_option maxHeartbeats 4000000 in
theorem name1_any {w : World} (t : Tk.Token) (hk : KwIs w) (hm : t.text.size ≤ maxLen) : Calls Tryd.prog 56 (#[tokV t] ++ #[]) w fun e w' => e = .returned (.bool (Tk.name t.text)) ∧ Below w.heap.size w w' := by
  have Q := fun W (hW : Below w.heap.size w W) => Name_any t.text W hm (hk.below hW)
  have HQ := Lib.hid Q
  clear hk Q hm
  show Calls _ _ #[tokV t] _ _
  unfold tokV
  generalize Tk.name t.text = b at *
  go_enter Tryd.func56, Tryd.ntmps56
  go_wp2_with fail
  refine (HQ.out _ (tk_alloc _ _)).mono ?_
  rintro e w' ⟨rfl, rfl⟩
  go_wp2_with fail
  go_ret
  exact ⟨rfl, tk_alloc _ _⟩
set_option maxRecDepth 100000 in
set_option maxHeartbeats 4000000 in
theorem number1_any {w : World} (t : Tk.Token) : Calls Tryd.prog 82 (#[tokV t] ++ #[]) w fun e w' => e = .returned (.bool (decide (t.kind = 2))) ∧ Below w.heap.size w w' := by
  have hb : (((t.kind : Nat) : Int) == 2) = decide (t.kind = 2) := by
    rw [Bool.eq_iff_iff, beq_iff_eq, decide_eq_true_iff]; omega
  show Calls _ _ #[tokV t] _ _
  unfold tokV
  generalize decide (t.kind = 2) = b at *
  go_enter Tryd.func82, Tryd.ntmps82
  go_wp2_with fail
  go_ret
  exact ⟨rfl, tk_alloc _ _⟩
theorem field_text (t : Tk.Token) (W : World) : (Instr.field 41 (.agg #[.int .u8 (t.kind : Nat), .string t.text, .int .i64 t.num, .int .i64 t.pos]) 1).run Tryd.prog W = .ok (.string t.text) W := by kernel_rfl
theorem field_num (t : Tk.Token) (W : World) : (Instr.field 41 (.agg #[.int .u8 (t.kind : Nat), .string t.text, .int .i64 t.num, .int .i64 t.pos]) 2).run Tryd.prog W = .ok (.int .i64 t.num) W := by kernel_rfl
/-- What a reader answers with a text. -/
def Text (b q : Nat) (x : ByteArray × Ip.R) (w : World) (e : Ending) (w' : World) : Prop := e = .returned (.string x.1) ∧ Rd w' b q x.2 ∧ Tn b w w'
set_option maxRecDepth 100000 in
set_option maxHeartbeats 4000000 in
theorem one_any {w : World} {b q : Nat} {r : Ip.R} {p : Option Addr} {cap : Nat} {of : List ByteArray} (h : Rd w b q r) (ho : TextsAt w p of) (hl : of.length ≤ 100000) :
    Calls Tryd.prog 31 #[.pointer (some ⟨b, 0, none⟩), .slice p of.length cap] w (Text b q (Ip.one of r) w) := by
  have Q := take_any (h.below (tk_alloc w (.cells #[.slice p of.length cap] 98 (0, 0)))) (g := 54) (cb := #[.pointer (some ⟨w.heap.size, 0, none⟩)]) (enters_of Tryd.func54 (by kernel_rfl) rfl)
    (fun s _ => Ip.among of s) fun W t l _ hW => one1_any t ((hW.block _ (by rw [World.size_alloc]; omega)).trans (heap_alloc_new w _)) ((ho.below (tk_alloc w _)).below hW) hl
  have HQ := Lib.hid Q
  clear Q h ho
  unfold Ip.one
  rw [Ip.bind_eq, Ip.ret_eq]
  generalize Ip.take (fun s _ => Ip.among of s) r = x at *
  go_enter Tryd.func31, Tryd.ntmps31
  go_wp2_with fail
  refine HQ.out.mono ?_
  rintro e w' ⟨t, rfl, ht, -, hr, hT⟩
  unfold tokV
  have HR := Lib.hid (And.intro ht hr)
  have HT := Lib.hid ((Tn.of (tk_alloc w _)).trans hT)
  have hfl := field_text t
  clear ht hr hT
  go_wp2_with fail
  go_ret
  exact ⟨by rw [HR.out.1]; rfl, HR.out.2, HT.out⟩
set_option maxRecDepth 100000 in
set_option maxHeartbeats 4000000 in
theorem name_any {w : World} {b q : Nat} {r : Ip.R} (h : Rd w b q r) : Calls Tryd.prog 32 #[.pointer (some ⟨b, 0, none⟩)] w (Text b q (Ip.name r) w) := by
  have hk := h.kw
  have hin : ∀ t l, r.left = t :: l → t.text.size ≤ maxLen := by
    obtain ⟨p, c, h⟩ := h
    intro t l e
    have := h.toks.ok t (by rw [e]; exact List.mem_cons_self ..)
    exact this.2.1
  have Q := take_any h (g := 56) (cb := #[]) (enters_of Tryd.func56 (by kernel_rfl) rfl) (fun s _ => Tk.name s) fun W t l e hW => name1_any t (hk.below hW) (hin t l e)
  have HQ := Lib.hid Q
  clear Q h hk hin
  unfold Ip.name
  rw [Ip.bind_eq, Ip.ret_eq]
  generalize Ip.take (fun s _ => Tk.name s) r = x at *
  go_enter Tryd.func32, Tryd.ntmps32
  go_wp2_with fail
  refine HQ.out.mono ?_
  rintro e w' ⟨t, rfl, ht, -, hr, hT⟩
  unfold tokV
  have HR := Lib.hid (And.intro ht (And.intro hr hT))
  have hfl := field_text t
  clear ht hr hT
  go_wp2_with fail
  go_ret
  exact ⟨by rw [HR.out.1]; rfl, HR.out.2.1, HR.out.2.2⟩
set_option maxRecDepth 100000 in
set_option maxHeartbeats 4000000 in
theorem number_any_idl {w : World} {b q : Nat} {r : Ip.R} (h : Rd w b q r) : Calls Tryd.prog 81 #[.pointer (some ⟨b, 0, none⟩)] w fun e w' => e = .returned (.int .i64 (Ip.number r).1) ∧ Rd w' b q (Ip.number r).2 ∧ Tn b w w' := by
  have Q := take_any h (g := 82) (cb := #[]) (enters_of Tryd.func82 (by kernel_rfl) rfl) (fun _ k => decide (k = 2)) fun W t l e hW => number1_any t
  have HQ := Lib.hid Q
  clear Q h
  unfold Ip.number
  rw [Ip.bind_eq, Ip.ret_eq]
  generalize Ip.take (fun _ k => decide (k = 2)) r = x at *
  go_enter Tryd.func81, Tryd.ntmps81
  go_wp2_with fail
  refine HQ.out.mono ?_
  rintro e w' ⟨t, rfl, -, ht, hr, hT⟩
  unfold tokV
  have HR := Lib.hid (And.intro ht (And.intro hr hT))
  have hfl := field_num t
  clear ht hr hT
  go_wp2_with fail
  go_ret
  exact ⟨by rw [HR.out.1]; rfl, HR.out.2.1, HR.out.2.2⟩
set_option maxRecDepth 100000 in
set_option maxHeartbeats 4000000 in
theorem ahead_any {w : World} {b q : Nat} {r : Ip.R} (h : Rd w b q r) : Calls Tryd.prog 33 #[.pointer (some ⟨b, 0, none⟩)] w fun e w' => e = .returned (.string (Ip.ahead r)) ∧ w = w' := by
  obtain ⟨p, c, h⟩ := h
  obtain ⟨l, s⟩ := r
  obtain ⟨c0, c1, f0, f1⟩ := rd_cells h
  simp only at c0 c1
  cases s with
  | true =>
    clear h
    show Calls _ _ _ _ fun e w' => e = .returned (.string ⟨#[]⟩) ∧ w = w'
    go_enter Tryd.func33, Tryd.ntmps33
    go_wp2_with fail
    go_ret
    exact ⟨rfl, rfl⟩
  | false =>
    cases l with
    | nil =>
      clear h
      simp only [List.length_nil] at c0
      show Calls _ _ _ _ fun e w' => e = .returned (.string ⟨#[]⟩) ∧ w = w'
      go_enter Tryd.func33, Tryd.ntmps33
      go_wp2_with fail
      go_ret
      exact ⟨rfl, rfl⟩
    | cons t l =>
      obtain ⟨A, rfl⟩ := h.toks.some (i := 0) (by simp)
      obtain ⟨A1, e1, d0, d1, d2, d3, hin⟩ := h.toks.at (Below.refl _ _) (i := 0) (by simp)
      cases e1
      simp only [List.getElem_cons_zero, Nat.zero_mul] at d0 d1 d2 d3
      have a0 : A.add 0 = A := rfl
      rw [a0] at d0 d1 d2 d3
      simp only [List.length_cons] at c0
      have hne0 : (((l.length : Nat) : Int) + 1 == 0) = false := by rw [beq_eq_false_iff_ne]; omega
      clear h hin a0
      show Calls _ _ _ _ fun e w' => e = .returned (.string t.text) ∧ w = w'
      go_enter Tryd.func33, Tryd.ntmps33
      go_wp2_with fail
      go_ret
      exact ⟨rfl, rfl⟩
theorem cells_texts (of : List ByteArray) (w : World) (ty : TypeId) : TextsAt (w.alloc (.cells (of.map Value.string).toArray ty)) (some ⟨w.heap.size, 0, none⟩) of := fun i hi => by
  refine ⟨_, rfl, by rw [World.size_alloc]; exact Nat.lt_succ_self _, ?_⟩
  have hadd : (⟨w.heap.size, 0, none⟩ : Addr).add i = ⟨w.heap.size, i, none⟩ := by unfold Addr.add; split <;> simp_all
  rw [hadd, cell_of_row _ _ _ _ _ _ (heap_alloc_new w _)]
  simp [hi]
/-- one, with its words as they are written at the call. -/
theorem one_lit {w : World} {b q : Nat} {r : Ip.R} (h : Rd w b q r) (of : List ByteArray) (hl : of.length ≤ 100000) :
    Calls Tryd.prog 31 #[.pointer (some ⟨b, 0, none⟩), .slice (some ⟨w.heap.size, 0, none⟩) of.length of.length] (w.alloc (.cells (of.map Value.string).toArray 9)) (Text b q (Ip.one of r) w) :=
  (one_any (h.below (tk_alloc w _)) (cells_texts of w _) hl).mono fun e w' ⟨h1, h2, h3⟩ => ⟨h1, h2, (Tn.of (tk_alloc w _)).trans h3⟩
set_option maxRecDepth 100000 in
set_option maxHeartbeats 4000000 in
theorem got_no {w : World} {b q : Nat} {r : Ip.R} (h : Rd w b q r) (s : ByteArray) (he : Ip.eqB (Ip.ahead r) s = false) : Calls Tryd.prog 80 #[.pointer (some ⟨b, 0, none⟩), .string s] w fun e w' => e = .returned (.bool false) ∧ w = w' := by
  have Q := ahead_any h
  rw [← eqB_list] at he
  generalize Ip.ahead r = x at *
  clear h
  go_enter Tryd.func80, Tryd.ntmps80
  go_wp2_with fail
  refine Q.mono ?_
  rintro e w' ⟨rfl, rfl⟩
  go_wp2_with fail
  go_ret
  exact ⟨rfl, rfl⟩
set_option maxRecDepth 100000 in
set_option maxHeartbeats 4000000 in
theorem got_yes {w : World} {b q : Nat} {r : Ip.R} (h : Rd w b q r) (s : ByteArray) (he : Ip.eqB (Ip.ahead r) s = true) : Calls Tryd.prog 80 #[.pointer (some ⟨b, 0, none⟩), .string s] w fun e w' => e = .returned (.bool true) ∧ Rd w' b q (Ip.one [s] r).2 ∧ Tn b w w' := by
  have Q := ahead_any h
  have HL := Lib.hid (one_lit h [s] (by simp))
  rw [← eqB_list] at he
  generalize Ip.ahead r = x at *
  clear h
  go_enter Tryd.func80, Tryd.ntmps80
  go_wp2_with fail
  refine Q.mono ?_
  rintro e w' ⟨rfl, rfl⟩
  go_wp2_with fail
  refine HL.out.mono ?_
  rintro e w2 ⟨rfl, hr, hT⟩
  have HR := Lib.hid (And.intro hr hT)
  clear hr hT
  go_wp2_with fail
  go_ret
  exact ⟨rfl, HR.out.1, HR.out.2⟩
end Go.Proofs.YtlmjcnfiolbfpaaDoor
