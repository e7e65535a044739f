/-
  Walks over package token: the number that digits are. Conditions: those in the theorems.
-/
import Derived.Test.YtlmjcnfiolbfpaaDoorTokWord
set_option linter.unusedSimpArgs false
set_option linter.unusedVariables false
namespace Tk
def Token.zero : Token := ⟨0, ⟨#[]⟩, 0, 0⟩
/-- What a token begun with says: its kind, its text, its number. -/
def Res.tokenAt (l : List UInt8) : Res → Token
  | .no _ => Token.zero
  | .tok k n v => ⟨k, bs (l.take n), v, 0⟩
def Res.err : Res → Nat
  | .no e => e
  | .tok .. => 0
theorem val_snoc (l : List UInt8) (c : UInt8) : val (l ++ [c]) = val l * 10 + (c.toNat - 48) := by unfold val; rw [List.foldl_append]; rfl
theorem val_take {l : List UInt8} {k : Nat} (h : k < l.length) : val (l.take (k + 1)) = val (l.take k) * 10 + (l[k].toNat - 48) := by
  rw [List.take_succ_eq_append_getElem h, val_snoc]
theorem val_lt : ∀ (k : Nat) (l : List UInt8), (∀ c ∈ l, digit c = true) → k ≤ l.length → val (l.take k) < 10 ^ k
  | 0, l, _, _ => by simp [val]
  | k + 1, l, hd, hk => by
    rw [val_take (by omega)]
    have ih := val_lt k l hd (by omega)
    have hc := hd _ (List.getElem_mem (show k < l.length by omega))
    unfold digit at hc
    simp only [Bool.and_eq_true, decide_eq_true_eq] at hc
    rw [Nat.pow_succ]
    omega
end Tk
namespace Go.Proofs.YtlmjcnfiolbfpaaDoor
open Go.RowKit

theorem int_eq' {k : IntKind} {a b : Int} (h : a = b) : Value.int k a = Value.int k b := by rw [h]
def tokCells (t : Tk.Token) : List Value := [.int .u8 (t.kind : Nat), .string t.text, .int .i64 t.num, .int .i64 t.pos]
def tokV (t : Tk.Token) : Value := .agg #[.int .u8 (t.kind : Nat), .string t.text, .int .i64 t.num, .int .i64 t.pos]
theorem tok_cells {W : World} {b : Nat} {x0 x1 x2 x3 : Value} {T : TypeId} {fr : Nat × Nat} (h : W.heap[b]? = some (.cells #[x0, x1, x2, x3] T fr)) :
    W.cell? ⟨b, 0, none⟩ = some x0 ∧ W.cell? ⟨b, 1, none⟩ = some x1 ∧ W.cell? ⟨b, 2, none⟩ = some x2 ∧ W.cell? ⟨b, 3, none⟩ = some x3 :=
  ⟨cell_of_row W b 0 _ _ _ h, cell_of_row W b 1 _ _ _ h, cell_of_row W b 2 _ _ _ h, cell_of_row W b 3 _ _ _ h⟩
theorem numbered_res {W : World} {tmps : Array Value} {b : Nat} {x0 x1 x2 x3 x : Value} (h2 : tmps[2]? = some (.pointer (some ⟨b, 0, none⟩))) (h3 : tmps[3]? = some x) (h : W.heap[b]? = some (.cells #[x0, x1, x2, x3] 41 (0, 0))) :
    (results Tryd.f50 tmps).run Tryd.prog W = .ok (.tuple #[.agg #[x0, x1, x2, x3], x]) W := by
  obtain ⟨c0, c1, c2, c3⟩ := tok_cells h
  simp [results, Tryd.results50, h2, h3, go_sem, c0, c1, c2, c3]
set_option maxHeartbeats 2000000 in
theorem numbered_any (s : ByteArray) (w : World) (hd : ∀ c ∈ s.data.toList, Tk.digit c = true) (h0 : 0 < s.size) (hm : s.size ≤ maxLen) :
    Calls Tryd.prog 50 #[.string s] w fun e w' => e = .returned (.tuple #[tokV ((Tk.numbered s.data.toList).tokenAt s.data.toList), .int .i64 ((Tk.numbered s.data.toList).err : Nat)]) ∧ Below w.heap.size w w' := by
  have hl := list_len s
  unfold Tk.numbered
  rw [hl]
  by_cases h9 : 9 < s.size
  · rw [if_pos h9]
    have i9 : (9 : Int) < (s.size : Int) := by omega
    clear hl hd
    go_enter Tryd.func50, Tryd.ntmps50
    go_wp2_with fail
    refine bodyPost_ret (numbered_res rfl rfl (heap_alloc_new _ _)) rfl ?_
    exact ⟨rfl, by go_grown⟩
  · rw [if_neg h9]
    have i9 : ¬ (9 : Int) < (s.size : Int) := by omega
    have hh : (s.data.toList.head?.getD 0).toNat = s[0].toNat := by
      rw [List.head?_eq_getElem?, List.getElem?_eq_getElem (by omega)]; rfl
    rw [hh]
    by_cases h1 : 1 < s.size ∧ s[0].toNat = 48
    · rw [if_pos h1]
      have i1 : (1 : Int) < (s.size : Int) := by omega
      have i2 : (0 : Int) < (s.size : Int) := by omega
      have q : ((s[0].toNat : Int) == 48) = true := beq_int (b := 48) (decide_eq_true h1.2)
      clear hl hd hh h1 h9
      go_enter Tryd.func50, Tryd.ntmps50
      go_wp2_with fail
      refine bodyPost_ret (numbered_res rfl rfl (heap_alloc_new _ _)) rfl ?_
      exact ⟨rfl, by go_grown⟩
    · rw [if_neg h1]
      have hv0 := fun k hk => Tk.val_lt k s.data.toList hd hk
      have HE : Hid (Tk.bs (s.data.toList.take s.size) = s) := Lib.hid (by rw [← hl, List.take_length]; rfl)
      have HV : Hid (∀ k (hk : k < s.size), (48 ≤ s[k].toNat ∧ s[k].toNat ≤ 57) ∧ Tk.val (s.data.toList.take k) ≤ 999999999 ∧ Tk.val (s.data.toList.take (k + 1)) = Tk.val (s.data.toList.take k) * 10 + (s[k].toNat - 48)) := Lib.hid fun k hk => by
        have hc := hd _ (List.getElem_mem (show k < s.data.toList.length by omega))
        rw [list_at s k hk] at hc
        unfold Tk.digit at hc
        simp only [Bool.and_eq_true, decide_eq_true_eq] at hc
        have h2 := hv0 k (by omega)
        have h3 : 10 ^ k ≤ 10 ^ 9 := Nat.pow_le_pow_right (by omega) (by omega)
        exact ⟨hc, by omega, Tk.val_take (by omega)⟩
      have HT : Hid (s.data.toList.take s.size = s.data.toList) := Lib.hid (by rw [← hl, List.take_length])
      obtain ⟨L, hL⟩ : ∃ L, s.data.toList = L := ⟨_, rfl⟩
      have i2 : (0 : Int) < (s.size : Int) := by omega
      have hq : (1 < s.size → ((s[0].toNat : Int) == 48) = false) := fun h => beq_int (b := 48) (decide_eq_false fun e => h1 ⟨h, e⟩)
      have hn : s.size ≤ 9 := by omega
      rw [hL] at HE HV HT ⊢
      have HQ := Lib.hid hq
      clear hv0 hd hL hl hh h1 h9 hq
      by_cases h1 : 1 < s.size
      · have i1 : (1 : Int) < (s.size : Int) := by omega
        have q := HQ.out h1
        clear HQ
        go_enter Tryd.func50, Tryd.ntmps50
        go_wp2_with fail
        go_loopw [4, 5, 21] (fun nv iv cv wr => ∃ k : Nat, k ≤ s.size ∧ cv = .int .i64 (k : Nat) ∧ nv = .int .i64 (Tk.val (L.take k) : Nat) ∧ wr = w.alloc (.cells #[.int .u8 0, .string ⟨#[]⟩, .int .i64 0, .int .i64 0] 41)) (fun _ _ cv _ => s.size - (intOf cv).toNat)
        case atStart => exact ⟨0, Nat.zero_le _, rfl, rfl, rfl⟩
        case round =>
          obtain ⟨k, hk, rfl, rfl, rfl⟩ := hrel
          by_cases hks : k < s.size
          · have j1 : (k : Int) < (s.size : Int) := by omega
            have j2 : (0 : Int) ≤ (k : Int) := by omega
            obtain ⟨⟨d1, d2⟩, hv, hvs⟩ := HV.out k hks
            generalize Tk.val (L.take k) = a at *
            have a1 : (a : Int) ≤ 999999999 := by omega
            have e1 : (48 : Int) ≤ (s[k].toNat : Int) := by omega
            have e2 : (s[k].toNat : Int) ≤ 57 := by omega
            have HN : Hid ((a : Int) * 10 + ((s[k].toNat : Int) - 48) = (Tk.val (L.take (k + 1)) : Nat)) := Lib.hid (by omega)
            clear hvs
            go_wp2_with fail
            go_roundw
            case rel => exact ⟨k + 1, by omega, by go_num, int_eq' HN.out, by first | trivial | rfl⟩
            case measure => simp [intOf]; omega
          · have hkk : k = s.size := by omega
            subst hkk
            rw [HT.out]
            have j1 : ¬ (s.size : Int) < (s.size : Int) := by omega
            go_wp2_with fail
            refine bodyPost_ret (numbered_res rfl rfl (heap_alloc_new _ _)) rfl ?_
            refine ⟨?_, by go_grown⟩
            unfold Tk.Res.tokenAt Tk.Res.err tokV
            simp only
            rw [HE.out]
            rfl
      · have i1 : ¬ (1 : Int) < (s.size : Int) := by omega
        clear HQ
        go_enter Tryd.func50, Tryd.ntmps50
        go_wp2_with fail
        go_loopw [4, 5, 21] (fun nv iv cv wr => ∃ k : Nat, k ≤ s.size ∧ cv = .int .i64 (k : Nat) ∧ nv = .int .i64 (Tk.val (L.take k) : Nat) ∧ wr = w.alloc (.cells #[.int .u8 0, .string ⟨#[]⟩, .int .i64 0, .int .i64 0] 41)) (fun _ _ cv _ => s.size - (intOf cv).toNat)
        case atStart => exact ⟨0, Nat.zero_le _, rfl, rfl, rfl⟩
        case round =>
          obtain ⟨k, hk, rfl, rfl, rfl⟩ := hrel
          by_cases hks : k < s.size
          · have j1 : (k : Int) < (s.size : Int) := by omega
            have j2 : (0 : Int) ≤ (k : Int) := by omega
            obtain ⟨⟨d1, d2⟩, hv, hvs⟩ := HV.out k hks
            generalize Tk.val (L.take k) = a at *
            have a1 : (a : Int) ≤ 999999999 := by omega
            have e1 : (48 : Int) ≤ (s[k].toNat : Int) := by omega
            have e2 : (s[k].toNat : Int) ≤ 57 := by omega
            have HN : Hid ((a : Int) * 10 + ((s[k].toNat : Int) - 48) = (Tk.val (L.take (k + 1)) : Nat)) := Lib.hid (by omega)
            clear hvs
            go_wp2_with fail
            go_roundw
            case rel => exact ⟨k + 1, by omega, by go_num, int_eq' HN.out, by first | trivial | rfl⟩
            case measure => simp [intOf]; omega
          · have hkk : k = s.size := by omega
            subst hkk
            rw [HT.out]
            have j1 : ¬ (s.size : Int) < (s.size : Int) := by omega
            go_wp2_with fail
            refine bodyPost_ret (numbered_res rfl rfl (heap_alloc_new _ _)) rfl ?_
            refine ⟨?_, by go_grown⟩
            unfold Tk.Res.tokenAt Tk.Res.err tokV
            simp only
            rw [HE.out]
            rfl
end Go.Proofs.YtlmjcnfiolbfpaaDoor
