/-
  Walks over the document's answer for tokens: One. Conditions: those in the theorems.
-/
import Derived.Test.YtnkdhmoocomjfaaGreatDoorBTokOne
import Derived.RegionTactic
import Derived.ChangeAlike
import Derived.BigRegion
set_option linter.unusedSimpArgs false
set_option linter.unusedVariables false
namespace Go.Proofs.YtnkdhmoocomjfaaGreatDoor
open Go.RowKit

theorem digit_letter {c : UInt8} (h : Tk.digit c = true) : Tk.letter c = false := by
  unfold Tk.digit at h
  unfold Tk.letter
  simp only [Bool.and_eq_true, decide_eq_true_eq] at h
  rw [← Bool.not_eq_true]
  simp
  omega
set_option maxRecDepth 100000 in
set_option maxHeartbeats 4000000 in
theorem One_num (s : ByteArray) (a : Nat) (w : World) (ha : a < s.size) (hm : s.size ≤ maxLen) (hc : Tk.digit s[a] = true) :
    Calls Tryz.prog 143 #[.string s, .int .i64 (a : Nat)] w (Ones (s.data.toList.drop a) a w) := by
  have hl := list_len s
  have hd0 := drop_at ha
  have hlt : 0 < (s.data.toList.drop a).length := by rw [List.length_drop]; omega
  have hw0 : (s.data.toList.drop a)[0] = s[a] := by simp only [hd0, List.getElem_cons_zero]
  have hwz := Tk.word_none hlt (by rw [hw0]; exact digit_letter hc)
  have hp : 1 ≤ Tk.number (s.data.toList.drop a) := (Tk.run_step Tk.digit _ 0 hlt (Nat.zero_le _)).1 (by rw [hw0]; exact hc)
  have hle := Tk.number_le (s.data.toList.drop a)
  have hst : ∀ j, a + 1 ≤ j → ∀ (hj : j < s.size), j ≤ a + Tk.number (s.data.toList.drop a) → (Tk.digit s[j] = true → j + 1 ≤ a + Tk.number (s.data.toList.drop a)) ∧ (Tk.digit s[j] = false → a + Tk.number (s.data.toList.drop a) = j) := fun j h1 hj h2 => by
    have := Tk.run_step Tk.digit (s.data.toList.drop a) (j - a) (by rw [List.length_drop]; omega) (by unfold Tk.number at h2; omega)
    have he : (s.data.toList.drop a)[j - a]'(by rw [List.length_drop]; omega) = s[j] := by rw [List.getElem_drop, ← list_at s j hj]; congr 1; omega
    rw [he] at this
    unfold Tk.number
    exact ⟨fun e => by have := this.1 e; omega, fun e => by have := this.2 e; omega⟩
  have hlm : ((s.data.toList.drop a).take (Tk.number (s.data.toList.drop a))).length = Tk.number (s.data.toList.drop a) := by rw [List.length_take]; omega
  have hh : (((s.data.toList.drop a).take (Tk.number (s.data.toList.drop a))).head?.getD 0).toNat = s[a].toNat := by
    rw [List.head?_eq_getElem?, List.getElem?_take_of_lt (by omega), List.getElem?_eq_getElem hlt, hw0]; rfl
  have hf : Tk.first (s.data.toList.drop a) = Tk.numbered ((s.data.toList.drop a).take (Tk.number (s.data.toList.drop a))) := by unfold Tk.first; rw [hwz, if_neg (by omega), if_pos (by omega)]
  unfold Tk.numbered at hf
  rw [hlm, hh] at hf
  have hall := Tk.run_all Tk.digit (s.data.toList.drop a)
  have hv0 := fun k hk => Tk.val_lt k ((s.data.toList.drop a).take (Tk.number (s.data.toList.drop a))) hall hk
  have HV : Hid (∀ q, a ≤ q → ∀ (hq : q < s.size), q < a + Tk.number (s.data.toList.drop a) → Tk.number (s.data.toList.drop a) ≤ 9 → (48 ≤ s[q].toNat ∧ s[q].toNat ≤ 57) ∧ Tk.val ((s.data.toList.drop a).take (q - a)) ≤ 999999999 ∧
      Tk.val ((s.data.toList.drop a).take (q + 1 - a)) = Tk.val ((s.data.toList.drop a).take (q - a)) * 10 + (s[q].toNat - 48)) := Lib.hid fun q h1 hq h2 h9 => by
    have hql : q - a < (s.data.toList.drop a).length := by rw [List.length_drop]; omega
    have he : (s.data.toList.drop a)[q - a] = s[q] := by rw [List.getElem_drop, ← list_at s q hq]; congr 1; omega
    have hdq := hall _ (List.mem_iff_getElem.2 ⟨q - a, by rw [List.length_take]; unfold Tk.number at h2; omega, by rw [List.getElem_take]⟩)
    rw [he] at hdq
    unfold Tk.digit at hdq
    simp only [Bool.and_eq_true, decide_eq_true_eq] at hdq
    have h3 := hv0 (q - a) (by rw [hlm]; omega)
    rw [List.take_take, Nat.min_eq_left (by omega)] at h3
    have h4 : 10 ^ (q - a) ≤ 10 ^ 9 := Nat.pow_le_pow_right (by omega) (by omega)
    have h5 := Tk.val_take hql
    rw [he, show q - a + 1 = q + 1 - a by omega] at h5
    exact ⟨hdq, by omega, h5⟩
  rw [List.length_drop, hl] at hle
  unfold Ones
  rw [hf]
  have HX := Lib.hid (ext_mid s a (Tk.number (s.data.toList.drop a)))
  clear hd0 hw0 hlt hall hv0 hlm hh hf hwz
  generalize hD : s.data.toList.drop a = D at *
  generalize Tk.number D = m at *
  have qa := fun W => rletter_any s[a] W
  have qb := fun W => rdigit_any s[a] W
  rw [digit_letter hc] at qa
  rw [hc] at qb
  have j0 : (a : Int) < (s.size : Int) := by omega
  have j00 : (0 : Int) ≤ (a : Int) := by omega
  have hm2 : s.size ≤ 9223372036854775807 := hm
  have HST := Lib.hid hst
  have jm : (a : Int) + (m : Int) ≤ (s.size : Int) := by omega
  have jm2 : (0 : Int) ≤ (m : Int) := by omega
  have jm3 : (a : Int) ≤ (a : Int) + (m : Int) := by omega
  clear hl hst hD hc hm
  by_cases h9 : 9 < m
  · rw [if_pos h9]
    have i9 : (9 : Int) < (m : Int) := by omega
    go_enter Tryz.func143, Tryz.ntmps143
    go_wp2_with (first | (go_at_call 136; refine (qa _).mono ?_; rintro e w8 ⟨rfl, hw8⟩; obtain rfl := hw8) | (go_at_call 138; refine (qb _).mono ?_; rintro e w8 ⟨rfl, hw8⟩; obtain rfl := hw8) | fail)
    go_loopw [8] (fun jv wr => ∃ j : Nat, a + 1 ≤ j ∧ j ≤ a + m ∧ jv = .int .i64 (j : Nat) ∧ wr = (w.alloc (.cells #[.int .u8 0, .string ⟨#[]⟩, .int .i64 0, .int .i64 0] 190)).alloc (.cells #[.int .u8 0, .string ⟨#[]⟩, .int .i64 0, .int .i64 (a : Nat)] 190)) (fun jv _ => s.size - (intOf jv).toNat)
    case atStart => exact ⟨a + 1, by omega, by omega, by go_num, by first | trivial | rfl⟩
    case round =>
      obtain ⟨j, h1, hj, rfl, rfl⟩ := hrel
      by_cases hjs : j < s.size
      · have l1 : (j : Int) < (s.size : Int) := by omega
        have l2 : (0 : Int) ≤ (j : Int) := by omega
        obtain ⟨x1, x2⟩ := HST.out j h1 hjs hj
        have q2 := fun W => rdigit_any s[j] W
        clear qa qb
        generalize Tk.digit s[j] = v2 at *
        cases v2 with
        | true =>
          have HY := Lib.hid (x1 rfl)
          clear x1 x2
          go_wp2_with (first | (go_at_call 138; refine (q2 _).mono ?_; rintro e w8 ⟨rfl, hw8⟩; obtain rfl := hw8) | fail)
          go_roundw
          case rel => exact ⟨j + 1, by omega, HY.out, by go_num, by first | trivial | rfl⟩
          case measure => simp [intOf]; omega
        | false =>
          have HX2 := Lib.hid (x2 rfl)
          have e1 : (j : Int) - (a : Int) = (m : Int) := by have := HX2.out; omega
          have e2 : (a : Int) ≤ (j : Int) := by omega
          have e3 : (j : Int) ≤ (s.size : Int) := by omega
          clear x1 x2
          go_wp2_with (first | (go_at_call 138; refine (q2 _).mono ?_; rintro e w8 ⟨rfl, hw8⟩; obtain rfl := hw8) | fail)
          refine bodyPost_ret (one_res rfl rfl ((heap_two _ _ _).trans (heap_alloc_new _ _))) rfl ?_
          exact ones_no ⟨2, s.extract a j, 0, (a : Nat)⟩ (by go_grown)
      · have HX2 : Hid (a + m = j) := Lib.hid (by omega)
        have l1 : ¬ (j : Int) < (s.size : Int) := by omega
        have e1 : (j : Int) - (a : Int) = (m : Int) := by omega
        have e2 : (a : Int) ≤ (j : Int) := by omega
        have e3 : (j : Int) ≤ (s.size : Int) := by omega
        go_wp2_with (first | (go_at_call 138; refine (q2 _).mono ?_; rintro e w8 ⟨rfl, hw8⟩; obtain rfl := hw8) | fail)
        refine bodyPost_ret (one_res rfl rfl ((heap_two _ _ _).trans (heap_alloc_new _ _))) rfl ?_
        exact ones_no ⟨2, s.extract a j, 0, (a : Nat)⟩ (by go_grown)
  · rw [if_neg h9]
    have i9 : ¬ (9 : Int) < (m : Int) := by omega
    by_cases h0 : 1 < m ∧ s[a].toNat = 48
    · rw [if_pos h0]
      have i1 : (1 : Int) < (m : Int) := by omega
      have i2 : ((s[a].toNat : Int) == 48) = true := beq_int (b := 48) (decide_eq_true h0.2)
      clear h0
      go_enter Tryz.func143, Tryz.ntmps143
      go_wp2_with (first | (go_at_call 136; refine (qa _).mono ?_; rintro e w8 ⟨rfl, hw8⟩; obtain rfl := hw8) | (go_at_call 138; refine (qb _).mono ?_; rintro e w8 ⟨rfl, hw8⟩; obtain rfl := hw8) | fail)
      go_loopw [8] (fun jv wr => ∃ j : Nat, a + 1 ≤ j ∧ j ≤ a + m ∧ jv = .int .i64 (j : Nat) ∧ wr = (w.alloc (.cells #[.int .u8 0, .string ⟨#[]⟩, .int .i64 0, .int .i64 0] 190)).alloc (.cells #[.int .u8 0, .string ⟨#[]⟩, .int .i64 0, .int .i64 (a : Nat)] 190)) (fun jv _ => s.size - (intOf jv).toNat)
      case atStart => exact ⟨a + 1, by omega, by omega, by go_num, by first | trivial | rfl⟩
      case round =>
        obtain ⟨j, h1, hj, rfl, rfl⟩ := hrel
        by_cases hjs : j < s.size
        · have l1 : (j : Int) < (s.size : Int) := by omega
          have l2 : (0 : Int) ≤ (j : Int) := by omega
          obtain ⟨x1, x2⟩ := HST.out j h1 hjs hj
          have q2 := fun W => rdigit_any s[j] W
          clear qa qb
          generalize Tk.digit s[j] = v2 at *
          cases v2 with
          | true =>
            have HY := Lib.hid (x1 rfl)
            clear x1 x2
            go_wp2_with (first | (go_at_call 138; refine (q2 _).mono ?_; rintro e w8 ⟨rfl, hw8⟩; obtain rfl := hw8) | fail)
            go_roundw
            case rel => exact ⟨j + 1, by omega, HY.out, by go_num, by first | trivial | rfl⟩
            case measure => simp [intOf]; omega
          | false =>
            have HX2 := Lib.hid (x2 rfl)
            have e1 : (j : Int) - (a : Int) = (m : Int) := by have := HX2.out; omega
            have e2 : (a : Int) ≤ (j : Int) := by omega
            have e3 : (j : Int) ≤ (s.size : Int) := by omega
            clear x1 x2
            go_wp2_with (first | (go_at_call 138; refine (q2 _).mono ?_; rintro e w8 ⟨rfl, hw8⟩; obtain rfl := hw8) | fail)
            refine bodyPost_ret (one_res rfl rfl ((heap_two _ _ _).trans (heap_alloc_new _ _))) rfl ?_
            exact ones_no ⟨2, s.extract a j, 0, (a : Nat)⟩ (by go_grown)
        · have HX2 : Hid (a + m = j) := Lib.hid (by omega)
          have l1 : ¬ (j : Int) < (s.size : Int) := by omega
          have e1 : (j : Int) - (a : Int) = (m : Int) := by omega
          have e2 : (a : Int) ≤ (j : Int) := by omega
          have e3 : (j : Int) ≤ (s.size : Int) := by omega
          go_wp2_with (first | (go_at_call 138; refine (q2 _).mono ?_; rintro e w8 ⟨rfl, hw8⟩; obtain rfl := hw8) | fail)
          refine bodyPost_ret (one_res rfl rfl ((heap_two _ _ _).trans (heap_alloc_new _ _))) rfl ?_
          exact ones_no ⟨2, s.extract a j, 0, (a : Nat)⟩ (by go_grown)
    · rw [if_neg h0]
      by_cases h48 : s[a].toNat = 48
      · have i2 : ((s[a].toNat : Int) == 48) = true := beq_int (b := 48) (decide_eq_true h48)
        have i1 : ¬ (1 : Int) < (m : Int) := by omega
        clear h48 h0
        go_enter Tryz.func143, Tryz.ntmps143
        go_wp2_with (first | (go_at_call 136; refine (qa _).mono ?_; rintro e w8 ⟨rfl, hw8⟩; obtain rfl := hw8) | (go_at_call 138; refine (qb _).mono ?_; rintro e w8 ⟨rfl, hw8⟩; obtain rfl := hw8) | fail)
        go_loopw [8] (fun jv wr => ∃ j : Nat, a + 1 ≤ j ∧ j ≤ a + m ∧ jv = .int .i64 (j : Nat) ∧ wr = (w.alloc (.cells #[.int .u8 0, .string ⟨#[]⟩, .int .i64 0, .int .i64 0] 190)).alloc (.cells #[.int .u8 0, .string ⟨#[]⟩, .int .i64 0, .int .i64 (a : Nat)] 190)) (fun jv _ => s.size - (intOf jv).toNat)
        case atStart => exact ⟨a + 1, by omega, by omega, by go_num, by first | trivial | rfl⟩
        case round =>
          obtain ⟨j, h1, hj, rfl, rfl⟩ := hrel
          by_cases hjs : j < s.size
          · have l1 : (j : Int) < (s.size : Int) := by omega
            have l2 : (0 : Int) ≤ (j : Int) := by omega
            obtain ⟨x1, x2⟩ := HST.out j h1 hjs hj
            have q2 := fun W => rdigit_any s[j] W
            clear qa qb
            generalize Tk.digit s[j] = v2 at *
            cases v2 with
            | true =>
              have HY := Lib.hid (x1 rfl)
              clear x1 x2
              go_wp2_with (first | (go_at_call 138; refine (q2 _).mono ?_; rintro e w8 ⟨rfl, hw8⟩; obtain rfl := hw8) | fail)
              go_roundw
              case rel => exact ⟨j + 1, by omega, HY.out, by go_num, by first | trivial | rfl⟩
              case measure => simp [intOf]; omega
            | false =>
              have HX2 := Lib.hid (x2 rfl)
              have e1 : (j : Int) - (a : Int) = (m : Int) := by have := HX2.out; omega
              have e2 : (a : Int) ≤ (j : Int) := by omega
              have e3 : (j : Int) ≤ (s.size : Int) := by omega
              clear x1 x2
              go_wp2_with (first | (go_at_call 138; refine (q2 _).mono ?_; rintro e w8 ⟨rfl, hw8⟩; obtain rfl := hw8) | fail)
              go_loopw [9] (fun iv wr => ∃ q : Nat, a ≤ q ∧ q ≤ a + m ∧ iv = .int .i64 (q : Nat) ∧ Hid (wr.heap[w.heap.size + 1]? = some (.cells #[.int .u8 2, .string (s.extract a j), .int .i64 (Tk.val (D.take (q - a)) : Nat), .int .i64 (a : Nat)] 190 (0, 0)) ∧ wr.heap[w.heap.size]? = some (.cells #[.int .u8 0, .string ⟨#[]⟩, .int .i64 0, .int .i64 0] 190 (0, 0)) ∧ Below w.heap.size w wr)) (fun iv _ => a + m - (intOf iv).toNat)
              case atStart =>
                refine ⟨a, Nat.le_refl _, by omega, rfl, Lib.hid ⟨?_, (heap_two _ _ _).trans (heap_alloc_new _ _), by go_grown⟩⟩
                have := heap_alloc_new (w.alloc (.cells #[.int .u8 0, .string ⟨#[]⟩, .int .i64 0, .int .i64 0] 190)) (.cells #[.int .u8 2, .string (s.extract a j), .int .i64 0, .int .i64 (a : Nat)] 190)
                rw [World.size_alloc] at this
                rw [Nat.sub_self, List.take_zero]
                exact this
              case round =>
                obtain ⟨q, hq1, hq2, rfl, H⟩ := hrel
                obtain ⟨c0, c1, c2, c3⟩ := tok_cells H.out.1
                have f2 := frozen_of_row _ _ 2 _ _ H.out.1
                by_cases hqj : q < a + m
                · have k1 : (q : Int) < (j : Int) := by have := HX2.out; omega
                  have k2 : (0 : Int) ≤ (q : Int) := by omega
                  have k3 : q < s.size := by omega
                  have k4 : (q : Int) < (s.size : Int) := by omega
                  obtain ⟨⟨d1, d2⟩, hv, hvs⟩ := HV.out q hq1 k3 hqj (by omega)
                  generalize Tk.val (D.take (q - a)) = x at *
                  have x1 : (x : Int) ≤ 999999999 := by omega
                  have x2 : (0 : Int) ≤ (x : Int) := by omega
                  have y1 : (48 : Int) ≤ (s[q].toNat : Int) := by omega
                  have y2 : (s[q].toNat : Int) ≤ 57 := by omega
                  have HNX : Hid (10 * (x : Int) + ((s[q].toNat : Int) - 48) = (Tk.val (D.take (q + 1 - a)) : Nat)) := Lib.hid (by omega)
                  clear hvs
                  go_wp2_with fail
                  go_region
                  all_goals
                    go_wp2_with fail
                    go_roundw
                    case rel => exact ⟨q + 1, by omega, by omega, by go_num, Lib.hid ⟨by rw [← HNX.out]; exact tk_set H.out.1 _, (Below.heap_setCell _ _ _ _ (Nat.ne_of_lt (Nat.lt_succ_self _))).trans H.out.2.1, (H.out.2.2.setCell (Nat.le_succ _) _).drew⟩⟩
                    case measure => simp [intOf]; omega
                · have k1 : ¬ (q : Int) < (j : Int) := by have := HX2.out; omega
                  have hqe : q = a + m := by omega
                  have HQ : Hid (q - a = m) := Lib.hid (by omega)
                  clear hqe
                  obtain ⟨d0, d1, d2, d3⟩ := tok_cells H.out.2.1
                  have g0 := frozen_of_row _ _ 0 _ _ H.out.2.1
                  have g1 := frozen_of_row _ _ 1 _ _ H.out.2.1
                  have g2 := frozen_of_row _ _ 2 _ _ H.out.2.1
                  have g3 := frozen_of_row _ _ 3 _ _ H.out.2.1
                  go_wp2_with fail
                  refine bodyPost_ret (one_res rfl rfl (set_four _ _ _ _ H.out.2.1)) rfl ?_
                  rw [HQ.out]
                  exact ones_tok (s.extract a j) (by rw [← HX2.out, HX.out]) (below_four H.out.2.2 (Nat.le_refl _))
          · have HX2 : Hid (a + m = j) := Lib.hid (by omega)
            have l1 : ¬ (j : Int) < (s.size : Int) := by omega
            have e1 : (j : Int) - (a : Int) = (m : Int) := by omega
            have e2 : (a : Int) ≤ (j : Int) := by omega
            have e3 : (j : Int) ≤ (s.size : Int) := by omega
            go_wp2_with (first | (go_at_call 138; refine (q2 _).mono ?_; rintro e w8 ⟨rfl, hw8⟩; obtain rfl := hw8) | fail)
            go_loopw [9] (fun iv wr => ∃ q : Nat, a ≤ q ∧ q ≤ a + m ∧ iv = .int .i64 (q : Nat) ∧ Hid (wr.heap[w.heap.size + 1]? = some (.cells #[.int .u8 2, .string (s.extract a j), .int .i64 (Tk.val (D.take (q - a)) : Nat), .int .i64 (a : Nat)] 190 (0, 0)) ∧ wr.heap[w.heap.size]? = some (.cells #[.int .u8 0, .string ⟨#[]⟩, .int .i64 0, .int .i64 0] 190 (0, 0)) ∧ Below w.heap.size w wr)) (fun iv _ => a + m - (intOf iv).toNat)
            case atStart =>
              refine ⟨a, Nat.le_refl _, by omega, rfl, Lib.hid ⟨?_, (heap_two _ _ _).trans (heap_alloc_new _ _), by go_grown⟩⟩
              have := heap_alloc_new (w.alloc (.cells #[.int .u8 0, .string ⟨#[]⟩, .int .i64 0, .int .i64 0] 190)) (.cells #[.int .u8 2, .string (s.extract a j), .int .i64 0, .int .i64 (a : Nat)] 190)
              rw [World.size_alloc] at this
              rw [Nat.sub_self, List.take_zero]
              exact this
            case round =>
              obtain ⟨q, hq1, hq2, rfl, H⟩ := hrel
              obtain ⟨c0, c1, c2, c3⟩ := tok_cells H.out.1
              have f2 := frozen_of_row _ _ 2 _ _ H.out.1
              by_cases hqj : q < a + m
              · have k1 : (q : Int) < (j : Int) := by have := HX2.out; omega
                have k2 : (0 : Int) ≤ (q : Int) := by omega
                have k3 : q < s.size := by omega
                have k4 : (q : Int) < (s.size : Int) := by omega
                obtain ⟨⟨d1, d2⟩, hv, hvs⟩ := HV.out q hq1 k3 hqj (by omega)
                generalize Tk.val (D.take (q - a)) = x at *
                have x1 : (x : Int) ≤ 999999999 := by omega
                have x2 : (0 : Int) ≤ (x : Int) := by omega
                have y1 : (48 : Int) ≤ (s[q].toNat : Int) := by omega
                have y2 : (s[q].toNat : Int) ≤ 57 := by omega
                have HNX : Hid (10 * (x : Int) + ((s[q].toNat : Int) - 48) = (Tk.val (D.take (q + 1 - a)) : Nat)) := Lib.hid (by omega)
                clear hvs
                go_wp2_with fail
                go_region
                all_goals
                  go_wp2_with fail
                  go_roundw
                  case rel => exact ⟨q + 1, by omega, by omega, by go_num, Lib.hid ⟨by rw [← HNX.out]; exact tk_set H.out.1 _, (Below.heap_setCell _ _ _ _ (Nat.ne_of_lt (Nat.lt_succ_self _))).trans H.out.2.1, (H.out.2.2.setCell (Nat.le_succ _) _).drew⟩⟩
                  case measure => simp [intOf]; omega
              · have k1 : ¬ (q : Int) < (j : Int) := by have := HX2.out; omega
                have hqe : q = a + m := by omega
                have HQ : Hid (q - a = m) := Lib.hid (by omega)
                clear hqe
                obtain ⟨d0, d1, d2, d3⟩ := tok_cells H.out.2.1
                have g0 := frozen_of_row _ _ 0 _ _ H.out.2.1
                have g1 := frozen_of_row _ _ 1 _ _ H.out.2.1
                have g2 := frozen_of_row _ _ 2 _ _ H.out.2.1
                have g3 := frozen_of_row _ _ 3 _ _ H.out.2.1
                go_wp2_with fail
                refine bodyPost_ret (one_res rfl rfl (set_four _ _ _ _ H.out.2.1)) rfl ?_
                rw [HQ.out]
                exact ones_tok (s.extract a j) (by rw [← HX2.out, HX.out]) (below_four H.out.2.2 (Nat.le_refl _))
      · have i2 : ((s[a].toNat : Int) == 48) = false := beq_no (b := 48) h48
        clear h48 h0
        go_enter Tryz.func143, Tryz.ntmps143
        go_wp2_with (first | (go_at_call 136; refine (qa _).mono ?_; rintro e w8 ⟨rfl, hw8⟩; obtain rfl := hw8) | (go_at_call 138; refine (qb _).mono ?_; rintro e w8 ⟨rfl, hw8⟩; obtain rfl := hw8) | fail)
        go_loopw [8] (fun jv wr => ∃ j : Nat, a + 1 ≤ j ∧ j ≤ a + m ∧ jv = .int .i64 (j : Nat) ∧ wr = (w.alloc (.cells #[.int .u8 0, .string ⟨#[]⟩, .int .i64 0, .int .i64 0] 190)).alloc (.cells #[.int .u8 0, .string ⟨#[]⟩, .int .i64 0, .int .i64 (a : Nat)] 190)) (fun jv _ => s.size - (intOf jv).toNat)
        case atStart => exact ⟨a + 1, by omega, by omega, by go_num, by first | trivial | rfl⟩
        case round =>
          obtain ⟨j, h1, hj, rfl, rfl⟩ := hrel
          by_cases hjs : j < s.size
          · have l1 : (j : Int) < (s.size : Int) := by omega
            have l2 : (0 : Int) ≤ (j : Int) := by omega
            obtain ⟨x1, x2⟩ := HST.out j h1 hjs hj
            have q2 := fun W => rdigit_any s[j] W
            clear qa qb
            generalize Tk.digit s[j] = v2 at *
            cases v2 with
            | true =>
              have HY := Lib.hid (x1 rfl)
              clear x1 x2
              go_wp2_with (first | (go_at_call 138; refine (q2 _).mono ?_; rintro e w8 ⟨rfl, hw8⟩; obtain rfl := hw8) | fail)
              go_roundw
              case rel => exact ⟨j + 1, by omega, HY.out, by go_num, by first | trivial | rfl⟩
              case measure => simp [intOf]; omega
            | false =>
              have HX2 := Lib.hid (x2 rfl)
              have e1 : (j : Int) - (a : Int) = (m : Int) := by have := HX2.out; omega
              have e2 : (a : Int) ≤ (j : Int) := by omega
              have e3 : (j : Int) ≤ (s.size : Int) := by omega
              clear x1 x2
              go_wp2_with (first | (go_at_call 138; refine (q2 _).mono ?_; rintro e w8 ⟨rfl, hw8⟩; obtain rfl := hw8) | fail)
              go_loopw [9] (fun iv wr => ∃ q : Nat, a ≤ q ∧ q ≤ a + m ∧ iv = .int .i64 (q : Nat) ∧ Hid (wr.heap[w.heap.size + 1]? = some (.cells #[.int .u8 2, .string (s.extract a j), .int .i64 (Tk.val (D.take (q - a)) : Nat), .int .i64 (a : Nat)] 190 (0, 0)) ∧ wr.heap[w.heap.size]? = some (.cells #[.int .u8 0, .string ⟨#[]⟩, .int .i64 0, .int .i64 0] 190 (0, 0)) ∧ Below w.heap.size w wr)) (fun iv _ => a + m - (intOf iv).toNat)
              case atStart =>
                refine ⟨a, Nat.le_refl _, by omega, rfl, Lib.hid ⟨?_, (heap_two _ _ _).trans (heap_alloc_new _ _), by go_grown⟩⟩
                have := heap_alloc_new (w.alloc (.cells #[.int .u8 0, .string ⟨#[]⟩, .int .i64 0, .int .i64 0] 190)) (.cells #[.int .u8 2, .string (s.extract a j), .int .i64 0, .int .i64 (a : Nat)] 190)
                rw [World.size_alloc] at this
                rw [Nat.sub_self, List.take_zero]
                exact this
              case round =>
                obtain ⟨q, hq1, hq2, rfl, H⟩ := hrel
                obtain ⟨c0, c1, c2, c3⟩ := tok_cells H.out.1
                have f2 := frozen_of_row _ _ 2 _ _ H.out.1
                by_cases hqj : q < a + m
                · have k1 : (q : Int) < (j : Int) := by have := HX2.out; omega
                  have k2 : (0 : Int) ≤ (q : Int) := by omega
                  have k3 : q < s.size := by omega
                  have k4 : (q : Int) < (s.size : Int) := by omega
                  obtain ⟨⟨d1, d2⟩, hv, hvs⟩ := HV.out q hq1 k3 hqj (by omega)
                  generalize Tk.val (D.take (q - a)) = x at *
                  have x1 : (x : Int) ≤ 999999999 := by omega
                  have x2 : (0 : Int) ≤ (x : Int) := by omega
                  have y1 : (48 : Int) ≤ (s[q].toNat : Int) := by omega
                  have y2 : (s[q].toNat : Int) ≤ 57 := by omega
                  have HNX : Hid (10 * (x : Int) + ((s[q].toNat : Int) - 48) = (Tk.val (D.take (q + 1 - a)) : Nat)) := Lib.hid (by omega)
                  clear hvs
                  go_wp2_with fail
                  go_region
                  all_goals
                    go_wp2_with fail
                    go_roundw
                    case rel => exact ⟨q + 1, by omega, by omega, by go_num, Lib.hid ⟨by rw [← HNX.out]; exact tk_set H.out.1 _, (Below.heap_setCell _ _ _ _ (Nat.ne_of_lt (Nat.lt_succ_self _))).trans H.out.2.1, (H.out.2.2.setCell (Nat.le_succ _) _).drew⟩⟩
                    case measure => simp [intOf]; omega
                · have k1 : ¬ (q : Int) < (j : Int) := by have := HX2.out; omega
                  have hqe : q = a + m := by omega
                  have HQ : Hid (q - a = m) := Lib.hid (by omega)
                  clear hqe
                  obtain ⟨d0, d1, d2, d3⟩ := tok_cells H.out.2.1
                  have g0 := frozen_of_row _ _ 0 _ _ H.out.2.1
                  have g1 := frozen_of_row _ _ 1 _ _ H.out.2.1
                  have g2 := frozen_of_row _ _ 2 _ _ H.out.2.1
                  have g3 := frozen_of_row _ _ 3 _ _ H.out.2.1
                  go_wp2_with fail
                  refine bodyPost_ret (one_res rfl rfl (set_four _ _ _ _ H.out.2.1)) rfl ?_
                  rw [HQ.out]
                  exact ones_tok (s.extract a j) (by rw [← HX2.out, HX.out]) (below_four H.out.2.2 (Nat.le_refl _))
          · have HX2 : Hid (a + m = j) := Lib.hid (by omega)
            have l1 : ¬ (j : Int) < (s.size : Int) := by omega
            have e1 : (j : Int) - (a : Int) = (m : Int) := by omega
            have e2 : (a : Int) ≤ (j : Int) := by omega
            have e3 : (j : Int) ≤ (s.size : Int) := by omega
            go_wp2_with (first | (go_at_call 138; refine (q2 _).mono ?_; rintro e w8 ⟨rfl, hw8⟩; obtain rfl := hw8) | fail)
            go_loopw [9] (fun iv wr => ∃ q : Nat, a ≤ q ∧ q ≤ a + m ∧ iv = .int .i64 (q : Nat) ∧ Hid (wr.heap[w.heap.size + 1]? = some (.cells #[.int .u8 2, .string (s.extract a j), .int .i64 (Tk.val (D.take (q - a)) : Nat), .int .i64 (a : Nat)] 190 (0, 0)) ∧ wr.heap[w.heap.size]? = some (.cells #[.int .u8 0, .string ⟨#[]⟩, .int .i64 0, .int .i64 0] 190 (0, 0)) ∧ Below w.heap.size w wr)) (fun iv _ => a + m - (intOf iv).toNat)
            case atStart =>
              refine ⟨a, Nat.le_refl _, by omega, rfl, Lib.hid ⟨?_, (heap_two _ _ _).trans (heap_alloc_new _ _), by go_grown⟩⟩
              have := heap_alloc_new (w.alloc (.cells #[.int .u8 0, .string ⟨#[]⟩, .int .i64 0, .int .i64 0] 190)) (.cells #[.int .u8 2, .string (s.extract a j), .int .i64 0, .int .i64 (a : Nat)] 190)
              rw [World.size_alloc] at this
              rw [Nat.sub_self, List.take_zero]
              exact this
            case round =>
              obtain ⟨q, hq1, hq2, rfl, H⟩ := hrel
              obtain ⟨c0, c1, c2, c3⟩ := tok_cells H.out.1
              have f2 := frozen_of_row _ _ 2 _ _ H.out.1
              by_cases hqj : q < a + m
              · have k1 : (q : Int) < (j : Int) := by have := HX2.out; omega
                have k2 : (0 : Int) ≤ (q : Int) := by omega
                have k3 : q < s.size := by omega
                have k4 : (q : Int) < (s.size : Int) := by omega
                obtain ⟨⟨d1, d2⟩, hv, hvs⟩ := HV.out q hq1 k3 hqj (by omega)
                generalize Tk.val (D.take (q - a)) = x at *
                have x1 : (x : Int) ≤ 999999999 := by omega
                have x2 : (0 : Int) ≤ (x : Int) := by omega
                have y1 : (48 : Int) ≤ (s[q].toNat : Int) := by omega
                have y2 : (s[q].toNat : Int) ≤ 57 := by omega
                have HNX : Hid (10 * (x : Int) + ((s[q].toNat : Int) - 48) = (Tk.val (D.take (q + 1 - a)) : Nat)) := Lib.hid (by omega)
                clear hvs
                go_wp2_with fail
                go_region
                all_goals
                  go_wp2_with fail
                  go_roundw
                  case rel => exact ⟨q + 1, by omega, by omega, by go_num, Lib.hid ⟨by rw [← HNX.out]; exact tk_set H.out.1 _, (Below.heap_setCell _ _ _ _ (Nat.ne_of_lt (Nat.lt_succ_self _))).trans H.out.2.1, (H.out.2.2.setCell (Nat.le_succ _) _).drew⟩⟩
                  case measure => simp [intOf]; omega
              · have k1 : ¬ (q : Int) < (j : Int) := by have := HX2.out; omega
                have hqe : q = a + m := by omega
                have HQ : Hid (q - a = m) := Lib.hid (by omega)
                clear hqe
                obtain ⟨d0, d1, d2, d3⟩ := tok_cells H.out.2.1
                have g0 := frozen_of_row _ _ 0 _ _ H.out.2.1
                have g1 := frozen_of_row _ _ 1 _ _ H.out.2.1
                have g2 := frozen_of_row _ _ 2 _ _ H.out.2.1
                have g3 := frozen_of_row _ _ 3 _ _ H.out.2.1
                go_wp2_with fail
                refine bodyPost_ret (one_res rfl rfl (set_four _ _ _ _ H.out.2.1)) rfl ?_
                rw [HQ.out]
                exact ones_tok (s.extract a j) (by rw [← HX2.out, HX.out]) (below_four H.out.2.2 (Nat.le_refl _))
end Go.Proofs.YtnkdhmoocomjfaaGreatDoor
