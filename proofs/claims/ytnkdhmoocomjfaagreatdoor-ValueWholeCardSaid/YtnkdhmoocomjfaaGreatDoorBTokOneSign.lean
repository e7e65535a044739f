/-
  Walks over the document's answer for tokens: One at a sign, and where no token begins; One whole. Conditions: those in the theorems.
-/
import Derived.Test.YtnkdhmoocomjfaaGreatDoorBTokOneNum
set_option linter.unusedSimpArgs false
set_option linter.unusedVariables false
namespace Go.Proofs.YtnkdhmoocomjfaaGreatDoor
open Go.RowKit

theorem first_sign {D : List UInt8} (h1 : Tk.word D = 0) (h2 : Tk.number D = 0) : Tk.first D = if 0 < Tk.sign D then .tok 3 (Tk.sign D) 0 else .no 110 := by
  unfold Tk.first; rw [h1, h2, if_neg (by omega), if_neg (by omega)]
set_option maxRecDepth 100000 in
set_option maxHeartbeats 8000000 in
theorem One_sign (s : ByteArray) (a : Nat) (w : World) (ha : a < s.size) (hm : s.size ≤ maxLen) (hc : Tk.letter s[a] = false) (hc2 : Tk.digit s[a] = false) :
    Calls Tryz.prog 143 #[.string s, .int .i64 (a : Nat)] w (Ones (s.data.toList.drop a) a w) := by
  have hl := list_len s
  have hd0 := drop_at ha
  have hlt : 0 < (s.data.toList.drop a).length := by rw [List.length_drop]; omega
  have hw0 : (s.data.toList.drop a)[0] = s[a] := by simp only [hd0, List.getElem_cons_zero]
  have hwz := Tk.word_none hlt (by rw [hw0]; exact hc)
  have hnz : Tk.number (s.data.toList.drop a) = 0 := (Tk.run_step Tk.digit _ 0 hlt (Nat.zero_le _)).2 (by rw [hw0]; exact hc2)
  have hf := first_sign hwz hnz
  have hsg := sign_c s[a] (s.data.toList.drop (a + 1))
  rw [← hd0] at hsg
  have htw := Tk.two_iff (a := 45) (b := 62) (l := s.data.toList) (k := a) (by omega)
  rw [list_at s a ha] at htw
  unfold Ones
  have HX := Lib.hid (ext_mid s a 1)
  have HD2 : Hid (∀ h : a + 1 < s.size, s[a].toNat = 45 → s[a + 1].toNat = 62 → (⟨#[45, 62]⟩ : ByteArray) = Tk.bs ((s.data.toList.drop a).take 2)) := Lib.hid fun h e1 e2 => by
    have b1 : s[a] = 45 := UInt8.toNat_inj.1 e1
    have b2 : s[a + 1] = 62 := UInt8.toNat_inj.1 e2
    rw [drop_at ha, drop_at h, b1, b2]
    rfl
  have qa := fun W => rletter_any s[a] W
  have qb := fun W => rdigit_any s[a] W
  rw [hc] at qa
  rw [hc2] at qb
  have j0 : (a : Int) < (s.size : Int) := by omega
  have j00 : (0 : Int) ≤ (a : Int) := by omega
  have jm : (a : Int) + 1 ≤ (s.size : Int) := by omega
  have jm3 : (a : Int) ≤ (a : Int) + 1 := by omega
  have hm2 : s.size ≤ 9223372036854775807 := hm
  have hl2 : s.data.toList.length = s.size := hl
  by_cases hs : s[a].toNat = 123 ∨ s[a].toNat = 125 ∨ s[a].toNat = 40 ∨ s[a].toNat = 41 ∨ s[a].toNat = 59 ∨ s[a].toNat = 58 ∨ s[a].toNat = 44 ∨ s[a].toNat = 46
  · have e1 : Tk.two 45 62 (s.data.toList.drop a) = false := by
      rw [← Bool.not_eq_true]; intro e; have := (htw.1 e).1; omega
    have e2 : Tk.signC s[a] = true := by simp only [Tk.signC, Bool.or_eq_true, decide_eq_true_eq]; omega
    have e3 : Tk.sign (s.data.toList.drop a) = 1 := by rw [hsg, e1, e2]; rfl
    rw [hf, e3, if_pos (by omega)]
    generalize s.data.toList.drop a = D at *
    clear hl hl2 hd0 hlt hw0 hwz hnz hf hsg htw hm hc hc2 e1 e2 e3 HD2
    rcases hs with h | h | h | h | h | h | h | h
    all_goals
      rw [h] at qa qb
      go_enter Tryz.func143, Tryz.ntmps143
      go_wp2_with (first | (go_at_call 136; refine (qa _).mono ?_; rintro e w8 ⟨rfl, hw8⟩; obtain rfl := hw8) | (go_at_call 138; refine (qb _).mono ?_; rintro e w8 ⟨rfl, hw8⟩; obtain rfl := hw8) | fail)
      refine bodyPost_ret (one_res rfl rfl ((heap_two _ _ _).trans (heap_alloc_new _ _))) rfl ?_
      exact ones_tok (s.extract a (a + 1)) HX.out (by go_grown)
  · have e2 : Tk.signC s[a] = false := by rw [← Bool.not_eq_true]; simp only [Tk.signC, Bool.or_eq_true, decide_eq_true_eq]; omega
    have b1 : ((s[a].toNat : Int) == 123) = false := beq_no (b := 123) (by omega)
    have b2 : ((s[a].toNat : Int) == 125) = false := beq_no (b := 125) (by omega)
    have b3 : ((s[a].toNat : Int) == 40) = false := beq_no (b := 40) (by omega)
    have b4 : ((s[a].toNat : Int) == 41) = false := beq_no (b := 41) (by omega)
    have b5 : ((s[a].toNat : Int) == 59) = false := beq_no (b := 59) (by omega)
    have b6 : ((s[a].toNat : Int) == 58) = false := beq_no (b := 58) (by omega)
    have b7 : ((s[a].toNat : Int) == 44) = false := beq_no (b := 44) (by omega)
    have b8 : ((s[a].toNat : Int) == 46) = false := beq_no (b := 46) (by omega)
    rw [hf]
    by_cases ht : Tk.two 45 62 (s.data.toList.drop a) = true
    · obtain ⟨t1, t2, t3⟩ := htw.1 ht
      have t4 : a + 1 < s.size := by omega
      have t5 : s[a + 1].toNat = 62 := t3
      have e3 : Tk.sign (s.data.toList.drop a) = 2 := by rw [hsg, ht]; rfl
      have j1 : (a : Int) + 1 < (s.size : Int) := by omega
      have HDD := Lib.hid (HD2.out t4 t1 t5)
      rw [e3, if_pos (by omega)]
      rw [t1] at qa qb
      generalize s.data.toList.drop a = D at *
      clear hl hl2 hd0 hlt hw0 hwz hnz hf hsg htw hm hc hc2 e2 e3 ht HD2 t3 hs b1 b2 b3 b4 b5 b6 b7 b8
      go_enter Tryz.func143, Tryz.ntmps143
      go_wp2_with (first | (go_at_call 136; refine (qa _).mono ?_; rintro e w8 ⟨rfl, hw8⟩; obtain rfl := hw8) | (go_at_call 138; refine (qb _).mono ?_; rintro e w8 ⟨rfl, hw8⟩; obtain rfl := hw8) | fail)
      refine bodyPost_ret (one_res rfl rfl ((heap_two _ _ _).trans (heap_alloc_new _ _))) rfl ?_
      exact ones_tok ⟨#[45, 62]⟩ HDD.out (by go_grown)
    · have e3 : Tk.sign (s.data.toList.drop a) = 0 := by rw [hsg, (Bool.not_eq_true _).mp ht, e2]; rfl
      rw [e3, if_neg (by omega)]
      by_cases h45 : s[a].toNat = 45
      · by_cases h2 : a + 1 < s.size
        · have j1 : (a : Int) + 1 < (s.size : Int) := by omega
          have h62 : s[a + 1].toNat ≠ 62 := fun e => ht (htw.2 ⟨h45, by omega, e⟩)
          have b9 : ((s[a + 1].toNat : Int) == 62) = false := beq_no (b := 62) h62
          rw [h45] at qa qb
          generalize s.data.toList.drop a = D at *
          clear hl hl2 hd0 hlt hw0 hwz hnz hf hsg htw hm hc hc2 e2 e3 ht HD2 hs h62 b1 b2 b3 b4 b5 b6 b7 b8
          go_enter Tryz.func143, Tryz.ntmps143
          go_wp2_with (first | (go_at_call 136; refine (qa _).mono ?_; rintro e w8 ⟨rfl, hw8⟩; obtain rfl := hw8) | (go_at_call 138; refine (qb _).mono ?_; rintro e w8 ⟨rfl, hw8⟩; obtain rfl := hw8) | fail)
          refine bodyPost_ret (one_res rfl rfl ((heap_two _ _ _).trans (heap_alloc_new _ _))) rfl ?_
          exact ones_no ⟨3, ⟨#[]⟩, 0, (a : Nat)⟩ (by go_grown)
        · have j1 : ¬ (a : Int) + 1 < (s.size : Int) := by omega
          rw [h45] at qa qb
          generalize s.data.toList.drop a = D at *
          clear hl hl2 hd0 hlt hw0 hwz hnz hf hsg htw hm hc hc2 e2 e3 ht HD2 hs b1 b2 b3 b4 b5 b6 b7 b8
          go_enter Tryz.func143, Tryz.ntmps143
          go_wp2_with (first | (go_at_call 136; refine (qa _).mono ?_; rintro e w8 ⟨rfl, hw8⟩; obtain rfl := hw8) | (go_at_call 138; refine (qb _).mono ?_; rintro e w8 ⟨rfl, hw8⟩; obtain rfl := hw8) | fail)
          refine bodyPost_ret (one_res rfl rfl ((heap_two _ _ _).trans (heap_alloc_new _ _))) rfl ?_
          exact ones_no ⟨3, ⟨#[]⟩, 0, (a : Nat)⟩ (by go_grown)
      · have b9 : ((s[a].toNat : Int) == 45) = false := beq_no (b := 45) h45
        generalize s.data.toList.drop a = D at *
        clear hl hl2 hd0 hlt hw0 hwz hnz hf hsg htw hm hc hc2 e2 e3 ht HD2 hs h45
        go_enter Tryz.func143, Tryz.ntmps143
        go_wp2_with (first | (go_at_call 136; refine (qa _).mono ?_; rintro e w8 ⟨rfl, hw8⟩; obtain rfl := hw8) | (go_at_call 138; refine (qb _).mono ?_; rintro e w8 ⟨rfl, hw8⟩; obtain rfl := hw8) | fail)
        refine bodyPost_ret (one_res rfl rfl ((heap_two _ _ _).trans (heap_alloc_new _ _))) rfl ?_
        exact ones_no ⟨3, ⟨#[]⟩, 0, (a : Nat)⟩ (by go_grown)
theorem One_any (s : ByteArray) (a : Nat) (w : World) (ha : a < s.size) (hm : s.size ≤ maxLen) :
    Calls Tryz.prog 143 #[.string s, .int .i64 (a : Nat)] w (Ones (s.data.toList.drop a) a w) := by
  cases h1 : Tk.letter s[a] with
  | true => exact One_word s a w ha hm h1
  | false =>
    cases h2 : Tk.digit s[a] with
    | true => exact One_num s a w ha hm h2
    | false => exact One_sign s a w ha hm h1 h2
end Go.Proofs.YtnkdhmoocomjfaaGreatDoor
