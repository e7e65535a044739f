/-
  Walks over the document's answer for tokens: All. Conditions: those in the theorems.
-/
import Derived.Test.YtnkdhmoocomjfaaGreatDoorTokBase
import Derived.Test.YtnkdhmoocomjfaaGreatDoorBTokOneSign
set_option linter.unusedSimpArgs false
set_option linter.unusedVariables false
namespace Go.Proofs.YtnkdhmoocomjfaaGreatDoor
open Go.RowKit

set_option maxRecDepth 100000 in
set_option maxHeartbeats 4000000 in
theorem RefAll_any (s : ByteArray) (w : World) (hm : s.size ≤ 65536) : Calls Tryz.prog 108 #[.string s] w (Alls (Tk.all 0 s.data.toList) w) := by
  have hl := list_len s
  have hml : s.size ≤ maxLen := by unfold maxLen; omega
  have q0 := fun W => Gap_any s 0 W (Nat.zero_le _) hml
  rw [List.drop_zero, Nat.zero_add] at q0
  have hs0 : Tk.skip s.data.toList ≤ s.size := by rw [← hl]; exact Tk.skip_le _
  have HS0 := Lib.hid (And.intro (Tk.all_skip 0 s.data.toList) (Tk.skip_skip s.data.toList))
  rw [Nat.zero_add] at HS0
  have i0 : ¬ (65536 : Int) < (s.size : Int) := by omega
  have HL := Lib.hid hl
  clear hl
  go_enter Tryz.func108, Tryz.ntmps108
  go_wp2_with (go_at_call 142; refine (q0 _).mono ?_; rintro e w' ⟨rfl, hw⟩; obtain rfl := hw)
  generalize Tk.skip s.data.toList = p0 at *
  go_loopw [5, 6] (fun lv av wr => ∃ (p : Nat) (ts : List Tk.Token), p ≤ s.size ∧ av = .int .i64 (p : Nat) ∧ Hid (Tk.all 0 s.data.toList = Tk.Out.pre ts (Tk.all p (s.data.toList.drop p)) ∧ Tk.skip (s.data.toList.drop p) = 0 ∧ ts.length ≤ p) ∧
      Hid (OwnTok wr w'.heap.size lv ts ∧ Below w'.heap.size w' wr)) (fun _ av _ => s.size - (intOf av).toNat)
  case atStart => exact ⟨p0, [], hs0, rfl, Lib.hid ⟨by rw [Tk.pre_nil]; exact HS0.out.1, HS0.out.2, Nat.zero_le _⟩, Lib.hid ⟨OwnTok.nil _ _, Below.refl _ _⟩⟩
  case round =>
    obtain ⟨p, ts, hp, rfl, HP, HW⟩ := hrel
    by_cases hps : p < s.size
    · have j1 : (p : Int) < (s.size : Int) := by omega
      have j2 : (0 : Int) ≤ (p : Int) := by omega
      have j3 : (p : Int) ≤ (s.size : Int) := by omega
      have q1 := fun W => One_any s p W hps hml
      unfold Ones at q1
      obtain ⟨pv, cap, rfl, -, -⟩ := HW.out.1.shape
      have hne : s.data.toList.drop p ≠ [] := fun e => by have := congrArg List.length e; rw [List.length_drop, HL.out] at this; simp at this; omega
      cases hf : Tk.first (s.data.toList.drop p) with
      | no er =>
        rw [hf] at q1
        have HN := Lib.hid (show Tk.all 0 s.data.toList = .no p er by rw [HP.out.1, Tk.all_no HP.out.2.1 hne hf]; rfl)
        have her : ((((Tk.Res.no er).err : Nat) : Int) != 0) = true := by
          rw [bne_iff_ne]
          have := Tk.first_err hf
          show ((er : Nat) : Int) ≠ 0
          omega
        clear hf hne
        go_wp2_with (go_at_call 143; refine (q1 _).mono ?_; rintro e w2 ⟨t, rfl, -, hb2⟩; unfold tokV)
        go_ret3
        refine ⟨.slice none 0 0, ?_, ?_, ?_⟩
        · rw [HN.out]; rfl
        · rw [HN.out]; exact OwnTok.nil _ _
        · exact (HW.out.2.trans (hb2.mono HW.out.2.size)).alloc (HW.out.2.trans (hb2.mono HW.out.2.size)).size _
      | tok k n v =>
        rw [hf] at q1
        have hn := Tk.first_len hf
        rw [List.length_drop, HL.out] at hn
        have HN := Lib.hid (show Tk.all 0 s.data.toList = Tk.Out.pre (ts ++ [⟨k, Tk.bs ((s.data.toList.drop p).take n), v, (p : Nat)⟩]) (Tk.all (p + n) (s.data.toList.drop (p + n))) by
          rw [HP.out.1, Tk.all_tok HP.out.2.1 hne hf, Tk.pre_pre, List.drop_drop])
        have htx : (Tk.bs ((s.data.toList.drop p).take n)).size = n := by
          show ((s.data.toList.drop p).take n).toArray.size = n
          rw [List.size_toArray, List.length_take, List.length_drop, HL.out]; omega
        have q2 : ∀ W, Calls Tryz.prog 143 #[.string s, .int .i64 (p : Nat)] W fun e w' => e = .returned (.tuple #[.agg #[.int .u8 (k : Nat), .string (Tk.bs ((s.data.toList.drop p).take n)), .int .i64 (v : Nat), .int .i64 (p : Nat)], .int .i64 ((0 : Nat) : Int)]) ∧ Below W.heap.size W w' := fun W =>
          (q1 W).mono fun e w' ⟨t, h1, h2, h3⟩ => ⟨by rw [h1, h2 k n v rfl]; rfl, h3⟩
        generalize Tk.bs ((s.data.toList.drop p).take n) = tx at *
        have hne2 : (((0 : Nat) : Int) != 0) = false := rfl
        clear hf hne q1
        go_upto_region 7 with (first | (go_at_call 143; refine (q2 _).mono ?_; rintro e w2 ⟨rfl, hb2⟩) | fail)
        obtain ⟨W5, hW5⟩ : ∃ W5, W5 = w2.alloc (.cells #[.int .u8 (k : Nat), .string tx, .int .i64 (v : Nat), .int .i64 (p : Nat)] 190) := ⟨_, rfl⟩
        have hb5 : Below wr.heap.size wr W5 := by rw [hW5]; exact hb2.alloc hb2.size _
        have hr5 : W5.heap[w2.heap.size]? = some (.cells #[.int .u8 (k : Nat), .string tx, .int .i64 (v : Nat), .int .i64 (p : Nat)] 190 (0, 0)) := by rw [hW5]; exact heap_alloc_new _ _
        have HZ2 := Lib.hid hb2.size
        rw [← hW5]
        clear hW5 hb2
        obtain ⟨d0, d1, d2, d3⟩ := tok_cells hr5
        have ho6 := (HW.out.1.below hb5).below (tk_alloc W5 (.cells #[.int .u8 (k : Nat), .string tx, .int .i64 (v : Nat), .int .i64 (p : Nat)] 190))
        have hb6 := hb5.alloc hb5.size (.cells #[.int .u8 (k : Nat), .string tx, .int .i64 (v : Nat), .int .i64 (p : Nat)] 190)
        have hnew := news_four W5 (.int .u8 (k : Nat)) (.string tx) (.int .i64 (v : Nat)) (.int .i64 (p : Nat)) 190
        have hz5 : W5.heap.size < (W5.alloc (.cells #[.int .u8 (k : Nat), .string tx, .int .i64 (v : Nat), .int .i64 (p : Nat)] 190)).heap.size := by rw [World.size_alloc]; exact Nat.lt_succ_self _
        have hzz := HW.out.2.size
        have hbl := (Array.getElem?_eq_some_iff.1 hr5).1
        have hr6 := (tk_alloc W5 (.cells #[.int .u8 (k : Nat), .string tx, .int .i64 (v : Nat), .int .i64 (p : Nat)] 190)).block _ hbl |>.trans hr5
        have hb5s := hb5.size
        obtain ⟨pv2, cv2, W7, hrun, ho7, hg⟩ := t_append ho6 (Below.refl _ _) ⟨W5.heap.size, 0, none⟩ [⟨k, tx, v, p⟩] 1 1 rfl (by simpa [toksCells, tokCells] using hnew) (by have := HP.out.2.2; omega) (by omega) 145
        have hlt7 := HW.out.1.lt
        have hb7 : Below w'.heap.size w' W7 := hg.below (HW.out.2.trans (hb6.mono hzz)) (by omega) (fun kk hkk => (hlt7 kk hkk).1)
        have hr7 : W7.heap[w2.heap.size]? = some (.cells #[.int .u8 (k : Nat), .string tx, .int .i64 (v : Nat), .int .i64 (p : Nat)] 190 (0, 0)) :=
          (hg.block _ (by omega) (fun e => by have := (hlt7 _ e).2; have := HZ2.out; omega)).trans hr6
        obtain ⟨e0, e1, e2, e3⟩ := tok_cells hr7
        obtain ⟨m, hm5⟩ : ∃ m, m = p + n + Tk.skip (s.data.toList.drop (p + n)) := ⟨_, rfl⟩
        have hpn : p + n ≤ s.size := by omega
        have q5 := fun W => Gap_any s (p + n) W hpn hml
        rw [← hm5, Int.natCast_add] at q5
        have HM := Lib.hid hm5
        have HO := Lib.hid (And.intro ho7 hb7)
        have htl : ts.length ≤ 65536 := by have := HP.out.2.2; omega
        have k1 : (p : Int) + (n : Int) ≤ (s.size : Int) := by omega
        have k2 : (0 : Int) ≤ (n : Int) := by omega
        clear hb5 hr5 ho6 hb6 hnew hz5 hzz hbl hr6 hb5s hlt7 hr7 hb7 ho7 hg e0 e2 e3 hm5
        go_wp2_with (first | (at_builtin; refine Lib.wpList_append_run _ rfl (.tmp 28) (.tmp 30) _ _ rfl _ _ rfl rfl _ _ hrun ?_) | (go_at_call 142; refine (q5 _).mono ?_; rintro e w8 ⟨rfl, hw8⟩; obtain rfl := hw8) | fail)
        go_roundw
        case rel =>
          refine ⟨m, ts ++ [⟨k, tx, v, p⟩], ?_, rfl, Lib.hid ⟨?_, ?_, ?_⟩, HO⟩
          · rw [HM.out]
            have := Tk.skip_le (s.data.toList.drop (p + n))
            rw [List.length_drop, HL.out] at this; omega
          · rw [HN.out, Tk.all_skip (p + n), List.drop_drop, ← HM.out]
          · have := Tk.skip_skip (s.data.toList.drop (p + n))
            rw [List.drop_drop, ← HM.out] at this; exact this
          · rw [List.length_append]
            have := HP.out.2.2
            have := HM.out
            simp; omega
        case measure =>
          have := HM.out
          simp [intOf]; omega
    · have hpe : p = s.size := by omega
      subst hpe
      have HN := Lib.hid (show Tk.all 0 s.data.toList = .ok ts by
        have h1 := HP.out.1
        rw [List.drop_of_length_le (by rw [HL.out]; exact Nat.le_refl _), Tk.all_nil, Tk.pre_ok, List.append_nil] at h1; exact h1)
      have j1 : ¬ (s.size : Int) < (s.size : Int) := by omega
      obtain ⟨pv, cap, rfl, -, -⟩ := HW.out.1.shape
      go_wp2_with fail
      go_ret3
      refine ⟨.slice pv ts.length cap, ?_, ?_, HW.out.2⟩
      · rw [HN.out]; rfl
      · rw [HN.out]; exact HW.out.1

set_option maxHeartbeats 1000000 in
theorem RefAll_long (s : ByteArray) (w : World) (hm : 65536 < s.size) : Calls Tryz.prog 108 #[.string s] w fun e w' => e = .returned (.tuple #[.slice none 0 0, .int .i64 0, .int .i64 3]) ∧ w' = w := by
  have i0 : (65536 : Int) < (s.size : Int) := by omega
  go_enter Tryz.func108, Tryz.ntmps108
  go_wp2_with fail
  go_ret3
  exact ⟨rfl, rfl⟩
end Go.Proofs.YtnkdhmoocomjfaaGreatDoor
