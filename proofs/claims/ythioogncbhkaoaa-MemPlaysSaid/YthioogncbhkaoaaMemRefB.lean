/-
  Walks over the document's answer for tables: Delete, From. Conditions: those in the theorems.
-/
import Derived.Test.YthioogncbhkaoaaMemRefA
import Derived.Deep.Cut
namespace Go.Proofs.Ythioogncbhkaoaa
open Go.RowKit

theorem addr_zero (A : Addr) : A.add (0 * 2) = A := by unfold Addr.add; simp
theorem quietLess (a b : ByteArray) (ha : a.size ≤ maxLen) (hb : b.size ≤ maxLen) (W : World) (q : Nat) :
    Calls Try.prog 40 #[.string a, .string b] (W.drewN q) fun e w' => e = .returned (.bool (Mm.lt a b)) ∧ ∃ m, w' = W.drewN m :=
  (refLess_any a b ha hb (W.drewN q)).mono fun _ _ ⟨h, n, e⟩ => ⟨h, q + n, by rw [e, World.drewN_drewN]⟩
theorem quietLess2 (a b : ByteArray) (ha : a.size ≤ maxLen) (hb : b.size ≤ maxLen) (W : World) (q n : Nat) :
    Calls Try.prog 40 #[.string a, .string b] (W.drewN (q + n)) fun e w' => e = .returned (.bool (Mm.lt a b)) ∧ ∃ m, w' = W.drewN (q + m) :=
  (refLess_any a b ha hb (W.drewN (q + n))).mono fun _ _ ⟨h, m, e⟩ => ⟨h, n + m, by rw [e, World.drewN_drewN, Nat.add_assoc]⟩
theorem OwnPairs.mono {W : World} {b b' : Nat} {v : Value} {xs : List Pr} (h : OwnPairs W b v xs) (hb : b' ≤ b) : OwnPairs W b' v xs := by
  refine ⟨h.1, ?_⟩
  rcases h.2 with hn | ⟨g, cap, cur, rfl, h1, h2⟩
  · exact .inl hn
  · exact .inr ⟨g, cap, cur, rfl, Nat.le_trans hb h1, h2⟩
theorem OwnPairs.opens {W : World} {base : Nat} {v : Value} {xs : List Pr} (h : OwnPairs W base v xs) (hp : ∀ x ∈ xs, PrIn x) (hn : xs.length ≠ 0) : ∃ g cap, v = .slice (some ⟨g, 0, none⟩) xs.length cap ∧ xs.length ≤ cap ∧ cap ≤ maxLen ∧ PairsAt W (some ⟨g, 0, none⟩) xs := by
  obtain ⟨p, cap, e, h1, h2, h3⟩ := h.pairs hp
  rcases h.2 with ⟨rfl, hz⟩ | ⟨g, cap', cur, rfl, -⟩
  · exact absurd hz hn
  · cases e; exact ⟨g, cap, rfl, h1, h2, h3⟩
theorem app_nil (W : World) (v : Value) (p : Option Addr) (n c : Nat) (hv : v = .slice p n c) (ty : TypeId) (_hi : ∃ i, Try.prog.info? 44 = some i ∧ i.size = 2) (hnc : n ≤ c) (_hc : c ≤ maxLen) :
    (Builtin.append_ #[30, 30] ty #[v, .slice none 0 0]).run Try.prog W = .ok v W := by
  subst hv
  cases p <;> simp [Builtin.append_, run_underlying Try.underlying30, hnc, go_sem]

theorem app_zero (W : World) (p q : Option Addr) (n c c' : Nat) (ty : TypeId) (hnc : n ≤ c) (hp : p = none → n = 0 ∧ c = 0) :
    (Builtin.append_ #[30, 30] ty #[.slice p n c, .slice q 0 c']).run Try.prog W = .ok (.slice p n c) W := by
  cases p with
  | none => obtain ⟨rfl, rfl⟩ := hp rfl; cases q <;> simp [Builtin.append_, run_underlying Try.underlying30, go_sem]
  | some a => cases q <;> simp [Builtin.append_, run_underlying Try.underlying30, hnc, go_sem]
set_option maxRecDepth 100000 in
set_option maxHeartbeats 8000000 in
theorem refDelete_any (p : Option Addr) (cap : Nat) (xs : List Pr) (hn : xs.length ≤ 1000) (key : ByteArray) (w : World) (hp : PairsAt w p xs) :
    Calls Try.prog 12 #[.slice p xs.length cap, .string key] w fun e w' => ∃ v, e = .returned (.tuple #[v, .bool (Rf.isIn xs key)]) ∧ MadeP w w' v (Rf.delR xs key) := by
  have HP := Lib.hid hp
  have hall : ∀ x ∈ xs, PrIn x := fun x hx => by
    obtain ⟨i, hi, rfl⟩ := List.getElem_of_mem hx
    exact (hp i hi).elim fun _ h => h.2.2.2
  have HA := Lib.hid hall
  clear hp hall
  go_enter Try.func12, Try.ntmps12
  go_wp2_with fail
  go_loopw [6, 7] (fun mv iv wr => ∃ k : Nat, k ≤ xs.length ∧ iv = .int .i64 (k : Nat) ∧ Hid (Below w.heap.size w wr ∧ OwnPairs wr w.heap.size mv (Rf.delR (xs.take k) key))) (fun _ iv _ => xs.length - (intOf iv).toNat)
  case atStart => exact ⟨0, Nat.zero_le _, rfl, Lib.hid ⟨Below.refl _ _, OwnPairs.nil _ _⟩⟩
  case round =>
    obtain ⟨k, hk, rfl, HR⟩ := hrel
    obtain ⟨pm, cm, hmv, -, -⟩ := HR.out.2.shape
    have hml : (Rf.delR (xs.take k) key).length ≤ k := Nat.le_trans (Rf.del_length _ _) (by rw [List.length_take]; omega)
    by_cases hlt : k < xs.length
    · obtain ⟨A, rfl, a0, a1, -⟩ := HP.out.at HR.out.1 hlt
      have i0 : (k : Int) < (xs.length : Int) := by omega
      have i1 : (0 : Int) ≤ (k : Int) := by omega
      have HRT : Hid (Rf.delR (xs.take (k + 1)) key = Rf.delR (xs.take k) key ++ if xs[k].1 = key then [] else [xs[k]]) := Lib.hid (by
        rw [List.take_succ_eq_append_getElem hlt]; unfold Rf.delR; rw [List.filter_append]
        congr 1
        by_cases h : xs[k].1 = key <;> simp [h])
      generalize xs[k] = c at *
      have hbz := HR.out.1.size
      subst hmv
      by_cases he : c.1 = key
      · have d1 := eq_flag.1 he
        have HRP := Lib.hid (HRT.out.trans (by rw [if_pos he, List.append_nil]))
        clear he
        go_wp2_with fail
        go_roundw
        case rel => exact ⟨k + 1, by omega, by go_num, Lib.hid ⟨HR.out.1, by rw [HRP.out]; exact HR.out.2⟩⟩
        case measure => simp [intOf]; omega
      · have d1 := eq_flag.2 he
        have HRP := Lib.hid (HRT.out.trans (by rw [if_neg he]))
        obtain ⟨N, hN⟩ : ∃ N, N = (Rf.delR (xs.take k) key).length := ⟨_, rfl⟩
        have ho2 := HR.out.2.below (below_alloc wr (.cells #[.string c.1, .string c.2] 44))
        obtain ⟨pv, cv, W3, hrun, ho3, hg3⟩ := pr_append ho2 ⟨wr.heap.size, 0, none⟩ [c] 1 1 rfl (by simpa [prsCells, prCells] using news_two wr (.string c.1) (.string c.2) 44) (by omega) (by simp; omega) (N + 1) (by rw [hN]) 30
        have hz3 : w.heap.size ≤ (wr.alloc (.cells #[.string c.1, .string c.2] 44)).heap.size := by simp; omega
        have hb3 : Below w.heap.size w (wr.alloc (.cells #[.string c.1, .string c.2] 44)) := HR.out.1.trans ((below_alloc wr _).mono hbz)
        have HB3 := Lib.hid (below_append hb3 ho2 hz3 hg3)
        have HO3 := Lib.hid ho3
        rw [← hN] at *
        clear he ho2 hg3 ho3 hz3 hb3 hN
        go_wp2_with (at_builtin; refine Lib.wpList_append_run _ rfl (.tmp 21) (.tmp 26) _ _ rfl _ _ rfl rfl _ _ hrun ?_)
        go_roundw
        case rel => exact ⟨k + 1, by omega, by go_num, Lib.hid ⟨HB3.out, by rw [HRP.out]; exact HO3.out⟩⟩
        case measure => simp [intOf]; omega
    · obtain rfl : k = xs.length := by omega
      have i0 : ¬ (xs.length : Int) < (xs.length : Int) := by omega
      have hr := HR.out
      rw [List.take_length] at hr hml hmv
      obtain ⟨p', c', e1, -, -, e4⟩ := hr.2.pairs fun x hx => HA.out x (List.mem_filter.1 hx).1
      have HE4 := Lib.hid e4
      have HB := Lib.hid hr.1
      have HIN : Hid (Rf.isIn xs key = decide ((Rf.delR xs key).length < xs.length)) := Lib.hid (by
        rw [Bool.eq_iff_iff, Rf.isIn_iff, decide_eq_true_eq]
        unfold Rf.delR
        rw [List.length_filter_lt_length_iff_exists]; simp)
      subst e1
      obtain ⟨N, hN⟩ : ∃ N, (Rf.delR xs key).length = N := ⟨_, rfl⟩
      have HN := Lib.hid hN
      rw [hN] at HIN ⊢
      clear hr hmv e4 hN hml
      go_wp2_with fail
      go_ret2
      exact ⟨.slice p' N c', by rw [HIN.out]; simp, p', c', by rw [HN.out], HE4.out, HB.out⟩

theorem addr_at (g j : Nat) : (⟨g, 0, none⟩ : Addr).add j = ⟨g, j, none⟩ := by unfold Addr.add; split <;> simp_all
/-- The three appends of a round, as they run. -/
theorem from_appends {w W : World} {M : List Pr} {c : Pr} {A0 : Addr} {cap : Nat} (hb : Below w.heap.size w W) (hM : PairsAt W (some A0) M) (hml : M.length ≤ 1000) (_hc : PrIn c) {j : Nat} (hj : j ≤ M.length) (A2 : Addr) (hA : M.length - j = 0 ∨ A2 = A0.add (j * 2)) (ty : TypeId) :
    ∃ (p3 : Option Addr) (c3 : Nat) (W3 : World), (Builtin.append_ #[30, 30] ty #[.slice none 0 0, .slice (some A0) j cap]).run Try.prog W = .ok (.slice p3 j c3) W3 ∧
      ∃ (p4 : Option Addr) (c4 : Nat) (W4 : World), (Builtin.append_ #[30, 30] ty #[.slice p3 j c3, .slice (some ⟨W3.heap.size, 0, none⟩) 1 1]).run Try.prog (W3.alloc (.cells #[.string c.1, .string c.2] 44)) = .ok (.slice p4 (j + 1) c4) W4 ∧
        ∃ (p5 : Option Addr) (c5 : Nat) (W5 : World), (Builtin.append_ #[30, 30] ty #[.slice p4 (j + 1) c4, .slice (some A2) (M.length - j) (cap - j)]).run Try.prog W4 = .ok (.slice p5 (M.length + 1) c5) W5 ∧
          Below w.heap.size w W5 ∧ OwnPairs W5 w.heap.size (.slice p5 (M.length + 1) c5) (M.take j ++ c :: M.drop j) ∧ Below W.heap.size W W3 := by
  have e0 : (M.drop 0).take j = M.take j := by rw [List.drop_zero]
  have hl1 : (M.take j).length = j := by rw [List.length_take]; omega
  have hn1 := news_part hM 0 j (by omega)
  rw [e0, addr_zero] at hn1
  obtain ⟨p3, c3, W3, r3, o3, g3⟩ := pr_append (OwnPairs.nil W W.heap.size) A0 (M.take j) j cap hl1 hn1 (by simp; omega) (Nat.le_refl _) j (by simp) ty
  have hb3 : Below W.heap.size W W3 := below_append (Below.refl _ W) (OwnPairs.nil W W.heap.size) (Nat.le_refl _) g3
  rw [List.nil_append] at o3
  have hz3 := hb3.size
  have o3' := o3.below (below_alloc W3 (.cells #[.string c.1, .string c.2] 44))
  have hz3' : W.heap.size ≤ (W3.alloc (.cells #[.string c.1, .string c.2] 44)).heap.size := by simp; omega
  obtain ⟨p4, c4, W4, r4, o4, g4⟩ := pr_append o3' ⟨W3.heap.size, 0, none⟩ [c] 1 1 rfl (by simpa [prsCells, prCells] using news_two W3 (.string c.1) (.string c.2) 44) (by rw [hl1]; omega) hz3' (j + 1) (by rw [hl1]) ty
  have hb4 : Below W.heap.size W W4 := below_append (hb3.trans ((below_alloc W3 _).mono hz3)) o3' hz3' g4
  have hz4 := hb4.size
  have hM4 := hM.below hb4
  have hl4 : (M.take j ++ [c]).length = j + 1 := by rw [List.length_append, hl1]; rfl
  have hl5 : (M.drop j).length = M.length - j := List.length_drop
  have hn5 : ∀ q u, (prsCells (M.drop j))[q]? = some u → W4.cell? (A2.add q) = some u := by
    intro q u hu
    rcases hA with h0 | rfl
    · have h1 : M.drop j = [] := List.drop_eq_nil_iff.2 (by omega)
      rw [h1] at hu; simp [prsCells] at hu
    · have h2 := news_part hM4 j (M.length - j) (by omega) q u (by rw [List.take_of_length_le (by rw [hl5]; exact Nat.le_refl _)]; exact hu)
      exact h2
  obtain ⟨p5, c5, W5, r5, o5, g5⟩ := pr_append o4 A2 (M.drop j) (M.length - j) (cap - j) hl5 hn5 (by rw [hl4]; omega) hz4 (M.length + 1) (by rw [hl4]; omega) ty
  have hb5 : Below W.heap.size W W5 := below_append hb4 o4 hz4 g5
  refine ⟨p3, c3, W3, r3, p4, c4, W4, r4, p5, c5, W5, r5, hb.trans (hb5.mono hb.size), ?_, hb3⟩
  have := o5.mono hb.size
  rw [List.append_assoc] at this
  exact this

set_option maxRecDepth 100000 in
set_option maxHeartbeats 16000000 in
theorem refFrom_any (p : Option Addr) (cap : Nat) (xs : List Pr) (hn : xs.length ≤ 1000) (low : ByteArray) (hlow : low.size ≤ maxLen) (w : World) (hp : PairsAt w p xs) :
    Calls Try.prog 18 #[.slice p xs.length cap, .string low] w fun e w' => ∃ v, e = .returned v ∧ MadeP w w' v (Rf.fromR xs low) := by
  have HP := Lib.hid hp
  have hall : ∀ x ∈ xs, PrIn x := fun x hx => by
    obtain ⟨i, hi, rfl⟩ := List.getElem_of_mem hx
    exact (hp i hi).elim fun _ h => h.2.2.2
  have HA := Lib.hid hall
  have HLW := Lib.hid hlow
  clear hp hall hlow
  go_enter Try.func18, Try.ntmps18
  go_wp2_with fail
  go_loopw [5, 6] (fun mv iv wr => ∃ i : Nat, i ≤ xs.length ∧ iv = .int .i64 (i : Nat) ∧ Hid (Below w.heap.size w wr ∧ OwnPairs wr w.heap.size mv (Rf.fromR (xs.take i) low) ∧ ((Rf.fromR (xs.take i) low).length = 0 → mv = .slice none 0 0))) (fun _ iv _ => xs.length - (intOf iv).toNat)
  case atStart => exact ⟨0, Nat.zero_le _, rfl, Lib.hid ⟨Below.refl _ _, OwnPairs.nil _ _, fun _ => rfl⟩⟩
  case round =>
    obtain ⟨i, hi, rfl, HR⟩ := hrel
    by_cases hlt : i < xs.length
    · obtain ⟨A, rfl, a0, a1, -⟩ := HP.out.at HR.out.1 hlt
      have i0 : (i : Int) < (xs.length : Int) := by omega
      have i1 : (0 : Int) ≤ (i : Int) := by omega
      have HRT := Lib.hid (Rf.fromR_take (low := low) hlt)
      have hc := HA.out _ (List.getElem_mem hlt)
      have hml : (Rf.fromR (xs.take i) low).length ≤ 1000 := Nat.le_trans (Rf.fromR_length _ _) (by rw [List.length_take]; omega)
      have hMin : Hid (∀ x ∈ Rf.fromR (xs.take i) low, PrIn x) := Lib.hid fun x hx => HA.out x (List.mem_of_mem_take (Rf.mem_fromR.1 hx).1)
      have HC := Lib.hid hc
      have HPC := Lib.hid (fun (W : World) (hb : Below w.heap.size w W) => HP.out.cells hb hlt)
      have hcz := hc.1
      clear hc
      generalize xs[i] = c at *
      generalize Rf.fromR (xs.take i) low = M at *
      obtain ⟨pm, cm, hmv, -, -⟩ := HR.out.2.1.shape
      subst hmv
      go_wp2_with fail
      refine (refLess_any c.1 low hcz HLW.out wr).mono ?_
      rintro e w2 ⟨rfl, n, rfl⟩
      by_cases hcl : Mm.lt c.1 low = true
      · have HRP := Lib.hid (HRT.out.trans (if_pos hcl))
        go_wp2_with fail
        go_roundw
        case rel => exact ⟨i + 1, by omega, by go_num, Lib.hid ⟨below_dN HR.out.1 _, by rw [HRP.out]; exact HR.out.2.1.below (below_dN (Below.refl _ wr) n), by rw [HRP.out]; exact HR.out.2.2⟩⟩
        case measure => simp [intOf]; omega
      · have HRP := Lib.hid (HRT.out.trans (if_neg hcl))
        have hcl' : Mm.lt c.1 low = false := by simpa using hcl
        obtain ⟨W, hW⟩ : ∃ W, wr.drewN n = W := ⟨_, rfl⟩
        have hbW : Below w.heap.size w W := by rw [← hW]; exact below_dN HR.out.1 _
        have hoW : OwnPairs W w.heap.size (.slice pm M.length cm) M := by rw [← hW]; exact HR.out.2.1.below (below_dN (Below.refl _ wr) n)
        have HBW := Lib.hid hbW
        have HOW := Lib.hid hoW
        have HPW := Lib.hid (HPC.out W hbW)
        have hnil := HR.out.2.2
        rw [hW]
        clear hcl hW hbW hoW a0 a1 HRT
        rw [hcl']
        by_cases hm0 : M.length = 0
        · have e1 := hnil hm0
          simp only [Value.slice.injEq] at e1
          obtain ⟨rfl, -, rfl⟩ := e1
          obtain rfl := List.eq_nil_of_length_eq_zero hm0
          clear hnil hm0 hml
          simp only [List.length_nil]
          go_wp2_with fail
          go_loopw [7] (fun kv wr2 => kv = .int .i64 0 ∧ (∃ q, wr2 = W.drewN q)) (fun _ _ => 0)
          case atStart => exact ⟨rfl, 0, rfl⟩
          case round =>
            obtain ⟨rfl, q, rfl⟩ := hrel
            go_wp2_with fail
            go_quiet (fail)
            (try rw [World.drewN_drewN])
            generalize hW2 : W.drewN (q + nq) = W2 at *
            have hb2 : Below W.heap.size W W2 := by rw [← hW2]; exact below_dN (Below.refl _ W) _
            obtain ⟨d0, d1⟩ := HPC.out W2 (HBW.out.trans (hb2.mono HBW.out.size))
            have r3 := app_nil W2 (.slice none 0 0) none 0 0 rfl 30 (by obtain ⟨i00, hi0, hz0, hz1, hz2⟩ := info_parts infoP; exact ⟨i00, hi0, hz1⟩) (Nat.le_refl _) (Nat.zero_le _)
            have o3' := (OwnPairs.nil W2 W2.heap.size).below (below_alloc W2 (.cells #[.string c.1, .string c.2] 44))
            obtain ⟨p4, c4, W4, r4, o4, g4⟩ := pr_append o3' ⟨W2.heap.size, 0, none⟩ [c] 1 1 rfl (by simpa [prsCells, prCells] using news_two W2 (.string c.1) (.string c.2) 44) (by simp) (by simp) 1 (by simp) 30
            have hb4 : Below W2.heap.size W2 W4 := below_append ((Below.refl _ W2).trans (below_alloc W2 _)) o3' (by simp) g4
            obtain ⟨p4', c4', e4, hl4', hc4'⟩ := o4.shape
            have hl4 : 1 ≤ c4 := by cases e4; exact hl4'
            have hc4 : c4 ≤ maxLen := by cases e4; exact hc4'
            clear e4 hl4' hc4'
            have r5 := app_nil W4 (.slice p4 1 c4) p4 1 c4 rfl 30 (by obtain ⟨i00, hi0, hz0, hz1, hz2⟩ := info_parts infoP; exact ⟨i00, hi0, hz1⟩) hl4 hc4
            have HB5 := Lib.hid ((HBW.out.trans (hb2.mono HBW.out.size)).trans (hb4.mono (Nat.le_trans HBW.out.size hb2.size)))
            have HO5 := Lib.hid (o4.mono (Nat.le_trans HBW.out.size hb2.size))
            have HIN : Hid (Rf.ins [] c = [c]) := Lib.hid rfl
            clear o3' o4 g4 hb4 hb2 hl4 hc4
            go_wp2_with (at_builtin; first
              | refine Lib.wpList_append_run _ rfl (.tmp 41) (.tmp 44) _ _ rfl _ _ rfl rfl _ _ r3 ?_
              | refine Lib.wpList_append_run _ rfl (.tmp 46) (.tmp 51) _ _ rfl _ _ rfl rfl _ _ r4 ?_
              | refine Lib.wpList_append_run _ rfl (.tmp 53) (.tmp 56) _ _ rfl _ _ rfl rfl _ _ r5 ?_)
            go_roundw
            case rel => exact ⟨i + 1, by omega, by go_num, Lib.hid ⟨HB5.out, by rw [HRP.out, HIN.out]; exact HO5.out, by rw [HRP.out, HIN.out]; intro h; cases h⟩⟩
            case measure => simp [intOf]; omega
        · obtain ⟨g, cap2, e1, hcap, hcapm, hMat⟩ := HOW.out.opens hMin.out hm0
          simp only [Value.slice.injEq] at e1
          obtain ⟨rfl, -, rfl⟩ := e1
          have HMA := Lib.hid hMat
          clear hnil hMat HR HOW
          obtain ⟨ml, hmle⟩ : ∃ ml, M.length = ml := ⟨_, rfl⟩
          have HMLE := Lib.hid hmle
          rw [hmle] at hm0 hcap hml ⊢
          clear hmle
          go_wp2_with fail
          go_loopw [7] (fun kv wr2 => ∃ j : Nat, j ≤ ml ∧ kv = .int .i64 (j : Nat) ∧ (∃ q, wr2 = W.drewN q) ∧ Hid (∀ a (h : a < M.length), a < j → Mm.lt M[a].1 c.1 = true)) (fun kv _ => ml - (intOf kv).toNat)
          case atStart => exact ⟨0, Nat.zero_le _, rfl, ⟨0, rfl⟩, Lib.hid fun a h h2 => by omega⟩
          case round =>
            obtain ⟨j, hj, rfl, ⟨q, rfl⟩, HJ⟩ := hrel
            have j0 : (0 : Int) ≤ (j : Int) := by omega
            have hexit : ∀ (hx : j = ml ∨ ∃ h : j < M.length, Mm.lt M[j].1 c.1 = false), Rf.cnt M c.1 = j := fun hx => by
              refine Rf.cnt_is (by rw [HMLE.out]; exact hj) HJ.out fun h => ?_
              rcases hx with hx | ⟨h2, hx⟩
              · rw [HMLE.out] at h; omega
              · exact hx
            have HX := Lib.hid hexit
            clear hexit
            by_cases hjl : j < ml
            · have hjm : j < M.length := by rw [HMLE.out]; exact hjl
              have j1 : (j : Int) < (ml : Int) := by omega
              obtain ⟨m0, m1⟩ := HMA.out.cells (Below.refl _ W) hjm
              have m0' := m0
              rw [addr_at] at m0'
              have cw := HPW.out.1
              have hqz := (hMin.out _ (List.getElem_mem hjm)).1
              have HQL := Lib.hid (fun n => quietLess M[j].1 c.1 hqz hcz (W.drewN q) n)
              have HQLb := Lib.hid (fun n => quietLess2 M[j].1 c.1 hqz hcz W q n)
              have HX2 : Hid (Mm.lt M[j].1 c.1 = false → Rf.cnt M c.1 = j) := Lib.hid fun h => HX.out (.inr ⟨hjm, h⟩)
              have HJ2 : Hid (Mm.lt M[j].1 c.1 = true → ∀ a (h : a < M.length), a < j + 1 → Mm.lt M[a].1 c.1 = true) := Lib.hid fun h a h1 h2 => by
                by_cases e : a = j
                · subst e; exact h
                · exact HJ.out a h1 (by omega)
              clear HX
              generalize M[j].1 = k2 at *
              obtain ⟨bl, hbl⟩ : ∃ bl, Mm.lt k2 c.1 = bl := ⟨_, rfl⟩
              rw [hbl] at HQL HQLb HX2 HJ2
              clear hbl
              have hcapj : (j : Int) ≤ (cm : Int) := by omega
              go_wp2_with fail
              go_quiet ((go_at_call 40; first | exact HQL.out _ | exact HQLb.out _))
              cases bl with
              | true =>
                go_wp2_with fail
                go_roundw
                case rel => exact ⟨j + 1, by omega, by go_num, ⟨_, rfl⟩, Lib.hid (HJ2.out rfl)⟩
                case measure => simp [intOf]; omega
              | false =>
                have hcn := HX2.out rfl
                (try rw [World.drewN_drewN])
                generalize hW2 : W.drewN (q + nq) = W2 at *
                have hb2 : Below W.heap.size W W2 := by rw [← hW2]; exact below_dN (Below.refl _ W) _
                have HB2 := Lib.hid hb2
                have hMW := HMA.out.below hb2
                have hbW2 := HBW.out.trans (hb2.mono HBW.out.size)
                obtain ⟨A2, hA2⟩ : ∃ A2 : Addr, A2 = ⟨g, j * 2, none⟩ := ⟨_, rfl⟩
                have hA3 : M.length - j = 0 ∨ A2 = (⟨g, 0, none⟩ : Addr).add (j * 2) := .inr (by rw [hA2, addr_at])
                subst hA2
                have hcj : ¬ cm = j := by omega
                obtain ⟨p3, c3, W3, r3, p4, c4, W4, r4, p5, c5, W5, r5, hb5, ho5, hb23⟩ := from_appends (c := c) (cap := cm) hbW2 hMW (by rw [HMLE.out]; exact hml) HC.out (j := j) (by rw [HMLE.out]; exact hj) _ hA3 30
                have hins : Rf.ins M c = M.take j ++ c :: M.drop j := by unfold Rf.ins; rw [hcn]
                rw [← hins] at ho5
                rw [HMLE.out] at r5 ho5
                obtain ⟨d0, d1⟩ := HPC.out W3 (hbW2.trans (hb23.mono hbW2.size))
                have HB5 := Lib.hid hb5
                have HO5 := Lib.hid ho5
                have HLN : Hid ((Rf.ins M c).length = ml + 1) := Lib.hid (by rw [Rf.ins_length, HMLE.out])
                have k1 : (j : Int) ≤ (cm : Int) := by omega
                have k2 : (j : Int) ≤ (ml : Int) := by omega
                have k3 : j ≤ cm := by omega
                have k4 : j ≤ ml := by omega
                have k6 : (ml : Int) ≤ (cm : Int) := by omega
                have k5 : IntKind.i64.wrap (j : Int) = (j : Int) := IntWalk.i64_in _ (by omega)
                clear hb2 hMW hA3 hb5 ho5 hb23 hins hcn hbW2
                go_upto_region 10 with fail
                obtain ⟨nv, hnv⟩ : ∃ nv, nv = Value.slice none 0 0 := ⟨_, rfl⟩
                have HNV := Lib.hid hnv
                rw [← hnv] at r3 ⊢
                clear hnv
                go_wp2_with (at_builtin; first
                  | refine Lib.wpList_append_run _ rfl (.tmp 41) (.tmp 44) _ _ rfl _ _ rfl rfl _ _ r3 ?_
                  | refine Lib.wpList_append_run _ rfl (.tmp 46) (.tmp 51) _ _ rfl _ _ rfl rfl _ _ r4 ?_
                  | refine Lib.wpList_append_run _ rfl (.tmp 53) (.tmp 56) _ _ rfl _ _ rfl rfl _ _ r5 ?_)
                have hnv := HNV.out
                subst hnv
                go_roundw
                case rel => exact ⟨.slice p5 (ml + 1) c5, .int .i64 ((i : Int) + 1), ⟨i + 1, by omega, by go_num, Lib.hid ⟨HB5.out, by rw [HRP.out]; exact HO5.out, fun h => absurd (congrArg List.length (HRP.out.symm.trans h)) (by rw [HLN.out]; simp)⟩⟩, rfl, rfl, rfl⟩
                case measure => simp [intOf]; omega
            · have j1 : ¬ (j : Int) < (ml : Int) := by omega
              have hcn := HX.out (.inl (by omega))
              go_wp2_with fail
              go_quiet (fail)
              obtain rfl : j = ml := by omega
              (try rw [World.drewN_drewN])
              generalize hW2 : W.drewN (q + nq) = W2 at *
              have hb2 : Below W.heap.size W W2 := by rw [← hW2]; exact below_dN (Below.refl _ W) _
              have HB2 := Lib.hid hb2
              have hMW := HMA.out.below hb2
              have hbW2 := HBW.out.trans (hb2.mono HBW.out.size)
              by_cases hcj : cm = j
              · subst hcj
                obtain ⟨A2, hA2⟩ : ∃ A2 : Addr, A2 = ⟨g, 0, none⟩ := ⟨_, rfl⟩
                have hA3 : M.length - cm = 0 ∨ A2 = (⟨g, 0, none⟩ : Addr).add (cm * 2) := .inl (by rw [HMLE.out]; omega)
                subst hA2
                obtain ⟨p3, c3, W3, r3, p4, c4, W4, r4, p5, c5, W5, r5, hb5, ho5, hb23⟩ := from_appends (c := c) (cap := cm) hbW2 hMW (by rw [HMLE.out]; exact hml) HC.out (j := cm) (by rw [HMLE.out]; exact hj) _ hA3 30
                have hins : Rf.ins M c = M.take cm ++ c :: M.drop cm := by unfold Rf.ins; rw [hcn]
                rw [← hins] at ho5
                rw [HMLE.out] at r5 ho5
                simp only [Nat.sub_self] at r5
                obtain ⟨d0, d1⟩ := HPC.out W3 (hbW2.trans (hb23.mono hbW2.size))
                have HB5 := Lib.hid hb5
                have HO5 := Lib.hid ho5
                have HLN : Hid ((Rf.ins M c).length = cm + 1) := Lib.hid (by rw [Rf.ins_length, HMLE.out])
                have k1 : (cm : Int) ≤ (cm : Int) := by omega
                have k2 : (cm : Int) ≤ (cm : Int) := by omega
                have k3 : cm ≤ cm := by omega
                have k4 : cm ≤ cm := by omega
                have k6 : (cm : Int) ≤ (cm : Int) := by omega
                have k5 : IntKind.i64.wrap (cm : Int) = (cm : Int) := IntWalk.i64_in _ (by omega)
                clear hb2 hMW hA3 hb5 ho5 hb23 hins hcn hbW2
                go_upto_region 10 with fail
                obtain ⟨nv, hnv⟩ : ∃ nv, nv = Value.slice none 0 0 := ⟨_, rfl⟩
                have HNV := Lib.hid hnv
                rw [← hnv] at r3 ⊢
                clear hnv
                go_wp2_with (at_builtin; first
                  | refine Lib.wpList_append_run _ rfl (.tmp 41) (.tmp 44) _ _ rfl _ _ rfl rfl _ _ r3 ?_
                  | refine Lib.wpList_append_run _ rfl (.tmp 46) (.tmp 51) _ _ rfl _ _ rfl rfl _ _ r4 ?_
                  | refine Lib.wpList_append_run _ rfl (.tmp 53) (.tmp 56) _ _ rfl _ _ rfl rfl _ _ r5 ?_)
                have hnv := HNV.out
                subst hnv
                go_roundw
                case rel => exact ⟨.slice p5 (cm + 1) c5, .int .i64 ((i : Int) + 1), ⟨i + 1, by omega, by go_num, Lib.hid ⟨HB5.out, by rw [HRP.out]; exact HO5.out, fun h => absurd (congrArg List.length (HRP.out.symm.trans h)) (by rw [HLN.out]; simp)⟩⟩, rfl, rfl, rfl⟩
                case measure => simp [intOf]; omega
              · obtain ⟨A2, hA2⟩ : ∃ A2 : Addr, A2 = ⟨g, j * 2, none⟩ := ⟨_, rfl⟩
                have hA3 : M.length - j = 0 ∨ A2 = (⟨g, 0, none⟩ : Addr).add (j * 2) := .inr (by rw [hA2, addr_at])
                subst hA2
                obtain ⟨p3, c3, W3, r3, p4, c4, W4, r4, p5, c5, W5, r5, hb5, ho5, hb23⟩ := from_appends (c := c) (cap := cm) hbW2 hMW (by rw [HMLE.out]; exact hml) HC.out (j := j) (by rw [HMLE.out]; exact hj) _ hA3 30
                have hins : Rf.ins M c = M.take j ++ c :: M.drop j := by unfold Rf.ins; rw [hcn]
                rw [← hins] at ho5
                rw [HMLE.out] at r5 ho5
                simp only [Nat.sub_self] at r5
                obtain ⟨d0, d1⟩ := HPC.out W3 (hbW2.trans (hb23.mono hbW2.size))
                have HB5 := Lib.hid hb5
                have HO5 := Lib.hid ho5
                have HLN : Hid ((Rf.ins M c).length = j + 1) := Lib.hid (by rw [Rf.ins_length, HMLE.out])
                have k1 : (j : Int) ≤ (cm : Int) := by omega
                have k2 : (j : Int) ≤ (j : Int) := by omega
                have k3 : j ≤ cm := by omega
                have k4 : j ≤ j := by omega
                have k6 : (j : Int) ≤ (cm : Int) := by omega
                have k5 : IntKind.i64.wrap (j : Int) = (j : Int) := IntWalk.i64_in _ (by omega)
                clear hb2 hMW hA3 hb5 ho5 hb23 hins hcn hbW2
                go_upto_region 10 with fail
                obtain ⟨nv, hnv⟩ : ∃ nv, nv = Value.slice none 0 0 := ⟨_, rfl⟩
                have HNV := Lib.hid hnv
                rw [← hnv] at r3 ⊢
                clear hnv
                go_wp2_with (at_builtin; first
                  | refine Lib.wpList_append_run _ rfl (.tmp 41) (.tmp 44) _ _ rfl _ _ rfl rfl _ _ r3 ?_
                  | refine Lib.wpList_append_run _ rfl (.tmp 46) (.tmp 51) _ _ rfl _ _ rfl rfl _ _ r4 ?_
                  | refine Lib.wpList_append_run _ rfl (.tmp 53) (.tmp 56) _ _ rfl _ _ rfl rfl _ _ r5 ?_)
                have hnv := HNV.out
                subst hnv
                go_roundw
                case rel => exact ⟨.slice p5 (j + 1) c5, .int .i64 ((i : Int) + 1), ⟨i + 1, by omega, by go_num, Lib.hid ⟨HB5.out, by rw [HRP.out]; exact HO5.out, fun h => absurd (congrArg List.length (HRP.out.symm.trans h)) (by rw [HLN.out]; simp)⟩⟩, rfl, rfl, rfl⟩
                case measure => simp [intOf]; omega
    · obtain rfl : i = xs.length := by omega
      have i0 : ¬ (xs.length : Int) < (xs.length : Int) := by omega
      have hr := HR.out
      rw [List.take_length] at hr
      obtain ⟨p', c', e1, -, -, e4⟩ := hr.2.1.pairs fun x hx => HA.out x (Rf.mem_fromR.1 hx).1
      have HE4 := Lib.hid e4
      have HB := Lib.hid hr.1
      subst e1
      clear hr e4
      go_wp2_with fail
      go_ret
      exact ⟨.slice p' (Rf.fromR xs low).length c', rfl, p', c', rfl, HE4.out, HB.out⟩

end Go.Proofs.Ythioogncbhkaoaa
