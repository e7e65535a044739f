/-
  Walks over package table: at, behind and its iterator. Condition: rows of at most 2^47 bytes.
-/
import Derived.Test.YtgmaccfhgeocdaaTabRead2
import Derived.TacticsInMore
import Derived.LoopNIn
import Derived.LoopIn
namespace Go.Proofs.Ytgmaccfhgeocdaa
open Go.RowKit Tb

/-- What at answers. -/
def atV (o : Option (En × Nat)) : Value := match o with
  | some (e, q) => .tuple #[enV e, .int .i64 (q : Nat), .bool true]
  | none => .tuple #[.agg #[.string ⟨#[]⟩, .string ⟨#[]⟩, .bool false], .int .i64 0, .bool false]
/-- A table whose rows are R lies at a. -/
def RowsAt (W : World) (a : Nat) (R : List UInt8) : Prop := ∃ c v, W.heap[a]? = some (tabO c v (ba R))
theorem TabAt.rows {W : World} {a c : Nat} {I : List Blk} {R : List UInt8} (h : TabAt W a c I R) : RowsAt W a R := by obtain ⟨p, cap, h1, -⟩ := h; exact ⟨_, _, h1⟩
theorem RowsAt.cells {W : World} {a : Nat} {R : List UInt8} (h : RowsAt W a R) : W.cell? ⟨a, 2, none⟩ = some (.string (ba R)) ∧ a < W.heap.size := by
  obtain ⟨c, v, h1⟩ := h
  exact ⟨(cells3 h1).2.2, (Array.getElem?_eq_some_iff.1 h1).1⟩
theorem RowsAt.below {W W' : World} {a : Nat} {R : List UInt8} (h : RowsAt W a R) (hb : Below W.heap.size W W') : RowsAt W' a R := by
  obtain ⟨c, v, h1⟩ := h
  exact ⟨c, v, (hb.block a (Array.getElem?_eq_some_iff.1 h1).1).trans h1⟩
theorem TabAt.cells {W : World} {a c : Nat} {I : List Blk} {R : List UInt8} (h : TabAt W a c I R) : W.cell? ⟨a, 2, none⟩ = some (.string (ba R)) ∧ a < W.heap.size ∧ W.cell? ⟨a, 0, none⟩ = some (.int .i64 (c : Nat)) := by
  obtain ⟨p, cap, h1, -⟩ := h
  exact ⟨(cells3 h1).2.2, (Array.getElem?_eq_some_iff.1 h1).1, (cells3 h1).1⟩
theorem Outs.upon {b : Nat} {w w' w'' : World} (h : Below w.heap.size w w') (ho : Outs [b] w' w'') (hb : w.heap.size ≤ b) : Below w.heap.size w w'' :=
  ⟨ho.os.trans h.os, ho.tape.trans h.tape, ho.output.trans h.output, Nat.le_trans h.size ho.size, fun k hk => (ho.block k (Nat.lt_of_lt_of_le hk h.size) (by simp; omega)).trans (h.block k hk)⟩
theorem at_nil (w : World) (pi : Int) : Calls Try.prog 29 #[.pointer none, .int .i64 pi] w fun e w' => e = .returned (atV none) ∧ Below w.heap.size w w' := by
  go_enter Try.func29, Try.ntmps29
  go_wp2_with fail
  exact bodyPost_ret (v := atV none) (by simp [results, Try.results29, go_sem, atV]) rfl ⟨rfl, below_alloc _ _⟩
def entO (e : En) : Obj := .cells #[.string e.key, .string e.value, .bool e.gone] 31 (0, 0)
theorem ent_set {A : World} {g : Nat} {e : En} (h : A.heap[g]? = some (entO e)) (e' : En) : (((A.setCell ⟨g, 0, none⟩ (.string e'.key)).setCell ⟨g, 1, none⟩ (.string e'.value)).setCell ⟨g, 2, none⟩ (.bool e'.gone)).heap[g]? = some (entO e') := by
  have h1 := heap_setCell_same A g 0 _ _ (.string e'.key) h
  have h2 := heap_setCell_same _ g 1 _ _ (.string e'.value) h1
  exact heap_setCell_same _ g 2 _ _ (.bool e'.gone) h2
theorem results_at (tmps : Array Value) (w : World) (g : Nat) (e : En) (q : Nat) (i : Int) (hp : tmps.getD 4 undef = .pointer (some ⟨g, 0, none⟩)) (hb : tmps.getD 5 undef = .int .i64 i) (hi : i = (q : Nat)) (hb2 : tmps.getD 6 undef = .bool true) (hc : w.heap[g]? = some (entO e)) :
    (results Try.f29 tmps).run Try.prog w = .ok (atV (some (e, q))) w := by
  obtain ⟨r0, r1, r2⟩ := cells3 hc
  subst hi
  have hp' : tmps[4]?.getD undef = .pointer (some ⟨g, 0, none⟩) := by simpa using hp
  have hb' : tmps[5]?.getD undef = .int .i64 (q : Nat) := by simpa using hb
  have hb2' : tmps[6]?.getD undef = .bool true := by simpa using hb2
  simp [results, hp', hb', hb2', asAddr, loadVar, r0, r1, r2, go_sem, atV, enV]
theorem atR_yes {R D D1 D2 D3 D4 : List UInt8} {p kn vn vm : Nat} (h : p < R.length) (hD : D = R.drop p) (h1 : D1 = D.drop 1) (h2 : D2 = D1.drop 2) (hk : kn = val (D.take 1)) (hv : vn = val (D1.take 2)) (h3 : D3 = D2.drop kn)
    (hm : vm = (if vn = 16385 then 0 else vn)) (h4 : D4 = D3.drop vm) : atR R p = some (⟨ba (D2.take kn), ba (D3.take vm), decide (vn = 16385)⟩, R.length - D4.length) := by
  subst h4 hm h3 hv hk h2 h1 hD
  unfold atR
  rw [if_pos h]
  simp only [List.drop_drop]
  rfl
set_option maxRecDepth 100000 in
set_option maxHeartbeats 8000000 in
theorem at_any {w : World} {a : Nat} {R : List UInt8} (h : RowsAt w a R) (hR : R.length ≤ 140737488355328) (p : Nat) (hp : p ≤ 140737488355328) :
    Calls Try.prog 29 #[.pointer (some ⟨a, 0, none⟩), .int .i64 (p : Nat)] w fun e w' => e = .returned (atV (atR R p)) ∧ Below w.heap.size w w' := by
  obtain ⟨ct, ha⟩ := h.cells
  have hsz : (ba R).size = R.length := ba_size R
  by_cases hlt : p < R.length
  · have i1 : ¬ ((ba R).size : Int) ≤ (p : Int) := by rw [hsz]; omega
    have i2 : (0 : Int) ≤ (p : Int) := by omega
    have i3 : (p : Int) ≤ ((ba R).size : Int) := by rw [hsz]; omega
    obtain ⟨D, hD⟩ : ∃ D, D = R.drop p := ⟨_, rfl⟩
    have hex : (ba R).extract p (ba R).size = ba D := by
      have h := drop_mk (ba R) p
      rw [Nat.min_eq_left (by rw [hsz]; omega), bl_ba, ← hD] at h
      exact h
    obtain ⟨D1, hD1⟩ : ∃ D1, D1 = D.drop 1 := ⟨_, rfl⟩
    obtain ⟨D2, hD2⟩ : ∃ D2, D2 = D1.drop 2 := ⟨_, rfl⟩
    obtain ⟨kn, hkn⟩ : ∃ kn, kn = val (D.take 1) := ⟨_, rfl⟩
    obtain ⟨vn, hvn⟩ : ∃ vn, vn = val (D1.take 2) := ⟨_, rfl⟩
    obtain ⟨D3, hD3⟩ : ∃ D3, D3 = D2.drop kn := ⟨_, rfl⟩
    obtain ⟨vm, hvm⟩ : ∃ vm, vm = (if vn = 16385 then 0 else vn) := ⟨_, rfl⟩
    obtain ⟨D4, hD4⟩ : ∃ D4, D4 = D3.drop vm := ⟨_, rfl⟩
    have HA := Lib.hid (atR_yes hlt hD hD1 hD2 hkn hvn hD3 hvm hD4)
    have hk1 : kn ≤ 255 := by
      have h := val_lt (D.take 1)
      rw [List.length_take] at h
      have : 256 ^ min 1 D.length ≤ 256 ^ 1 := Nat.pow_le_pow_right (by omega) (by omega)
      omega
    have hv1 : vn ≤ 65535 := by
      have h := val_lt (D1.take 2)
      rw [List.length_take] at h
      have : 256 ^ min 2 D1.length ≤ 256 ^ 2 := Nat.pow_le_pow_right (by omega) (by omega)
      omega
    have l0 : D.length ≤ R.length := by rw [hD, List.length_drop]; omega
    have l1 : D1.length ≤ R.length := by rw [hD1, List.length_drop]; omega
    have l2 : D2.length ≤ R.length := by rw [hD2, List.length_drop]; omega
    have l3 : D3.length ≤ R.length := by rw [hD3, List.length_drop]; omega
    have l4 : D4.length ≤ R.length := by rw [hD4, List.length_drop]; omega
    have H1 := Lib.hid hD1
    have H2 := Lib.hid hD2
    have H3 := Lib.hid hD3
    have H4 := Lib.hid hD4
    have HK := Lib.hid hkn
    have HV := Lib.hid hvn
    have HM := Lib.hid hvm
    have HT := Lib.hid h
    have HS := Lib.hid hsz
    have hab : w.heap.size ≤ (w.alloc (.cells #[.string ⟨#[]⟩, .string ⟨#[]⟩, .bool false] 31)).heap.size := by simp
    have hb1 := (below_alloc w (.cells #[.string ⟨#[]⟩, .string ⟨#[]⟩, .bool false] 31)).alloc hab (curO (ba D))
    have hc1 : ((w.alloc (.cells #[.string ⟨#[]⟩, .string ⟨#[]⟩, .bool false] 31)).alloc (curO (ba D))).heap[w.heap.size + 1]? = some (curO (ba D)) := by
      have := heap_alloc_new (w.alloc (.cells #[.string ⟨#[]⟩, .string ⟨#[]⟩, .bool false] 31)) (curO (ba D)); rw [World.size_alloc] at this; exact this
    have hr1 : ((w.alloc (.cells #[.string ⟨#[]⟩, .string ⟨#[]⟩, .bool false] 31)).alloc (curO (ba D))).heap[w.heap.size]? = some (.cells #[.string ⟨#[]⟩, .string ⟨#[]⟩, .bool false] 31 (0, 0)) :=
      (Below.heap_alloc _ _ _ (by simp)).trans (heap_alloc_new w _)
    have HB1 := Lib.hid (And.intro hb1 (And.intro hc1 hr1))
    clear hD1 hD2 hD3 hD4 hkn hvn hvm h hD hb1 hc1 hr1 hab hsz
    go_enter Try.func29, Try.ntmps29
    go_wp2_with fail
    have st : ∀ (W W' : World) (o o' : Obj) , Below w.heap.size w W ∧ W.heap[w.heap.size + 1]? = some o ∧ W.heap[w.heap.size]? = some (.cells #[.string ⟨#[]⟩, .string ⟨#[]⟩, .bool false] 31 (0, 0)) → W'.heap[w.heap.size + 1]? = some o' → Outs [w.heap.size + 1] W W' →
        Below w.heap.size w W' ∧ W'.heap[w.heap.size + 1]? = some o' ∧ W'.heap[w.heap.size]? = some (.cells #[.string ⟨#[]⟩, .string ⟨#[]⟩, .bool false] 31 (0, 0)) := fun W W' o o' h1 h2 h3 =>
      ⟨Outs.upon h1.1 h3 (by omega), h2, (h3.block _ (Array.getElem?_eq_some_iff.1 h1.2.2).1 (by simp)).trans h1.2.2⟩
    have ST := Lib.hid st
    clear st
    refine (cur_number2 HB1.out.2.1 1 rfl (by omega) (by omega)).mono ?_
    rintro e w1 ⟨rfl, h1, o1⟩
    rw [← HK.out]
    rw [← H1.out] at h1
    have HB2 := Lib.hid (ST.out _ _ _ _ HB1.out h1 o1)
    clear h1 o1 ct hex
    go_wp2_with fail
    refine (cur_number2 HB2.out.2.1 2 rfl (by omega) (by omega)).mono ?_
    rintro e w2 ⟨rfl, h1, o1⟩
    rw [← HV.out]
    rw [← H2.out] at h1
    have HB3 := Lib.hid (ST.out _ _ _ _ HB2.out h1 o1)
    clear h1 o1
    have hvml : vm ≤ 65535 := by rw [HM.out]; split <;> omega
    by_cases hg : vn = 16385
    · have d1 : ((vn : Int) == 16385) = true := by rw [beq_iff_eq]; omega
      have HM0 : Hid (vm = 0) := Lib.hid (by rw [HM.out, if_pos hg])
      have hG : decide (vn = 16385) = true := by simpa using hg
      rw [hG] at HA
      clear hg hG
      go_wp2_with fail
      refine (cur_take2 HB3.out.2.1 kn rfl (by omega) (by omega)).mono ?_
      rintro e w3 ⟨rfl, h1, o1⟩
      rw [← H3.out] at h1
      have HB4 := Lib.hid (ST.out _ _ _ _ HB3.out h1 o1)
      clear h1 o1
      go_wp2_with fail
      refine (cur_take2 HB4.out.2.1 vm (by rw [HM0.out]; try rfl) (by omega) (by omega)).mono ?_
      rintro e w4 ⟨rfl, h1, o1⟩
      rw [← H4.out] at h1
      have HB5 := Lib.hid (ST.out _ _ _ _ HB4.out h1 o1)
      clear h1 o1
      obtain ⟨Kb, hKb⟩ : ∃ Kb, Kb = ba (D2.take kn) := ⟨_, rfl⟩
      obtain ⟨Vb, hVb⟩ : ∃ Vb, Vb = ba (D3.take vm) := ⟨_, rfl⟩
      rw [← hKb, ← hVb] at HA ⊢
      clear hKb hVb
      have hw := HB5.out.1.size
      have hba := (below_alloc w4 (.cells #[.string Kb, .string Vb, .bool true] 31))
      have hfin := HB5.out.1.trans (hba.mono hw)
      have ct := (HT.out.below hfin).cells.1
      have hcc : (w4.alloc (.cells #[.string Kb, .string Vb, .bool true] 31)).heap[w.heap.size + 1]? = some (curO (ba D4)) := (hba.block _ (Array.getElem?_eq_some_iff.1 HB5.out.2.1).1).trans HB5.out.2.1
      have cc : (w4.alloc (.cells #[.string Kb, .string Vb, .bool true] 31)).cell? ⟨w.heap.size + 1, 0, none⟩ = some (.string (ba D4)) := by rw [cell_of_row _ _ _ _ _ _ hcc]; rfl
      have hrr : (w4.alloc (.cells #[.string Kb, .string Vb, .bool true] 31)).heap[w.heap.size]? = some (.cells #[.string ⟨#[]⟩, .string ⟨#[]⟩, .bool false] 31 (0, 0)) := (hba.block _ (Array.getElem?_eq_some_iff.1 HB5.out.2.2).1).trans HB5.out.2.2
      obtain ⟨r0, r1, r2⟩ := cells3 hrr
      have rf := frozen_of_row _ w.heap.size 0 _ _ hrr
      have rf1 := frozen_of_row _ w.heap.size 1 _ _ hrr
      have rf2 := frozen_of_row _ w.heap.size 2 _ _ hrr
      have HRR := Lib.hid hrr
      have hrl : w.heap.size < w4.heap.size := (Array.getElem?_eq_some_iff.1 HB5.out.2.2).1
      have hne : (w4.heap.size = w.heap.size) = False := by simp; omega
      have HSD : Hid ((ba D4).size = D4.length) := Lib.hid (ba_size D4)
      have z1 : (ba R).size ≤ 140737488355328 := by rw [HS.out]; omega
      have z2 : (ba D4).size ≤ (ba R).size := by rw [HS.out, HSD.out]; omega
      have HF := Lib.hid hfin
      clear hba hfin hcc hrr hw
      go_wp2_with fail
      go_quiet (fail)
      go_wp2_with fail
      rw [HA.out]
      exact bodyPost_ret (v := atV (some (⟨Kb, Vb, true⟩, R.length - D4.length))) (results_at _ _ w.heap.size _ _ _ rfl rfl (by have h1 := HS.out; have h2 := HSD.out; omega) rfl (ent_set (e := ⟨⟨#[]⟩, ⟨#[]⟩, false⟩) HRR.out ⟨Kb, Vb, true⟩)) rfl ⟨rfl, ((HF.out.trans (below_drewN (Below.refl _ _) _)).setCell (Nat.le_refl _) _).setCell (Nat.le_refl _) _ |>.setCell (Nat.le_refl _) _⟩
    · have d1 : ((vn : Int) == 16385) = false := by rw [beq_eq_false_iff_ne]; omega
      have HM0 : Hid (vm = vn) := Lib.hid (by rw [HM.out, if_neg hg])
      have hG : decide (vn = 16385) = false := by simpa using hg
      rw [hG] at HA
      clear hg hG
      go_wp2_with fail
      refine (cur_take2 HB3.out.2.1 kn rfl (by omega) (by omega)).mono ?_
      rintro e w3 ⟨rfl, h1, o1⟩
      rw [← H3.out] at h1
      have HB4 := Lib.hid (ST.out _ _ _ _ HB3.out h1 o1)
      clear h1 o1
      go_wp2_with fail
      refine (cur_take2 HB4.out.2.1 vm (by rw [HM0.out]; try rfl) (by omega) (by omega)).mono ?_
      rintro e w4 ⟨rfl, h1, o1⟩
      rw [← H4.out] at h1
      have HB5 := Lib.hid (ST.out _ _ _ _ HB4.out h1 o1)
      clear h1 o1
      obtain ⟨Kb, hKb⟩ : ∃ Kb, Kb = ba (D2.take kn) := ⟨_, rfl⟩
      obtain ⟨Vb, hVb⟩ : ∃ Vb, Vb = ba (D3.take vm) := ⟨_, rfl⟩
      rw [← hKb, ← hVb] at HA ⊢
      clear hKb hVb
      have hw := HB5.out.1.size
      have hba := (below_alloc w4 (.cells #[.string Kb, .string Vb, .bool false] 31))
      have hfin := HB5.out.1.trans (hba.mono hw)
      have ct := (HT.out.below hfin).cells.1
      have hcc : (w4.alloc (.cells #[.string Kb, .string Vb, .bool false] 31)).heap[w.heap.size + 1]? = some (curO (ba D4)) := (hba.block _ (Array.getElem?_eq_some_iff.1 HB5.out.2.1).1).trans HB5.out.2.1
      have cc : (w4.alloc (.cells #[.string Kb, .string Vb, .bool false] 31)).cell? ⟨w.heap.size + 1, 0, none⟩ = some (.string (ba D4)) := by rw [cell_of_row _ _ _ _ _ _ hcc]; rfl
      have hrr : (w4.alloc (.cells #[.string Kb, .string Vb, .bool false] 31)).heap[w.heap.size]? = some (.cells #[.string ⟨#[]⟩, .string ⟨#[]⟩, .bool false] 31 (0, 0)) := (hba.block _ (Array.getElem?_eq_some_iff.1 HB5.out.2.2).1).trans HB5.out.2.2
      obtain ⟨r0, r1, r2⟩ := cells3 hrr
      have rf := frozen_of_row _ w.heap.size 0 _ _ hrr
      have rf1 := frozen_of_row _ w.heap.size 1 _ _ hrr
      have rf2 := frozen_of_row _ w.heap.size 2 _ _ hrr
      have HRR := Lib.hid hrr
      have hrl : w.heap.size < w4.heap.size := (Array.getElem?_eq_some_iff.1 HB5.out.2.2).1
      have hne : (w4.heap.size = w.heap.size) = False := by simp; omega
      have HSD : Hid ((ba D4).size = D4.length) := Lib.hid (ba_size D4)
      have z1 : (ba R).size ≤ 140737488355328 := by rw [HS.out]; omega
      have z2 : (ba D4).size ≤ (ba R).size := by rw [HS.out, HSD.out]; omega
      have HF := Lib.hid hfin
      clear hba hfin hcc hrr hw
      go_wp2_with fail
      go_quiet (fail)
      go_wp2_with fail
      rw [HA.out]
      exact bodyPost_ret (v := atV (some (⟨Kb, Vb, false⟩, R.length - D4.length))) (results_at _ _ w.heap.size _ _ _ rfl rfl (by have h1 := HS.out; have h2 := HSD.out; omega) rfl (ent_set (e := ⟨⟨#[]⟩, ⟨#[]⟩, false⟩) HRR.out ⟨Kb, Vb, false⟩)) rfl ⟨rfl, ((HF.out.trans (below_drewN (Below.refl _ _) _)).setCell (Nat.le_refl _) _).setCell (Nat.le_refl _) _ |>.setCell (Nat.le_refl _) _⟩
  · have i1 : ((ba R).size : Int) ≤ (p : Int) := by rw [hsz]; omega
    have hn : atR R p = none := at_end R (by omega)
    rw [hn]
    clear hn hsz
    go_enter Try.func29, Try.ntmps29
    go_wp2_with fail
    exact bodyPost_ret (v := atV none) (by simp [results, Try.results29, go_sem, atV]) rfl ⟨rfl, below_alloc _ _⟩
end Go.Proofs.Ytgmaccfhgeocdaa
