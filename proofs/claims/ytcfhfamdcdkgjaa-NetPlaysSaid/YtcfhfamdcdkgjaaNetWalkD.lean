/-
  Walks over package net: take, Lose, Come. Conditions: those in the theorems.
-/
import Derived.Test.YtcfhfamdcdkgjaaNetWalkC
namespace Go.Proofs.Ytcfhfamdcdkgjaa
open Go.RowKit Go.Maps

/-- The block of a row that is not empty. -/
theorem row_open {w : World} {v : Value} {n : Nat} {xs : List Value} (h : w.ownsRow 0 23 3 v n xs) (hn : n ≠ 0) :
    ∃ g cap cur, v = .slice (some ⟨g, 0, none⟩) n cap ∧ w.heap[g]? = some (.cells cur 23 (0, 0)) ∧ n ≤ cap ∧ cap ≤ maxLen ∧ cur.size = cap * 3 ∧ cur.toList.take (n * 3) = xs := by
  rcases h.2 with ⟨rfl, e⟩ | ⟨g, cap, cur, rfl, h2, h3, h4⟩
  · exact absurd e hn
  · exact ⟨g, cap, cur, rfl, h3, h4⟩

set_option maxHeartbeats 400000 in
theorem take_none (i : Int) (w : World) : Calls Try.prog 27 #[.pointer none, .int .i64 i] w fun e w' => e = .returned (.tuple #[pkV Nm.zero, .bool false]) ∧ Below w.heap.size w w' := by
  go_enter Try.func27, Try.ntmps27
  go_wp2_with fail
  refine (place_none i _).mono ?_
  rintro e w' ⟨rfl, rfl⟩
  go_wp2_with fail
  refine bodyPost_ret (v := .tuple #[pkV Nm.zero, .bool false]) (by simp [results, Try.results27, go_sem, pkV, Nm.zero]) rfl ⟨rfl, ?_⟩
  exact (((Below.refl _ _).alloc (Nat.le_refl _) _))

theorem add_lt (A : Addr) (i : Nat) : (A.add i).block = A.block := by unfold Addr.add; split <;> rfl

set_option maxRecDepth 100000 in
set_option maxHeartbeats 4000000 in
theorem take_core {w : World} {a g n cap k : Nat} {mv : Value} {cur : Array Value} {xs : List Value} {p : Nm.Pk} (i : Int)
    (hc : w.heap[a]? = some (.cells #[.slice (some ⟨g, 0, none⟩) n cap, mv] 50 (0, 0))) (hg : w.heap[g]? = some (.cells cur 23 (0, 0))) (hag : a ≠ g)
    (hk : k < n) (hnc : n ≤ cap) (hcm : cap ≤ 9223372036854775807) (hn : n ≤ 1024) (hcs : cur.size = cap * 3) (hxs : cur.toList.take (n * 3) = xs) (hone : ∀ u ∈ xs, u.oneCell' = true) (hp : ∀ j, j < 3 → xs[k * 3 + j]? = (pkCells p)[j]?)
    (hpl : Calls Try.prog 28 #[.pointer (some ⟨a, 0, none⟩), .int .i64 i] (w.alloc (.cells #[.int .i64 0, .int .i64 0, .string ⟨#[]⟩] 23)) fun e w' => e = .returned (.tuple #[.int .i64 (k : Nat), .bool true]) ∧ w.alloc (.cells #[.int .i64 0, .int .i64 0, .string ⟨#[]⟩] 23) = w') :
    Calls Try.prog 27 #[.pointer (some ⟨a, 0, none⟩), .int .i64 i] w fun e w' => e = .returned (.tuple #[pkV p, .bool true]) ∧
      ∃ cur2, w'.heap[g]? = some (.cells cur2 23 (0, 0)) ∧ cur2.size = cap * 3 ∧ cur2.toList.take ((k + (n - (k + 1))) * 3) = xs.take (k * 3) ++ xs.drop ((k + 1) * 3) ∧
        w'.heap[a]? = some (.cells #[.slice (some ⟨g, 0, none⟩) (k + (n - (k + 1))) cap, mv] 50 (0, 0)) ∧ Turned (fun b => b = a ∨ b = g) w w' := by
  obtain ⟨f, t, d⟩ := p
  have hal := (Array.getElem?_eq_some_iff.1 hc).1
  have hgl := (Array.getElem?_eq_some_iff.1 hg).1
  -- the world behind the two blocks of the call's own
  obtain ⟨W2, hW2⟩ : ∃ W2, (w.alloc (.cells #[.int .i64 0, .int .i64 0, .string ⟨#[]⟩] 23)).alloc (.cells #[.int .i64 f, .int .i64 t, .string d] 23) = W2 := ⟨_, rfl⟩
  obtain ⟨r1, r2⟩ := two_new w (.cells #[.int .i64 0, .int .i64 0, .string ⟨#[]⟩] 23) (.cells #[.int .i64 f, .int .i64 t, .string d] 23)
  have hb2 : Below w.heap.size w W2 := by rw [← hW2]; exact ((Below.refl _ w).alloc (Nat.le_refl _) _).alloc (by simp) _
  rw [hW2] at r1 r2
  have hz2 : W2.heap.size = w.heap.size + 2 := by rw [← hW2]; simp
  obtain ⟨a0, a1, af⟩ := cells2 (w := w) hc
  have cellAt : ∀ j, j < 3 → w.cell? ⟨g, k * 3 + j, none⟩ = (pkCells ⟨f, t, d⟩)[j]? := fun j hj => by
    rw [cell_of_row w g _ cur _ _ hg, ← hp j hj, ← hxs, List.getElem?_take, if_pos (by omega)]; simp
  have g0 : w.cell? ⟨g, k * 3, none⟩ = some (.int .i64 f) := cellAt 0 (by omega)
  have g1 : w.cell? ⟨g, k * 3 + 1, none⟩ = some (.int .i64 t) := cellAt 1 (by omega)
  have g2 : w.cell? ⟨g, k * 3 + 2, none⟩ = some (.string d) := cellAt 2 (by omega)
  have hdel := Delete_any g n cap k (k + 1) cur xs W2 ((hb2.block g hgl).trans hg) (by omega) (by omega) hnc hcm hcs hxs hone
  rw [show ((k + 1 : Nat) : Int) = (k : Int) + 1 from rfl] at hdel
  obtain ⟨b0, b1, bf⟩ := cells2 (w := W2) ((hb2.block a hal).trans hc)
  have i1 : (0 : Int) ≤ (k : Int) := by omega
  have i2 : (k : Int) < (n : Int) := by omega
  have i3 : (n : Int) ≤ 1024 := by omega
  have HD := Lib.hid hdel
  have HW := Lib.hid hW2
  have HC := Lib.hid ((hb2.block a hal).trans hc)
  have HR := Lib.hid (And.intro r1 r2)
  have HB := Lib.hid hb2
  have hne1 : w.heap.size ≠ g := by omega
  have hne2 : w.heap.size + 1 ≠ g := by omega
  have hne3 : w.heap.size ≠ a := by omega
  have hne4 : w.heap.size + 1 ≠ a := by omega
  clear hdel hW2 r1 r2 hb2 hone hp cellAt hc hg hxs
  go_enter Try.func27, Try.ntmps27
  go_wp2_with fail
  refine hpl.mono ?_
  rintro e w' ⟨rfl, rfl⟩
  go_wp2_with fail
  rw [HW.out]
  refine HD.out.mono ?_
  rintro e w3 ⟨rfl, cur2, q1, q2, q3, hT⟩
  have qa := (hT.block a (by omega) hag).trans HC.out
  have qr1 := (hT.block _ (by omega) hne1).trans HR.out.1
  have qr2 := (hT.block _ (by omega) hne2).trans HR.out.2
  obtain ⟨c0, c1, cf⟩ := cells2 qa
  obtain ⟨d0, d1, d2, df⟩ := cells3 qr1
  obtain ⟨e0, e1, e2, ef⟩ := cells3 qr2
  have hz3 := hT.size
  have HT := Lib.hid (And.intro hT (And.intro q1 (And.intro q2 q3)))
  have HQ := Lib.hid qa
  clear hT q1 q2 q3 qa qr1 qr2 HR HD HC HW
  go_wp2_with fail
  refine bodyPost_ret (v := .tuple #[pkV ⟨f, t, d⟩, .bool true]) (by simp [results, Try.results27, go_sem, pkV, *]) rfl ⟨rfl, cur2, ?_, HT.out.2.2.1, HT.out.2.2.2, ?_, ?_⟩
  · rw [set_other _ _ _ _ _ (Ne.symm hne1), set_other _ _ _ _ _ (Ne.symm hne1), set_other _ _ _ _ _ (Ne.symm hne1), set_other _ _ _ _ _ (Ne.symm hag)]
    exact HT.out.2.1
  · rw [set_other _ _ _ _ _ (Ne.symm hne3), set_other _ _ _ _ _ (Ne.symm hne3), set_other _ _ _ _ _ (Ne.symm hne3), set1 HQ.out]
    rfl
  · have t1 := HT.out.1
    have t2 := HB.out
    refine ⟨t1.os.trans t2.os, t1.tape.trans t2.tape, t1.output.trans t2.output, by simp [World.setCell]; omega, fun b hb hn => ?_⟩
    rw [set_other _ _ _ _ _ (by omega), set_other _ _ _ _ _ (by omega), set_other _ _ _ _ _ (by omega), set_other _ _ _ _ _ (fun e => hn (.inl e))]
    exact (t1.block b (by omega) (fun e => hn (.inr e))).trans (t2.block b hb)

set_option maxHeartbeats 4000000 in
theorem take_rep {w : World} {a : Nat} {N : Nm.Net} {rv mv : Value} (h : Rep w a N rv mv) (i : Int) (hi : Nm.Wf i) :
    Calls Try.prog 27 #[.pointer (some ⟨a, 0, none⟩), .int .i64 i] w fun e w' =>
      e = .returned (.tuple #[pkV (Nm.take N i).1, .bool (Nm.take N i).2.1]) ∧ ∃ rv', Rep w' a (Nm.take N i).2.2 rv' mv ∧ rowBlk rv' = rowBlk rv ∧ Turned (fun k => k = a ∨ k ∈ rowBlk rv) w w' := by
  have hA := h.alloc (.cells #[.int .i64 0, .int .i64 0, .string ⟨#[]⟩] 23)
  have hpl := place_rep hA i hi
  by_cases hne : N.row = []
  · have hv : Nm.take N i = (Nm.zero, false, N) := by unfold Nm.take; rw [if_pos hne]
    rw [hv]
    rw [if_pos (by rw [hne]; rfl)] at hpl
    have HA := Lib.hid hA
    clear hA h hne hv hi
    go_enter Try.func27, Try.ntmps27
    go_wp2_with fail
    refine hpl.mono ?_
    rintro e w' ⟨rfl, rfl⟩
    go_wp2_with fail
    refine bodyPost_ret (v := .tuple #[pkV Nm.zero, .bool false]) (by simp [results, Try.results27, go_sem, pkV, Nm.zero]) rfl ⟨rfl, rv, ?_, rfl, ?_⟩
    · exact HA.out
    · exact turned_alloc (S := fun k => k = a ∨ k ∈ rowBlk rv) w _
  · have hv : Nm.take N i = (Nm.at_ N i, true, Nm.drop N i) := by unfold Nm.take; rw [if_neg hne]
    rw [hv]
    have hn0 : N.row.length ≠ 0 := fun e => hne (List.eq_nil_of_length_eq_zero e)
    rw [if_neg hn0] at hpl
    have hk := Nm.place_lt i (Nm.pos_of_ne hne)
    have hdl := Nm.length_drop i hne
    obtain ⟨g, cap, cur, rfl, hg, hnc, hcm, hcs, hct⟩ := row_open h.row hn0
    have hag : a ≠ g := fun e => h.ar (by rw [e]; simp [rowBlk])
    have hmg : g ∉ mapBlk mv := fun e => h.rm g (by simp [rowBlk]) e
    refine (take_core (p := Nm.at_ N i) i h.cell hg hag hk hnc (by unfold maxLen at hcm; omega) h.right.few hcs hct (rowCells_one _) (fun j hj => by rw [Nm.at_eq i hne]; exact rowCells_get hk hj) hpl).mono ?_
    rintro e w' ⟨rfl, cur2, q1, q2, q3, q4, hT⟩
    have hl : Nm.place i N.row.length + (N.row.length - (Nm.place i N.row.length + 1)) = (Nm.drop N i).row.length := by omega
    rw [hl, ← rowCells_erase] at q3
    rw [hl] at q4
    refine ⟨rfl, .slice (some ⟨g, 0, none⟩) (Nm.drop N i).row.length cap, ⟨h.right.drop i, q4, ⟨?_, .inr ⟨g, cap, cur2, rfl, Nat.zero_le _, q1, by show (Nm.drop N i).row.length ≤ cap; omega, hcm, q2, q3⟩⟩, ?_, ?_, h.am, ?_⟩, rfl, hT.mono fun b hb => hb.imp id fun e => by simp [rowBlk, e]⟩
    · exact rowCells_length _
    · exact (show CutAt w' mv N.cut N.cuts from h.map.of fun b hb => hT.block b (h.lt.2.2 b hb) fun e => e.elim (fun e => h.am (e ▸ hb)) fun e => hmg (e ▸ hb))
    · simpa [rowBlk] using hag
    · intro b hb; simp [rowBlk] at hb; rw [hb]; exact hmg
theorem within_of {S : Nat → Prop} {a : Nat} {rv rv' mv : Value} (h : Within S a rv mv) (e : rowBlk rv' = rowBlk rv) : Within S a rv' mv := ⟨h.1, fun k hk => h.2.1 k (e ▸ hk), h.2.2⟩
theorem in_of {S : Nat → Prop} {a : Nat} {rv mv : Value} (h : Within S a rv mv) : ∀ k, (k = a ∨ k ∈ rowBlk rv) → S k := fun k hk => hk.elim (fun e => e ▸ h.1) (h.2.1 k)

set_option maxHeartbeats 4000000 in
theorem lose_net {w : World} {a : Nat} {N : Nm.Net} {S : Nat → Prop} (h : Net w a N S) (i : Int) (hi : Nm.Wf i) :
    Calls Try.prog 15 #[.pointer (some ⟨a, 0, none⟩), .int .i64 i] w fun e w' => e = .returned (.bool (Nm.lose N i).1) ∧ Net w' a (Nm.lose N i).2 S ∧ Turned S w w' := by
  obtain ⟨rv, mv, hR, hS⟩ := h
  have ht := take_rep hR i hi
  have e1 : (Nm.lose N i).1 = (Nm.take N i).2.1 ∧ (Nm.lose N i).2 = (Nm.take N i).2.2 := by unfold Nm.lose Nm.take; split <;> exact ⟨rfl, rfl⟩
  rw [e1.1, e1.2]
  clear e1
  generalize Nm.take N i = T at *
  obtain ⟨⟨f, t, d⟩, b, N'⟩ := T
  have fin : ∀ w1 rv', Rep w1 a N' rv' mv → rowBlk rv' = rowBlk rv → Turned (fun k => k = a ∨ k ∈ rowBlk rv) w w1 → ∀ o, Net (w1.alloc o) a N' S ∧ Turned S w (w1.alloc o) := fun w1 rv' q1 q2 q3 o =>
    ⟨⟨rv', mv, q1.alloc o, within_of hS q2⟩, (q3.mono (in_of hS)).trans (turned_alloc (S := S) w1 o) fun _ e => .inl e⟩
  have HF := Lib.hid fin
  clear fin hS hR
  go_enter Try.func15, Try.ntmps15
  go_wp2_with fail
  refine ht.mono ?_
  rintro e w1 ⟨rfl, rv', q1, q2, q3⟩
  have HQ := Lib.hid (HF.out w1 rv' q1 q2 q3)
  clear q1 q2 q3 HF
  unfold pkV
  go_wp2_with fail
  go_ret
  exact ⟨rfl, HQ.out _⟩
set_option maxHeartbeats 400000 in
theorem lose_none (i : Int) (w : World) : Calls Try.prog 15 #[.pointer none, .int .i64 i] w fun e w' => e = .returned (.bool false) ∧ Below w.heap.size w w' := by
  go_enter Try.func15, Try.ntmps15
  go_wp2_with fail
  refine (take_none i _).mono ?_
  rintro e w1 ⟨rfl, hb⟩
  have hz := hb.size
  unfold pkV Nm.zero
  go_wp2_with fail
  go_ret
  exact ⟨rfl, hb.alloc hz _⟩
end Go.Proofs.Ytcfhfamdcdkgjaa
