/-
  Walks over package table: read, of whatever text. Condition: a text of at most 2^47 bytes.
-/
import Derived.Test.YtgmaccfhgeocdaaTabRead
import Derived.Test.YtgmaccfhgeocdaaTabText
import Derived.Test.YtgmaccfhgeocdaaTabOuts
namespace Go.Proofs.Ytgmaccfhgeocdaa
open Go.RowKit Tb

theorem cur_step {w : World} {b : Nat} {L : List UInt8} (h : w.heap[b]? = some (curO (ba L))) (q : Nat) (L' : List UInt8) :
    ((w.drewN q).setCell ⟨b, 0, none⟩ (.string (ba L'))).heap[b]? = some (curO (ba L')) ∧ Outs [b] w ((w.drewN q).setCell ⟨b, 0, none⟩ (.string (ba L'))) := by
  have h2 : (w.drewN q).heap[b]? = some (.cells #[.string (ba L)] 76 (0, 0)) := h
  refine ⟨heap_setCell_same _ b 0 _ _ _ h2, ?_⟩
  have ho : Outs [b] w (w.drewN q) := (Outs.refl [b] w).below (below_drewN (Below.refl _ _) q)
  exact ho.set (by simp) 0 _
theorem cur_take2 {w : World} {b : Nat} {L : List UInt8} (h : w.heap[b]? = some (curO (ba L))) {ni : Int} (n : Nat) (en : ni = (n : Nat)) (hn : n ≤ 4611686018427387904) (hR : L.length ≤ 140737488355328) :
    Calls Try.prog 39 #[.pointer (some ⟨b, 0, none⟩), .int .i64 ni] w fun e w' => e = .returned (.string (ba (L.take n))) ∧ w'.heap[b]? = some (curO (ba (L.drop n))) ∧ Outs [b] w w' := by
  refine (cur_take h n en hn hR).mono ?_
  rintro e w' ⟨rfl, q, rfl⟩
  exact ⟨rfl, cur_step h q _⟩
theorem cur_number2 {w : World} {b : Nat} {L : List UInt8} (h : w.heap[b]? = some (curO (ba L))) {wi : Int} (wd : Nat) (ew : wi = (wd : Nat)) (hw : wd ≤ 4) (hR : L.length ≤ 140737488355328) :
    Calls Try.prog 38 #[.pointer (some ⟨b, 0, none⟩), .int .i64 wi] w fun e w' => e = .returned (.int .i64 (val (L.take wd) : Nat)) ∧ w'.heap[b]? = some (curO (ba (L.drop wd))) ∧ Outs [b] w w' := by
  refine (cur_number h wd ew hw hR).mono ?_
  rintro e w' ⟨rfl, q, rfl⟩
  exact ⟨rfl, cur_step h q _⟩

/-- What read has made so far. -/
structure RD (w W : World) (bc bt c : Nat) (v : Value) (I : List Blk) (L : List UInt8) : Prop where
  cur : W.heap[bc]? = some (curO (ba L))
  tab : W.heap[bt]? = some (tabO c v (ba []))
  own : OwnK W w.heap.size v I
  nc : v.ownBlock ≠ some bc
  nt : v.ownBlock ≠ some bt
  ne : bc ≠ bt
  hc : w.heap.size ≤ bc
  ht : w.heap.size ≤ bt
  below : Below w.heap.size w W
section
variable {w W W' : World} {bc bt c : Nat} {v v' : Value} {I I' : List Blk} {L L' : List UInt8}
theorem RD.cells (h : RD w W bc bt c v I L) : W.cell? ⟨bt, 0, none⟩ = some (.int .i64 (c : Nat)) ∧ W.cell? ⟨bt, 1, none⟩ = some v ∧ W.cell? ⟨bt, 2, none⟩ = some (.string (ba [])) := cells3 h.tab
theorem RD.lt (h : RD w W bc bt c v I L) : bt < W.heap.size := (Array.getElem?_eq_some_iff.1 h.tab).1
theorem RD.ltc (h : RD w W bc bt c v I L) : bc < W.heap.size := (Array.getElem?_eq_some_iff.1 h.cur).1
theorem RD.drew (h : RD w W bc bt c v I L) : RD w W.drew bc bt c v I L := ⟨h.cur, h.tab, h.own.below (below_drew W), h.nc, h.nt, h.ne, h.hc, h.ht, h.below.drew⟩
theorem RD.alloc (h : RD w W bc bt c v I L) (o : Obj) : RD w (W.alloc o) bc bt c v I L :=
  ⟨(Below.heap_alloc _ _ _ h.ltc).trans h.cur, (Below.heap_alloc _ _ _ h.lt).trans h.tab, h.own.below (below_alloc W o), h.nc, h.nt, h.ne, h.hc, h.ht, h.below.alloc h.below.size o⟩
theorem RD.step (h : RD w W bc bt c v I L) (h1 : W'.heap[bc]? = some (curO (ba L'))) (h2 : Outs [bc] W W') : RD w W' bc bt c v I L' := by
  refine ⟨h1, (h2.block bt h.lt (by simpa using h.ne.symm)).trans h.tab, h.own.stays fun k hk hb => h2.block k hk fun e => ?_, h.nc, h.nt, h.ne, h.hc, h.ht, ?_⟩
  · rw [List.mem_singleton] at e; subst e; exact h.nc hb
  · have hz := h.below.size
    have hcc := h.hc
    exact ⟨h2.os.trans h.below.os, h2.tape.trans h.below.tape, h2.output.trans h.below.output, Nat.le_trans hz h2.size, fun k hk => (h2.block k (by omega) (by simp; omega)).trans (h.below.block k hk)⟩
theorem RD.grew (h : RD w W bc bt c v I L) (o : OwnK W' w.heap.size v' I') (g : Grew v v' W W') : RD w (W'.setCell ⟨bt, 1, none⟩ v') bc bt c v' I' L := by
  have hb := g.below h.below h.below.size fun k hk => (h.own.lt k hk).1
  have t1 : W'.heap[bt]? = some (tabO c v (ba [])) := (g.block bt h.lt h.nt).trans h.tab
  have c1 : W'.heap[bc]? = some (curO (ba L)) := (g.block bc h.ltc h.nc).trans h.cur
  have n1 : v'.ownBlock ≠ some bt := fun e => (g.own bt e).elim h.nt fun e2 => by have := h.lt; omega
  have n2 : v'.ownBlock ≠ some bc := fun e => (g.own bc e).elim h.nc fun e2 => by have := h.ltc; omega
  refine ⟨(Below.heap_setCell _ _ _ _ h.ne).trans c1, heap_setCell_same W' bt 1 _ _ _ t1, o.stays fun k hk hb => Below.heap_setCell _ _ _ _ fun e => n1 (by rw [hb, show k = bt from e]), n2, n1, h.ne, h.hc, h.ht, hb.setCell h.ht _⟩
end
theorem nb_zero (c j : Nat) : 16 * j < c ↔ j < nb 0 c := by unfold nb; omega
/-- A table that was read lies at a. -/
def TabAt (W : World) (a c : Nat) (I : List Blk) (R : List UInt8) : Prop :=
  ∃ p cap, W.heap[a]? = some (tabO c (.slice p I.length cap) (ba R)) ∧ (∀ i (h : i < I.length), ∃ A, p = some A ∧ A.block < W.heap.size ∧ ∀ j, j < 2 → W.cell? (A.add (i * 2 + j)) = (blkCells I[i])[j]?)
theorem OwnK.at {W : World} {base : Nat} {v : Value} {xs : List Blk} (h : OwnK W base v xs) : ∃ p cap, v = .slice p xs.length cap ∧ (∀ i (h : i < xs.length), ∃ A, p = some A ∧ A.block < W.heap.size ∧ ∀ j, j < 2 → W.cell? (A.add (i * 2 + j)) = (blkCells xs[i])[j]?) := by
  rcases h.2 with ⟨rfl, hn⟩ | ⟨g, cap, cur, rfl, h1, h2, h3, h4, h5, h6⟩
  · obtain rfl := List.eq_nil_of_length_eq_zero hn
    exact ⟨none, 0, rfl, fun i hi => nomatch hi⟩
  · refine ⟨some ⟨g, 0, none⟩, cap, rfl, fun i hi => ⟨_, rfl, (Array.getElem?_eq_some_iff.1 h2).1, fun j hj => ?_⟩⟩
    have hadd : (⟨g, 0, none⟩ : Addr).add (i * 2 + j) = ⟨g, i * 2 + j, none⟩ := by unfold Addr.add; split <;> simp_all
    rw [hadd, cell_of_row W g _ cur _ _ h2, ← blksCells_get hi hj, ← h6, List.getElem?_take, if_pos (by omega)]; simp
theorem TabAt.below {W W' : World} {a c : Nat} {I : List Blk} {R : List UInt8} (h : TabAt W a c I R) (hb : Below W.heap.size W W') : TabAt W' a c I R := by
  obtain ⟨p, cap, h1, h2⟩ := h
  refine ⟨p, cap, (hb.block a (Array.getElem?_eq_some_iff.1 h1).1).trans h1, fun i hi => ?_⟩
  obtain ⟨A, e, hA, hc⟩ := h2 i hi
  exact ⟨A, e, Nat.lt_of_lt_of_le hA hb.size, fun j hj => (hb.cell (by rw [tadd_block]; exact hA)).trans (hc j hj)⟩

set_option maxRecDepth 100000 in
set_option maxHeartbeats 8000000 in
theorem read_any (s : ByteArray) (w : World) (hs : s.size ≤ 140737488355328) :
    Calls Try.prog 27 #[.string s] w fun e w' => ∃ a, e = .returned (.pointer (some ⟨a, 0, none⟩)) ∧
      TabAt w' a (cnt ((bl s).take (s.size - 4))) (index ((bl s).take (s.size - 4))).1 (index ((bl s).take (s.size - 4))).2 ∧ w.heap.size ≤ a ∧ Below w.heap.size w w' := by
  obtain ⟨m, hm⟩ : ∃ m, m = s.size - 4 := ⟨_, rfl⟩
  obtain ⟨L, hL⟩ : ∃ L, L = (bl s).take m := ⟨_, rfl⟩
  rw [← hm, ← hL]
  have hmi : max (0 : Int) ((s.size : Int) - 4) = (m : Int) := by omega
  have i1 : (0 : Int) ≤ (m : Int) := by omega
  have i2 : (m : Int) ≤ (s.size : Int) := by omega
  have hml : m ≤ s.size := by omega
  have hex : s.extract 0 m = ba L := by
    have := take_mk s m
    rw [Nat.min_eq_left hml, ← hL] at this
    exact this
  have hLl : L.length ≤ 140737488355328 := by rw [hL, List.length_take, bl_len]; omega
  clear hL hm
  go_enter Try.func27, Try.ntmps27
  go_wp2_with fail
  have hc0 : (w.alloc (curO (ba L))).heap[w.heap.size]? = some (curO (ba L)) := heap_alloc_new w _
  have hbw : Below w.heap.size w (w.alloc (curO (ba L))) := below_alloc w _
  refine (cur_number2 (L := L) hc0 2 rfl (by omega) hLl).mono ?_
  rintro e w1 ⟨rfl, hc1, ho1⟩
  obtain ⟨bc, hbc⟩ : ∃ bc, bc = w.heap.size := ⟨_, rfl⟩
  obtain ⟨c, hc⟩ : ∃ c, c = val (L.take 2) := ⟨_, rfl⟩
  have hcl : c ≤ 65535 := by
    have h := val_lt (L.take 2)
    rw [List.length_take] at h
    have : 256 ^ min 2 L.length ≤ 256 ^ 2 := Nat.pow_le_pow_right (by omega) (by omega)
    rw [hc]; omega
  have HC : Hid (c = cnt L) := Lib.hid hc
  rw [← hc, ← hbc]
  have hz1 : bc < w1.heap.size := by have := ho1.size; simp at this; omega
  obtain ⟨bt, hbt⟩ : ∃ bt, bt = w1.heap.size := ⟨_, rfl⟩
  obtain ⟨T, hT⟩ : ∃ T, T = L.drop 2 := ⟨_, rfl⟩
  rw [← hT, ← hbc] at hc1
  have hTl : T.length ≤ 140737488355328 := by rw [hT, List.length_drop]; omega
  have hrd : RD w (w1.alloc (tabO c (.slice none 0 0) (ba []))) bc bt c (.slice none 0 0) (readIdx 0 T).1 (readIdx 0 T).2 := by
    refine ⟨(Below.heap_alloc _ _ _ hz1).trans hc1, by rw [hbt]; exact heap_alloc_new w1 _, OwnK.nil _ _, by simp [Value.ownBlock], by simp [Value.ownBlock], by omega, by omega, by omega, ?_⟩
    have hb1 : Below w.heap.size w w1 := ⟨ho1.os.trans hbw.os, ho1.tape.trans hbw.tape, ho1.output.trans hbw.output, Nat.le_trans hbw.size ho1.size, fun k hk => (ho1.block k (by simp; omega) (by simp; omega)).trans (hbw.block k hk)⟩
    exact hb1.alloc hb1.size _
  have HIX : Hid (index L = readIdx (nb 0 c) T) := Lib.hid (by rw [hc, hT]; rfl)
  have HRD := Lib.hid hrd
  have HBT := Lib.hid hbt
  clear hc hT hrd hc0 hbw hc1 ho1 hex hmi hbt hbc
  go_wp2_with fail
  rw [← HBT.out]
  have HRD0 : Hid (RD w (w1.alloc (.cells #[.int .i64 (c : Int), .slice none 0 0, .string ⟨#[]⟩] 66)) bc bt c (.slice none 0 0) (readIdx 0 T).1 (readIdx 0 T).2) := HRD
  clear HRD
  generalize w1.alloc (.cells #[.int .i64 (c : Int), .slice none 0 0, .string ⟨#[]⟩] 66) = W0 at *
  clear HBT hz1
  go_loopw [5] (fun iv wr => ∃ (j : Nat) (v : Value), j ≤ nb 0 c ∧ iv = .int .i64 ((16 * j : Nat) : Int) ∧ Hid (RD w wr bc bt c v (readIdx j T).1 (readIdx j T).2)) (fun iv _ => c + 16 - (intOf iv).toNat)
  case atStart => exact ⟨0, _, Nat.zero_le _, rfl, HRD0⟩
  case round =>
    obtain ⟨j, v, hj, rfl, H⟩ := hrel
    obtain ⟨c0, c1, c2⟩ := H.out.cells
    by_cases hlt : 16 * j < c
    · have i3 : ((16 * j : Nat) : Int) < (c : Int) := by omega
      have i4 : (0 : Int) ≤ ((16 * j : Nat) : Int) := by omega
      have i5 : ((16 * j : Nat) : Int) ≤ 65535 := by omega
      have hjn := (nb_zero c j).1 hlt
      have HRS := Lib.hid (readIdx_succ j T)
      have hXl : (readIdx j T).2.length ≤ 140737488355328 := by
        have : ∀ (n : Nat) (b : List UInt8), (readIdx n b).2.length ≤ b.length := by
          intro n
          induction n with
          | zero => intro b; exact Nat.le_refl _
          | succ n ih => intro b; rw [readIdx]; simp only; have := ih (((b.drop 4).drop 1).drop (val ((b.drop 4).take 1))); simp only [List.length_drop] at this; omega
        have := this j T
        omega
      obtain ⟨I, hI⟩ : ∃ I, I = (readIdx j T).1 := ⟨_, rfl⟩
      obtain ⟨X, hX⟩ : ∃ X, X = (readIdx j T).2 := ⟨_, rfl⟩
      have hIl : I.length ≤ 70000 := by rw [hI, readIdx_len]; unfold nb at hj; omega
      rw [← hI, ← hX] at H HRS
      rw [← hX] at hXl
      clear hI hX hlt
      have hk1 : val ((X.drop 4).take 1) ≤ 255 := by
        have h := val_lt ((X.drop 4).take 1)
        rw [List.length_take] at h
        have : 256 ^ min 1 (X.drop 4).length ≤ 256 ^ 1 := Nat.pow_le_pow_right (by omega) (by omega)
        omega
      generalize hai : ((16 * j : Nat) : Int) = ai at *
      have HAI := Lib.hid hai
      clear hai
      go_wp2_with fail
      refine (cur_number2 H.out.cur 4 rfl (by omega) hXl).mono ?_
      rintro e w2 ⟨rfl, h2, ho2⟩
      have H2 := Lib.hid ((H.out.step h2 ho2).drew)
      obtain ⟨c0, c1, c2⟩ := H2.out.cells
      obtain ⟨pl, hpl⟩ : ∃ pl, pl = val (X.take 4) := ⟨_, rfl⟩
      rw [← hpl] at HRS ⊢
      have hY : (X.drop 4).length ≤ 140737488355328 := by rw [List.length_drop]; omega
      clear h2 ho2 hpl
      have hY2 : ((X.drop 4).drop 1).length ≤ 140737488355328 := by rw [List.length_drop, List.length_drop]; omega
      obtain ⟨kn, hkn⟩ : ∃ kn, kn = val ((X.drop 4).take 1) := ⟨_, rfl⟩
      rw [← hkn] at HRS hk1
      have HKN := Lib.hid hkn
      obtain ⟨Z, hZ⟩ : ∃ Z, Z = (X.drop 4).drop 1 := ⟨_, rfl⟩
      rw [← hZ] at HRS hY2
      have HZ := Lib.hid hZ
      clear hkn hZ
      go_wp2_with fail
      go_region_law (first
        | (go_simp; go_at_call 38; refine (cur_number2 H2.out.cur 1 rfl (by omega) hY).mono ?_; rintro e w3 ⟨rfl, h3, ho3⟩; rw [← HZ.out] at h3; rw [← HKN.out]; have H3 := Lib.hid (H2.out.step h3 ho3); clear h3 ho3 c0 c1 c2; obtain ⟨c0, c1, c2⟩ := H3.out.cells)
        | (go_simp; go_at_call 39; refine (cur_take2 H3.out.cur kn rfl (by omega) hY2).mono ?_; rintro e w4 ⟨rfl, h4, ho4⟩; have H4 := Lib.hid (H3.out.step h4 ho4); clear h4 ho4 c0 c1 c2; obtain ⟨c0, c1, c2⟩ := H4.out.cells; have c1a := fun o => (H4.out.alloc o).cells.2.1)
        | (obtain ⟨pv, cv, w5, hrun, o5, g5⟩ := k_append H4.out.own (below_alloc w4 (.cells #[.string (ba (Z.take kn)), .int .i64 (pl : Nat)] 63)) ⟨w4.heap.size, 0, none⟩ (ba (Z.take kn), pl) 1 (news_two w4 _ _ _) (by omega) H4.out.below.size 64; have t5 := (g5.block bt H4.out.lt H4.out.nt).trans H4.out.tab; have q1 := (cells3 t5).2.1; have q2 := frozen_of_row w5 bt 1 _ _ t5; have H5 := Lib.hid (H4.out.grew o5 g5); refine tab_append_run rfl (.tmp 33) (.tmp 40) 64 64 rfl _ _ (by simp [Act.eval, Act.put]) (by simp [Act.eval, Act.put]) _ _ hrun ?_; clear hrun o5 g5 t5 c0 c1 c2 c1a))
      all_goals
        go_wp2_with fail
        refine ⟨⟨j + 1, .slice pv (I.length + 1) cv, hjn, int_eq (by have := HAI.out; omega), ?_⟩, by simp only [intOf]; omega⟩
        have h := H5.out
        have h2 := HRS.out
        exact Lib.hid (by rw [h2]; exact h)
    · have i3 : ¬ ((16 * j : Nat) : Int) < (c : Int) := by omega
      obtain rfl : j = nb 0 c := by have := nb_zero c j; omega
      rw [← HIX.out] at H
      have hcc : wr.cell? ⟨bc, 0, none⟩ = some (.string (ba (index L).2)) := by rw [cell_of_row wr bc _ _ _ _ H.out.cur]; rfl
      have hft := frozen_of_row wr bt 2 _ _ H.out.tab
      have HE : Hid (RD w wr bc bt c v (index L).1 (index L).2) := H
      clear H
      obtain ⟨ix, hix⟩ : ∃ ix, ix = index L := ⟨_, rfl⟩
      rw [← hix] at HE hcc
      have HX := Lib.hid hix
      clear hix
      go_wp2_with fail
      go_ret
      rw [← HX.out]
      refine ⟨bt, rfl, ?_, HE.out.ht, HE.out.below.setCell HE.out.ht _⟩
      obtain ⟨p, cap, hv, hk⟩ := (HE.out.own.stays (C := wr.setCell ⟨bt, 2, none⟩ (.string (ba ix.2))) fun k hk hb => Below.heap_setCell _ _ _ _ fun e => HE.out.nt (by rw [hb, show k = bt from e])).at
      have ht := HE.out.tab
      rw [hv] at ht
      refine ⟨p, cap, ?_, hk⟩
      rw [← HC.out]
      exact heap_setCell_same wr bt 2 _ _ (.string (ba ix.2)) ht
end Go.Proofs.Ytgmaccfhgeocdaa
