/-
  Walks over package disk: Twin. Conditions: those in the theorems.
-/
import Derived.Test.YteolagmlghalgaaDiskWalkP
namespace Go.Proofs.Yteolagmlghalgaa
open Go.RowKit Go.Maps Go.Sort Go.Shelf

/-- The files that have come. -/
def cameF (left : Lit → Bool) (l : List (List UInt8 × Dm.File)) : List (List UInt8 × Dm.File) := l.filter fun p => !left (.string p.1)
theorem cameF_none {left : Lit → Bool} {l : List (List UInt8 × Dm.File)} (h : ∀ p ∈ l, left (.string p.1) = true) : cameF left l = [] := by
  unfold cameF; rw [List.filter_eq_nil_iff]; intro p hp; rw [h p hp]; simp
theorem cameF_all {left : Lit → Bool} {l : List (List UInt8 × Dm.File)} (h : ∀ k, left k = false) : cameF left l = l := by
  unfold cameF; rw [List.filter_eq_self]; intro p _; rw [h]; rfl
theorem get_filter {l : List (List UInt8 × Dm.File)} (q : List UInt8 → Bool) (n : List UInt8) : Dm.get (l.filter fun p => q p.1) n = if q n then Dm.get l n else none := by
  induction l with
  | nil => simp [Dm.get]
  | cons p r ih =>
    by_cases hq : q p.1
    · simp only [List.filter_cons, hq, if_true]
      unfold Dm.get
      by_cases e : p.1 = n
      · rw [if_pos e, if_pos e, ← e, if_pos hq]
      · rw [if_neg e, if_neg e]; exact ih
    · simp only [List.filter_cons, hq, if_false, ih, Bool.false_eq_true]
      by_cases hn : q n
      · rw [if_pos hn, if_pos hn]
        conv => rhs; unfold Dm.get
        rw [if_neg (fun e : p.1 = n => hq (by rw [e]; exact hn))]
      · rw [if_neg hn, if_neg hn]
theorem cameF_step {left : Lit → Bool} {l : List (List UInt8 × Dm.File)} (hs : Dm.Sorted l) {n : List UInt8} {f : Dm.File} (hx : Dm.get l n = some f) (_hl : left (.string n) = true) :
    Dm.put (cameF left l) n f = cameF (fun z => left z && !z.sameKey (.string n)) l := by
  refine Dm.Sorted.ext (Dm.Sorted.put (hs.filter _) _ _) (hs.filter _) fun k => ?_
  have g1 := get_filter (l := l) (fun p => !left (.string p)) k
  have g2 := get_filter (l := l) (fun p => !(left (.string p) && !(Lit.string p).sameKey (.string n))) k
  by_cases e : k = n
  · subst e
    rw [Dm.get_put_same]
    refine Eq.symm (Eq.trans g2 ?_)
    simp [sameS, hx]
  · rw [Dm.get_put_other e]
    refine Eq.trans g1 (Eq.symm (Eq.trans g2 ?_))
    simp [sameS, beq_eq_false_iff_ne.2 e]
theorem right_came {D : Dm.Disk} (h : Dm.Right D) (left : Lit → Bool) : Dm.Right { D with files := cameF left D.files } :=
  ⟨h.sorted.filter _, fun p hp => h.names p (List.mem_filter.1 hp).1, Nat.le_trans (List.length_filter_le _ _) h.few, fun p hp => h.short p (List.mem_filter.1 hp).1, h.fuse, h.room⟩
theorem Turned.one {m : Nat} {w w' : World} (h : Turned (· = m) w w') : w.grownBy w' (some m) := ⟨h.os, h.tape, h.output, h.size, fun k hk hn => h.block k hk fun e => hn (by rw [e])⟩

theorem row_shape {w : World} {base : Nat} {v : Value} {n : Nat} {xs : List Value} (h : w.ownsRow base 5 1 v n xs) : ∃ pv nv cv, v = .slice pv nv cv := by
  rcases h.2 with ⟨h1, _⟩ | ⟨g, c, _, h1, _⟩
  · exact ⟨none, 0, 0, h1⟩
  · exact ⟨_, _, _, h1⟩
theorem cell_keep {w W : World} {b i : Nat} {v : Value} (h : w.cell? ⟨b, i, none⟩ = some v) (hb : W.heap[b]? = w.heap[b]?) : W.cell? ⟨b, i, none⟩ = some v := (World.cell?_of_block (a := ⟨b, i, none⟩) hb).trans h

theorem Twin_nil (w : World) : Calls Try.prog 25 #[.pointer none] w fun e w' => e = .returned (.pointer none) ∧ w = w' := by
  go_enter Try.func25, Try.ntmps25
  go_wp2
  go_ret
  exact ⟨rfl, rfl⟩

set_option maxRecDepth 100000 in
set_option maxHeartbeats 4000000 in
theorem Twin_disk {w : World} {a : Nat} {D : Dm.Disk} {S : Nat → Prop} (h : Disk w a D S) :
    Calls Try.prog 25 #[.pointer (some ⟨a, 0, none⟩)] w fun e w' => ∃ t, e = .returned (.pointer (some ⟨t, 0, none⟩)) ∧ Disk w' t D (w.heap.size ≤ ·) ∧ Below w.heap.size w w' := by
  obtain ⟨m, T, hR, -⟩ := h
  obtain ⟨c0, c1, c2, c3, c4, -⟩ := cells5 hR.cell
  have hown := hR.map
  have hlt := hR.lt
  have hmm := @run_makeMap Try.prog
  have H := Lib.hid hR
  clear hR
  go_enter Try.func25, Try.ntmps25
  obtain ⟨W2, hW2⟩ : ∃ W2, (w.alloc (.map #[] 0)).alloc (.cells #[.bool D.down, .int .i64 (D.fuse : Nat), .bool D.bounded, .int .i64 (D.room : Nat), .map (some w.heap.size)] 61) = W2 := ⟨_, rfl⟩
  have hB2 : Below w.heap.size w W2 := by rw [← hW2]; exact ((Below.refl _ w).alloc (Nat.le_refl _) _).alloc (by simp) _
  have hz2 : w.heap.size + 2 ≤ W2.heap.size := by rw [← hW2]; simp
  have hz3 : W2.heap.size ≤ w.heap.size + 2 := by rw [← hW2]; simp
  have hown2 : W2.ownsMap Try.prog 9 ptrR m T.length (datOf T) := ownsMap_of hown (hB2.block m hlt.2.1)
  obtain ⟨hp, hq⟩ := two_new w (.map #[] 0) (.cells #[.bool D.down, .int .i64 (D.fuse : Nat), .bool D.bounded, .int .i64 (D.room : Nat), .map (some w.heap.size)] 61)
  have hRt : Rep W2 (w.heap.size + 1) w.heap.size { D with files := [] } [] := by
    rw [← hW2]
    refine ⟨⟨List.Pairwise.nil, (fun _ hp => nomatch hp), by simp, (fun _ hp => nomatch hp), H.out.right.fuse, H.out.right.room⟩, rfl, hq, ?_, (fun _ hp => nomatch hp), ⟨by omega, (fun _ hp => nomatch hp), (fun _ hp => nomatch hp), (fun _ hp => nomatch hp)⟩⟩
    exact ownsMap_of (World.ownsMap_made w Try.prog 9 ptrR) (Below.heap_alloc _ _ _ (by simp))
  have HRt := Lib.hid hRt
  have HW2 := Lib.hid hW2
  have HB2 := Lib.hid hB2
  have HLT := Lib.hid hlt
  have hal := hlt.1
  clear hRt hW2 hp hq hown hB2 hlt
  go_wp2_with (first
    | (at_range; rw [HW2.out]; refine wpList_range_own _ rfl _ 57 rfl 9 64 keyS Try.underlying57 ptrR m T.length (datOf T) rfl hown2 ?_; intro w0 hrg0 hg0 hs0)
    | go_in)
  go_frame
  have St : ∃ St : Nat → Prop, St = fun k => w.heap.size ≤ k ∧ k ≠ W2.heap.size := ⟨_, rfl⟩
  obtain ⟨St, hSt⟩ := St
  have HST := Lib.hid hSt
  have hs0l : W2.heap.size + 1 ≤ w0.heap.size := by omega
  clear hSt hs0
  go_loopw [20] (fun _ wr => ∃ (left : Lit → Bool) (cnt : Nat) (Tt : List (List UInt8 × Ent)), wr.ranges Try.prog 9 ptrR m W2.heap.size T.length (datOf T) left cnt ∧ Below w.heap.size w wr ∧ Rep wr (w.heap.size + 1) w.heap.size { D with files := cameF left D.files } Tt ∧ Within St (w.heap.size + 1) w.heap.size Tt ∧ W2.heap.size < wr.heap.size)
    (fun _ wr => wr.rangeLeft m W2.heap.size)
  case atStart =>
    refine ⟨_, _, [], hrg0, HB2.out.trans ⟨hg0.os, hg0.tape, hg0.output, hg0.size, fun k hk => hg0.block k (by omega) (by simp)⟩, ?_, ?_, by omega⟩
    · rw [cameF_none fun p hp => ?_]
      · exact HRt.out.heap fun k hk => hg0.block k hk (by simp)
      · have hgp : Dm.get D.files p.1 = some p.2 := H.out.right.sorted.get hp
        rw [H.out.get] at hgp
        rw [has_dat]
        cases hq : Dm.get T p.1 with
        | none => rw [hq] at hgp; cases hgp
        | some x => rfl
    · rw [HST.out]; exact ⟨⟨by omega, by omega⟩, ⟨by omega, by omega⟩, (fun _ hp => nomatch hp)⟩
  case round =>
    obtain ⟨left, cnt, Tt, hrg, hb, hrt, hwt, hwz⟩ := hrel
    go_wp2_with (first
      | (at_next; refine wpList_next_ranges _ rfl _ rfl 9 keyS ptrR id id (fun key _ _ => ⟨key, rfl⟩) (fun v _ _ => ⟨v, rfl⟩) m W2.heap.size T.length _ _ _ rfl hrg ?_ ?_)
      | go_in)
    · intro _ hl0
      rw [cameF_all hl0] at hrt
      have H1 := Lib.hid hrt
      have H2 := Lib.hid hwt
      have H3 := Lib.hid hb
      clear hrt hwt hb hrg
      go_wp2
      go_ret
      exact ⟨_, rfl, ⟨_, Tt, H1.out, H2.out.mono fun k hk => by rw [HST.out] at hk; exact hk.1⟩, H3.out⟩
    · intro key v kl yd yp w1 cnt1 hkey hlx hv hat hrg1 hltc hg1 hs1 hen
      obtain ⟨s, x, rfl, rfl, hx, rfl, hs⟩ := came_ent hkey hv hat
      have hgd : Dm.get D.files s.data.toList = some x.file := by rw [H.out.get, hx]; rfl
      have hstep := cameF_step H.out.right.sorted hgd hlx
      have hname := (H.out.right.get hgd).1
      have hnl := Dm.isName_len hname
      rw [show s.data.toList.length = s.size from by simp] at hnl
      have hb1 : Below w.heap.size w w1 := hb.trans ⟨hg1.os, hg1.tape, hg1.output, hg1.size, fun k hk => hg1.block k (by have := hb.size; omega) (by simp; omega)⟩
      have ht1 : Turned (· = W2.heap.size) wr w1 := turned_grown hg1 fun k e => by have := Option.some.inj e; omega
      have hrt1 : Rep w1 (w.heap.size + 1) w.heap.size { D with files := cameF left D.files } Tt := hrt.stay hwt ht1 fun k hk e => by rw [HST.out] at hk; exact hk.2 e
      have he : EntAt w x := H.out.ents _ (mem_get hx)
      have he1 : EntAt w1 x := entAt_of he fun k hk => hb1.block k (he.lt k hk)
      have hshort := (H.out.right.get hgd).2
      obtain ⟨pr, cap, hrow, -⟩ := he1.shape
      obtain ⟨d0, d1, -⟩ := cells2 he1.1
      rw [hrow] at d0
      have hrow1 := he1.2
      rw [hrow] at hrow1
      have hcl := clone_row (w := w1.drew) hrow1 hshort.2
      have hbx : x.blk < w.heap.size := he.lt _ (by simp [entBlks])
      have hz1 : w1.heap.size ≤ wr.heap.size := by omega
      have hz1b : wr.heap.size ≤ w1.heap.size := by omega
      -- the twin's file is put
      have hput : ∀ (w2 : World) (pv : Option Addr) (nv cv : Nat), w2.ownsRow w1.heap.size 5 1 (.slice pv nv cv) x.file.data.length (x.file.data.map byteV) → Below w1.heap.size w1 w2 →
          Calls Try.prog 37 #[.pointer (some ⟨w.heap.size + 1, 0, none⟩), .string s, .pointer (some ⟨w2.heap.size, 0, none⟩)] (w2.alloc (.cells #[.slice pv nv cv, .int .i64 (x.file.synced : Nat)] 69)) fun e w' =>
            e = .returned (.tuple #[]) ∧ ∃ T', Rep w' (w.heap.size + 1) w.heap.size { D with files := cameF (fun z => left z && !z.sameKey (.string s.data.toList)) D.files } T' ∧ Within St (w.heap.size + 1) w.heap.size T' ∧ w1.grownBy w' (some w.heap.size) := by
        intro w2 pv nv cv ho hb2
        have hw2 := hb2.size
        have hR3 : Rep (w2.alloc (.cells #[.slice pv nv cv, .int .i64 (x.file.synced : Nat)] 69)) (w.heap.size + 1) w.heap.size { D with files := cameF left D.files } Tt :=
          (hrt1.heap fun k hk => hb2.block k hk).alloc _
        have hrb : ∀ k ∈ rowBlk (.slice pv nv cv), w1.heap.size ≤ k ∧ k < w2.heap.size := fun k hk => ho.lt k ((by cases pv with
          | none => cases hk
          | some A => simp [rowBlk] at hk; simp [Value.ownBlock, hk] : (Value.slice pv nv cv).ownBlock = some k))
        have hE : EntAt (w2.alloc (.cells #[.slice pv nv cv, .int .i64 (x.file.synced : Nat)] 69)) ⟨w2.heap.size, .slice pv nv cv, x.file⟩ := by
          refine ⟨heap_alloc_new w2 _, ?_⟩
          have ho2 := ho.alloc (.cells #[.slice pv nv cv, .int .i64 (x.file.synced : Nat)] 69)
          exact ⟨ho2.1, ho2.2.imp id fun ⟨g, cap, cur, a1, _, a3⟩ => ⟨g, cap, cur, a1, Nat.zero_le _, a3⟩⟩
        have hB : Beside (w.heap.size + 1) w.heap.size Tt s.data.toList ⟨w2.heap.size, .slice pv nv cv, x.file⟩ := by
          have hT1 := hrt1.lt
          have hall : ∀ k ∈ entBlks (⟨w2.heap.size, .slice pv nv cv, x.file⟩ : Ent), w1.heap.size ≤ k := fun k hk => by
            rcases List.mem_cons.1 hk with rfl | hk
            · exact hw2
            · exact (hrb k hk).1
          refine ⟨fun k hk => ?_, fun e => ?_, fun p hp _ k hk hk2 => ?_⟩
          · have := hall k hk; constructor <;> omega
          · have := (hrb _ e).2; simp only at this; omega
          · have := hall k hk; have := hT1.2.2 p hp k hk2; omega
        refine (put_rep hR3 s ⟨w2.heap.size, .slice pv nv cv, x.file⟩ (by omega) hE hB (by show Dm.Right { D with files := Dm.put (cameF left D.files) s.data.toList x.file }; rw [hstep]; exact right_came H.out.right _)).mono fun e w' ⟨he, hR', hT'⟩ => ⟨he, Dm.put Tt s.data.toList ⟨w2.heap.size, .slice pv nv cv, x.file⟩, ?_, hwt.put (n := s.data.toList) (x := ⟨w2.heap.size, .slice pv nv cv, x.file⟩) fun k hk => ?_, ?_⟩
        · have hR2 : Rep w' (w.heap.size + 1) w.heap.size { D with files := Dm.put (cameF left D.files) s.data.toList x.file } (Dm.put Tt s.data.toList ⟨w2.heap.size, .slice pv nv cv, x.file⟩) := hR'
          rw [hstep] at hR2
          exact hR2
        · rw [HST.out]
          rcases List.mem_cons.1 hk with rfl | hk
          · exact ⟨by show w.heap.size ≤ w2.heap.size; omega, by show w2.heap.size ≠ W2.heap.size; omega⟩
          · have := hrb k hk; exact ⟨by omega, by omega⟩
        · exact ((turned_of_below (S := (· = w.heap.size)) hb2).trans ((turned_alloc (S := (· = w.heap.size)) w2 _).trans hT' fun _ e => .inl e) fun _ e => .inl e).one
      have HP := Lib.hid hput
      have HB1 := Lib.hid hb1
      have HRG := Lib.hid hrg1
      have HRG0 := Lib.hid hrg
      have HLC := Lib.hid hltc
      have HCL := Lib.hid hcl
      have hmw := HLT.out.2.1
      clear hput hb1 hrg1 hrg hltc hrt hwt hrt1 he he1 hrow hrow1 hcl hkey hv hat hlx hx hgd hstep hname hg1 ht1 hb hshort hs1
      go_wp2_with fail
      have hb1x : x.blk < w1.heap.size := by have := HB1.out.size; omega
      go_region_held3 (fun w' => w'.cell? ⟨x.blk, 0, none⟩ = some (.slice pr x.file.data.length cap) ∧ w'.cell? ⟨x.blk, 1, none⟩ = some (.int .i64 (x.file.synced : Nat)))
        (first | exact ⟨d0, d1⟩ | exact ⟨k0, k1⟩ | exact ⟨l0, l1⟩ | exact ⟨m0, m1⟩)
        (first
          | (go_at_call 48; refine (HCL.out).mono ?_; rintro e w2 ⟨v, rfl, ho, hb2⟩; obtain ⟨pv, nv, cv, rfl⟩ := row_shape ho; have hbu := undraw hb2; have hw2 := hbu.size; have k0 := cell_keep d0 (hbu.block x.blk hb1x); have k1 := cell_keep d1 (hbu.block x.blk hb1x); have l0 := cell_keep k0 (Below.heap_alloc w2 (.cells #[.slice pv nv cv, .int .i64 (x.file.synced : Nat)] 69) _ (by omega)); have l1 := cell_keep k1 (Below.heap_alloc w2 (.cells #[.slice pv nv cv, .int .i64 (x.file.synced : Nat)] 69) _ (by omega)))
          | (go_at_call 37; refine (HP.out w2 pv nv cv ho hbu).mono ?_; rintro e w4 ⟨rfl, T', hR4, hW4, hG4⟩; have m0 := cell_keep d0 (hG4.block x.blk hb1x (by simp; omega)); have m1 := cell_keep d1 (hG4.block x.blk hb1x (by simp; omega))))
      have hrg4 := HRG.out.kept hG4 (by simp; omega) (fun e => by have := Option.some.inj e; omega)
      have hb4 : Below w.heap.size w w4 := HB1.out.grown hG4 (by omega) fun k hk => by cases hk; exact Nat.le_refl _
      have hz4 := hG4.size
      have HRG4 := Lib.hid hrg4
      have HB4 := Lib.hid hb4
      have HR4 := Lib.hid hR4
      have HW4 := Lib.hid hW4
      clear hrg4 hb4 hR4 hW4 hG4 ho hb2 k0 k1 l0 l1 m0 m1 d0 d1
      go_wp2
      go_roundw
      case rel => exact ⟨_, cnt1, T', HRG4.out, HB4.out, HR4.out, HW4.out, by omega⟩
      case measure => rw [HRG4.out.left_eq, HRG0.out.left_eq]; exact HLC.out
end Go.Proofs.Yteolagmlghalgaa
