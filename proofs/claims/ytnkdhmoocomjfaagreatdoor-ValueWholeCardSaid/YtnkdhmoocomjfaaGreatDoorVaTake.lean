/-
  Walks over package value: take: one part more. Conditions: those in the theorems.
-/
import Derived.Test.YtnkdhmoocomjfaaGreatDoorVaOpen
import Derived.Test.YtnkdhmoocomjfaaGreatDoorVaMath
import Derived.BigRegion
set_option linter.unusedSimpArgs false
set_option linter.unusedVariables false
namespace Go.Proofs.YtnkdhmoocomjfaaGreatDoor
open Go.RowKit
/-- What open leaves, of any type that is right. -/
theorem open_any {u w W : World} {fv rv tv : Value} {R : List Vl.Rw} {d z : Nat} {s : Ip.Sch} {t : List Ip.So} (h : WalkR u w W fv rv R d z) (hf : FinderIs u s w fv) (hR : Vl.RowsOk R) (hRl : R.length ≤ 800000) (ht : RoSo u tv t) (hu : Kp u w) (hr : Ck.right s t = true) (hS : Ck.Small s) (n : Vl.Nd) (hn : NdIn n) {ks : List (List Ip.So)} (hk : Vl.kidsOf s t n = some ks) (dp : Nat) :
    Calls Tryz.prog 160 #[.pointer (some ⟨w.heap.size, 0, none⟩), ndV n, tv, .int .i64 (dp : Nat)] W (Opened u w fv R d z ks dp) := by
  cases t with
  | nil => cases hk
  | cons x l =>
    obtain ⟨h1, h7, hf7, h56⟩ := Vl.right_head hr
    rcases Vl.kids_some hk with ⟨h4, rfl⟩ | ⟨h5, hk0, rfl, hx⟩ | ⟨q, hq, h7', rfl⟩ | ⟨q, f, hq, h8, hi, hfd, rfl⟩
    · exact open_plain h hR n h4 dp
    · exact open_list h hR hRl ht (h56 hx).1 n h5 hk0 (by have := hn.2.2.2; unfold I64 at this; omega) dp
    · exact open_record h hf hR hRl ht hu hq (hS.r q (Ck.find_name hq).1).2.1 n h7' dp
    · exact open_choice h hf hR hRl ht hu hq n h8 hi hfd dp
theorem is_right {u w : World} {s : Ip.Sch} {fv tv : Value} {t : List Ip.So} (hf : FinderIs u s w fv) (ht : RoSo u tv t) (hu : Kp u w) (hr : Ck.right s t = true) (hS : Ck.Small s) (n : Vl.Nd) : Calls Tryz.prog 159 #[fv, ndV n, tv] w fun e w' => e = .returned (.bool (Vl.kidsOf s t n).isSome) ∧ Below w.heap.size w w' := by
  refine is_any hf ht hu (fun e => by rw [e] at hr; cases hr) (fun x l e => ?_) (fun x l e h7 => ?_) n
  · rw [e] at hr; have := Vl.right_head hr; exact ⟨this.1, this.2.1⟩
  · rw [e] at hr
    obtain ⟨r, hf⟩ := (Vl.right_head hr).2.2.1 h7
    exact ⟨r, hf, by have := (hS.r r (Ck.find_name hf).1).2.1; omega⟩
/-- What take leaves. -/
def TakenP (u w : World) (fv : Value) (R : List Vl.Rw) (x : Vl.Rw) (d z : Nat) (n : Vl.Nd) (o : Option (List (List Ip.So))) (e : Ending) (w' : World) : Prop := match o with
  | none => e = .returned (.bool false) ∧ Below w.heap.size w w'
  | some ks => e = .returned (.bool true) ∧ ∃ rv' R', WalkR u w w' fv rv' R' (max d x.depth) (z + (1 + n.text.size)) ∧ Vl.comes R' = ks.map (fun t => (t, x.depth + 1)) ++ Vl.comes (Vl.left R x) ∧ Vl.RowsOk R' ∧ R'.length ≤ R.length + 41
section
variable {u w W : World} {fv rv : Value} {R : List Vl.Rw} {d z : Nat} {s : Ip.Sch}
set_option maxRecDepth 100000 in
set_option maxHeartbeats 4000000 in
theorem take_none (h : WalkR u w W fv rv [] d z) (n : Vl.Nd) : Calls Tryz.prog 118 #[.pointer (some ⟨w.heap.size, 0, none⟩), ndV n] W fun e w' => e = .returned (.bool false) ∧ Below w.heap.size w w' := by
  obtain ⟨W0, hW0⟩ : ∃ W0, W0 = allocs W [ndO n] := ⟨_, rfl⟩
  have hB0 : Below W.heap.size W W0 := by rw [hW0]; exact allocs_below _ _
  obtain ⟨y0, y1, y2, y3⟩ := cells4' (show W0.heap[W.heap.size]? = some (ndO n) by rw [hW0]; exact allocs_at _ W 0 _ rfl)
  have H := Lib.hid (h.below hB0)
  have HON : Hid (∀ k, Below w.heap.size w (W0.drewN k)) := Lib.hid fun k => H.out.on.trans ((dn_below W0 k).mono H.out.on.size)
  clear h hB0
  simp only [allocs, ndO] at hW0
  unfold ndV
  go_enter Tryz.func118, Tryz.ntmps118
  go_upto_region 1 with fail
  rw [← hW0]
  clear hW0
  go_wp2_with fail
  refine (next_none H.out).mono ?_
  rintro e w1 ⟨rfl, hw1⟩
  rw [hw1]
  clear hw1 w1
  go_wp2_with fail
  go_quiet (fail)
  go_wp2_with fail
  go_ret
  exact ⟨rfl, HON.out _⟩
theorem takenP_none {x : Vl.Rw} {n : Vl.Nd} {o : Option (List (List Ip.So))} (h : o = none) (hb : Below w.heap.size w W) : TakenP u w fv R x d z n o (.returned (.bool false)) W := by subst h; exact ⟨rfl, hb⟩
theorem takenP_some {x : Vl.Rw} {n : Vl.Nd} {o : Option (List (List Ip.So))} {ks : List (List Ip.So)} (h : o = some ks) (hp : Opened u w fv (Vl.left R x) (max d x.depth) (z + (1 + n.text.size)) ks (x.depth + 1) (.returned (.tuple #[])) W) (hl : (Vl.left R x).length ≤ R.length + 1) : TakenP u w fv R x d z n o (.returned (.bool true)) W := by
  subst h
  obtain ⟨-, rv', R', h1, h2, h3, h4⟩ := hp
  exact ⟨rfl, rv', R', h1, h2, h3, by omega⟩
set_option maxRecDepth 100000 in
set_option maxHeartbeats 4000000 in
theorem take_some {x : Vl.Rw} (h : WalkR u w W fv rv (R ++ [x]) d z) (hf : FinderIs u s w fv) (hR : Vl.RowsOk (R ++ [x])) (hRl : R.length ≤ 700000) (hu : Kp u w) (hr : Ck.right s x.ty = true) (hS : Ck.Small s) (n : Vl.Nd) (hn : NdIn n) (hd : d ≤ 100000) (hxd : x.depth ≤ 100000) (hz : z ≤ 1000000000) (hnt : n.text.size ≤ 100000) : Calls Tryz.prog 118 #[.pointer (some ⟨w.heap.size, 0, none⟩), ndV n] W (TakenP u w fv R x d z n (Vl.kidsOf s x.ty n)) := by
  obtain ⟨W0, hW0⟩ : ∃ W0, W0 = allocs W [ndO n] := ⟨_, rfl⟩
  have hB0 : Below W.heap.size W W0 := by rw [hW0]; exact allocs_below _ _
  have HNB : Hid (W0.heap[W.heap.size]? = some (ndO n)) := Lib.hid (by rw [hW0]; exact allocs_at _ W 0 _ rfl)
  have H := Lib.hid (h.below hB0)
  have HSW : Hid (w.heap.size < W.heap.size) := Lib.hid (Array.getElem?_eq_some_iff.1 h.box).1
  have hx1 := hR x (by simp)
  have HRL : Hid (Vl.RowsOk (Vl.left R x)) := Lib.hid (by
    unfold Vl.left
    have h0 : Vl.RowsOk R := fun r hr => hR r (by simp [hr])
    split
    · exact h0
    · exact h0.snoc (by show 1 ≤ x.times - 1; omega) (by show x.times - 1 ≤ _; omega))
  have HLL : Hid ((Vl.left R x).length ≤ R.length + 1) := Lib.hid (by unfold Vl.left; split <;> simp)
  have HF := Lib.hid hf
  have HU := Lib.hid hu
  have HRT := Lib.hid hr
  have HS := Lib.hid hS
  have HN := Lib.hid hn
  have HNX := Lib.hid (next_some H.out hx1.1 hx1.2 (by omega))
  clear h hB0 hR hx1 hf hu hr hS hn
  simp only [allocs, ndO] at hW0
  unfold ndV
  go_enter Tryz.func118, Tryz.ntmps118
  go_upto_region 1 with fail
  rw [← hW0]
  clear hW0
  go_wp2_with fail
  refine Calls.mono HNX.out ?_
  rintro e w1 ⟨tv, rfl, hts, hk1, rv1, h1⟩
  have H1 := Lib.hid h1
  have HTS := Lib.hid hts
  have HNB1 : Hid (w1.heap[W.heap.size]? = some (ndO n)) := Lib.hid ((hk1 _ _ _ HNB.out (by show (71 : Nat) ≠ 214; decide) (by have := HSW.out; omega)).trans HNB.out)
  clear h1 hts hk1
  obtain ⟨p, c, rfl, -, -⟩ := RoIs.shape HTS.out
  obtain ⟨b0, b1, b2, b3⟩ := cells4' H1.out.box
  obtain ⟨y0, y1, y2, y3⟩ := cells4' HNB1.out
  go_wp2_with fail
  go_still_tail 9, (by kernel_rfl)
  change wpList _ _ _ _ _ w1.drew
  have H2 := Lib.hid (H1.out.below (Below.refl _ _).drew)
  have HNB2 := Lib.hid (box_keep (Below.refl w1.heap.size w1).drew HNB1.out)
  generalize w1.drew = w2 at *
  clear b0 b1 b2 b3 y0 y1 y2 y3
  have HRH := Lib.hid HRT.out
  go_wp2_with fail
  refine Calls.mono (is_right (HF.out.below H2.out.on) HTS.out (HU.out.below H2.out.on) HRT.out HS.out n) ?_
  rintro e w3 ⟨rfl, hb3⟩
  have H3 := Lib.hid (H2.out.below hb3)
  have HNB3 := Lib.hid (box_keep hb3 HNB2.out)
  clear hb3
  cases hk : Vl.kidsOf s x.ty n with
  | none =>
    have HK := Lib.hid hk
    simp only [Option.isSome_none]
    clear hk
    go_wp2_with fail
    go_ret
    exact takenP_none HK.out H3.out.on
  | some ks =>
    have HK := Lib.hid hk
    simp only [Option.isSome_some]
    clear hk
    obtain ⟨b0, b1, b2, b3⟩ := cells4' H3.out.box
    have f2 := frozen2 H3.out.box 2
    obtain ⟨W4, hW4⟩ : ∃ W, W = w3.setCell ⟨w.heap.size, 2, none⟩ (.int .i64 (max d x.depth : Nat)) := ⟨_, rfl⟩
    have hmx : max (d : Int) (x.depth : Int) = ((max d x.depth : Nat) : Int) := by omega
    have H4 : Hid (WalkR u w W4 fv rv1 (Vl.left R x) (max d x.depth) z) := Lib.hid (by rw [hW4]; exact H3.out.set 2 _ rfl rfl)
    have HNB4 : Hid (W4.heap[W.heap.size]? = some (ndO n)) := Lib.hid (by rw [hW4]; exact (Below.heap_setCell _ _ _ _ (by show W.heap.size ≠ w.heap.size; have := HSW.out; omega)).trans HNB3.out)
    go_upto_region 5 with fail
    rw [← hW4]
    clear hW4 b0 b1 b2 b3 f2 hmx
    obtain ⟨b0, b1, b2, b3⟩ := cells4' H4.out.box
    obtain ⟨y0, y1, y2, y3⟩ := cells4' HNB4.out
    have f3 := frozen2 H4.out.box 3
    go_region
    have hzz : (z : Int) + (1 + (n.text.size : Int)) = ((z + (1 + n.text.size) : Nat) : Int) := by omega
    rw [hzz]
    obtain ⟨W5, hW5⟩ : ∃ W, W = (W4.setCell ⟨w.heap.size, 3, none⟩ (.int .i64 ((z + (1 + n.text.size) : Nat) : Int))).drew := ⟨_, rfl⟩
    have H5 : Hid (WalkR u w W5 fv rv1 (Vl.left R x) (max d x.depth) (z + (1 + n.text.size))) := Lib.hid (by rw [hW5]; exact (H4.out.set 3 _ rfl rfl).below (Below.refl _ _).drew)
    have HNB5 : Hid (W5.heap[W.heap.size]? = some (ndO n)) := Lib.hid (by rw [hW5]; exact (Below.heap_setCell _ _ _ _ (by show W.heap.size ≠ w.heap.size; have := HSW.out; omega)).trans HNB4.out)
    rw [← hW5]
    clear hW5 hzz b0 b1 b2 b3 f3 y0 y1 y2 y3
    obtain ⟨y0, y1, y2, y3⟩ := cells4' HNB5.out
    have HOP := Lib.hid (open_any H5.out HF.out HRL.out (by have := HLL.out; omega) HTS.out HU.out HRT.out HS.out n HN.out HK.out (x.depth + 1))
    unfold ndV at HOP
    go_wp2_with fail
    refine Calls.mono HOP.out ?_
    rintro e w6 ⟨rfl, h6⟩
    have H6 := Lib.hid h6
    clear h6
    go_wp2_with fail
    go_ret
    exact takenP_some HK.out ⟨rfl, H6.out⟩ HLL.out
end
end Go.Proofs.YtnkdhmoocomjfaaGreatDoor
