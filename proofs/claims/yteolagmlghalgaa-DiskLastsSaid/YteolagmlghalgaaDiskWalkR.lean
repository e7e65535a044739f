/-
  Walks over package disk: Same. Conditions: those in the theorems.
-/
import Derived.Test.YteolagmlghalgaaDiskWalkQ
namespace Dm
def fileSame (f g : File) : Bool := f.synced == g.synced && f.data == g.data
def filesSame : List (List UInt8 × File) → List (List UInt8 × File) → Bool
  | [], [] => true
  | p :: r, q :: s => p.1 == q.1 && fileSame p.2 q.2 && filesSame r s
  | _, _ => false
def same (d e : Disk) : Bool := d.down == e.down && d.fuse == e.fuse && d.bounded == e.bounded && d.room == e.room && filesSame d.files e.files
theorem fileSame_iff {f g : File} : fileSame f g = true ↔ f = g := by
  obtain ⟨a, b⟩ := f
  obtain ⟨c, d⟩ := g
  simp [fileSame, and_comm]
theorem filesSame_iff : ∀ {l m : List (List UInt8 × File)}, filesSame l m = true ↔ l = m
  | [], [] => by simp [filesSame]
  | [], _ :: _ => by simp [filesSame]
  | _ :: _, [] => by simp [filesSame]
  | p :: r, q :: s => by
    obtain ⟨p1, p2⟩ := p
    obtain ⟨q1, q2⟩ := q
    simp [filesSame, fileSame_iff, filesSame_iff (l := r) (m := s)]
theorem same_iff {d e : Disk} : same d e = true ↔ d = e := by
  obtain ⟨a, b, c, f, l⟩ := d
  obtain ⟨a', b', c', f', l'⟩ := e
  simp [same, filesSame_iff, and_assoc]
/-- What is sorted and among another one's entries stands in it in its order. -/
theorem sub_of {α : Type} : ∀ {m l : List (List UInt8 × α)}, Sorted l → Sorted m → (∀ p ∈ l, p ∈ m) → l.Sublist m
  | [], l, _, _, h => by
    cases l with
    | nil => exact List.Sublist.slnil
    | cons p r => exact nomatch h p (by simp)
  | q :: s, l, hl, hm, h => by
    obtain ⟨k1, k2⟩ := List.pairwise_cons.1 hm
    cases l with
    | nil => exact List.nil_sublist _
    | cons p r =>
      obtain ⟨h1, h2⟩ := List.pairwise_cons.1 hl
      rcases List.mem_cons.1 (h p (by simp)) with rfl | hp
      · refine List.Sublist.cons_cons _ (sub_of h2 k2 fun x hx => ?_)
        rcases List.mem_cons.1 (h x (by simp [hx])) with rfl | hx'
        · exact absurd (h1 _ hx) (by rw [Go.WideAt.bytes_irrefl]; simp)
        · exact hx'
      · refine List.Sublist.cons _ (sub_of hl k2 fun x hx => ?_)
        rcases List.mem_cons.1 (h x hx) with rfl | hx'
        · rcases List.mem_cons.1 hx with rfl | hx
          · exact hp
          · exact absurd (Go.WideShapes.bytes_trans _ _ _ (h1 _ hx) (k1 _ hp)) (by rw [Go.WideAt.bytes_irrefl]; simp)
        · exact hx'
theorem eq_of_sub {α : Type} {l m : List (List UInt8 × α)} (hl : Sorted l) (hm : Sorted m) (h : ∀ n x, get l n = some x → get m n = some x) (he : l.length = m.length) : l = m :=
  (sub_of hl hm fun p hp => get_mem (h p.1 p.2 (hl.get hp))).eq_of_length he
end Dm
namespace Go.Proofs.Yteolagmlghalgaa
open Go.RowKit Go.Maps Go.Sort Go.Shelf

set_option maxRecDepth 100000 in
set_option maxHeartbeats 1000000 in
theorem sameFile_any {w : World} {x y : Ent} (hx : EntAt w x) (hy : EntAt w y) :
    Calls Try.prog 47 #[.pointer (some ⟨x.blk, 0, none⟩), .pointer (some ⟨y.blk, 0, none⟩)] w fun e w' => e = .returned (.bool (Dm.fileSame x.file y.file)) ∧ ∃ q, w' = w.drewN q := by
  obtain ⟨pr, cap, hrow, -⟩ := hx.shape
  obtain ⟨pr2, cap2, hrow2, -⟩ := hy.shape
  obtain ⟨c0, c1, -⟩ := cells2 hx.1
  obtain ⟨d0, d1, -⟩ := cells2 hy.1
  have hx2 := hx.2
  have hy2 := hy.2
  rw [hrow] at c0 hx2
  rw [hrow2] at d0 hy2
  have he := fun q => equal_any (w := w.drewN q) hx2 hy2
  have HE := Lib.hid he
  clear hx hy hrow hrow2 hx2 hy2 he
  unfold Dm.fileSame
  by_cases hs : x.file.synced = y.file.synced
  · have e1 : (x.file.synced == y.file.synced) = true := by simpa using hs
    have e2 : ((x.file.synced : Int) == (y.file.synced : Int)) = true := by simp; omega
    rw [e1, Bool.true_and]
    clear hs e1
    generalize x.file.synced = sx at c1 e2
    generalize y.file.synced = sy at d1 e2
    go_enter Try.func47, Try.ntmps47
    go_wp2_with fail
    go_quiet ((go_at_call 53; exact Calls.quiet_of_same ((HE.out _).mono fun _ _ ⟨a, b⟩ => ⟨a, b.symm⟩)))
    go_wp2
    go_ret
    exact ⟨rfl, _, rfl⟩
  · have e1 : (x.file.synced == y.file.synced) = false := by simpa using hs
    have e2 : ((x.file.synced : Int) == (y.file.synced : Int)) = false := by rw [beq_eq_false_iff_ne]; omega
    rw [e1, Bool.false_and]
    clear hs e1
    generalize x.file.synced = sx at c1 e2
    generalize y.file.synced = sy at d1 e2
    go_enter Try.func47, Try.ntmps47
    go_wp2_with fail
    go_quiet (fail)
    go_wp2
    go_ret
    exact ⟨rfl, _, rfl⟩

theorem ranges_drewN {w : World} {b r n cnt : Nat} {d : DataW Unit} {left : Lit → Bool} (h : w.ranges Try.prog 9 ptrR b r n d left cnt) (q : Nat) : (w.drewN q).ranges Try.prog 9 ptrR b r n d left cnt := h

set_option maxRecDepth 100000 in
set_option maxHeartbeats 4000000 in
theorem equalFunc_rep {w : World} {a1 m1 a2 m2 : Nat} {D1 D2 : Dm.Disk} {T1 T2 : List (List UInt8 × Ent)} (h1 : Rep w a1 m1 D1 T1) (h2 : Rep w a2 m2 D2 T2) :
    Calls Try.prog 46 #[.map (some m1), .map (some m2), .func (.func 47) #[] #[]] w fun e w' => e = .returned (.bool (Dm.filesSame D1.files D2.files)) ∧ Below w.heap.size w w' := by
  have l1 := fun ty => len_rep h1 ty
  have l2 := fun ty => len_rep h2 ty
  have hown := h1.map
  have hm1 := h1.lt.2.1
  have H1 := Lib.hid h1
  have H2 := Lib.hid h2
  clear h1 h2
  by_cases hsz : D1.files.length = D2.files.length
  · rw [← hsz] at l2
    have HSZ := Lib.hid hsz
    clear hsz
    go_enter Try.func46, Try.ntmps46
    go_wp2_with (first
      | (at_range; refine wpList_range_own _ rfl _ 57 rfl 9 64 keyS Try.underlying57 ptrR m1 T1.length (datOf T1) rfl hown ?_; intro w0 hrg0 hg0 hs0)
      | go_in)
    go_frame
    go_loopw [18] (fun _ wr => ∃ (left : Lit → Bool) (cnt : Nat), wr.ranges Try.prog 9 ptrR m1 w.heap.size T1.length (datOf T1) left cnt ∧ Below w.heap.size w wr ∧ Hid (∀ n x, Dm.get T1 n = some x → left (.string n) = false → ∃ y, Dm.get T2 n = some y ∧ y.file = x.file))
      (fun _ wr => wr.rangeLeft m1 w.heap.size)
    case atStart =>
      refine ⟨_, _, hrg0, ⟨hg0.os, hg0.tape, hg0.output, hg0.size, fun k hk => hg0.block k hk (by simp)⟩, Lib.hid fun n x hx hl => ?_⟩
      rw [has_dat, hx] at hl; cases hl
    case round =>
      obtain ⟨left, cnt, hrg, hb, HG⟩ := hrel
      go_wp2_with (first
        | (at_next; refine wpList_next_ranges _ rfl _ rfl 9 keyS ptrR id id (fun key _ _ => ⟨key, rfl⟩) (fun v _ _ => ⟨v, rfl⟩) m1 w.heap.size T1.length _ _ _ rfl hrg ?_ ?_)
        | go_in)
      · intro _ hl0
        have hall : Hid (Dm.filesSame D1.files D2.files = true) := Lib.hid (by
          rw [Dm.filesSame_iff]
          refine Dm.eq_of_sub H1.out.right.sorted H2.out.right.sorted (fun n f hf => ?_) HSZ.out
          rw [H1.out.get] at hf
          obtain ⟨x, hx, rfl⟩ := Option.map_eq_some_iff.1 hf
          obtain ⟨y, hy, e⟩ := HG.out n x hx (hl0 _)
          rw [H2.out.get, hy, ← e]; rfl)
        have HB := Lib.hid hb
        clear hb hrg
        go_wp2
        go_ret
        exact ⟨by rw [hall.out]; rfl, HB.out⟩
      · intro key v kl yd yp w1 cnt1 hkey hlx hv hat hrg1 hltc hg1 hs1 hen
        obtain ⟨s, x, rfl, rfl, hx, rfl, hs⟩ := came_ent hkey hv hat
        have hb1 : Below w.heap.size w w1 := hb.trans ⟨hg1.os, hg1.tape, hg1.output, hg1.size, fun k hk => hg1.block k (by have := hb.size; omega) (by simp; omega)⟩
        have hR2 : Rep w1 a2 m2 D2 T2 := H2.out.heap fun k hk => hb1.block k hk
        have he1 : EntAt w1 x := entAt_of (H1.out.ents _ (mem_get hx)) fun k hk => hb1.block k ((H1.out.ents _ (mem_get hx)).lt k hk)
        have hlk := look_rep hR2 s hs
        have hgd : Dm.get D1.files s.data.toList = some x.file := by rw [H1.out.get, hx]; rfl
        cases hq : Dm.get T2 s.data.toList with
        | none =>
          have hno : Hid (Dm.filesSame D1.files D2.files = false) := Lib.hid (by
            rw [Bool.eq_false_iff, ne_eq, Dm.filesSame_iff]
            intro e
            rw [e, H2.out.get, hq] at hgd; cases hgd)
          have hlv : lookV T2 s.data.toList = .pointer none := by unfold lookV; rw [hq]
          rw [hlv, hq] at hlk
          have HB := Lib.hid hb1
          clear hb hrg hb1 hR2 he1 hgd hkey hlx hv hat hrg1 hltc hg1 hs1 hx hq hlv
          go_wp2
          go_ret
          exact ⟨by rw [hno.out]; rfl, HB.out⟩
        | some y =>
          have hlv : lookV T2 s.data.toList = .pointer (some ⟨y.blk, 0, none⟩) := by unfold lookV; rw [hq]
          rw [hlv, hq] at hlk
          have he2 : EntAt w1 y := hR2.ents _ (mem_get hq)
          have hsf := sameFile_any he1 he2
          have hgd2 : Dm.get D2.files s.data.toList = some y.file := by rw [H2.out.get, hq]; rfl
          cases hsm : Dm.fileSame x.file y.file with
          | false =>
            have hno : Hid (Dm.filesSame D1.files D2.files = false) := Lib.hid (by
              rw [Bool.eq_false_iff, ne_eq, Dm.filesSame_iff]
              intro e
              rw [e, hgd2] at hgd
              rw [Dm.fileSame_iff.2 (Option.some.inj hgd).symm] at hsm; cases hsm)
            rw [hsm] at hsf
            have HB := Lib.hid hb1
            clear hb hrg hb1 hR2 he1 he2 hgd hgd2 hkey hlx hv hat hrg1 hltc hg1 hs1 hx hq hlv hsm
            go_wp2_with fail
            refine hsf.mono ?_
            rintro e w2 ⟨rfl, q, rfl⟩
            go_wp2
            go_ret
            exact ⟨by rw [hno.out]; rfl, below_drewN HB.out _⟩
          | true =>
            rw [hsm] at hsf
            have hfe := Dm.fileSame_iff.1 hsm
            have hnext : Hid (∀ n x, Dm.get T1 n = some x → (left (.string n) && !(Lit.string n).sameKey (.string s.data.toList)) = false → ∃ y, Dm.get T2 n = some y ∧ y.file = x.file) := Lib.hid fun n x' hx' hl => by
              by_cases e : n = s.data.toList
              · rw [e, hx] at hx'
                rw [← Option.some.inj hx', e]
                exact ⟨y, hq, hfe.symm⟩
              · refine HG.out n x' hx' ?_
                rw [sameS, beq_eq_false_iff_ne.2 e] at hl
                simpa using hl
            have HB := Lib.hid hb1
            have HRG := Lib.hid hrg1
            have HRG0 := Lib.hid hrg
            have HLC := Lib.hid hltc
            clear hb hrg hb1 hR2 he1 he2 hgd hgd2 hkey hlx hv hat hrg1 hltc hg1 hs1 hx hq hlv hsm hfe
            go_wp2_with fail
            refine hsf.mono ?_
            rintro e w2 ⟨rfl, q, rfl⟩
            go_wp2
            go_roundw
            case rel => exact ⟨_, cnt1, ranges_drewN HRG.out q, below_drewN HB.out _, hnext⟩
            case measure =>
              have e : (w1.drewN q).rangeLeft m1 w.heap.size = w1.rangeLeft m1 w.heap.size := rfl
              rw [e, HRG.out.left_eq, HRG0.out.left_eq]; exact HLC.out
  · have hno : Hid (Dm.filesSame D1.files D2.files = false) := Lib.hid (by
      rw [Bool.eq_false_iff, ne_eq, Dm.filesSame_iff]
      intro e; exact hsz (by rw [e]))
    have hne : ((D1.files.length : Int) != (D2.files.length : Int)) = true := by simp; omega
    clear hsz
    go_enter Try.func46, Try.ntmps46
    go_wp2
    go_ret
    exact ⟨by rw [hno.out]; rfl, Below.refl _ _⟩

theorem Same_nils (w : World) : Calls Try.prog 23 #[.pointer none, .pointer none] w fun e w' => e = .returned (.bool true) ∧ w = w' := by
  go_enter Try.func23, Try.ntmps23
  go_wp2
  go_ret
  exact ⟨rfl, rfl⟩

theorem eqState (W : World) (d1 d2 b1 b2 : Bool) (f1 f2 r1 r2 : Int) :
    (binOp .eql 59 (.agg #[.bool d1, .int .i64 f1, .bool b1, .int .i64 r1]) (.agg #[.bool d2, .int .i64 f2, .bool b2, .int .i64 r2])).run Try.prog W = .ok (.bool (d1 == d2 && (f1 == f2 && (b1 == b2 && r1 == r2)))) W := by
  simp [go_sem]
  by_cases h1 : d1 = d2 <;> by_cases h2 : f1 = f2 <;> by_cases h3 : b1 = b2 <;> by_cases h4 : r1 = r2 <;> simp [h1, h2, h3, h4]

set_option maxRecDepth 100000 in
set_option maxHeartbeats 4000000 in
theorem Same_disk {w : World} {a b : Nat} {D E : Dm.Disk} {S S' : Nat → Prop} (h : Disk w a D S) (h' : Disk w b E S') :
    Calls Try.prog 23 #[.pointer (some ⟨a, 0, none⟩), .pointer (some ⟨b, 0, none⟩)] w fun e w' => e = .returned (.bool (Dm.same D E)) ∧ Below w.heap.size w w' := by
  obtain ⟨m1, T1, hR1, -⟩ := h
  obtain ⟨m2, T2, hR2, -⟩ := h'
  obtain ⟨c0, c1, c2, c3, c4, -⟩ := cells5 hR1.cell
  obtain ⟨d0, d1, d2, d3, d4, -⟩ := cells5 hR2.cell
  have heq := fun q => equalFunc_rep (w := w.drewN q) (hR1.heap fun _ _ => rfl) (hR2.heap fun _ _ => rfl)
  have HE := Lib.hid heq
  have hm1 := hR1.lt.1
  have hm2 := hR2.lt.1
  have hes := fun W => eqState W D.down E.down D.bounded E.bounded (D.fuse : Nat) (E.fuse : Nat) (D.room : Nat) (E.room : Nat)
  have hst : Hid ((D.down == E.down && ((D.fuse : Int) == (E.fuse : Int) && (D.bounded == E.bounded && (D.room : Int) == (E.room : Int)))) = (D.down == E.down && D.fuse == E.fuse && D.bounded == E.bounded && D.room == E.room)) := Lib.hid (by
    rw [Bool.eq_iff_iff]; simp [and_assoc]
    intro _; constructor <;> rintro ⟨h1, h2, h3⟩ <;> exact ⟨by omega, h2, by omega⟩)
  clear hR1 hR2 heq
  unfold Dm.same
  rw [hst.out] at hes
  generalize (D.down == E.down && D.fuse == E.fuse && D.bounded == E.bounded && D.room == E.room) = st at hes
  clear hst
  generalize D.down = v0 at *
  generalize D.fuse = v1 at *
  generalize D.bounded = v2 at *
  generalize D.room = v3 at *
  generalize E.down = u0 at *
  generalize E.fuse = u1 at *
  generalize E.bounded = u2 at *
  generalize E.room = u3 at *
  cases st with
  | false =>
    rw [Bool.false_and]
    go_enter Try.func23, Try.ntmps23
    go_wp2_with fail
    go_quiet (fail)
    go_wp2
    go_ret
    exact ⟨rfl, below_drewN (Below.refl _ _) _⟩
  | true =>
    rw [Bool.true_and]
    go_enter Try.func23, Try.ntmps23
    go_wp2_with fail
    have HC := Lib.hid (And.intro c0 (And.intro c1 (And.intro c2 (And.intro c3 (And.intro c4 (And.intro d0 (And.intro d1 (And.intro d2 (And.intro d3 d4)))))))))
    go_region_held3 (fun w' => w'.cell? ⟨a, 0, none⟩ = some (.bool v0) ∧ w'.cell? ⟨a, 1, none⟩ = some (.int .i64 (v1 : Nat)) ∧ w'.cell? ⟨a, 2, none⟩ = some (.bool v2) ∧ w'.cell? ⟨a, 3, none⟩ = some (.int .i64 (v3 : Nat)) ∧ w'.cell? ⟨a, 4, none⟩ = some (.map (some m1)) ∧ w'.cell? ⟨b, 0, none⟩ = some (.bool u0) ∧ w'.cell? ⟨b, 1, none⟩ = some (.int .i64 (u1 : Nat)) ∧ w'.cell? ⟨b, 2, none⟩ = some (.bool u2) ∧ w'.cell? ⟨b, 3, none⟩ = some (.int .i64 (u3 : Nat)) ∧ w'.cell? ⟨b, 4, none⟩ = some (.map (some m2)))
      (first | exact HC.out | exact hk2)
      (first | (go_at_call 46; refine (HE.out 1).mono ?_; rintro e w2 ⟨rfl, hb2⟩; have hba := undraw hb2; have hka := hba.block a hm1; have hkb := hba.block b hm2; have hk2 := And.intro (cell_keep c0 hka) (And.intro (cell_keep c1 hka) (And.intro (cell_keep c2 hka) (And.intro (cell_keep c3 hka) (And.intro (cell_keep c4 hka) (And.intro (cell_keep d0 hkb) (And.intro (cell_keep d1 hkb) (And.intro (cell_keep d2 hkb) (And.intro (cell_keep d3 hkb) (cell_keep d4 hkb))))))))); clear hb2 hka hkb))
    go_wp2
    go_ret
    exact ⟨rfl, hba⟩
end Go.Proofs.Yteolagmlghalgaa
