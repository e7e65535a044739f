/-
  Walks over package check: the iterators methods and steps. Conditions: those in the theorems.
-/
import Derived.Test.YtnkdhmoocomjfaaGreatDoorCkNames
import Derived.Test.YtnkdhmoocomjfaaGreatDoorCkRanges
import Derived.TacticsInMore
import Derived.LoopNIn
import Derived.LoopIn
import Derived.Sort.CutIn
import Derived.OwnWalkIn
set_option linter.unusedSimpArgs false
set_option linter.unusedVariables false
namespace Go.Proofs.YtnkdhmoocomjfaaGreatDoor
open Go.RowKit
attribute [local go_sem] Oper.semAt_some

theorem wideN {m : Nat} : Fence.wide.depth.isSome = true → 1 ≤ m := fun h => by simp [Fence.wide] at h
/-! ### lists in lists -/
section
variable {α β : Type} {f : α → List β} {L : List α}
/-- How many come ahead of the i-th list. -/
def off (f : α → List β) (L : List α) (i : Nat) : Nat := ((L.take i).flatMap f).length
theorem off_zero : off f L 0 = 0 := rfl
theorem off_succ {i : Nat} (h : i < L.length) : off f L (i + 1) = off f L i + (f L[i]).length := by
  unfold off
  rw [List.take_succ_eq_append_getElem h, List.flatMap_append, List.length_append]
  simp
theorem off_all : off f L L.length = (L.flatMap f).length := by unfold off; rw [List.take_length]
theorem off_at : ∀ {L : List α} {i k : Nat} (h : i < L.length) (hk : k < (f L[i]).length), (L.flatMap f)[off f L i + k]? = some (f L[i])[k]
  | x :: L, 0, k, h, hk => by
    have hk' : k < (f x).length := hk
    rw [off_zero, Nat.zero_add, List.flatMap_cons, List.getElem?_append_left hk']
    exact List.getElem?_eq_getElem hk'
  | x :: L, i + 1, k, h, hk => by
    have hi : i < L.length := by simpa using h
    have e : off f (x :: L) (i + 1) = (f x).length + off f L i := by
      unfold off
      rw [List.take_succ_cons, List.flatMap_cons, List.length_append]
    rw [e, List.flatMap_cons, Nat.add_assoc, List.getElem?_append_right (by omega), show (f x).length + (off f L i + k) - (f x).length = off f L i + k by omega]
    exact off_at hi hk
end
/-- A set, and one block more. -/
def upS (S : Nat → Prop) (g : Nat) : Nat → Prop := fun k => S k ∨ k = g
theorem stepsZ_alloc {S : Nat → Prop} (w : World) (o : Obj) : StepsZ S (upS S w.heap.size) w (w.alloc o) :=
  ⟨rfl, rfl, rfl, by simp, fun k hk _ => Below.heap_alloc _ _ _ hk, fun k hk => hk.elim .inl fun e => .inr (by omega)⟩
theorem upS_in {S : Nat → Prop} {w : World} {n : Nat} (o : Obj) (h : ∀ k, S k → n ≤ k ∧ k < w.heap.size) (hn : n ≤ w.heap.size) : ∀ k, upS S w.heap.size k → n ≤ k ∧ k < (w.alloc o).heap.size := fun k hk => by
  rw [World.size_alloc]
  rcases hk with hk | hk
  · have := h k hk; omega
  · omega
/-- What the body leaves of the schema's world, and of the iterator's box. -/
theorem body_kp {u A C : World} {b : Nat} {S : Nat → Prop} (h : BodyZ (fun k => k < u.heap.size ∨ k = b) S A C) (hk : Kp u A) : Kp u C :=
  ⟨Nat.le_trans hk.size h.size, fun k hk' => (h.block k (Nat.lt_of_lt_of_le hk' hk.size) (.inl (.inl hk'))).trans (hk.block k hk')⟩
theorem body_box {u A C : World} {b : Nat} {S : Nat → Prop} {o : Obj} (h : BodyZ (fun k => k < u.heap.size ∨ k = b) S A C) (hb : A.heap[b]? = some o) : C.heap[b]? = some o :=
  (h.block b (Array.getElem?_eq_some_iff.1 hb).1 (.inl (.inr rfl))).trans hb
theorem body_own {u A C : World} {b g : Nat} {S : Nat → Prop} {o : Obj} (h : BodyZ (fun k => k < u.heap.size ∨ k = b) S A C) (hg : S g) (hb : A.heap[g]? = some o) : C.heap[g]? = some o :=
  (h.block g (Array.getElem?_eq_some_iff.1 hb).1 (.inr hg)).trans hb
/-- The schema's box. -/
def schO (s : Ip.Sch) (p1 : Option Addr) (c1 : Nat) (p2 : Option Addr) (c2 : Nat) (p3 : Option Addr) (c3 : Nat) : Obj := .cells #[.string s.name, .slice p1 s.records.length c1, .slice p2 s.services.length c2, .slice p3 s.sagas.length c3] 26 (0, 0)

/-! ### methods -/
def allM (s : Ip.Sch) : List (Ip.Srv × Ip.Mth) := s.services.flatMap fun v => v.methods.map fun m => (v, m)
def srvA (v : Ip.Srv) (b : Option Addr × Nat) : Value := .agg #[.string v.name, .slice b.1 v.methods.length b.2]
def encM (x : Ip.Srv × Ip.Mth) (b : Option Addr × Nat) : Array Value := #[srvA x.1 b, mthV x.2]
def relM (u : World) (_ : Nat → Prop) (_ : World) (x : Ip.Srv × Ip.Mth) (b : Option Addr × Nat) : Prop := SrvV u (srvA x.1 b) x.1 ∧ MthIn x.2
set_option maxRecDepth 100000 in
set_option maxHeartbeats 8000000 in
theorem methods1_seq (n : Nat) {u w : World} {s : Ip.Sch} {p1 p2 p3 : Option Addr} {c1 c2 c3 : Nat} (h : RoSrv u (.slice p2 s.services.length c2) s.services) (hu : Kp u w) {b : Nat} (hb : w.heap[b]? = some (schO s p1 c1 p2 c2 p3 c3)) :
    SeqV Fence.wide n Tryz.prog 171 #[.pointer (some ⟨b, 0, none⟩)] encM (relM u) (allM s) (fun k => k < u.heap.size ∨ k = b) w := fun l J Jx W hW hJ hY hJx h0 => by
  refine callsIn_of_wp Tryz.func171 rfl trivial ?_ rfl
  simp only [Tryz.ntmps171, List.size_toArray, List.length_cons, List.length_nil, Nat.reduceAdd, Nat.reduceSub, Array.replicate_succ, Array.replicate_zero, List.push_toArray, List.append_toArray, List.nil_append, List.cons_append]
  have hbW := box_keep hW hb
  obtain ⟨x0, x1, x2, x3⟩ := cells4' hbW
  obtain ⟨OB, hOB⟩ : ∃ OB, OB = schO s p1 c1 p2 c2 p3 c3 := ⟨_, rfl⟩
  rw [← hOB] at hbW
  have HB := Lib.hid hbW
  have HU := Lib.hid (hu.below hW)
  have H := Lib.hid h
  have HY := Lib.hid hY
  have HJ := Lib.hid hJ
  have H0 := Lib.hid h0
  obtain ⟨_, _, e1, l1⟩ := ro_len h
  cases e1
  clear hbW hb hu h hY hJ hJx h0 hOB
  gi_wp2_with fail
  clear x0 x1 x2 x3
  gi_loopw [10] (fun iv wr => ∃ i : Nat, i ≤ s.services.length ∧ iv = .int .i64 (i : Nat) ∧ Hid (∃ S, J S (off (fun v : Ip.Srv => v.methods.map fun m => (v, m)) s.services i) wr ∧ (∀ k, S k → W.heap.size ≤ k ∧ k < wr.heap.size) ∧ Kp u wr ∧ wr.heap[b]? = some OB ∧ W.heap.size ≤ wr.heap.size)) (fun iv _ => s.services.length - (intOf iv).toNat)
  case atStart => exact ⟨0, Nat.zero_le _, rfl, Lib.hid ⟨_, H0.out, fun k hk => hk.elim, HU.out, HB.out, Nat.le_refl _⟩⟩
  case round =>
    obtain ⟨i, hi, rfl, HR⟩ := hrel
    by_cases hlt : i < s.services.length
    · have i1 : (i : Int) < (s.services.length : Int) := by omega
      have i2 : (0 : Int) ≤ (i : Int) := by omega
      obtain ⟨S, hj, hS, hk, hbx, hwz⟩ := HR.out
      obtain ⟨A, cc, q, kq, e3, hA, c0, c1', hin, hms, hml⟩ := srv_at (H.out.kp hk) hlt
      obtain ⟨A2, cc2, q2, kq2, e4, hA2, d0, d1, hin2, hms2, hml2⟩ := srv_at H.out hlt
      cases e3
      cases e4
      have hqq := (hk.cell (by exact (tadd_block A _).symm ▸ hA2)).symm.trans c1'
      rw [d1] at hqq
      have hqe : q2 = q ∧ kq2 = kq := by
        have := Option.some.inj hqq
        injection this with h1 h2 h3
        exact ⟨h1, h3⟩
      obtain ⟨rfl, rfl⟩ := hqe
      have HMS := Lib.hid hms2
      have HIN := Lib.hid hin2
      obtain ⟨W1, hW1⟩ : ∃ W1, W1 = wr.alloc (.cells #[.string s.services[i].name, .slice q2 s.services[i].methods.length kq2] 98) := ⟨_, rfl⟩
      have hn1 : W1.heap[wr.heap.size]? = some (.cells #[.string s.services[i].name, .slice q2 s.services[i].methods.length kq2] 98 (0, 0)) := by rw [hW1]; exact heap_alloc_new wr _
      have HS1 : Hid (J (upS S wr.heap.size) (off (fun v : Ip.Srv => v.methods.map fun m => (v, m)) s.services i) W1 ∧ (∀ k, upS S wr.heap.size k → W.heap.size ≤ k ∧ k < W1.heap.size) ∧ upS S wr.heap.size wr.heap.size ∧ Kp u W1 ∧ W1.heap[b]? = some OB ∧ W1.heap[wr.heap.size]? = some (.cells #[.string s.services[i].name, .slice q2 s.services[i].methods.length kq2] 98 (0, 0)) ∧ W.heap.size ≤ W1.heap.size) := Lib.hid (by
        rw [hW1]
        exact ⟨HJ.out _ _ _ _ _ hj (stepsZ_alloc wr _), upS_in _ hS hwz, .inr rfl, hk.below (tk_alloc wr _), box_keep (tk_alloc wr _) hbx, heap_alloc_new wr _, by rw [World.size_alloc]; omega⟩)
      obtain ⟨y0, y1⟩ := cells2 hn1
      have HO : Hid (∀ k (hk : k < s.services[i].methods.length), (allM s)[off (fun v : Ip.Srv => v.methods.map fun m => (v, m)) s.services i + k]? = some (s.services[i], s.services[i].methods[k])) := Lib.hid fun k hk => by
        have := off_at (f := fun v : Ip.Srv => v.methods.map fun m => (v, m)) hlt (k := k) (by simpa using hk)
        unfold allM
        rw [this]
        simp
      have HOS : Hid (off (fun v : Ip.Srv => v.methods.map fun m => (v, m)) s.services (i + 1) = off (fun v : Ip.Srv => v.methods.map fun m => (v, m)) s.services i + s.services[i].methods.length) := Lib.hid (by rw [off_succ hlt, List.length_map])
      clear hj hS hk hbx hwz HR hn1 hms hms2 hin hin2 hqq d0 d1 hA hA2 hml2
      generalize off (fun v : Ip.Srv => v.methods.map fun m => (v, m)) s.services i = o at *
      generalize s.services[i] = sv at *
      gi_upto_region 3 with fail
      rw [← hW1]
      clear hW1
      generalize wr.heap.size = g at *
      gi_wp2_with fail
      clear y0 y1 c0 c1'
      gi_loopw [17] (fun kv wx => ∃ k : Nat, k ≤ sv.methods.length ∧ kv = .int .i64 (k : Nat) ∧ Hid (∃ S, J S (o + k) wx ∧ (∀ k, S k → W.heap.size ≤ k ∧ k < wx.heap.size) ∧ S g ∧ Kp u wx ∧ wx.heap[b]? = some OB ∧ wx.heap[g]? = some (.cells #[.string sv.name, .slice q2 sv.methods.length kq2] 98 (0, 0)) ∧ W.heap.size ≤ wx.heap.size)) (fun kv _ => sv.methods.length - (intOf kv).toNat)
      case atStart => exact ⟨0, Nat.zero_le _, rfl, Lib.hid ⟨_, HS1.out⟩⟩
      case round =>
        obtain ⟨k, hk, rfl, HR⟩ := hrel
        by_cases hlk : k < sv.methods.length
        · have j1 : (k : Int) < (sv.methods.length : Int) := by omega
          have j2 : (0 : Int) ≤ (k : Int) := by omega
          obtain ⟨S, hj, hS, hSg, hkp, hbx, hgx, hwz⟩ := HR.out
          obtain ⟨B, cb, e5, hB, d0, d1, d2, d3, d4, hmin⟩ := mth_at (HMS.out.kp hkp) hlk
          cases e5
          obtain ⟨z0, z1⟩ := cells2 hgx
          have hxo := HO.out k hlk
          generalize sv.methods[k] = m at d0 d1 d2 d3 d4 hmin hxo
          obtain ⟨hio, hxe⟩ := List.getElem?_eq_some_iff.1 hxo
          obtain ⟨W2, hW2⟩ : ∃ W2, W2 = wr.alloc (.cells #[.string m.name, .string m.arg, .int .u8 (m.result : Nat), .string m.effect, .string m.undo] 100) := ⟨_, rfl⟩
          have hn2 : W2.heap[wr.heap.size]? = some (.cells #[.string m.name, .string m.arg, .int .u8 (m.result : Nat), .string m.effect, .string m.undo] 100 (0, 0)) := by rw [hW2]; exact heap_alloc_new wr _
          have hb2 : Below wr.heap.size wr W2 := by rw [hW2]; exact tk_alloc wr _
          obtain ⟨y0, y1, y2, y3, y4⟩ := cells5 hn2
          obtain ⟨g0, g1⟩ := cells2 (box_keep hb2 hgx)
          have hS2 : ∀ k, upS S wr.heap.size k → W.heap.size ≤ k ∧ k < W2.heap.size := by rw [hW2]; exact upS_in _ hS hwz
          obtain ⟨fn, tmps, assign, body, hy, hR⟩ := HY.out (upS S wr.heap.size) (o + k) hio W2 (some B, kq2) (Nat.le_trans hwz hb2.size) hS2 (by rw [hxe]; exact ⟨⟨_, _, rfl, HIN.out, HMS.out⟩, hmin⟩) (HJ.out _ _ _ _ _ hj (by rw [hW2]; exact stepsZ_alloc wr _))
          rw [hxe] at hy
          have HRR := Lib.hid hR
          have HK2 : Hid (Kp u W2 ∧ W2.heap[b]? = some OB ∧ W2.heap[g]? = some (.cells #[.string sv.name, .slice (some B) sv.methods.length kq2] 98 (0, 0)) ∧ W.heap.size ≤ W2.heap.size ∧ upS S wr.heap.size g) := Lib.hid ⟨hkp.below hb2, box_keep hb2 hbx, box_keep hb2 hgx, Nat.le_trans hwz hb2.size, .inl hSg⟩
          have HS2 := Lib.hid hS2
          have HIO := Lib.hid hio
          unfold encM srvA mthV at hy
          clear hj hS hSg hkp hbx hgx hwz HR hn2 hb2 hmin hxo hxe hR hS2 hio hB
          gi_upto_region 6 with fail
          rw [← hW2]
          clear hW2 d0 d1 d2 d3 d4 z0 z1
          gi_wp2_with fail
          refine ⟨wideN, HRR.out.mono ?_⟩
          rintro e W3 (⟨rfl, hj3, hk3⟩ | ⟨rfl, hj3, hk3⟩)
          · have HN : Hid (J (upS S wr.heap.size) (o + (k + 1)) W3 ∧ (∀ k, upS S wr.heap.size k → W.heap.size ≤ k ∧ k < W3.heap.size) ∧ upS S wr.heap.size g ∧ Kp u W3 ∧ W3.heap[b]? = some OB ∧ W3.heap[g]? = some (.cells #[.string sv.name, .slice (some B) sv.methods.length kq2] 98 (0, 0)) ∧ W.heap.size ≤ W3.heap.size) := Lib.hid (by
              obtain ⟨a1, a2, a3, a4, a5⟩ := HK2.out
              exact ⟨hj3, fun k hk => ⟨(HS2.out k hk).1, Nat.lt_of_lt_of_le (HS2.out k hk).2 hk3.size⟩, a5, body_kp hk3 a1, body_box hk3 a2, body_own hk3 a5 a3, Nat.le_trans a4 hk3.size⟩)
            clear hj3 hk3 hy y0 y1 y2 y3 y4 g0 g1
            gi_wp2_with fail
            go_roundw
            case rel => exact ⟨k + 1, by omega, by go_num, Lib.hid ⟨_, HN.out⟩⟩
            case measure => simp [intOf]; omega
          · have HN : Hid (∀ k, upS S wr.heap.size k → W.heap.size ≤ k) := Lib.hid fun k hk => (HS2.out k hk).1
            have HJ3 := Lib.hid hj3
            clear hj3 hk3 hy y0 y1 y2 y3 y4 g0 g1
            gi_wp2_with fail
            refine bodyPost_ret (results_none rfl _ _ _) rfl ?_
            exact ⟨⟨_, rfl⟩, _, HN.out, .inr ⟨_, HIO.out, HJ3.out⟩⟩
        · obtain rfl : k = sv.methods.length := by omega
          have j1 : ¬ (sv.methods.length : Int) < (sv.methods.length : Int) := by omega
          have HN : Hid (∃ S, J S (off (fun v : Ip.Srv => v.methods.map fun m => (v, m)) s.services (i + 1)) wr ∧ (∀ k, S k → W.heap.size ≤ k ∧ k < wr.heap.size) ∧ Kp u wr ∧ wr.heap[b]? = some OB ∧ W.heap.size ≤ wr.heap.size) := Lib.hid (by
            obtain ⟨S, hj, hS, hSg, hkp, hbx, hgx, hwz⟩ := HR.out
            exact ⟨S, by rw [HOS.out]; exact hj, hS, hkp, hbx, hwz⟩)
          gi_wp2_with fail
          go_roundw
          case rel => exact ⟨i + 1, by omega, by go_num, HN⟩
          case measure => simp [intOf]; omega
    · obtain rfl : i = s.services.length := by omega
      have i1 : ¬ (s.services.length : Int) < (s.services.length : Int) := by omega
      gi_wp2_with fail
      go_end0
      obtain ⟨S, hj, hS, -⟩ := HR.out
      exact ⟨⟨_, rfl⟩, S, fun k hk => (hS k hk).1, .inl (by rw [off_all] at hj; exact hj)⟩

/-! ### steps -/
def allS (s : Ip.Sch) : List (Ip.Sga × Nat) := s.sagas.flatMap fun v => (List.range v.steps.length).map fun m => (v, m)
def sgaA (v : Ip.Sga) (b : Option Addr × Nat) : Value := .agg #[.string v.name, .string v.arg, .slice b.1 v.steps.length b.2]
def encS (x : Ip.Sga × Nat) (b : Option Addr × Nat) : Array Value := #[sgaA x.1 b, .int .i64 (x.2 : Nat)]
def relS (u : World) (_ : Nat → Prop) (_ : World) (x : Ip.Sga × Nat) (b : Option Addr × Nat) : Prop := SgaV u (sgaA x.1 b) x.1
set_option maxRecDepth 100000 in
set_option maxHeartbeats 8000000 in
theorem steps1_seq (n : Nat) {u w : World} {s : Ip.Sch} {p1 p2 p3 : Option Addr} {c1 c2 c3 : Nat} (h : RoSga u (.slice p3 s.sagas.length c3) s.sagas) (hu : Kp u w) {b : Nat} (hb : w.heap[b]? = some (schO s p1 c1 p2 c2 p3 c3)) :
    SeqV Fence.wide n Tryz.prog 175 #[.pointer (some ⟨b, 0, none⟩)] encS (relS u) (allS s) (fun k => k < u.heap.size ∨ k = b) w := fun l J Jx W hW hJ hY hJx h0 => by
  refine callsIn_of_wp Tryz.func175 rfl trivial ?_ rfl
  simp only [Tryz.ntmps175, List.size_toArray, List.length_cons, List.length_nil, Nat.reduceAdd, Nat.reduceSub, Array.replicate_succ, Array.replicate_zero, List.push_toArray, List.append_toArray, List.nil_append, List.cons_append]
  have hbW := box_keep hW hb
  obtain ⟨x0, x1, x2, x3⟩ := cells4' hbW
  obtain ⟨OB, hOB⟩ : ∃ OB, OB = schO s p1 c1 p2 c2 p3 c3 := ⟨_, rfl⟩
  rw [← hOB] at hbW
  have HB := Lib.hid hbW
  have HU := Lib.hid (hu.below hW)
  have H := Lib.hid h
  have HY := Lib.hid hY
  have HJ := Lib.hid hJ
  have H0 := Lib.hid h0
  obtain ⟨_, _, e1, l1⟩ := ro_len h
  cases e1
  clear hbW hb hu h hY hJ hJx h0 hOB
  gi_wp2_with fail
  clear x0 x1 x2 x3
  gi_loopw [9] (fun iv wr => ∃ i : Nat, i ≤ s.sagas.length ∧ iv = .int .i64 (i : Nat) ∧ Hid (∃ S, J S (off (fun v : Ip.Sga => (List.range v.steps.length).map fun m => (v, m)) s.sagas i) wr ∧ (∀ k, S k → W.heap.size ≤ k ∧ k < wr.heap.size) ∧ Kp u wr ∧ wr.heap[b]? = some OB ∧ W.heap.size ≤ wr.heap.size)) (fun iv _ => s.sagas.length - (intOf iv).toNat)
  case atStart => exact ⟨0, Nat.zero_le _, rfl, Lib.hid ⟨_, H0.out, fun k hk => hk.elim, HU.out, HB.out, Nat.le_refl _⟩⟩
  case round =>
    obtain ⟨i, hi, rfl, HR⟩ := hrel
    by_cases hlt : i < s.sagas.length
    · have i1 : (i : Int) < (s.sagas.length : Int) := by omega
      have i2 : (0 : Int) ≤ (i : Int) := by omega
      obtain ⟨S, hj, hS, hk, hbx, hwz⟩ := HR.out
      obtain ⟨A, cc, q, kq, e3, hA, c0, c1', c2', hin, hms, hml⟩ := sga_at (H.out.kp hk) hlt
      obtain ⟨A2, cc2, q2, kq2, e4, hA2, d0, d1, d2, hin2, hms2, hml2⟩ := sga_at H.out hlt
      cases e3
      cases e4
      have hqq := (hk.cell (by exact (tadd_block A _).symm ▸ hA2)).symm.trans c2'
      rw [d2] at hqq
      have hqe : q2 = q ∧ kq2 = kq := by
        have := Option.some.inj hqq
        injection this with h1 h2 h3
        exact ⟨h1, h3⟩
      obtain ⟨rfl, rfl⟩ := hqe
      have HMS := Lib.hid hms2
      have HIN := Lib.hid hin2
      obtain ⟨W1, hW1⟩ : ∃ W1, W1 = wr.alloc (.cells #[.string s.sagas[i].name, .string s.sagas[i].arg, .slice q2 s.sagas[i].steps.length kq2] 44) := ⟨_, rfl⟩
      have hn1 : W1.heap[wr.heap.size]? = some (.cells #[.string s.sagas[i].name, .string s.sagas[i].arg, .slice q2 s.sagas[i].steps.length kq2] 44 (0, 0)) := by rw [hW1]; exact heap_alloc_new wr _
      have HS1 : Hid (J (upS S wr.heap.size) (off (fun v : Ip.Sga => (List.range v.steps.length).map fun m => (v, m)) s.sagas i) W1 ∧ (∀ k, upS S wr.heap.size k → W.heap.size ≤ k ∧ k < W1.heap.size) ∧ upS S wr.heap.size wr.heap.size ∧ Kp u W1 ∧ W1.heap[b]? = some OB ∧ W1.heap[wr.heap.size]? = some (.cells #[.string s.sagas[i].name, .string s.sagas[i].arg, .slice q2 s.sagas[i].steps.length kq2] 44 (0, 0)) ∧ W.heap.size ≤ W1.heap.size) := Lib.hid (by
        rw [hW1]
        exact ⟨HJ.out _ _ _ _ _ hj (stepsZ_alloc wr _), upS_in _ hS hwz, .inr rfl, hk.below (tk_alloc wr _), box_keep (tk_alloc wr _) hbx, heap_alloc_new wr _, by rw [World.size_alloc]; omega⟩)
      obtain ⟨y0, y1, y2⟩ := cells3 hn1
      have HO : Hid (∀ k (hk : k < s.sagas[i].steps.length), (allS s)[off (fun v : Ip.Sga => (List.range v.steps.length).map fun m => (v, m)) s.sagas i + k]? = some (s.sagas[i], k)) := Lib.hid fun k hk => by
        have := off_at (f := fun v : Ip.Sga => (List.range v.steps.length).map fun m => (v, m)) hlt (k := k) (by simpa using hk)
        unfold allS
        rw [this]
        simp
      have HOS : Hid (off (fun v : Ip.Sga => (List.range v.steps.length).map fun m => (v, m)) s.sagas (i + 1) = off (fun v : Ip.Sga => (List.range v.steps.length).map fun m => (v, m)) s.sagas i + s.sagas[i].steps.length) := Lib.hid (by rw [off_succ hlt, List.length_map, List.length_range])
      clear hj hS hk hbx hwz HR hn1 hms hms2 hin hin2 hqq d0 d1 d2 hA hA2 hml2
      generalize off (fun v : Ip.Sga => (List.range v.steps.length).map fun m => (v, m)) s.sagas i = o at *
      generalize s.sagas[i] = sv at *
      gi_upto_region 3 with fail
      rw [← hW1]
      clear hW1
      generalize wr.heap.size = g at *
      gi_wp2_with fail
      clear y0 y1 y2 c0 c1' c2'
      gi_loopw [16] (fun kv wx => ∃ k : Nat, k ≤ sv.steps.length ∧ kv = .int .i64 (k : Nat) ∧ Hid (∃ S, J S (o + k) wx ∧ (∀ k, S k → W.heap.size ≤ k ∧ k < wx.heap.size) ∧ S g ∧ Kp u wx ∧ wx.heap[b]? = some OB ∧ wx.heap[g]? = some (.cells #[.string sv.name, .string sv.arg, .slice q2 sv.steps.length kq2] 44 (0, 0)) ∧ W.heap.size ≤ wx.heap.size)) (fun kv _ => sv.steps.length - (intOf kv).toNat)
      case atStart => exact ⟨0, Nat.zero_le _, rfl, Lib.hid ⟨_, HS1.out⟩⟩
      case round =>
        obtain ⟨k, hk, rfl, HR⟩ := hrel
        by_cases hlk : k < sv.steps.length
        · have j1 : (k : Int) < (sv.steps.length : Int) := by omega
          have j2 : (0 : Int) ≤ (k : Int) := by omega
          obtain ⟨S, hj, hS, hSg, hkp, hbx, hgx, hwz⟩ := HR.out
          obtain ⟨g0, g1, g2⟩ := cells3 hgx
          have hxo := HO.out k hlk
          obtain ⟨hio, hxe⟩ := List.getElem?_eq_some_iff.1 hxo
          obtain ⟨fn, tmps, assign, body, hy, hR⟩ := HY.out S (o + k) hio wr (q2, kq2) hwz hS (by rw [hxe]; exact ⟨_, _, rfl, HIN.out, HMS.out⟩) hj
          rw [hxe] at hy
          have HRR := Lib.hid hR
          have HK2 : Hid (Kp u wr ∧ wr.heap[b]? = some OB ∧ wr.heap[g]? = some (.cells #[.string sv.name, .string sv.arg, .slice q2 sv.steps.length kq2] 44 (0, 0)) ∧ W.heap.size ≤ wr.heap.size ∧ S g) := Lib.hid ⟨hkp, hbx, hgx, hwz, hSg⟩
          have HS2 := Lib.hid hS
          have HIO := Lib.hid hio
          unfold encS sgaA at hy
          clear hj hS hSg hkp hbx hgx hwz HR hxo hxe hR hio
          gi_wp2_with fail
          refine ⟨wideN, HRR.out.mono ?_⟩
          rintro e W3 (⟨rfl, hj3, hk3⟩ | ⟨rfl, hj3, hk3⟩)
          · have HN : Hid (J (S) (o + (k + 1)) W3 ∧ (∀ k, S k → W.heap.size ≤ k ∧ k < W3.heap.size) ∧ S g ∧ Kp u W3 ∧ W3.heap[b]? = some OB ∧ W3.heap[g]? = some (.cells #[.string sv.name, .string sv.arg, .slice q2 sv.steps.length kq2] 44 (0, 0)) ∧ W.heap.size ≤ W3.heap.size) := Lib.hid (by
              obtain ⟨a1, a2, a3, a4, a5⟩ := HK2.out
              exact ⟨hj3, fun k hk => ⟨(HS2.out k hk).1, Nat.lt_of_lt_of_le (HS2.out k hk).2 hk3.size⟩, a5, body_kp hk3 a1, body_box hk3 a2, body_own hk3 a5 a3, Nat.le_trans a4 hk3.size⟩)
            clear hj3 hk3 hy g0 g1 g2
            gi_wp2_with fail
            go_roundw
            case rel => exact ⟨k + 1, by omega, by go_num, Lib.hid ⟨_, HN.out⟩⟩
            case measure => simp [intOf]; omega
          · have HN : Hid (∀ k, S k → W.heap.size ≤ k) := Lib.hid fun k hk => (HS2.out k hk).1
            have HJ3 := Lib.hid hj3
            clear hj3 hk3 hy g0 g1 g2
            gi_wp2_with fail
            refine bodyPost_ret (results_none rfl _ _ _) rfl ?_
            exact ⟨⟨_, rfl⟩, _, HN.out, .inr ⟨_, HIO.out, HJ3.out⟩⟩
        · obtain rfl : k = sv.steps.length := by omega
          have j1 : ¬ (sv.steps.length : Int) < (sv.steps.length : Int) := by omega
          have HN : Hid (∃ S, J S (off (fun v : Ip.Sga => (List.range v.steps.length).map fun m => (v, m)) s.sagas (i + 1)) wr ∧ (∀ k, S k → W.heap.size ≤ k ∧ k < wr.heap.size) ∧ Kp u wr ∧ wr.heap[b]? = some OB ∧ W.heap.size ≤ wr.heap.size) := Lib.hid (by
            obtain ⟨S, hj, hS, hSg, hkp, hbx, hgx, hwz⟩ := HR.out
            exact ⟨S, by rw [HOS.out]; exact hj, hS, hkp, hbx, hwz⟩)
          gi_wp2_with fail
          go_roundw
          case rel => exact ⟨i + 1, by omega, by go_num, HN⟩
          case measure => simp [intOf]; omega
    · obtain rfl : i = s.sagas.length := by omega
      have i1 : ¬ (s.sagas.length : Int) < (s.sagas.length : Int) := by omega
      gi_wp2_with fail
      go_end0
      obtain ⟨S, hj, hS, -⟩ := HR.out
      exact ⟨⟨_, rfl⟩, S, fun k hk => (hS k hk).1, .inl (by rw [off_all] at hj; exact hj)⟩
end Go.Proofs.YtnkdhmoocomjfaaGreatDoor
