/-
  Walks over package sum: the law SumBack.
-/
import Derived.Test.YtkaanffclpbiiaaRows
import Derived.Test.YtkaanffclpbiiaaSumWhole
import Derived.Test.YtkaanffclpbiiaaSumAll
import Derived.Test.YtkaanffclpbiiaaSumBackMath
import Derived.Test.YtkaanffclpbiiaaSumNoughts
import Derived.Test.YtkaanffclpbiiaaSumWalkE
import Derived.Shelf.Abstract
import Derived.Shelf.RegionOpen
import Derived.WalkKit
import Derived.OwnWalkIn
import Derived.TacticsInMore
import Derived.LoopNIn
import Derived.LoopIn
import Derived.Lib.Hide
import Derived.Deep.WholeRow
namespace Go.Proofs.Ytkaanffclpbiiaa
open Go.RowKit Go.Shelf
attribute [local go_sem] Oper.semAt_some


/-- A slice of texts, as a walk wants it: of n elements, at v; cell i holds ss[i]. -/
def TextsAt (W : World) (p : Option Addr) (ss : List ByteArray) : Prop := ∀ i (h : i < ss.length), ∃ a, p = some a ∧ a.block < W.heap.size ∧ W.cell? (a.add i) = some (.string ss[i])

/-- The lengths together, each at most 20001. -/
def lens : List ByteArray → Nat
  | [] => 0
  | s :: r => min s.size 20001 + lens r
theorem add_block (a : Addr) (i : Nat) : (a.add i).block = a.block := by unfold Addr.add; split <;> rfl
theorem TextsAt.below {W W' : World} {p : Option Addr} {ss : List ByteArray} (h : TextsAt W p ss) (hb : Below W.heap.size W W') : TextsAt W' p ss := fun i hi => by
  obtain ⟨a, h1, h2, h3⟩ := h i hi
  exact ⟨a, h1, Nat.lt_of_lt_of_le h2 hb.size, (hb.cell (by rw [add_block]; exact h2)).trans h3⟩
theorem lens_append (a b : List ByteArray) : lens (a ++ b) = lens a + lens b := by
  induction a with
  | nil => simp [lens]
  | cons x r ih => show min x.size 20001 + lens (r ++ b) = _; rw [ih]; show _ = min x.size 20001 + lens r + lens b; omega
theorem lens_take (ss : List ByteArray) (k : Nat) (hk : k < ss.length) : lens (ss.take (k + 1)) = lens (ss.take k) + min ss[k].size 20001 := by
  rw [List.take_succ_eq_append_getElem hk, lens_append]; simp [lens]
theorem lens_le (ss : List ByteArray) : lens ss ≤ ss.length * 20001 := by
  induction ss with
  | nil => simp [lens]
  | cons x r ih => show min x.size 20001 + lens r ≤ (r.length + 1) * 20001; omega

def bsOf (ss : List ByteArray) : List (List UInt8) := ss.map (fun x => x.data.toList)
/-- A body's frame; frames one behind the other. -/
def frm (b : ByteArray) : ByteArray := ⟨(Sm.frame b.data.toList).toArray⟩
def row (ss : List ByteArray) : ByteArray := ⟨(Sm.frames (bsOf ss)).toArray⟩
theorem frm_size (b : ByteArray) : (frm b).size = b.size + 8 := by
  unfold frm; rw [size_mk, Sm.frame_len]; simp
theorem row_take (ss : List ByteArray) (k : Nat) (hk : k < ss.length) : row (ss.take (k + 1)) = row (ss.take k) ++ frm ss[k] := by
  unfold row frm bsOf
  rw [List.take_succ_eq_append_getElem hk, List.map_append, List.map_cons, List.map_nil, Sm.frames_snoc, ByteArray.mk_append_mk]
theorem row_size : ∀ (ss : List ByteArray), (∀ s ∈ ss, s.size ≤ 20000) → (row ss).size = lens ss + 8 * ss.length
  | [], _ => rfl
  | b :: bs, h => by
    have h1 := row_size bs (fun s hs => h s (by simp [hs]))
    have h2 := h b (by simp)
    have h3 : row (b :: bs) = frm b ++ row bs := by
      unfold row frm bsOf
      rw [List.map_cons]; show (⟨(Sm.frame b.data.toList ++ Sm.frames _).toArray⟩ : ByteArray) = _
      rw [ByteArray.mk_append_mk]
    rw [h3, ByteArray.size_append, frm_size, h1]
    show b.size + 8 + (lens bs + 8 * bs.length) = min b.size 20001 + lens bs + 8 * (bs.length + 1)
    omega
theorem lens_each (ss : List ByteArray) (h : lens ss ≤ 20000) : ∀ s ∈ ss, s.size ≤ 20000 := by
  induction ss with
  | nil => intro s hs; cases hs
  | cons x r ih =>
    have h' : min x.size 20001 + lens r ≤ 20000 := h
    intro s hs
    rcases List.mem_cons.1 hs with rfl | hs
    · omega
    · exact ih (by omega) s hs
theorem Frame_frm (s : ByteArray) (w : World) (hl : s.size ≤ 20000) :
    Calls Try.prog 10 #[.string s] w fun e w' => e = .returned (.tuple #[.string (frm s), .int .i64 0]) ∧ Below w.heap.size w w' := Frame_short s w (by omega)
theorem Next_frm (t b r : ByteArray) (w : World) (hb : b.size ≤ 20000) (hs : (t ++ frm b ++ r).size ≤ 140737488355328) :
    Calls Try.prog 11 #[.string (t ++ frm b ++ r), .int .i64 (t.size : Nat)] w fun e w' => e = .returned (.tuple #[.string b, .int .i64 ((t.size + (frm b).size : Nat) : Int), .bool true]) ∧ Below w.heap.size w w' := by
  have e0 : (t ++ frm b ++ r).data.toList = t.data.toList ++ (Sm.frame b.data.toList ++ r.data.toList) := by
    unfold frm; simp [ByteArray.data_append]
  have el : t.data.toList.length = t.size := by simp
  have eb : b.data.toList.length = b.size := by simp
  have e1 : Sm.behind (t ++ frm b ++ r).data.toList (t.size : Nat) = some (t.size + (frm b).size) := by
    rw [behind_nat, e0]
    have h := Sm.behindAt_frame t.data.toList b.data.toList r.data.toList (by omega)
    rw [el, eb] at h
    rw [h, frm_size]; congr 1; omega
  have h := Next_yes _ t.size w hs _ e1
  have e2 : Sm.bodyAt (t ++ frm b ++ r).data.toList t.size (t.size + (frm b).size) = b.data.toList := by
    rw [e0]
    have h := Sm.bodyAt_frame t.data.toList b.data.toList r.data.toList
    rw [el, eb] at h
    rw [frm_size, show t.size + (b.size + 8) = t.size + 8 + b.size by omega]; exact h
  rw [e2] at h
  exact h
theorem run_add (a b : ByteArray) (h : a.size + b.size ≤ 1000000) (W : World) : (Op.stringOp .add a b).run Try.prog W = .ok (.string (a ++ b)) W := run_string_add_sum W a b (by omega)

theorem row_list (ss : List ByteArray) : (row ss).data.toList = Sm.frames (bsOf ss) := rfl
theorem bs_len (ss : List ByteArray) (h : ∀ s ∈ ss, s.size ≤ 20000) : ∀ b ∈ bsOf ss, b.length ≤ 65536 := by
  intro b hb
  obtain ⟨s, hs, rfl⟩ := List.mem_map.1 hb
  have := h s hs
  have e : s.data.toList.length = s.size := by simp
  omega
theorem row_len (ss : List ByteArray) : (Sm.frames (bsOf ss)).length = (row ss).size := by rw [← row_list]; simp
theorem row_chain (ss : List ByteArray) (h : ∀ s ∈ ss, s.size ≤ 20000) : Sm.Chain (row ss).data.toList 0 (Sm.endsAt 0 (bsOf ss)) := by
  have h := Sm.chain_whole (bsOf ss) [] (bs_len ss h) rfl
  rw [List.append_nil] at h; exact h
theorem row_bodies (ss : List ByteArray) : Sm.bodiesOf (row ss).data.toList 0 (Sm.endsAt 0 (bsOf ss)) = ss := by
  rw [row_list, Sm.bodies_whole, bsOf, List.map_map]
  conv => rhs; rw [← List.map_id ss]
  rfl
theorem Whole_none (ss : List ByteArray) (r : ByteArray) (h : ∀ s ∈ ss, s.size ≤ 20000) (hm : (row ss ++ r).size ≤ maxLen) (hr : Sm.behind r.data.toList 0 = none) (w : World) :
    Calls Try.prog 16 #[.string (row ss ++ r)] w fun e w' => e = .returned (.int .i64 ((row ss).size : Nat)) ∧ Below w.heap.size w w' := by
  have e0 : (row ss ++ r).data.toList = Sm.frames (bsOf ss) ++ r.data.toList := by rw [ByteArray.data_append, Array.toList_append, row_list]
  have hc := Sm.chain_whole (bsOf ss) r.data.toList (bs_len ss h) hr
  rw [← e0] at hc
  have h2 := Whole_any (row ss ++ r) hm _ hc w
  rw [wholeOf, Sm.far_whole, row_len] at h2
  exact h2
theorem Whole_row (ss : List ByteArray) (h : ∀ s ∈ ss, s.size ≤ 20000) (hm : (row ss).size ≤ maxLen) (w : World) :
    Calls Try.prog 16 #[.string (row ss)] w fun e w' => e = .returned (.int .i64 ((row ss).size : Nat)) ∧ Below w.heap.size w w' := by
  have h2 := Whole_any (row ss) hm _ (row_chain ss h) w
  rw [wholeOf, Sm.far_whole, row_len] at h2
  exact h2
theorem Whole_some (ss : List ByteArray) (r : ByteArray) (h : ∀ s ∈ ss, s.size ≤ 20000) (hm : (row ss ++ r).size ≤ maxLen) {e : Nat} (hr : Sm.behind r.data.toList 0 = some e) :
    ∃ n, (row ss).size < n ∧ ∀ w, Calls Try.prog 16 #[.string (row ss ++ r)] w fun e w' => e = .returned (.int .i64 (n : Nat)) ∧ Below w.heap.size w w' := by
  have e0 : (row ss ++ r).data.toList = Sm.frames (bsOf ss) ++ r.data.toList := by rw [ByteArray.data_append, Array.toList_append, row_list]
  obtain ⟨fs, hf⟩ := Sm.chain_ex r.data.toList _ 0 (Nat.le_refl _)
  have hc := Sm.chain_all (bsOf ss) r.data.toList fs (bs_len ss h) hf
  have hlt := Sm.far_more (bsOf ss) hf hr
  rw [← e0] at hc
  rw [row_len] at hlt hc
  exact ⟨_, hlt, fun w => Whole_any (row ss ++ r) hm _ hc w⟩
theorem tail_zeros (s : ByteArray) : s ++ ⟨#[0]⟩ ++ zeros 30 = s ++ zeros 31 := by
  apply bytes_ext
  simp only [ByteArray.data_append, Array.toList_append, zeros_list, List.append_assoc]
  rfl
theorem All_seq (ss : List ByteArray) (h : ∀ s ∈ ss, s.size ≤ 20000) (hm : (row ss).size ≤ 140737488355328) (b : Nat) (w : World) (hb : w.heap[b]? = some (.cells #[.string (row ss)] 9 (0, 0))) :
    SeqX Fence.wide 8 Try.prog 31 #[.pointer (some ⟨b, 0, none⟩)] (fun x : ByteArray => #[.string x]) ss (fun k => k = b) w := by
  have h := All1_seq 8 (by omega) (row ss) hm _ (row_chain ss h) b w hb
  rw [row_bodies] at h
  exact h

theorem eql_func (w : World) (fn : Fn) (cs bs : Array Value) : (binOp .eql 44 (.func fn cs bs) .nilFunc).run Try.prog w = .ok (.bool false) w := by
  have h : ∀ d : Nat, (Op.equalIn (d + 1) 44 (.func fn cs bs) .nilFunc).run Try.prog w = .ok false w := fun d => by
    simp [Op.equalIn, run_underlying Try.underlying44]
  simp only [binOp]
  simp [Op.equal, Op.maxDepth, h 9999]

theorem results_back (tmps : Array Value) (w : World) (g : Nat) (v : Value) (hp : tmps.getD 4 undef = .pointer (some ⟨g, 0, none⟩)) (hc : w.cell? ⟨g, 0, none⟩ = some v) :
    (results Try.f7 tmps).run Try.prog w = .ok v w := by
  have hp' : tmps[4]?.getD undef = .pointer (some ⟨g, 0, none⟩) := by simpa using hp
  simp [results, hp', asAddr, loadVar, hc, go_sem]

theorem ret_back (tmps : Array Value) (w0 w : World) (g t : Nat) (x v : Value) (hp : tmps.getD 4 undef = .pointer (some ⟨g, 0, none⟩)) (hrow : w.heap[g]? = some (.cells #[x] t (0, 0))) (hg : w0.heap.size ≤ g) (hb : Below w0.heap.size w0 w) :
    bodyPostM Fence.wide 9 Try.prog Try.f7 (fun e w' => e = .returned v ∧ Below w0.heap.size w0 w') Exit.ret { tmps := tmps, defers := [] } (w.setCell ⟨g, 0, none⟩ v) :=
  ⟨v, results_back tmps _ g v hp (by rw [cell_of_row _ _ _ _ _ _ (heap_setCell_same w g 0 _ _ _ hrow)]; rfl), rfl, hb.setCell (by simpa using hg) _⟩

theorem ret_back2 (tmps : Array Value) (w0 w : World) (g t D : Nat) (x v : Value) (hp : tmps.getD 4 undef = .pointer (some ⟨g, 0, none⟩)) (hrow : w.heap[g]? = some (.cells #[x] t (0, 0))) (hK : w.heap[D]? = some (.deferred (some [])))
    (hg : w0.heap.size ≤ g) (hD : w0.heap.size ≤ D) (hgD : g ≠ D) (hb : Below w0.heap.size w0 w) :
    bodyPostM Fence.wide 9 Try.prog Try.f7 (fun e w' => e = .returned v ∧ Below w0.heap.size w0 w') Exit.ret { tmps := tmps, defers := [{ target := .collected D, args := #[] }] } (w.setCell ⟨g, 0, none⟩ v) := by
  have hK' : (w.setCell ⟨g, 0, none⟩ v).heap[D]? = some (.deferred (some [])) := (heap_setCell_other _ _ _ _ (by simpa using fun h : D = g => hgD h.symm)).trans hK
  refine ⟨by simp, .inl ⟨D, _, rfl, run_takeDeferred hK', v, results_back tmps _ g v hp ?_, rfl, below_putObj (hb.setCell (by simpa using hg) _) hD _⟩⟩
  rw [cell_of_row _ _ _ _ _ _ ((World.putObj_heap_other hgD).trans (heap_setCell_same w g 0 _ _ _ hrow))]; rfl

set_option maxRecDepth 100000 in
set_option maxHeartbeats 2000000 in
theorem back_any (p : Option Addr) (cap : Nat) (ss : List ByteArray) (r : ByteArray) (w : World) (hl : TextsAt w p ss) (hrm : r.size ≤ maxLen) :
    Calls Try.prog 7 #[.slice p ss.length cap, .string r] w fun e w' => e = .returned (.bool true) ∧ Below w.heap.size w w' := by
  refine (callsIn_wide (n := 9)).1 ?_
  refine callsIn_of_wp_marks Try.func7 rfl trivial ?_ rfl
  simp only [Try.ntmps7, List.size_toArray, List.length_cons, List.length_nil, Nat.reduceAdd, Nat.reduceSub, Array.replicate_succ, Array.replicate_zero, List.push_toArray, List.append_toArray, List.nil_append, List.cons_append]
  gi_wp2_with fail
  refine ⟨trivial, ?_⟩
  refine (callsIn_wide.2 (awake_any _)).mono ?_
  rintro e w1 ⟨rfl, hb1⟩
  have hbx : w1.heap[w.heap.size]? = some (.cells #[.slice p ss.length cap] 40 (0, 0)) := (hb1.block _ (by simp; omega)).trans ((Below.heap_alloc _ _ _ (by simp)).trans (heap_alloc_new w _))
  have hrx : w1.heap[w.heap.size + 1]? = some (.cells #[.bool false] 4 (0, 0)) := (hb1.block _ (by simp)).trans (by have := heap_alloc_new (w.alloc (.cells #[.slice p ss.length cap] 40)) (.cells #[.bool false] 4); simp only [World.size_alloc] at this; exact this)
  have hbe : Below w.heap.size w w1 := ((((Below.refl _ w).alloc (Nat.le_refl _) _).alloc (by simp) _)).trans (hb1.mono (by simp; omega))
  have hs1 : w.heap.size + 2 ≤ w1.heap.size := by have := hb1.size; simp at this; omega
  clear hb1
  have hcx : w1.cell? ⟨w.heap.size, 0, none⟩ = some (.slice p ss.length cap) := by rw [cell_of_row _ _ _ _ _ _ hbx]; rfl
  have hT1 : TextsAt w1 p ss := hl.below hbe
  have hcr : w1.cell? ⟨w.heap.size + 1, 0, none⟩ = some (.bool false) := by rw [cell_of_row _ _ _ _ _ _ hrx]; rfl
  have hfr := frozen_of_row w1 (w.heap.size + 1) 0 _ _ hrx
  gi_wp2_with fail
  gi_loop [5, 6] (fun n i => ∃ k : Nat, k ≤ ss.length ∧ k ≤ 41 ∧ n = .int .i64 (lens (ss.take k) : Nat) ∧ i = .int .i64 (k : Nat)) (fun _ i => match i with | .int _ n => 41 - n.toNat | _ => 0)
  case atStart => exact ⟨0, by omega, by omega, rfl, rfl⟩
  case round =>
    obtain ⟨k, hk, hk41, rfl, rfl⟩ := hrel
    have hlk := lens_le (ss.take k)
    have hlk2 : (ss.take k).length ≤ k := by simp; omega
    by_cases hlt : k < ss.length ∧ k ≤ 40
    · obtain ⟨a, rfl, hab, hca⟩ := hT1 k hlt.1
      have hst := lens_take ss k hlt.1
      have i0 : (k : Int) < (ss.length : Int) := by omega
      have i1 : (k : Int) ≤ 40 := by omega
      have i2 : (0 : Int) ≤ (k : Int) := by omega
      gi_wp2_with fail
      refine ⟨⟨k + 1, by omega, by omega, by rw [hst]; congr 1; omega, by simp⟩, ?_⟩
      simp; omega
    · by_cases hA : k < ss.length
      · have i0 : (k : Int) < (ss.length : Int) := by omega
        have i1 : ¬ (k : Int) ≤ 40 := by omega
        have i2 : (40 : Int) < (ss.length : Int) := by omega
        gi_wp2_with fail
        exact ret_back _ w _ _ _ _ _ rfl hrx (by omega) hbe
      · obtain rfl : k = ss.length := by omega
        have i0 : ¬ (ss.length : Int) < (ss.length : Int) := by omega
        rw [List.take_length] at hlk ⊢
        by_cases hB : 40 < ss.length
        · have i2 : (40 : Int) < (ss.length : Int) := by omega
          gi_wp2_with fail
          exact ret_back _ w _ _ _ _ _ rfl hrx (by omega) hbe
        · have i2 : ¬ (40 : Int) < (ss.length : Int) := by omega
          by_cases hC : 20000 < lens ss
          · have i3 : (20000 : Int) < (lens ss : Int) := by omega
            gi_wp2_with fail
            exact ret_back _ w _ _ _ _ _ rfl hrx (by omega) hbe
          · have i3 : ¬ (20000 : Int) < (lens ss : Int) := by omega
            by_cases hD : 20000 < r.size
            · have i4 : (20000 : Int) < (r.size : Int) := by omega
              gi_wp2_with fail
              exact ret_back _ w _ _ _ _ _ rfl hrx (by omega) hbe
            · have i4 : ¬ (20000 : Int) < (r.size : Int) := by omega
              have hle := lens_each ss (by omega)
              have hrs := row_size ss hle
              gi_wp2_with fail
              clear hcx hcr hfr
              gi_loopw [7, 8] (fun s i wr => ∃ k : Nat, k ≤ ss.length ∧ s = .string (row (ss.take k)) ∧ i = .int .i64 (k : Nat) ∧ Below w1.heap.size w1 wr) (fun _ i _ => match i with | .int _ n => 41 - n.toNat | _ => 0)
              case atStart => exact ⟨0, by omega, rfl, rfl, Below.refl _ _⟩
              case round =>
                obtain ⟨k, hk, rfl, rfl, hbk⟩ := hrel
                have hcx : wr.cell? ⟨w.heap.size, 0, none⟩ = some (.slice p ss.length cap) := by rw [cell_of_row _ _ _ _ _ _ ((hbk.block _ (by omega)).trans hbx)]; rfl
                by_cases hlt : k < ss.length
                · obtain ⟨a, rfl, hab, hca⟩ := hl k hlt
                  have hca1 : wr.cell? (a.add k) = some (.string ss[k]) := (hbk.cell (by rw [add_block]; omega)).trans ((hbe.cell (by rw [add_block]; exact hab)).trans hca)
                  have i0 : (k : Int) < (ss.length : Int) := by omega
                  have i2 : (0 : Int) ≤ (k : Int) := by omega
                  have hm := hle ss[k] (List.getElem_mem hlt)
                  have hrk := row_size (ss.take k) (fun s hs => hle s (List.mem_of_mem_take hs))
                  rw [List.length_take] at hrk
                  have hlk3 : lens (ss.take k) ≤ lens ss := by
                    have h := lens_append (ss.take k) (ss.drop k)
                    rw [List.take_append_drop] at h; omega
                  have HRT := Lib.hid (row_take ss k hlt)
                  have hfs : (frm ss[k]).size ≤ 20008 := by rw [frm_size]; omega
                  have hrk0 : (row (ss.take k)).size ≤ 20400 := by omega
                  have hsz2 : ((row (ss.take k)) ++ frm ss[k]).size ≤ 40408 := by rw [ByteArray.size_append]; omega
                  clear hrk
                  generalize row (ss.take k) = T at *
                  generalize ss[k] = b at *
                  gi_wp2_with fail
                  refine ⟨trivial, ?_⟩
                  refine (callsIn_wide.2 (Frame_frm b _ hm)).mono ?_
                  rintro e w2 ⟨rfl, hb2⟩
                  have hadd1 := run_add T (frm b) (by omega)
                  have hadd2 := run_add (T ++ frm b) r (by omega)
                  have hcx2 : w2.cell? ⟨w.heap.size, 0, none⟩ = some (.slice (some a) ss.length cap) := (hb2.cell (by have := hbk.size; simp; omega)).trans hcx
                  have hca2 : w2.cell? (a.add k) = some (.string b) := (hb2.cell (by have := hbk.size; rw [add_block]; omega)).trans hca1
                  clear hcx hca1
                  gi_wp2_with fail
                  refine ⟨trivial, ?_⟩
                  refine (callsIn_wide.2 (Next_frm T b r _ hm (by rw [ByteArray.size_append]; omega))).mono ?_
                  rintro e w3 ⟨rfl, hb3⟩
                  have hbk3 : Below w1.heap.size w1 w3 := hbk.trans ((hb2.mono hbk.size).trans (hb3.mono (Nat.le_trans hbk.size hb2.size)))
                  have hcx3 : w3.cell? ⟨w.heap.size, 0, none⟩ = some (.slice (some a) ss.length cap) := (hb3.cell (by have := hbk.size; have := hb2.size; simp; omega)).trans hcx2
                  have hca3 : w3.cell? (a.add k) = some (.string b) := (hb3.cell (by have := hbk.size; have := hb2.size; rw [add_block]; omega)).trans hca2
                  clear hcx2 hca2 hadd2
                  gi_wp2_with fail
                  go_roundw
                  case rel => exact ⟨k + 1, by omega, by rw [HRT.out], rfl, hbk3⟩
                  case measure => simp; omega
                · obtain rfl : k = ss.length := by omega
                  have i0 : ¬ (ss.length : Int) < (ss.length : Int) := by omega
                  rw [List.take_length]
                  gi_wp2_with fail
                  refine ⟨trivial, ?_⟩
                  refine (callsIn_wide.2 (All_any (row ss) _)).mono ?_
                  rintro e w4 ⟨rfl, rfl⟩
                  have hen := fun (u : World) (b : Nat) => eql_func u (.func 31) #[] #[.pointer (some ⟨b, 0, none⟩)]
                  gi_wp2_with fail
                  clear hen
                  have hrz : (row ss).size ≤ 20400 := by omega
                  clear hrs
                  have hkz := hbk.size
                  obtain ⟨W0, hW0⟩ : ∃ W0, (wr.alloc (.cells #[.int .i64 0] 3)).alloc (.cells #[.string (row ss)] 9) = W0 := ⟨_, rfl⟩
                  have hz0 : W0.heap.size = wr.heap.size + 2 := by rw [← hW0]; simp
                  have hn0 : W0.heap[wr.heap.size + 1]? = some (.cells #[.string (row ss)] 9 (0, 0)) := by
                    rw [← hW0]; have := heap_alloc_new (wr.alloc (.cells #[.int .i64 0] 3)) (.cells #[.string (row ss)] 9); rw [World.size_alloc] at this; exact this
                  have hi0 : W0.heap[wr.heap.size]? = some (.cells #[.int .i64 0] 3 (0, 0)) := by
                    rw [← hW0]; exact (Below.heap_alloc _ _ _ (by simp)).trans (heap_alloc_new wr _)
                  have hbw : Below wr.heap.size wr W0 := by rw [← hW0]; exact ((Below.refl _ wr).alloc (Nat.le_refl _) _).alloc (by simp) _
                  have hbx0 : W0.heap[w.heap.size]? = some (.cells #[.slice p ss.length cap] 40 (0, 0)) := (hbw.block _ (by omega)).trans ((hbk.block _ (by omega)).trans hbx)
                  have hrx0 : W0.heap[w.heap.size + 1]? = some (.cells #[.bool false] 4 (0, 0)) := (hbw.block _ (by omega)).trans ((hbk.block _ (by omega)).trans hrx)
                  have hbe0 : Below w.heap.size w W0 := hbe.trans ((hbk.mono hbe.size).trans (hbw.mono (by omega)))
                  rw [hW0]
                  clear hW0
                  have hsq := All_seq ss hle (by omega) (wr.heap.size + 1) W0 hn0
                  apply wpIn_rangeX rfl (by omega) (gf := 31) (lb := #[.pointer (some ⟨wr.heap.size + 1, 0, none⟩)]) rfl trivial (enters_of Try.func31 (by kernel_rfl) rfl)
                    (encs := fun x : ByteArray => #[.string x]) (xs := ss) (cap := fun k => k = wr.heap.size + 1) hsq (fun k hk => by omega) (Below.refl _ _) (fun _ => rfl)
                    (fun _ i W => W.heap[wr.heap.size]? = some (.cells #[.int .i64 (i : Nat)] 3 (0, 0)) ∧ W.heap[w.heap.size]? = some (.cells #[.slice p ss.length cap] 40 (0, 0)) ∧ W.heap[w.heap.size + 1]? = some (.cells #[.bool false] 4 (0, 0)) ∧ Below w.heap.size w W ∧ wr.heap.size < W.heap.size)
                    (fun _ _ _ _ => False)
                    (fun T i A C hs _ st => ⟨(st.block _ (by omega) (.inl (by omega))).trans hs.1, (st.block _ (by omega) (.inl (by omega))).trans hs.2.1, (st.block _ (by omega) (.inl (by omega))).trans hs.2.2.1, below_steps hs.2.2.2.1 st (by omega) (by omega), Nat.lt_of_lt_of_le hs.2.2.2.2 st.size⟩)
                    (fun _ _ _ _ _ hs _ _ => hs)
                    (fun _ _ => ⟨hi0, hbx0, hrx0, hbe0, by omega⟩)
                  case hassign =>
                    intro l x W K hK
                    gi_wp2
                    exact hK
                  case hbody =>
                    rintro l T i hi W hT1 hT2 ⟨hci, hlx, hrr, hbb, hzz⟩
                    obtain ⟨a, rfl, hab, hca⟩ := hl i hi
                    have hcl : W.cell? ⟨w.heap.size, 0, none⟩ = some (.slice (some a) ss.length cap) := by rw [cell_of_row _ _ _ _ _ _ hlx]; rfl
                    have hcc : W.cell? ⟨wr.heap.size, 0, none⟩ = some (.int .i64 (i : Nat)) := by rw [cell_of_row _ _ _ _ _ _ hci]; rfl
                    have hcs : W.cell? (a.add i) = some (.string ss[i]) := (hbb.cell (by rw [add_block]; exact hab)).trans hca
                    have hff := frozen_of_row W wr.heap.size 0 _ _ hci
                    have i0 : (i : Int) < (ss.length : Int) := by omega
                    have i2 : (0 : Int) ≤ (i : Int) := by omega
                    generalize ss[i] = b at *
                    gi_wp2_with fail
                    refine ⟨BodyKeeps.setCell _ (by simp) (by simp; omega), ?_, ?_, ?_, hbb.setCell (by simp; omega) _, by simpa [World.setCell] using hzz⟩
                    · rw [heap_setCell_same W wr.heap.size 0 _ _ _ hci]; rfl
                    · rw [heap_setCell_other _ _ _ _ (by simp; omega)]; exact hlx
                    · rw [heap_setCell_other _ _ _ _ (by simp; omega)]; exact hrr
                  case hdone =>
                    rintro D T W hD hDT ⟨hci, hlx, hrr, hbb, hzz⟩ hK
                    have hcl : W.cell? ⟨w.heap.size, 0, none⟩ = some (.slice p ss.length cap) := by rw [cell_of_row _ _ _ _ _ _ hlx]; rfl
                    have hcc : W.cell? ⟨wr.heap.size, 0, none⟩ = some (.int .i64 (ss.length : Nat)) := by rw [cell_of_row _ _ _ _ _ _ hci]; rfl
                    have hDW : D < W.heap.size := (Array.getElem?_eq_some_iff.1 hK).1
                    gi_wp2_with fail
                    refine ⟨trivial, ?_⟩
                    refine (callsIn_wide.2 (Whole_row ss hle (by unfold maxLen; omega) _)).mono ?_
                    rintro e w5 ⟨rfl, hb5⟩
                    clear hcl hcc
                    have hadd1 := run_add (row ss) ⟨#[0]⟩ (by show _ + 1 ≤ _; omega)
                    have hadd2 := run_add (row ss ++ ⟨#[0]⟩) (zeros 30) (by rw [ByteArray.size_append, zeros_size]; show _ + 1 + 30 ≤ _; omega)
                    have hmk : ∀ u, (Instr.makeSlice 25 (.int .i64 30) (.int .i64 30)).run Try.prog u = .ok (.slice (some ⟨u.heap.size, 0, none⟩) 30 30) (u.alloc (.cells (noughts 30) 5)) := fun u => make_noughts .i64 30 (by omega) u
                    have hcv := text_noughts 30 w5.heap.size (w5.alloc (.cells (noughts 30) 5)) (heap_alloc_new w5 _)
                    have hb5a : Below W.heap.size W (w5.alloc (.cells (noughts 30) 5)) := hb5.alloc hb5.size _
                    gi_wp2_with fail
                    rw [tail_zeros]
                    refine ⟨trivial, ?_⟩
                    refine (callsIn_wide.2 (Whole_none ss (zeros 31) hle (by rw [ByteArray.size_append, zeros_size]; unfold maxLen; omega) (zeros_none 31) _)).mono ?_
                    rintro e w6 ⟨rfl, hb6⟩
                    have hb6a := hb5a.trans (hb6.mono hb5a.size)
                    clear hadd1 hadd2 hmk hcv
                    gi_wp2_with fail
                    have hadd3 := run_add (row ss) r (by omega)
                    cases hB : Sm.behind r.data.toList 0 with
                    | none =>
                      refine ⟨trivial, ?_⟩
                      refine (callsIn_wide.2 (Next_no r 0 _ hrm hB)).mono ?_
                      rintro e w7 ⟨rfl, hb7⟩
                      gi_wp2_with fail
                      refine ⟨trivial, ?_⟩
                      refine (callsIn_wide.2 (Whole_none ss r hle (by rw [ByteArray.size_append]; unfold maxLen; omega) hB _)).mono ?_
                      rintro e w8 ⟨rfl, hb8⟩
                      have hb8a := hb6a.trans ((hb7.mono hb6a.size).trans (hb8.mono (Nat.le_trans hb6a.size hb7.size)))
                      have hr8 := (hb8a.block (w.heap.size + 1) (by omega)).trans hrr
                      have hK8 := (hb8a.block D hDW).trans hK
                      have hcr8 : w8.cell? ⟨w.heap.size + 1, 0, none⟩ = some (.bool false) := by rw [cell_of_row _ _ _ _ _ _ hr8]; rfl
                      have hfr8 := frozen_of_row w8 (w.heap.size + 1) 0 _ _ hr8
                      gi_wp2_with fail
                      exact ret_back2 _ w _ _ _ _ _ _ rfl hr8 hK8 (by omega) (by omega) (by omega) (hbb.trans (hb8a.mono hbb.size))
                    | some e0 =>
                      obtain ⟨n, hn, hWn⟩ := Whole_some ss r hle (by rw [ByteArray.size_append]; unfold maxLen; omega) hB
                      refine ⟨trivial, ?_⟩
                      refine (callsIn_wide.2 (Next_yes r 0 _ (by omega) e0 hB)).mono ?_
                      rintro e w7 ⟨rfl, hb7⟩
                      gi_wp2_with fail
                      refine ⟨trivial, ?_⟩
                      refine (callsIn_wide.2 (hWn _)).mono ?_
                      rintro e w8 ⟨rfl, hb8⟩
                      have hb8a := hb6a.trans ((hb7.mono hb6a.size).trans (hb8.mono (Nat.le_trans hb6a.size hb7.size)))
                      have hr8 := (hb8a.block (w.heap.size + 1) (by omega)).trans hrr
                      have hK8 := (hb8a.block D hDW).trans hK
                      have hcr8 : w8.cell? ⟨w.heap.size + 1, 0, none⟩ = some (.bool false) := by rw [cell_of_row _ _ _ _ _ _ hr8]; rfl
                      have hfr8 := frozen_of_row w8 (w.heap.size + 1) 0 _ _ hr8
                      have hni : decide (((row ss).size : Int) < (n : Int)) = true := by simp; omega
                      gi_wp2_with fail
                      all_goals first
                        | exact ret_back2 _ w _ _ _ _ _ _ rfl hr8 hK8 (by omega) (by omega) (by omega) (hbb.trans (hb8a.mono hbb.size))
                        | (rename_i h1 h2; exact absurd h1 (by simp [undef]))
                  case hstop =>
                    rintro D T c i W _ _ _ h _
                    exact h.elim
end Go.Proofs.Ytkaanffclpbiiaa
