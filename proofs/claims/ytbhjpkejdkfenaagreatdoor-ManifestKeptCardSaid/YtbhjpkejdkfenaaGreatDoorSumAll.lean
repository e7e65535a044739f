/-
  Walks over package sum: the iterator that All gives. Condition: texts of at most 2^47 bytes.
-/
import Derived.Test.YtbhjpkejdkfenaaGreatDoorRows
import Derived.Test.YtbhjpkejdkfenaaGreatDoorSumEnds
import Derived.Shelf.Abstract
import Derived.Shelf.RegionOpen
import Derived.WalkKit
import Derived.OwnWalkIn
import Derived.TacticsInMore
import Derived.LoopNIn
import Derived.LoopIn
import Derived.Lib.Hide
import Derived.Deep.WholeRow
namespace Go.Proofs.YtbhjpkejdkfenaaGreatDoor
open Go.RowKit Go.Shelf
attribute [local go_sem] Oper.semAt_some


theorem widen {B B' T : Nat} {A C : World} (h : ItSteps B T A C) (hB : B' ≤ B) : ItSteps B' T A C := ⟨h.os, h.tape, h.output, h.size, fun k hk hb => h.block k hk (by omega)⟩

theorem roundIn_any {m m' l2 : Nat} {P : Program} {l : Nat} {f : FuncId} {tmps : Array Value} {assign body : Code} {w : World} {R : Ending → World → Prop}
    (h : RoundIn Fence.wide m P l f tmps assign body w R) : RoundIn (Fence.wide.inRound l2) m' P l f tmps assign body w R := ⟨h.1, fun c cs _ => h.2 c cs (room_wide _)⟩

theorem keeps_round {B' Bw T b : Nat} {A A2 A3 : World} (hb2 : Below A.heap.size A A2) (hk3 : BodyKeeps (fun k => k = b) Bw T A2 A3) (hT : Bw + 5 ≤ T) (hB : B' = Bw + 3) : BodyKeeps (fun k => k = Bw + 2) B' T A A3 :=
  ⟨Nat.le_trans hb2.size hk3.size, fun k hk hb => (hk3.block k (by have := hb2.size; omega) (.inr (by omega))).trans (hb2.block k hk)⟩

/-- A round's two ways in one. -/
def YieldPost (cap : Nat → Prop) (B T : Nat) (J Jx : Nat → Nat → World → Prop) (i : Nat) (W1 : World) (e : Ending) (W' : World) : Prop :=
  ∃ r : Bool, e = .returned (.bool r) ∧ (r = true → J T i W') ∧ (r = false → Jx T i W') ∧ BodyKeeps cap B T W1 W'

set_option maxRecDepth 100000 in
set_option maxHeartbeats 12000000 in
theorem All1_seq (n : Nat) (hn : 1 ≤ n) (s : ByteArray) (hm : s.size ≤ 140737488355328) (es : List Nat) (hc : Sm.Chain s.data.toList 0 es) (b : Nat) (w : World) (hb : w.heap[b]? = some (.cells #[.string s] 9 (0, 0))) :
    SeqX Fence.wide n Tryz.prog 110 #[.pointer (some ⟨b, 0, none⟩)] (fun x : ByteArray => #[.string x]) (Sm.bodiesOf s.data.toList 0 es) (fun k => k = b) w := fun l J Jx W hW hJ hY hJx h0 => by
  have hmm : s.size ≤ maxLen := by unfold maxLen; omega
  have hbW : b < w.heap.size := (Array.getElem?_eq_some_iff.1 hb).1
  have hws := hW.size
  have hbb : W.heap[b]? = some (.cells #[.string s] 9 (0, 0)) := (hW.block b hbW).trans hb
  refine callsIn_of_wp_marks Tryz.func110 rfl trivial ?_ rfl
  simp only [Tryz.ntmps110, List.size_toArray, List.length_cons, List.length_nil, Nat.reduceAdd, Nat.reduceSub, Array.replicate_succ, Array.replicate_zero, List.push_toArray, List.append_toArray, List.nil_append, List.cons_append]
  have hcb : ((W.alloc (.cells #[.func (.yield l) #[] #[]] 98)).alloc (.cells #[.int .i64 0] 3)).cell? ⟨b, 0, none⟩ = some (.string s) := by
    rw [cell_of_row _ b 0 _ _ _ ((Below.heap_alloc _ _ b (by simp; omega)).trans ((Below.heap_alloc _ _ b (by omega)).trans hbb))]; rfl
  gi_wp2_with fail
  refine ⟨trivial, ?_⟩
  refine (callsIn_wide.2 (ends_any s _)).mono ?_
  rintro e w1 ⟨rfl, rfl⟩
  gi_wp2_with fail
  clear hcb
  obtain ⟨W0, hW0⟩ : ∃ W0, ((W.alloc (.cells #[.func (.yield l) #[] #[]] 98)).alloc (.cells #[.int .i64 0] 3)).alloc (.cells #[.string s] 9) = W0 := ⟨_, rfl⟩
  have hz0 : W0.heap.size = W.heap.size + 3 := by rw [← hW0]; simp
  have hs0 : W0.heap[W.heap.size + 2]? = some (.cells #[.string s] 9 (0, 0)) := by
    rw [← hW0]; have := heap_alloc_new ((W.alloc (.cells #[.func (.yield l) #[] #[]] 98)).alloc (.cells #[.int .i64 0] 3)) (.cells #[.string s] 9); simp only [World.size_alloc] at this; exact this
  have hx0 : W0.heap[W.heap.size + 1]? = some (.cells #[.int .i64 0] 3 (0, 0)) := by
    rw [← hW0]; exact (Below.heap_alloc _ _ _ (by simp)).trans (by have := heap_alloc_new (W.alloc (.cells #[.func (.yield l) #[] #[]] 98)) (.cells #[.int .i64 0] 3); simp only [World.size_alloc] at this; exact this)
  have hy0 : W0.heap[W.heap.size]? = some (.cells #[.func (.yield l) #[] #[]] 98 (0, 0)) := by
    rw [← hW0]; exact (Below.heap_alloc _ _ _ (by simp; omega)).trans ((Below.heap_alloc _ _ _ (by simp)).trans (heap_alloc_new W _))
  have hbw : Below W.heap.size W W0 := by rw [← hW0]; exact (((Below.refl _ W).alloc (Nat.le_refl _) _).alloc (by simp) _).alloc (by simp; omega) _
  have hb0 : W0.heap[b]? = some (.cells #[.string s] 9 (0, 0)) := (hbw.block b (by omega)).trans hbb
  rw [hW0]
  clear hW0
  refine wpIn_rangeX rfl hn (gf := 131) (lb := #[.pointer (some ⟨W.heap.size + 2, 0, none⟩)]) rfl trivial (enters_of Tryz.func131 (by kernel_rfl) rfl)
    (encs := fun e : Nat => #[.int .i64 (e : Int)]) (xs := es) (cap := fun k => k = W.heap.size + 2) (ends1_seq (n - 1) s hmm es hc (W.heap.size + 2) W0 hs0) (fun k hk => by omega) (Below.refl _ _) (fun _ => rfl)
    (fun T i A => A.heap[W.heap.size]? = some (.cells #[.func (.yield l) #[] #[]] 98 (0, 0)) ∧ A.heap[W.heap.size + 1]? = some (.cells #[.int .i64 (Sm.at_ 0 es i : Nat)] 3 (0, 0)) ∧ A.heap[b]? = some (.cells #[.string s] 9 (0, 0)) ∧ J T i A ∧ W.heap.size + 3 ≤ A.heap.size)
    (fun c T i A => c = .ret ∧ Jx T i A)
    (fun T i A C hs hT st => ⟨(st.block _ (by omega) (.inl (by omega))).trans hs.1, (st.block _ (by omega) (.inl (by omega))).trans hs.2.1, (st.block _ (by omega) (.inl (by omega))).trans hs.2.2.1, hJ T i A C hs.2.2.2.1 (widen st (by omega)), Nat.le_trans hs.2.2.2.2 st.size⟩)
    (fun c T i A C hs hT st => ⟨hs.1, hJx T i A C hs.2 (widen st (by omega))⟩)
    (fun T hT => ⟨hy0, hx0, hb0, hJ T 0 W W0 (h0 T (by omega)) (ItSteps.of_below hbw), by omega⟩)
    (fun x => { tmps := #[.func (.yield l) #[] #[], .pointer (some ⟨b, 0, none⟩), .pointer (some ⟨W.heap.size, 0, none⟩), .pointer (some ⟨W.heap.size + 1, 0, none⟩), .int .i64 (x : Nat), .string s, .func (.func 131) #[] #[.pointer (some ⟨W.heap.size + 2, 0, none⟩)], .int .i64 (x : Nat), undef, undef, undef, undef, undef, undef, undef, undef, undef], defers := [] }) ?assign ?body ?done ?stop
  case assign =>
    intro l x W K hK
    gi_wp2
    exact hK
  case body =>
    rintro l2 T i hi A hT1 hT2 ⟨hya, hxa, hba, hja, hza⟩
    have hst := hc.step i hi
    have hle := Sm.behindAt_le hst
    have hll : s.data.toList.length = s.size := by simp
    have hY' : ∀ A2, Below A.heap.size A A2 → YieldAt Fence.wide (n - 1) Tryz.prog l #[.string ⟨(Sm.bodyAt s.data.toList (Sm.at_ 0 es i) es[i]).toArray⟩] A2 (YieldPost (fun k => k = b) W.heap.size T J Jx (i + 1) A2) := fun A2 h2 => by
      have h := hY T i (by rw [Sm.bodiesOf_len]; exact hi) A2 (by omega) (Nat.le_trans hT2 h2.size) (hJ T i A A2 hja (ItSteps.of_below h2))
      rw [Sm.bodiesOf_at _ _ _ _ hi] at h
      refine h.mono fun e w' h => ?_
      rcases h with ⟨h1, h2, h3⟩ | ⟨h1, h2, h3⟩
      · exact ⟨true, h1, fun _ => h2, fun h => (by cases h), h3⟩
      · exact ⟨false, h1, fun h => (by cases h), fun _ => h2, h3⟩
    have HV : Hid ((s.extract (Sm.at_ 0 es i) es[i]).extract 8 (s.extract (Sm.at_ 0 es i) es[i]).size = ⟨(Sm.bodyAt s.data.toList (Sm.at_ 0 es i) es[i]).toArray⟩) := Lib.hid (by
      apply bytes_ext
      rw [extract_list, extract_list, ByteArray.size_extract]
      unfold Sm.bodyAt
      rw [List.drop_take, List.drop_drop, List.take_take]
      congr 1
      omega)
    have hsz : (s.extract (Sm.at_ 0 es i) es[i]).size = es[i] - Sm.at_ 0 es i := by rw [ByteArray.size_extract]; omega
    have HS := Lib.hid hsz
    have i1 : (0 : Int) ≤ (Sm.at_ 0 es i : Int) := by omega
    have i2 : (Sm.at_ 0 es i : Int) ≤ (es[i] : Int) := by omega
    have i3 : (es[i] : Int) ≤ (s.size : Int) := by omega
    have hcy : A.cell? ⟨W.heap.size, 0, none⟩ = some (.func (.yield l) #[] #[]) := by rw [cell_of_row _ _ _ _ _ _ hya]; rfl
    have hcx : A.cell? ⟨W.heap.size + 1, 0, none⟩ = some (.int .i64 (Sm.at_ 0 es i : Nat)) := by rw [cell_of_row _ _ _ _ _ _ hxa]; rfl
    have hcs : A.cell? ⟨b, 0, none⟩ = some (.string s) := by rw [cell_of_row _ _ _ _ _ _ hba]; rfl
    have HST := Lib.hid hst
    have HY := Lib.hid hY'
    have HJ := Lib.hid hJ
    have HJX := Lib.hid hJx
    clear hst hsz hll hY hY' hJ hJx h0 hc
    have mixed : Tryz.prog.follows .mixedOrders = true := by kernel_rfl
    gi_wp2_with fail
    gi_region_with_o (first
      | (refine ⟨trivial, wideN, ?_⟩; gi_at_call 112; refine (CallsIn.inRound l2 (callsIn_wide.2 (bodyOf_any _ _ (by rw [HS.out]; omega) (by rw [HS.out]; omega)))).mono ?_; rintro e A2 ⟨rfl, hb2⟩; rw [HV.out]; have hb2' : Below A.heap.size A A2 := ((Below.refl _ A).drew).trans hb2; obtain ⟨fn2, tmps2, assign2, body2, hy2, hR2⟩ := HY.out A2 hb2'; have hcy2 : A2.cell? ⟨W.heap.size, 0, none⟩ = some (.func (.yield l) #[] #[]) := (hb2'.cell (by simp; omega)).trans hcy)
      | (refine ⟨wideN, ?_⟩; refine (roundIn_any hR2).mono ?_; rintro e A3 ⟨r, rfl, hr1, hr2, hk3⟩))
    all_goals
      clear hy2 hR2 hcy2
      have hsz2 := hb2'.size
      have hsz3 := hk3.size
      have hx3 : A3.heap[W.heap.size + 1]? = some (.cells #[.int .i64 (Sm.at_ 0 es i : Nat)] 3 (0, 0)) := (hk3.block _ (by omega) (.inr ⟨by omega, by omega⟩)).trans ((hb2'.block _ (by omega)).trans hxa)
      have hy3 : A3.heap[W.heap.size]? = some (.cells #[.func (.yield l) #[] #[]] 98 (0, 0)) := (hk3.block _ (by omega) (.inr ⟨by omega, by omega⟩)).trans ((hb2'.block _ (by omega)).trans hya)
      have hb3 : A3.heap[b]? = some (.cells #[.string s] 9 (0, 0)) := (hk3.block _ (by omega) (.inl rfl)).trans ((hb2'.block _ (by omega)).trans hba)
      have hkk := keeps_round (B' := W0.heap.size) hb2' hk3 (by omega) hz0
      have hc3 : A3.cell? ⟨W.heap.size + 1, 0, none⟩ = some (.int .i64 (Sm.at_ 0 es i : Nat)) := by rw [cell_of_row _ _ _ _ _ _ hx3]; rfl
      have hf3 := frozen_of_row A3 (W.heap.size + 1) 0 _ _ hx3
      cases r with
      | false =>
        have hjx := hr2 rfl
        clear hr1 hr2
        gi_wp2_with fail
        exact ⟨hkk, rfl, hjx⟩
      | true =>
        have hj3 := hr1 rfl
        clear hr1 hr2
        gi_wp2_with fail
        refine ⟨hkk.trans (BodyKeeps.setCell _ (by simp) (by simp; omega)), ?_, ?_, ?_, ?_, ?_⟩
        · rw [heap_setCell_other _ _ _ _ (by simp)]; exact hy3
        · rw [heap_setCell_same A3 (W.heap.size + 1) 0 _ _ _ hx3, Sm.at_succ 0 es i hi]; rfl
        · rw [heap_setCell_other _ _ _ _ (by simp; omega)]; exact hb3
        · exact HJ.out T (i + 1) _ _ hj3 (ItSteps.setCell _ (by simp) (by simp; omega))
        · simp [World.setCell]; omega
  case done =>
    rintro D T A hD hDT ⟨-, -, -, hj, -⟩ hK
    gi_wp2
    refine ⟨by simp, .inl ⟨_, _, rfl, run_takeDeferred hK, ?_⟩⟩
    exact ⟨_, results_none rfl _ _ _, ⟨_, rfl⟩, T, by omega, .inl (by rw [Sm.bodiesOf_len]; exact hJ T _ _ _ hj (ItSteps.putObj _ (by omega) hDT))⟩
  case stop =>
    rintro D T c i A hD hDT hi ⟨rfl, hj⟩ hK
    gi_wp2
    refine ⟨by simp, .inl ⟨_, _, rfl, run_takeDeferred hK, ?_⟩⟩
    exact ⟨_, results_none rfl _ _ _, ⟨_, rfl⟩, T, by omega, .inr ⟨i, by rw [Sm.bodiesOf_len]; exact hi, hJx T _ _ _ hj (ItSteps.putObj _ (by omega) hDT)⟩⟩

set_option maxHeartbeats 400000 in
theorem All_any (s : ByteArray) (w : World) :
    Calls Tryz.prog 89 #[.string s] w fun e w' => e = .returned (.func (.func 110) #[] #[.pointer (some ⟨w.heap.size, 0, none⟩)]) ∧ w' = w.alloc (.cells #[.string s] 9) := by
  go_enter Tryz.func89, Tryz.ntmps89
  go_wp2
  go_ret
  exact ⟨rfl, rfl⟩
end Go.Proofs.YtbhjpkejdkfenaaGreatDoor
