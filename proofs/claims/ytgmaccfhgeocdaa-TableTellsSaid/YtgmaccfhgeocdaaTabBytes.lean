/-
  Walks over package table: rows of bytes that are built by append; number. Conditions: those in the theorems.
-/
import Derived.Test.YtgmaccfhgeocdaaTabMath
import Derived.Test.YtgmaccfhgeocdaaSumWalkA
import Derived.OwnWalk
import Derived.Lib.AppendZeros
import Derived.Lib.AppendStr
import Derived.Maps.AppendAt
import Derived.WalkKit
import Derived.WalkSpells
import Derived.WalkLawsBesides
import Derived.Handy
import Derived.Lib.Hide
namespace Go.Proofs.Ytgmaccfhgeocdaa
open Go.RowKit Tb

theorem below_alloc (w : World) (o : Obj) : Below w.heap.size w (w.alloc o) := (Below.refl _ _).alloc (Nat.le_refl _) _
def bcells (l : List UInt8) : List Value := l.map fun b => Value.int .u8 (b.toNat : Int)
theorem bcells_len (l : List UInt8) : (bcells l).length = l.length := List.length_map _
theorem bcells_append (a b : List UInt8) : bcells (a ++ b) = bcells a ++ bcells b := List.map_append
theorem infoB : (Try.prog.info? 5).map (fun i => (i.zero, i.size, i.bytes)) = some (some (.int .u8 0), 1, 1) := by kernel_rfl
/-- v is a row of the bytes l, in a block of its own, not below base. -/
def OwnB (W : World) (base : Nat) (v : Value) (l : List UInt8) : Prop := W.ownsRow base 5 1 v l.length (bcells l)
/-- A row has grown: all blocks but its own lie as they lay; its own is the elder one, or a new one. -/
structure Grew (v v' : Value) (W W' : World) : Prop where
  os : W'.os = W.os
  tape : W'.tape = W.tape
  output : W'.output = W.output
  size : W.heap.size ≤ W'.heap.size
  block : ∀ k, k < W.heap.size → v.ownBlock ≠ some k → W'.heap[k]? = W.heap[k]?
  own : ∀ k, v'.ownBlock = some k → v.ownBlock = some k ∨ W.heap.size ≤ k
theorem Grew.refl (v : Value) (W : World) : Grew v v W W := ⟨rfl, rfl, rfl, Nat.le_refl _, fun _ _ _ => rfl, fun _ h => .inl h⟩
theorem Grew.trans {v v' v'' : Value} {W W' W'' : World} (h : Grew v v' W W') (k : Grew v' v'' W' W'') : Grew v v'' W W'' :=
  ⟨k.os.trans h.os, k.tape.trans h.tape, k.output.trans h.output, Nat.le_trans h.size k.size,
    fun i hi hn => (k.block i (Nat.lt_of_lt_of_le hi h.size) fun e => (h.own i e).elim hn fun e2 => by omega).trans (h.block i hi hn),
    fun i hi => (k.own i hi).elim (h.own i) fun e => .inr (Nat.le_trans h.size e)⟩
section
variable {W C : World} {base : Nat} {v : Value} {l : List UInt8}
theorem OwnB.nil (W : World) (base : Nat) : OwnB W base (.slice none 0 0) [] := World.ownsRow_nil _ _ _ _
theorem OwnB.lt (h : OwnB W base v l) : ∀ k, v.ownBlock = some k → base ≤ k ∧ k < W.heap.size := World.ownsRow.lt h
theorem OwnB.shape (h : OwnB W base v l) : ∃ p cap, v = .slice p l.length cap ∧ l.length ≤ cap ∧ cap ≤ maxLen := by
  rcases h.2 with ⟨rfl, e⟩ | ⟨g, cap, cur, rfl, h2, h3, h4, h5, -⟩
  · rw [e]; exact ⟨none, 0, rfl, Nat.le_refl _, Nat.zero_le _⟩
  · exact ⟨_, _, rfl, h4, h5⟩
theorem OwnB.stays (h : OwnB W base v l) (hb : ∀ k, k < W.heap.size → v.ownBlock = some k → C.heap[k]? = W.heap[k]?) : OwnB C base v l := by
  refine ⟨h.1, ?_⟩
  rcases h.2 with hn | ⟨g, cap, cur, rfl, h1, h2, h3⟩
  · exact .inl hn
  · exact .inr ⟨g, cap, cur, rfl, h1, (hb g (Array.getElem?_eq_some_iff.1 h2).1 rfl).trans h2, h3⟩
theorem OwnB.below (h : OwnB W base v l) (hb : Below W.heap.size W C) : OwnB C base v l := h.stays fun k hk _ => hb.block k hk
end
/-- Bytes that lie at A are appended; the world may have a new block since the row was looked at. -/
theorem b_append {W0 W : World} {base : Nat} {v : Value} {l : List UInt8} (h : OwnB W0 base v l) (hb0 : Below W0.heap.size W0 W) (A : Addr) (r : List UInt8) (m c : Nat) (hm : r.length = m) (hnews : ∀ q u, (bcells r)[q]? = some u → W.cell? (A.add q) = some u) (hs : l.length + m ≤ 100000000) (hb : base ≤ W0.heap.size) (ty : TypeId) :
    ∃ (pv : Option Addr) (cv : Nat) (W' : World), (Builtin.append_ #[39, 39] ty #[v, .slice (some A) m c]).run Try.prog W = .ok (.slice pv (l.length + m) cv) W' ∧
      OwnB W' base (.slice pv (l.length + m) cv) (l ++ r) ∧ Grew v (.slice pv (l.length + m) cv) W0 W' := by
  subst hm
  have h0 := h.below hb0
  have hz := hb0.size
  obtain ⟨i0, hi0, hz0, hz1, hz2⟩ := info_parts infoB
  obtain ⟨v', W', hrun, ho, hg, -, hown⟩ := run_append_own_at (P := Try.prog) W base 39 ty 5 i0 _ 1 1 Try.underlying39 hi0 hz0 hz1 hz2 rfl (by decide) v _ _ h0
    A r.length c (bcells r) (by rw [bcells_len, Nat.mul_one]) hnews (fun u hu => by obtain ⟨x, -, rfl⟩ := List.mem_map.1 hu; rfl) (by unfold maxLen; omega) (by omega) (by omega)
  have ho2 : OwnB W' base v' (l ++ r) := by unfold OwnB; rw [bcells_append, List.length_append]; exact ho
  obtain ⟨pv, cv, rfl, -, -⟩ := ho2.shape
  rw [List.length_append] at hrun ho2 hown
  refine ⟨pv, cv, W', hrun, ho2, hg.os.trans hb0.os, hg.tape.trans hb0.tape, hg.output.trans hb0.output, Nat.le_trans hz hg.size, fun k hk hn => ?_, fun k hk => ?_⟩
  · exact (hg.block k (by omega) fun e => hn e.symm).trans (hb0.block k hk)
  · rcases hown with e | e
    · exact .inl (e ▸ hk)
    · rw [e] at hk
      simp only [Option.some.injEq] at hk
      exact .inr (by omega)
theorem le_last (i n : Nat) : le (i + 1) n = le i n ++ [UInt8.ofNat (n / 256 ^ i)] := by
  induction i generalizing n with
  | zero => simp [le]
  | succ i ih =>
    rw [le, ih (n / 256), le, List.cons_append, Nat.div_div_eq_div_mul, Nat.pow_succ, Nat.mul_comm 256]
theorem news_one (w : World) (x : Value) (t : TypeId) : ∀ j u, [x][j]? = some u → (w.alloc (.cells #[x] t)).cell? ((⟨w.heap.size, 0, none⟩ : Addr).add j) = some u := by
  intro j u hj
  match j, hj with
  | 0, hj => simp at hj; subst hj; simp [Addr.add]

set_option maxHeartbeats 4000000 in
theorem number_any {W : World} {base : Nat} {v : Value} {l : List UInt8} (h : OwnB W base v l) (hb : base ≤ W.heap.size) (wd n : Nat) (hw : wd ≤ 8) (hl : l.length ≤ 50000000) (hn : n < 4611686018427387904) :
    Calls Try.prog 35 #[v, .int .i64 (wd : Nat), .int .i64 (n : Nat)] W fun e W' => ∃ v', e = .returned v' ∧ OwnB W' base v' (l ++ le wd n) ∧ Grew v v' W W' := by
  obtain ⟨p0, c0, rfl, -, -⟩ := h.shape
  have H := Lib.hid h
  clear h
  go_enter Try.func35, Try.ntmps35
  go_wp2_with fail
  go_loopw [0, 2, 8] (fun bv nv iv wr => ∃ (i q : Nat), i ≤ wd ∧ iv = .int .i64 (i : Nat) ∧ q ≤ n ∧ nv = .int .i64 (q : Nat) ∧ Hid (q = n / 256 ^ i ∧ OwnB wr base bv (l ++ le i n) ∧ Grew (.slice p0 l.length c0) bv W wr)) (fun _ _ iv _ => wd - (intOf iv).toNat)
  case atStart => exact ⟨0, n, Nat.zero_le _, rfl, Nat.le_refl _, rfl, Lib.hid ⟨by simp, by simpa [le] using H.out, Grew.refl _ _⟩⟩
  case round =>
    obtain ⟨i, q, hi, rfl, hq, rfl, HR⟩ := hrel
    obtain ⟨pm, cm, hmv, -, -⟩ := HR.out.2.1.shape
    have hml : (l ++ le i n).length = l.length + i := by rw [List.length_append, le_len]
    rw [hml] at hmv
    subst hmv
    by_cases hlt : i < wd
    · have i0 : (i : Int) < (wd : Int) := by omega
      obtain ⟨pv, cv, W3, r3, o3, g3⟩ := b_append HR.out.2.1 (below_alloc wr (.cells #[.int .u8 ((q : Int) % 256)] 5)) ⟨wr.heap.size, 0, none⟩ [UInt8.ofNat q] 1 1 rfl
        (by
          have e : bcells [UInt8.ofNat q] = [Value.int .u8 ((q : Int) % 256)] := by unfold bcells; simp
          rw [e]; exact news_one wr _ _) (by rw [hml]; omega) (Nat.le_trans hb HR.out.2.2.size) 39
      rw [hml] at r3 o3 g3
      have HO3 : Hid (OwnB W3 base (.slice pv (l.length + i + 1) cv) (l ++ le (i + 1) n)) := Lib.hid (by rw [le_last, ← List.append_assoc, ← HR.out.1]; exact o3)
      have HG3 := Lib.hid (HR.out.2.2.trans g3)
      have HQ : Hid (q / 256 = n / 256 ^ (i + 1)) := Lib.hid (by rw [HR.out.1, Nat.div_div_eq_div_mul, Nat.pow_succ])
      clear o3 g3 hml HR
      go_wp2_with (at_builtin; refine Lib.wpList_append_run _ rfl (.tmp 10) (.tmp 13) _ _ rfl _ _ rfl rfl _ _ r3 ?_)
      go_roundw
      case rel => exact ⟨i + 1, q / 256, by omega, by go_num, by omega, by go_num, Lib.hid ⟨HQ.out, HO3.out, HG3.out⟩⟩
      case measure => simp [intOf]; omega
    · obtain rfl : i = wd := by omega
      have i0 : ¬ (i : Int) < (i : Int) := by omega
      go_wp2_with fail
      go_ret
      exact ⟨_, rfl, HR.out.2⟩
end Go.Proofs.Ytgmaccfhgeocdaa
