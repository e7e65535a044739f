/-
  Walks over package wal: frames. Conditions: those in the theorems.
-/
import Derived.Test.YtoecbkndbcblpaaGreatDoorWalAppend
import Derived.Deep.LoopGhost
namespace Wm
/-- The bodies of the frames that a text begins with, and what is behind these; at most so many. -/
def chunks : Nat → List UInt8 → List (List UInt8) × List UInt8
  | 0, l => ([], l)
  | n + 1, l => match Go.Proofs.YtoecbkndbcblpaaGreatDoor.Sm.behind l 0 with
    | none => ([], l)
    | some e => (Go.Proofs.YtoecbkndbcblpaaGreatDoor.Sm.bodyAt l 0 e :: (chunks n (l.drop e)).1, (chunks n (l.drop e)).2)
def frames (l : List UInt8) : List (List UInt8) × List UInt8 := chunks l.length l
theorem chunks_none {n : Nat} {l : List UInt8} (h : Go.Proofs.YtoecbkndbcblpaaGreatDoor.Sm.behind l 0 = none) : chunks n l = ([], l) := by
  cases n with
  | zero => rfl
  | succ n => unfold chunks; rw [h]
theorem chunks_some {n : Nat} {l : List UInt8} {e : Nat} (h : Go.Proofs.YtoecbkndbcblpaaGreatDoor.Sm.behind l 0 = some e) : chunks (n + 1) l = (Go.Proofs.YtoecbkndbcblpaaGreatDoor.Sm.bodyAt l 0 e :: (chunks n (l.drop e)).1, (chunks n (l.drop e)).2) := by
  show (match Go.Proofs.YtoecbkndbcblpaaGreatDoor.Sm.behind l 0 with | none => _ | some e => _) = _
  rw [h]
end Wm
namespace Go.Proofs.YtoecbkndbcblpaaGreatDoor
open Go.RowKit Go.Maps Go.Sort Go.Shelf

theorem infoT : (Tryz.prog.info? 9).map (fun i => (i.zero, i.size, i.bytes)) = some (some (.string ⟨#[]⟩), 1, 16) := by kernel_rfl
/-- A row of texts that a call has made. -/
structure TRow (w wr : World) (v : Value) (l : List (List UInt8)) : Prop where
  row : wr.ownsRow w.heap.size 9 1 v l.length (l.map encStr)
  below : Below w.heap.size w wr
theorem TRow.same {w wr W1 : World} {v : Value} {l : List (List UInt8)} (h : TRow w wr v l) (hb : Below wr.heap.size wr W1) : TRow w W1 v l := by
  refine ⟨⟨h.row.1, ?_⟩, h.below.trans (hb.mono h.below.size)⟩
  rcases h.row.2 with e | ⟨g, cap, cur, rfl, h2, h3, h4⟩
  · exact .inl e
  · exact .inr ⟨g, cap, cur, rfl, h2, (hb.block g (Array.getElem?_eq_some_iff.1 h3).1).trans h3, h4⟩
theorem TRow.push {w wr W1 : World} {v : Value} {l : List (List UInt8)} (h : TRow w wr v l) (hb : Below wr.heap.size wr W1) {z : Nat} {s : ByteArray} (hz : W1.heap[z]? = some (.cells #[.string s] 9 (0, 0))) (hl : l.length ≤ 2000000) (ty : TypeId) :
    ∃ (p : Option Addr) (cv : Nat) (W2 : World), (Builtin.append_ #[44, 44] ty #[v, .slice (some ⟨z, 0, none⟩) 1 1]).run Tryz.prog W1 = .ok (.slice p (l.length + 1) cv) W2 ∧ TRow w W2 (.slice p (l.length + 1) cv) (l ++ [s.data.toList]) := by
  obtain ⟨i0, hi0, hz0, hz1, hz2⟩ := info_parts infoT
  have h1 := h.same hb
  have hnews : ∀ j u, ([.string s] : List Value)[j]? = some u → W1.cell? ((⟨z, 0, none⟩ : Addr).add j) = some u := fun j u hu => by
    have hadd : (⟨z, 0, none⟩ : Addr).add j = ⟨z, j, none⟩ := by unfold Addr.add; split <;> simp_all
    rw [hadd, cell_of_row W1 z _ _ _ _ hz]
    simpa using hu
  obtain ⟨v', W2, hrun, ho, hg, hnil, hat⟩ := run_append_own_at (P := Tryz.prog) W1 w.heap.size 44 ty 9 i0 _ 1 16 Tryz.underlying44 hi0 hz0 hz1 hz2 rfl (by decide) v _ _ h1.row
    ⟨z, 0, none⟩ 1 1 [.string s] rfl hnews (fun u hu => by simp at hu; subst hu; rfl) (by unfold maxLen; omega) (by omega) h1.below.size
  have e1 : l.map encStr ++ [.string s] = (l ++ [s.data.toList]).map encStr := by simp [encStr]
  have e2 : l.length + 1 = (l ++ [s.data.toList]).length := by simp
  rw [e1] at ho
  have ho2 := ho
  rw [e2] at ho2
  have hB : Below w.heap.size W1 W2 := by
    refine ⟨hg.os, hg.tape, hg.output, hg.size, fun k hk => ?_⟩
    refine hg.block k (Nat.lt_of_lt_of_le hk h1.below.size) fun e => ?_
    rcases h1.row.2 with ⟨rfl, -⟩ | ⟨g, cap, cur, rfl, h2, -⟩
    · simp [Value.ownBlock] at e
    · have := Option.some.inj (show some k = some g from e); omega
  rcases ho.2 with ⟨-, e⟩ | ⟨g, cap, cur, rfl, -⟩
  · omega
  · exact ⟨_, cap, W2, hrun, ho2, h1.below.trans hB⟩

set_option maxRecDepth 100000 in
set_option maxHeartbeats 4000000 in
theorem frames_w (s : ByteArray) (w : World) (hs : s.size ≤ 1048576) :
    Calls Tryz.prog 53 #[.string s] w fun e w' => ∃ v, e = .returned (.tuple #[v, .string ⟨(Wm.frames s.data.toList).2.toArray⟩]) ∧ TRow w w' v (Wm.frames s.data.toList).1 := by
  have hnext := fun (t : ByteArray) (ht : t.size ≤ 1048576) (W : World) => Next_any t 0 W (by omega)
  have HN := Lib.hid hnext
  have h0 := hnext s hs w
  have hst : TRow w w (.slice none 0 0) [] := ⟨World.ownsRow_nil _ _ _ _, Below.refl _ _⟩
  clear hnext
  go_enter Tryz.func53, Tryz.ntmps53
  go_wp2_with fail
  refine h0.mono ?_
  rintro e w1 ⟨rfl, hb1⟩
  have HST := Lib.hid (hst.same hb1)
  clear h0 hst hb1
  obtain ⟨bv, nv, ov, hv, hrel0⟩ : ∃ (bv : ByteArray) (nv : Nat) (ov : Bool), nextVal s.data.toList 0 = .tuple #[.string bv, .int .i64 (nv : Nat), .bool ov] ∧ ((Sm.behind s.data.toList 0 = none ∧ ov = false) ∨ (Sm.behind s.data.toList 0 = some nv ∧ bv = ⟨(Sm.bodyAt s.data.toList 0 nv).toArray⟩ ∧ ov = true)) := by
    unfold nextVal
    cases h : Sm.behind s.data.toList 0 with
    | none => exact ⟨_, 0, _, rfl, .inl ⟨rfl, rfl⟩⟩
    | some e => exact ⟨_, e, _, rfl, .inr ⟨rfl, rfl, rfl⟩⟩
  rw [hv]
  have HR0 := Lib.hid hrel0
  clear hv hrel0
  go_wp2_with fail
  go_loopg [0, 2, 4, 5, 6] s.size (fun g sv vv b4 n5 o6 wr => ∃ (t : ByteArray) (l : List (List UInt8)) (p : Option Addr) (cv : Nat) (bt : ByteArray) (nt : Nat) (ot : Bool), sv = .string t ∧ vv = .slice p l.length cv ∧ b4 = .string bt ∧ n5 = .int .i64 (nt : Nat) ∧ o6 = .bool ot ∧ t.size ≤ g ∧ g ≤ 1048576 ∧ l.length + g ≤ 1048576 ∧ Hid (TRow w wr (.slice p l.length cv) l ∧ ((Sm.behind t.data.toList 0 = none ∧ ot = false) ∨ (Sm.behind t.data.toList 0 = some nt ∧ bt = ⟨(Sm.bodyAt t.data.toList 0 nt).toArray⟩ ∧ ot = true)) ∧ Wm.frames s.data.toList = (l ++ (Wm.chunks g t.data.toList).1, (Wm.chunks g t.data.toList).2)))
  case atStart => exact ⟨s, [], none, 0, bv, nv, ov, rfl, rfl, rfl, rfl, rfl, Nat.le_refl _, hs, by simp; omega, Lib.hid ⟨HST.out, HR0.out, by unfold Wm.frames; rw [size_list]; rfl⟩⟩
  case round =>
    obtain ⟨t, l, p, cv, bt, nt, ot, rfl, rfl, rfl, rfl, rfl, htg, hg1, hlg, HH⟩ := hrel
    clear HST HR0
    have hor := HH.out.2.1
    cases ot with
    | false =>
      have hbn : Sm.behind t.data.toList 0 = none := by
        rcases hor with ⟨h, -⟩ | ⟨-, -, h⟩
        · exact h
        · cases h
      have hfr := HH.out.2.2
      rw [Wm.chunks_none hbn, List.append_nil] at hfr
      have hcl := clone_any t wr (by omega)
      have HT := Lib.hid HH.out.1
      have HFR := Lib.hid hfr
      clear hor hbn hfr HH
      go_wp2_with fail
      refine hcl.mono ?_
      rintro e w2 ⟨rfl, hb2⟩
      have HT2 := Lib.hid (HT.out.same hb2)
      clear hcl hb2
      go_wp2_with fail
      go_ret2
      exact ⟨_, by rw [HFR.out]; simp; rfl, by rw [HFR.out]; exact HT2.out⟩
    | true =>
      have hbs : Sm.behind t.data.toList 0 = some nt ∧ bt = ⟨(Sm.bodyAt t.data.toList 0 nt).toArray⟩ := by
        rcases hor with ⟨-, h⟩ | ⟨h, h2, -⟩
        · cases h
        · exact ⟨h, h2⟩
      have hle := Sm.behind_le hbs.1
      rw [size_list] at hle
      obtain ⟨g', rfl⟩ : ∃ g', gk = g' + 1 := ⟨gk - 1, by omega⟩
      have hfr := HH.out.2.2
      rw [Wm.chunks_some hbs.1] at hfr
      obtain ⟨t', ht'⟩ : ∃ t', t.extract nt t.size = t' := ⟨_, rfl⟩
      have htl : t'.data.toList = t.data.toList.drop nt := by
        rw [← ht', extract_list, List.take_of_length_le (by rw [List.length_drop, size_list]; omega)]
      have hts : t'.size = t.size - nt := by rw [← size_list, htl, List.length_drop, size_list]
      rw [← htl] at hfr
      have hbl : bt.data.toList = Sm.bodyAt t.data.toList 0 nt := by rw [hbs.2]
      rw [← hbl] at hfr
      obtain ⟨W1, hW1⟩ : ∃ W1, wr.alloc (.cells #[.string bt] 9) = W1 := ⟨_, rfl⟩
      obtain ⟨z, hz⟩ : ∃ z, wr.heap.size = z := ⟨_, rfl⟩
      have hB1 : Below wr.heap.size wr W1 := by rw [← hW1]; exact (Below.refl _ wr).alloc (Nat.le_refl _) _
      have hz1 : W1.heap[z]? = some (.cells #[.string bt] 9 (0, 0)) := by rw [← hW1, ← hz]; exact heap_alloc_new wr _
      obtain ⟨p2, cv2, W2, hrun, hT2⟩ := HH.out.1.push hB1 hz1 (by omega) 44
      have HT2 := Lib.hid hT2
      have HFR := Lib.hid hfr
      have hn2 := HN.out t' (by omega) W2
      obtain ⟨bv2, nv2, ov2, hv2, hrel2⟩ : ∃ (bv : ByteArray) (nv : Nat) (ov : Bool), nextVal t'.data.toList 0 = .tuple #[.string bv, .int .i64 (nv : Nat), .bool ov] ∧ ((Sm.behind t'.data.toList 0 = none ∧ ov = false) ∨ (Sm.behind t'.data.toList 0 = some nv ∧ bv = ⟨(Sm.bodyAt t'.data.toList 0 nv).toArray⟩ ∧ ov = true)) := by
        unfold nextVal
        cases h : Sm.behind t'.data.toList 0 with
        | none => exact ⟨_, 0, _, rfl, .inl ⟨rfl, rfl⟩⟩
        | some e => exact ⟨_, e, _, rfl, .inr ⟨rfl, rfl, rfl⟩⟩
      rw [hv2] at hn2
      have HR2 := Lib.hid hrel2
      have i1 : (0 : Int) ≤ (nt : Int) := by omega
      have i2 : (nt : Int) ≤ (t.size : Int) := by omega
      have hll : (l ++ [bt.data.toList]).length = l.length + 1 := by simp
      clear hor hbs hfr HH htl hbl hB1 hz1 hT2 hv2 hrel2
      go_wp2_with (at_builtin; refine Lib.wpList_append_run _ rfl (.tmp 20) (.tmp 22) _ _ rfl _ _ rfl rfl _ _ hrun ?_)
      try rw [ht']
      refine hn2.mono ?_
      rintro e w3 ⟨rfl, hb3⟩
      have HT3 := Lib.hid (HT2.out.same hb3)
      clear hb3 hn2 hrun
      go_wp2_with fail
      go_roundg g'
      case measure => omega
      case rel => exact ⟨t', l ++ [bt.data.toList], p2, cv2, bv2, nv2, ov2, rfl, by rw [hll], rfl, rfl, rfl, by omega, by omega, by rw [hll]; omega, Lib.hid ⟨by rw [hll]; exact HT3.out, HR2.out, by rw [HFR.out]; simp⟩⟩
end Go.Proofs.YtoecbkndbcblpaaGreatDoor
