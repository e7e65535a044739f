/-
  A table without a key, values of pairs: Delete. Conditions: those in the theorems.
-/
import Derived.Test.YthioogncbhkaoaaMemLessP
import Derived.Test.YthioogncbhkaoaaMemLawP
namespace Go.Proofs.Ythioogncbhkaoaa.MP
open Go.RowKit

set_option maxHeartbeats 2000000 in
theorem delete_nil (key : ByteArray) (w : World) : Calls Try.prog 27 #[.pointer none, .string key] w fun e w' => e = .returned (.bool false) ∧ Below w.heap.size w w' := by
  go_enter Try.func27, Try.ntmps27
  go_wp2_with fail
  refine (get_nil key w).mono ?_
  rintro e w2 ⟨rfl, hb2⟩
  have HD := Lib.hid (below_two hb2 (below_alloc w2 (.cells #[.int .i64 0, .slice none 0 0] 58)))
  clear hb2
  go_wp2_with fail
  go_ret
  exact ⟨rfl, HD.out⟩
set_option maxHeartbeats 4000000 in
theorem delete_at {w : World} {a : Nat} {p : Value} {t : Mm.Tr} (h : Tab w a p) (ht : At w t p) (hs : Mm.Sorted t.flat) (key : ByteArray) (hn : t.count ≤ 999999) :
    Calls Try.prog 27 #[.pointer (some ⟨a, 0, none⟩), .string key] w (Wrote w a (if (Mm.get t.flat key).isSome then t.without key else t) (.bool (Mm.get t.flat key).isSome)) := by
  have HG := Lib.hid (get_at h ht hs key)
  have HT := Lib.hid h
  obtain ⟨op, rfl⟩ := ht.ptr
  have HA := Lib.hid ht
  have HN := Lib.hid hn
  clear ht hs hn h
  obtain ⟨g1, g2, g3, g4, hgv⟩ := got_agg HA.out key
  rw [hgv] at HG
  clear hgv
  generalize (Mm.get t.flat key).isSome = b at *
  cases b with
  | false =>
    simp only [Bool.false_eq_true, if_false]
    go_enter Try.func27, Try.ntmps27
    go_wp2_with fail
    refine HG.out.mono ?_
    rintro e w2 ⟨rfl, hb2⟩
    have HD := Lib.hid (below_two hb2 (below_alloc w2 (.cells #[.int .i64 g1, .slice g2 g3 g4] 58)))
    clear hb2
    go_wp2_with fail
    go_ret
    exact ⟨rfl, .of_below HD.out, _, (HD.out.block _ HT.out.lt).trans HT.out, HA.out.below HD.out⟩
  | true =>
    simp only [if_true]
    have hfin : ∀ w5 p5, Below w.heap.size w w5 → At w5 (t.without key) p5 → Wrote w a (t.without key) (.bool true) (.returned (.bool true)) (w5.setCell ⟨a, 0, none⟩ p5) := fun w5 p5 hb hp => wrote_of HT.out hb hp _
    have HF := Lib.hid hfin
    have hblk : ∀ W, Below w.heap.size w W → W.cell? ⟨a, 0, none⟩ = some (.pointer op) ∧ W.frozen? ⟨a, 0, none⟩ = false := fun W hB => by
      obtain ⟨y0, y1⟩ := cells1 (show Tab W a _ from (hB.block _ HT.out.lt).trans HT.out)
      exact ⟨y0, y1 0⟩
    have HB := Lib.hid hblk
    clear hfin hblk
    go_enter Try.func27, Try.ntmps27
    go_wp2_with fail
    refine HG.out.mono ?_
    rintro e w2 ⟨rfl, hb2⟩
    have hb3 := below_two hb2 (below_alloc w2 (.cells #[.int .i64 g1, .slice g2 g3 g4] 58))
    obtain ⟨c0, f0⟩ := HB.out _ hb3
    have HD := Lib.hid hb3
    clear hb2 hb3
    go_wp2_with fail
    (with_reducible refine (without_all t HN.out key _ _ (HA.out.below HD.out)).mono ?_)
    rintro e w5 ⟨p5, rfl, ha5, hb5⟩
    obtain ⟨o5, rfl⟩ := ha5.ptr
    have HA5 := Lib.hid ha5
    have HB5 := Lib.hid (below_two HD.out hb5)
    clear ha5 hb5 c0 f0
    obtain ⟨c5, f5⟩ := HB.out _ HB5.out
    go_wp2_with fail
    go_ret
    exact HF.out _ _ HB5.out HA5.out
section
variable {w0 w w' : World} {a : Nat} {L : Mm.Row} {R : List (Value × Mm.Row)} {B B' : List (Nat × Obj)}
theorem delete_m (h : Mem w0 w a L R B) (key : ByteArray) (hn : L.length ≤ 999999) {b : Bool} (hb : (Mm.get L key).isSome = b) :
    Calls Try.prog 27 #[.pointer (some ⟨a, 0, none⟩), .string key] w fun e w' => e = .returned (.bool b) ∧ Mem w0 w' a (Mm.del L key) R B ∧ Kept w w' ∧ Only a w w' := by
  obtain ⟨p, h1, ⟨t, h2, rfl, h3⟩, h4⟩ := h
  subst hb
  refine (delete_at (p := p) h1.head h2 h3 key (by rw [← Mm.Tr.count_flat]; exact hn)).mono fun e w' hw => ?_
  refine wrote_m h1 h4 ?_ (h3.del _) hw
  cases hg : Mm.get t.flat key with
  | none => simp only [Option.isSome_none, Bool.false_eq_true, if_false]; rw [Mm.del_none hg]
  | some v => simp only [Option.isSome_some, if_true]; exact Mm.flat_without t key h3
end
end Go.Proofs.Ythioogncbhkaoaa.MP
