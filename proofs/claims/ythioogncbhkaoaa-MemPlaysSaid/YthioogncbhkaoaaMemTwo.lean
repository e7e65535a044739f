/-
  A table of texts (or none) that goes on as its twin, while the old one is written (MemPlays). Conditions: those in the theorems.
-/
import Derived.Test.YthioogncbhkaoaaMemTbl
namespace Go.Proofs.Ythioogncbhkaoaa
open Go.RowKit

/-- mv' goes on with L; the old one, mv, may have anything. -/
def TwoT (w0 w : World) (nn : Bool) (mv mv' : Value) (L : Mm.Row) (n : Nat) (B : List (Nat × Obj)) : Prop :=
  (nn = true ∧ mv = .pointer none ∧ mv' = .pointer none ∧ L = [] ∧ Now w0 w B) ∨
  (nn = false ∧ ∃ a b p Lo, mv = .pointer (some ⟨a, 0, none⟩) ∧ mv' = .pointer (some ⟨b, 0, none⟩) ∧ Lo.length ≤ n ∧ MS.Mem w0 w a Lo [(p, L)] ((b, MS.memO p) :: B))
section
variable {w0 w w' : World} {nn : Bool} {mv mv' : Value} {L : Mm.Row} {n : Nat} {B : List (Nat × Obj)}
theorem twin_two (h : Tbl w0 w nn mv L [] B) (hn : L.length ≤ n) : Calls Try.prog 20 #[mv] w fun e w' => ∃ om, e = .returned (.pointer om) ∧ om.isNone = nn ∧ TwoT w0 w' nn mv (.pointer om) L n B ∧ Below w.heap.size w w' := by
  rcases h with ⟨rfl, rfl, rfl, h, h4⟩ | ⟨rfl, a, rfl, h⟩
  · refine (MS.twin_nil w).mono ?_
    rintro e w' ⟨rfl, rfl⟩
    exact ⟨_, rfl, rfl, .inl ⟨rfl, rfl, rfl, rfl, h⟩, Below.refl _ _⟩
  · obtain ⟨p, h1, h2, h4⟩ := h
    have h2' := h2
    obtain ⟨t, h5, -, -⟩ := h2'
    refine (MS.twin_at (p := p) h1.head h5).mono ?_
    rintro e w' ⟨rfl, rfl⟩
    refine ⟨_, rfl, rfl, .inr ⟨rfl, a, _, p, L, rfl, rfl, hn, p, (h1.alloc _).swap, h2.kept (.alloc _ _), fun r hr => ?_⟩, below_alloc w _⟩
    obtain rfl := List.mem_singleton.1 hr
    exact h2.kept (.alloc _ _)
theorem TwoT.box (h : TwoT w0 w nn mv mv' L n B) {q : Nat × Obj} (hq : q ∈ B) : w.heap[q.1]? = some q.2 := by
  rcases h with ⟨-, -, -, -, h⟩ | ⟨-, a, b, p, Lo, -, -, -, h⟩
  · exact h.box q hq
  · exact MS.Mem.box h (List.mem_cons_of_mem _ hq)
theorem set_two (h : TwoT w0 w nn mv mv' L n B) (key : ByteArray) (hk : key.size ≤ 281474976710656) (hn : n ≤ 999999) (x : ByteArray) :
    Calls Try.prog 8 #[mv, .string key, .string x] w fun e w' => ∃ b, e = .returned (.bool b) ∧ TwoT w0 w' nn mv mv' L (n + 1) B ∧ KeepsP w w' := by
  rcases h with ⟨rfl, rfl, rfl, rfl, h⟩ | ⟨rfl, a, b, p, Lo, rfl, rfl, hl, h⟩
  · refine (MS.set_nil key x w).mono ?_
    rintro e w' ⟨rfl, rfl⟩
    exact ⟨_, rfl, .inl ⟨rfl, rfl, rfl, rfl, h⟩, fun _ _ h => h⟩
  · refine (MS.set_m h key hk (by omega) x rfl).mono ?_
    rintro e w' ⟨rfl, h2, -, ho⟩
    exact ⟨_, rfl, .inr ⟨rfl, a, b, p, _, rfl, rfl, by have := Mm.length_put_le Lo key (.string x); omega, h2⟩, keepsP_only h ho⟩
theorem delete_two (h : TwoT w0 w nn mv mv' L n B) (key : ByteArray) (hn : n ≤ 999999) :
    Calls Try.prog 13 #[mv, .string key] w fun e w' => ∃ b, e = .returned (.bool b) ∧ TwoT w0 w' nn mv mv' L n B ∧ KeepsP w w' := by
  rcases h with ⟨rfl, rfl, rfl, rfl, h⟩ | ⟨rfl, a, b, p, Lo, rfl, rfl, hl, h⟩
  · refine (MS.delete_nil key w).mono ?_
    rintro e w' ⟨rfl, hb⟩
    exact ⟨_, rfl, .inl ⟨rfl, rfl, rfl, rfl, h.same hb⟩, .of_below hb⟩
  · refine (MS.delete_m h key (by omega) rfl).mono ?_
    rintro e w' ⟨rfl, h2, -, ho⟩
    exact ⟨_, rfl, .inr ⟨rfl, a, b, p, _, rfl, rfl, Nat.le_trans (List.length_filter_le _ _) hl, h2⟩, keepsP_only h ho⟩
theorem TwoT.goOn (h : TwoT w0 w nn mv mv' L n B) : Tbl w0 w nn mv' L [] B := by
  rcases h with ⟨rfl, rfl, rfl, rfl, h⟩ | ⟨rfl, a, b, p, Lo, rfl, rfl, hl, h⟩
  · exact .inl ⟨rfl, rfl, rfl, h, fun _ h => nomatch h⟩
  · obtain ⟨pa, h2⟩ := h.other
    exact .inr ⟨rfl, b, rfl, (h2.fewer (R' := []) (fun _ h => nomatch h)).sub (List.sublist_cons_self _ _)⟩
end
end Go.Proofs.Ythioogncbhkaoaa
