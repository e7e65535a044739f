/-
  Walks over package manifest: what Check's last test asks; Check. Conditions: those in the theorems.
-/
import Derived.Test.YtbhjpkejdkfenaaGreatDoorManCheck2
namespace Go.Proofs.YtbhjpkejdkfenaaGreatDoor
open Go.RowKit
open Mf (File)

set_option maxRecDepth 100000 in
set_option maxHeartbeats 4000000 in
theorem contains_met {w : World} {p : Option Addr} {cap : Nat} {l : List File} {P : File → Prop} {a b : Nat} (hl : FilesAt w p l) (hm : l.length ≤ maxLen)
    (hp : ∀ f ∈ l, ∀ W, Below w.heap.size w W → Calls Tryz.prog 46 #[fiV f, .pointer (some ⟨a, 0, none⟩), .pointer (some ⟨b, 0, none⟩)] W (Tells (P f) W)) :
    Calls Tryz.prog 45 #[.slice p l.length cap, .func (.func 46) #[] #[.pointer (some ⟨a, 0, none⟩), .pointer (some ⟨b, 0, none⟩)]] w (Tells (∃ f ∈ l, P f) w) := by
  have HI := Lib.hid (indexMet (cap := cap) hl hm hp)
  clear hl hp
  go_enter Tryz.func45, Tryz.ntmps45
  go_wp2_with fail
  refine HI.out.mono ?_
  rintro e w2 ⟨n, rfl, hn, hb⟩
  have HN := Lib.hid hn
  have HB := Lib.hid hb
  clear hn hb
  go_wp2_with fail
  go_ret
  exact ⟨decide (0 ≤ n), rfl, by
    rw [decide_eq_true_iff]
    rcases HN.out with ⟨h1, h2⟩ | ⟨k, hk, h1, h2, -⟩
    · exact ⟨fun h => by omega, fun ⟨f, hf, hf2⟩ => absurd hf2 (h2 f hf)⟩
    · exact ⟨fun _ => ⟨_, List.getElem_mem hk, h2⟩, fun _ => by omega⟩, HB.out⟩
theorem FilesAt.take {w : World} {p : Option Addr} {l : List File} (h : FilesAt w p l) (k : Nat) : FilesAt w p (l.take k) := fun i hi => by
  rw [List.length_take] at hi
  obtain ⟨A, h1, h2, h3, h4⟩ := h i (by omega)
  exact ⟨A, h1, h2, by rw [List.getElem_take]; exact h3, by rw [List.getElem_take]; exact h4⟩
set_option maxRecDepth 100000 in
set_option maxHeartbeats 4000000 in
theorem apart_any {w : World} {p : Option Addr} {cap : Nat} {l : List File} {a : Nat} {nx lg : Int} (hm : l.length ≤ maxLen) (hl : FilesAt w p l) (hcap : l.length ≤ cap) (hcm : cap ≤ maxLen) (ha : w.heap[a]? = some (stO nx lg p l.length cap)) (i : Nat) (hi : i < l.length) (W : World) (hW : Below w.heap.size w W) :
    Calls Tryz.prog 44 #[.int .i64 (i : Nat), .pointer (some ⟨a, 0, none⟩)] W (Tells (ApartM l i) W) := by
  obtain ⟨A, rfl⟩ := hl.some hi
  obtain ⟨W1, hW1⟩ : ∃ W1, W1 = W.alloc (.cells #[.int .i64 (i : Nat)] 3) := ⟨_, rfl⟩
  have hb1 : Below W.heap.size W W1 := by rw [hW1]; exact mbelow_alloc _ _
  have hwb : Below w.heap.size w W1 := hW.trans (hb1.mono hW.size)
  have haW : W1.heap[a]? = some (stO nx lg (some A) l.length cap) := (hwb.block a (Array.getElem?_eq_some_iff.1 ha).1).trans ha
  have hn : W1.heap[W.heap.size]? = some (.cells #[.int .i64 (i : Nat)] 3 (0, 0)) := by rw [hW1]; exact heap_alloc_new _ _
  have hlW : FilesAt W1 (some A) l := fun j hj => by
    obtain ⟨A, h1, h2, h3, h4⟩ := hl j hj
    exact ⟨A, h1, Nat.lt_of_lt_of_le h2 hwb.size, fun q hq => (hwb.cell (by rw [madd_block]; exact h2)).trans (h3 q hq), h4⟩
  have hlt : (l.take i).length = i := by rw [List.length_take]; omega
  have hmt : (l.take i).length ≤ maxLen := by omega
  have hc := contains_met (cap := cap) (P := fun f => Mf.Meet f l[i]) (a := a) (b := W.heap.size) (hlW.take i) hmt fun f _ W2 hW2 => met_any hm hlW haW i hi hn f W2 hW2
  rw [hlt] at hc
  obtain ⟨s0, s1, s2⟩ := st_cells haW
  have s3 : W1.cell? ⟨W.heap.size, 0, none⟩ = some (.int .i64 (i : Nat)) := by rw [cell_of_row W1 _ _ _ _ _ hn]; rfl
  have HC := Lib.hid hc
  have HB := Lib.hid hb1
  have HK : Hid (ApartM l i ↔ ¬ ∃ f ∈ l.take i, Mf.Meet f l[i]) := Lib.hid ⟨fun ⟨_, h⟩ ⟨f, h1, h2⟩ => h f h1 h2, fun h => ⟨hi, fun f h1 h2 => h ⟨f, h1, h2⟩⟩⟩
  have i1 : (0 : Int) ≤ (i : Int) := by omega
  have i2 : (i : Int) ≤ (cap : Int) := by omega
  unfold maxLen at hm hcm
  clear hc hb1 hl ha haW hn hlW hwb hW hlt hmt
  subst hW1
  go_enter Tryz.func44, Tryz.ntmps44
  go_wp2_with fail
  refine HC.out.mono ?_
  rintro e w2 ⟨b, rfl, hb, hb2⟩
  go_wp2_with fail
  go_ret
  exact ⟨!b, rfl, by rw [HK.out, ← hb]; cases b <;> simp, HB.out.trans (hb2.mono HB.out.size)⟩

set_option maxRecDepth 100000 in
set_option maxHeartbeats 8000000 in
/-- Check says OK just of right states. -/
theorem Check_any {w : World} {p : Option Addr} {cap : Nat} {l : List File} {nx lg : Int} (hl : FilesAt w p l) (hcap : l.length ≤ cap) (hcm : cap ≤ maxLen) :
    Calls Tryz.prog 12 #[stV nx lg p l.length cap] w fun e w' => ∃ n : Nat, e = .returned (.int .i64 (n : Int)) ∧ (n = 0 ↔ Mf.Right ⟨nx, lg, l⟩) ∧ (n = 0 ∨ n = 1) ∧ Below w.heap.size w w' := by
  have hm : l.length ≤ maxLen := Nat.le_trans hcap hcm
  obtain ⟨W1, hW1⟩ : ∃ W1, W1 = w.alloc (.cells #[.int .i64 nx, .int .i64 lg, .slice p l.length cap] 24) := ⟨_, rfl⟩
  have hb1 : Below w.heap.size w W1 := by rw [hW1]; exact mbelow_alloc _ _
  have haW : W1.heap[w.heap.size]? = some (stO nx lg p l.length cap) := by rw [hW1]; exact heap_alloc_new _ _
  have hlW := hl.below hb1
  have h2 := fun W2 (hB : Below W1.heap.size W1 W2) => all2 (P := NumM nx l) hm ((hB.block _ (Array.getElem?_eq_some_iff.1 haW).1).trans haW) fun i hi W hW => numbered_any hm (hlW.below hB) ((hB.block _ (Array.getElem?_eq_some_iff.1 haW).1).trans haW) i hi W hW
  have h3 := fun W2 (hB : Below W1.heap.size W1 W2) => all3 (P := MadeM l) hm ((hB.block _ (Array.getElem?_eq_some_iff.1 haW).1).trans haW) fun i hi W hW => made_any hm (hlW.below hB) ((hB.block _ (Array.getElem?_eq_some_iff.1 haW).1).trans haW) i hi W hW
  have h4 := fun W2 (hB : Below W1.heap.size W1 W2) => all4 (P := ApartM l) hm ((hB.block _ (Array.getElem?_eq_some_iff.1 haW).1).trans haW) fun i hi W hW => apart_any hm (hlW.below hB) hcap hcm ((hB.block _ (Array.getElem?_eq_some_iff.1 haW).1).trans haW) i hi W hW
  obtain ⟨s0, s1, s2⟩ := st_cells haW
  obtain ⟨b1, K1⟩ : ∃ b : Bool, Hid (b = decide (1 ≤ nx ∧ nx ≤ 1099511627776)) := ⟨_, Lib.hid rfl⟩
  obtain ⟨b2, K2⟩ : ∃ b : Bool, Hid (b = decide (0 ≤ lg ∧ lg ≤ 1099511627776)) := ⟨_, Lib.hid rfl⟩
  obtain ⟨b3, K3⟩ : ∃ b : Bool, Hid (b = decide ((0 : Int) ≤ (l.length : Int) ∧ (l.length : Int) ≤ 200)) := ⟨_, Lib.hid rfl⟩
  have key : Mf.Right ⟨nx, lg, l⟩ ↔ (b1 = true ∧ b2 = true ∧ b3 = true ∧ (∀ i < l.length, NumM nx l i) ∧ (∀ i < l.length, MadeM l i) ∧ ∀ i < l.length, ApartM l i) := by
    rw [right_iff_m, K1.out, K2.out, K3.out, decide_eq_true_iff, decide_eq_true_iff, decide_eq_true_iff]
    constructor
    · rintro ⟨h1, h2, h3, h4⟩; exact ⟨h1, h2, ⟨by omega, by omega⟩, h4⟩
    · rintro ⟨h1, h2, h3, h4⟩; exact ⟨h1, h2, by omega, h4⟩
  have H2 := Lib.hid h2
  have H3 := Lib.hid h3
  have H4 := Lib.hid h4
  have HB := Lib.hid hb1
  have HK := Lib.hid key
  clear h2 h3 h4 hb1 key hl hlW haW hcap hcm hm
  have H0 : Hid (Below W1.heap.size W1 W1) := Lib.hid (Below.refl _ _)
  unfold stV
  subst hW1
  go_enter Tryz.func12, Tryz.ntmps12
  go_wp2_with fail
  refine (within_is b1 K1.out).mono ?_
  rintro e w2 ⟨rfl, rfl⟩
  cases b1 with
  | false =>
    go_wp2_with fail
    go_ret
    exact ⟨1, rfl, by rw [HK.out]; simp, .inr rfl, HB.out⟩
  | true =>
  go_wp2_with fail
  refine (within_is b2 K2.out).mono ?_
  rintro e w2 ⟨rfl, rfl⟩
  cases b2 with
  | false =>
    go_wp2_with fail
    go_ret
    exact ⟨1, rfl, by rw [HK.out]; simp, .inr rfl, HB.out⟩
  | true =>
  go_wp2_with fail
  refine (within_is b3 K3.out).mono ?_
  rintro e w2 ⟨rfl, rfl⟩
  cases b3 with
  | false =>
    go_wp2_with fail
    go_ret
    exact ⟨1, rfl, by rw [HK.out]; simp, .inr rfl, HB.out⟩
  | true =>
  clear s0 s1 s2
  go_wp2_with fail
  refine (H2.out _ H0.out).mono ?_
  rintro e w2 ⟨c1, rfl, hb, hb2⟩
  have C1 := Lib.hid hb
  have B1 := Lib.hid (H0.out.trans (hb2.mono H0.out.size))
  clear hb hb2
  cases c1 with
  | false =>
    go_wp2_with fail
    go_ret
    exact ⟨1, rfl, by (rw [HK.out]; simp only [Nat.one_ne_zero, false_iff]; exact fun h => by have := C1.out.2 h.2.2.2.1; cases this), .inr rfl, HB.out.trans (B1.out.mono HB.out.size)⟩
  | true =>
  go_wp2_with fail
  refine (H3.out _ B1.out).mono ?_
  rintro e w3 ⟨c2, rfl, hb, hb2⟩
  have C2 := Lib.hid hb
  have B2 := Lib.hid (B1.out.trans (hb2.mono B1.out.size))
  clear hb hb2
  cases c2 with
  | false =>
    go_wp2_with fail
    go_ret
    exact ⟨1, rfl, by (rw [HK.out]; simp only [Nat.one_ne_zero, false_iff]; exact fun h => by have := C2.out.2 h.2.2.2.2.1; cases this), .inr rfl, HB.out.trans (B2.out.mono HB.out.size)⟩
  | true =>
  go_wp2_with fail
  refine (H4.out _ B2.out).mono ?_
  rintro e w4 ⟨c3, rfl, hb, hb2⟩
  have C3 := Lib.hid hb
  have B3 := Lib.hid (B2.out.trans (hb2.mono B2.out.size))
  clear hb hb2
  cases c3 with
  | false =>
    go_wp2_with fail
    go_ret
    exact ⟨1, rfl, by (rw [HK.out]; simp only [Nat.one_ne_zero, false_iff]; exact fun h => by have := C3.out.2 h.2.2.2.2.2; cases this), .inr rfl, HB.out.trans (B3.out.mono HB.out.size)⟩
  | true =>
    go_wp2_with fail
    go_ret
    exact ⟨0, rfl, by rw [HK.out]; simp only [true_iff]; exact ⟨trivial, trivial, trivial, C1.out.1 (by trivial), C2.out.1 (by trivial), C3.out.1 (by trivial)⟩, .inl rfl, HB.out.trans (B3.out.mono HB.out.size)⟩
end Go.Proofs.YtbhjpkejdkfenaaGreatDoor
