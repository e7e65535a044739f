/-
  Walks over the laws of package prints: a type's text is that of the document. Conditions: those in the theorems (the keywords' variable holds what the row lists).
-/
import Derived.Test.YtamkkdmbefekmaaGreatDoorPrType
set_option linter.unusedSimpArgs false
set_option linter.unusedVariables false
namespace Pp
open Ip
/-- A sort's word, as the document has it. -/
def refW (x : So) : ByteArray := if x.kind = 1 then kNone else if x.kind = 2 then kBool else if x.kind = 3 then kInt else if x.kind = 4 then kText else if x.kind = 5 then kList else if x.kind = 6 then kOpt else x.name
def sBlank : ByteArray := ⟨#[32]⟩
def wordsB (t : List So) : ByteArray := t.foldl (fun s x => s ++ refW x ++ sBlank) ⟨#[]⟩
theorem wordsB_snoc (t : List So) (x : So) : wordsB (t ++ [x]) = wordsB t ++ refW x ++ sBlank := by unfold wordsB; rw [List.foldl_append]; rfl
theorem refW_size {x : So} (h : x.name.size ≤ 200) : (refW x).size ≤ 200 := by
  unfold refW
  repeat' split
  all_goals first | exact h | decide
theorem wordsB_size : ∀ (t : List So) (s : ByteArray), (∀ x ∈ t, x.name.size ≤ 200) → (t.foldl (fun s x => s ++ refW x ++ sBlank) s).size ≤ s.size + t.length * 201
  | [], s, _ => by simp
  | x :: t, s, h => by
    have h1 := wordsB_size t (s ++ refW x ++ sBlank) fun y hy => h y (List.mem_cons_of_mem _ hy)
    have h2 := refW_size (h x List.mem_cons_self)
    rw [List.foldl_cons, List.length_cons]
    rw [ByteArray.size_append, ByteArray.size_append, show sBlank.size = 1 from rfl] at h1
    omega
theorem refW_soW {x : So} (h : SoOk x) : refW x = soW x := by
  rcases h with ⟨h1, h2, -⟩ | ⟨h7, -⟩
  · unfold soW; rw [if_neg (by omega)]
    unfold refW kw
    obtain e | e | e | e | e | e : x.kind = 1 ∨ x.kind = 2 ∨ x.kind = 3 ∨ x.kind = 4 ∨ x.kind = 5 ∨ x.kind = 6 := by omega
    all_goals rw [e]; rfl
  · unfold soW; rw [if_pos h7]
    unfold refW
    rw [if_neg (by omega), if_neg (by omega), if_neg (by omega), if_neg (by omega), if_neg (by omega), if_neg (by omega)]
theorem append_list (a b : ByteArray) : (a ++ b).data.toList = a.data.toList ++ b.data.toList := by simp
theorem wordsB_list : ∀ (t : List So) (s : ByteArray), (∀ x ∈ t, SoOk x) → (t.foldl (fun s x => s ++ refW x ++ sBlank) s).data.toList = s.data.toList ++ t.flatMap fun x => (soW x).data.toList ++ [32]
  | [], s, _ => by simp
  | x :: t, s, h => by
    rw [List.foldl_cons, wordsB_list t _ fun y hy => h y (List.mem_cons_of_mem _ hy), append_list, append_list, refW_soW (h x List.mem_cons_self)]
    simp [sBlank]
theorem words_line : ∀ (t : List So) (x : So), One (soW x) → (∀ y ∈ t, One (soW y)) → ((x :: t).flatMap fun x => (soW x).data.toList ++ [32]) = puts [] ((x :: t).flatMap soT) ++ [32] := by
  have key : ∀ (t : List So) (l : List UInt8), (t.flatMap fun x => (soW x).data.toList ++ [32]) = (flat (t.flatMap soT) ++ [32]).drop 1 := by
    intro t
    induction t with
    | nil => intro _; rfl
    | cons y t ih =>
      intro l
      have h1 := ih l
      rw [List.flatMap_cons, h1, List.flatMap_cons]
      show _ = (flat ([soW y] ++ t.flatMap soT) ++ [32]).drop 1
      unfold flat at h1 ⊢
      rw [List.flatMap_append]
      show _ = ((32 :: (soW y).data.toList) ++ [] ++ flat (t.flatMap soT) ++ [32]).drop 1
      have h2 : ([32] ++ (flat (t.flatMap soT) ++ [32]).drop 1 : List UInt8) = flat (t.flatMap soT) ++ [32] := by
        cases ht : t.flatMap soT with
        | nil => rfl
        | cons a b => rfl
      simp only [List.cons_append, List.drop_succ_cons, List.drop_zero, List.append_nil, List.append_assoc, List.nil_append] at h2 ⊢
      rw [← h2]
      rfl
  intro t x hx ht
  rw [key (x :: t) []]
  show _ = puts [] (soW x :: t.flatMap soT) ++ [32]
  rw [puts_first hx]
  rfl
/-- The document's text of a type, its last blank taken off, is the program's. -/
theorem words_ty {t : List So} (h : TyOk t) : wordsB t = Tk.bs (sortsL t ++ [32]) := by
  have hm := ty_mem h
  have h1 := wordsB_list t ⟨#[]⟩ hm
  cases t with
  | nil => cases h
  | cons x t =>
    have ho : ∀ y ∈ x :: t, One (soW y) := fun y hy => ones_so (hm y hy) _ List.mem_cons_self
    rw [words_line t x (ho x List.mem_cons_self) fun y hy => ho y (List.mem_cons_of_mem _ hy)] at h1
    rw [← Tk.data_bs (wordsB (x :: t))]
    show Tk.bs ((x :: t).foldl (fun s x => s ++ refW x ++ sBlank) ⟨#[]⟩).data.toList = _
    rw [h1]
    rfl
end Pp
namespace Go.Proofs.YtamkkdmbefekmaaGreatDoor
open Go.RowKit
set_option maxRecDepth 100000 in
set_option maxHeartbeats 4000000 in
theorem refWord_any (x : Ip.So) (w : World) : Calls Tryz.prog 55 #[.agg #[.int .u8 (x.kind : Nat), .string x.name]] w fun e w' => e = .returned (.string (Pp.refW x)) ∧ Below w.heap.size w w' := by
  obtain ⟨k, n⟩ := x
  obtain ⟨W1, hW1⟩ : ∃ W1, W1 = w.alloc (.cells #[.int .u8 (k : Nat), .string n] 54) := ⟨_, rfl⟩
  have hn1 : W1.heap[w.heap.size]? = some (.cells #[.int .u8 (k : Nat), .string n] 54 (0, 0)) := by rw [hW1]; exact heap_alloc_new w _
  obtain ⟨y0, y1⟩ := cells2 hn1
  have HB : Hid (Below w.heap.size w W1) := Lib.hid (by rw [hW1]; exact tk_alloc w _)
  clear hn1
  simp only
  go_enter Tryz.func55, Tryz.ntmps55
  go_upto_region 1 with fail
  rw [← hW1]
  clear hW1
  by_cases h1 : k = 1
  · subst h1; go_wp2_with fail; go_ret; exact ⟨rfl, HB.out⟩
  by_cases h2 : k = 2
  · subst h2; go_wp2_with fail; go_ret; exact ⟨rfl, HB.out⟩
  by_cases h3 : k = 3
  · subst h3; go_wp2_with fail; go_ret; exact ⟨rfl, HB.out⟩
  by_cases h4 : k = 4
  · subst h4; go_wp2_with fail; go_ret; exact ⟨rfl, HB.out⟩
  by_cases h5 : k = 5
  · subst h5; go_wp2_with fail; go_ret; exact ⟨rfl, HB.out⟩
  by_cases h6 : k = 6
  · subst h6; go_wp2_with fail; go_ret; exact ⟨rfl, HB.out⟩
  have e1 : (((k : Nat) : Int) == 1) = false := by rw [beq_eq_false_iff_ne]; omega
  have e2 : (((k : Nat) : Int) == 2) = false := by rw [beq_eq_false_iff_ne]; omega
  have e3 : (((k : Nat) : Int) == 3) = false := by rw [beq_eq_false_iff_ne]; omega
  have e4 : (((k : Nat) : Int) == 4) = false := by rw [beq_eq_false_iff_ne]; omega
  have e5 : (((k : Nat) : Int) == 5) = false := by rw [beq_eq_false_iff_ne]; omega
  have e6 : (((k : Nat) : Int) == 6) = false := by rw [beq_eq_false_iff_ne]; omega
  have HK : Hid (Pp.refW ⟨k, n⟩ = n) := Lib.hid (by unfold Pp.refW; rw [if_neg h1, if_neg h2, if_neg h3, if_neg h4, if_neg h5, if_neg h6])
  clear h1 h2 h3 h4 h5 h6
  go_wp2_with fail
  go_ret
  exact ⟨by rw [HK.out]; rfl, HB.out⟩
set_option maxRecDepth 100000 in
set_option maxHeartbeats 4000000 in
theorem refWords_any {u w : World} {p : Option Addr} {t : List Ip.So} {c : Nat} (hp : RoSo u (.slice p t.length c) t) (hu : Kp u w) (hl : t.length ≤ 300) (hn : ∀ x ∈ t, x.name.size ≤ 200) :
    Calls Tryz.prog 54 #[.slice p t.length c] w fun e w' => e = .returned (.string (Pp.wordsB t)) ∧ Below w.heap.size w w' := by
  obtain ⟨_, _, e9, hsl⟩ := ro_len hp
  cases e9
  have HP := Lib.hid hp
  have HU := Lib.hid hu
  have HL : Hid (∀ k, (hk : k < t.length) → Pp.wordsB (t.take (k + 1)) = Pp.wordsB (t.take k) ++ Pp.refW t[k] ++ Pp.sBlank) := Lib.hid fun k hk => by rw [List.take_succ_eq_append_getElem hk, Pp.wordsB_snoc]
  have HW : Hid (∀ k, k ≤ t.length → (Pp.wordsB (t.take k)).size ≤ 60300) := Lib.hid fun k hk => by
    have h1 := Pp.wordsB_size (t.take k) ⟨#[]⟩ fun x hx => hn x (List.mem_of_mem_take hx)
    have h2 : (t.take k).length * 201 ≤ 300 * 201 := Nat.mul_le_mul_right _ (by rw [List.length_take]; omega)
    have h3 : (⟨#[]⟩ : ByteArray).size = 0 := rfl
    unfold Pp.wordsB
    omega
  have HNM := Lib.hid hn
  clear hp hu hn
  go_enter Tryz.func54, Tryz.ntmps54
  go_wp2_with fail
  go_loopw [3, 4] (fun sv kv wr => ∃ k : Nat, k ≤ t.length ∧ kv = .int .i64 (k : Nat) ∧ sv = .string (Pp.wordsB (t.take k)) ∧ Hid (Below w.heap.size w wr)) (fun _ kv _ => t.length - (intOf kv).toNat)
  case atStart => exact ⟨0, Nat.zero_le _, rfl, rfl, Lib.hid (Below.refl _ _)⟩
  case round =>
    obtain ⟨k, hk, rfl, rfl, H⟩ := hrel
    by_cases hlt : k < t.length
    · have i1 : (k : Int) < (t.length : Int) := by omega
      have i2 : (0 : Int) ≤ (k : Int) := by omega
      obtain ⟨A, cc, e3, hA, d0, d1, hin⟩ := so_at (HP.out.kp (HU.out.below H.out)) hlt
      cases e3
      have HS := Lib.hid (HL.out k hlt)
      have hsz := HW.out k hk
      have hxz := Pp.refW_size (HNM.out _ (List.getElem_mem hlt))
      generalize t[k] = x at *
      generalize Pp.wordsB (t.take k) = m at *
      have i4 : ¬ 9223372036854775807 < m.size + (Pp.refW x).size := by omega
      have i5 : ¬ 9223372036854775807 < m.size + (Pp.refW x).size + 1 := by omega
      have i6 : ¬ 9223372036854775807 < (m ++ Pp.refW x).size + 1 := by rw [ByteArray.size_append]; omega
      clear hsz hxz
      go_wp2_with fail
      refine (refWord_any x _).mono ?_
      rintro e w2 ⟨rfl, hb2⟩
      have HB2 := Lib.hid (H.out.trans (hb2.mono H.out.size))
      clear hb2
      go_wp2_with fail
      go_roundw
      case rel => exact ⟨k + 1, by omega, by go_num, by rw [HS.out]; rfl, HB2⟩
      case measure => simp [intOf]; omega
    · obtain rfl : k = t.length := by omega
      have i1 : ¬ (t.length : Int) < (t.length : Int) := by omega
      have HT := Lib.hid (show Pp.wordsB (t.take t.length) = Pp.wordsB t by rw [List.take_length])
      go_wp2_with fail
      go_ret
      exact ⟨by rw [← HT.out]; rfl, H.out⟩
end Go.Proofs.YtamkkdmbefekmaaGreatDoor
