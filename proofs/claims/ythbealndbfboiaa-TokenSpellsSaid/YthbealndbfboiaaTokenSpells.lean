/-
  The law TokenSpells, walked: the text that has some tokens, or that there is none, is the document's. Conditions: those in the theorems.
-/
import Derived.Test.YthbealndbfboiaaTokRefSpell
import Derived.Test.YthbealndbfboiaaTokenJoins
set_option linter.unusedSimpArgs false
set_option linter.unusedVariables false
namespace Tk
theorem first_short {l : List UInt8} {k n v : Nat} (h : first l = .tok k n v) : n ≤ 32 := by
  unfold first at h
  split at h
  · split at h
    · cases h
    · cases h; omega
  · split at h
    · unfold numbered at h
      split at h
      · cases h
      · split at h
        · cases h
        · cases h; omega
    · split at h
      · have : sign l ≤ 2 := by
          cases l with
          | nil => simp [sign, two]
          | cons c r =>
            show (if two 45 62 (c :: r) then 2 else if signC c then 1 else 0) ≤ 2
            split
            · omega
            · split <;> omega
        cases h; omega
      · cases h
end Tk
namespace Go.Proofs.Ythbealndbfboiaa
open Go.RowKit
theorem lens_right : ∀ ts : List Tk.Token, anyWrong ts = false → lens ts ≤ ts.length * 33
  | [], _ => Nat.le_refl _
  | t :: r, h => by
    unfold anyWrong at h
    rw [List.any_cons, Bool.or_eq_false_iff] at h
    have := lens_right r h.2
    have h1 := Tk.first_short (Tk.not_wrong h.1).1
    rw [list_len] at h1
    unfold lens at this ⊢
    rw [List.map_cons, List.sum_cons, List.length_cons]
    omega
/-- Both answers to one row. -/
theorem spell_two {w : World} {ts : List Tk.Token} (hl : ts.length ≤ 300) (hsz : ∀ t ∈ ts, t.text.size ≤ 300) :
    ∃ (x : ByteArray) (er : Nat), (∀ (W : World) (p : Option Addr) (c : Nat), ToksAt W p ts → Calls Try.prog 11 #[.slice p ts.length c] W fun e w' => e = .returned (.tuple #[.string x, .int .i64 (er : Nat)]) ∧ Below W.heap.size W w') ∧
      (∀ (W : World) (p : Option Addr) (c : Nat), ToksAt W p ts → Calls Try.prog 12 #[.slice p ts.length c] W fun e w' => e = .returned (.tuple #[.string x, .int .i64 (er : Nat)]) ∧ Below W.heap.size W w') := by
  cases h : anyWrong ts with
  | true => exact ⟨_, 1, fun W p c hp => Spell_bad hp (by omega) h, fun W p c hp => RefSpell_bad hp hl hsz h⟩
  | false =>
    have h1 := lens_right ts h
    have h2 := Tk.spelled_len ts
    rw [sizes_lens] at h2
    exact ⟨_, 0, fun W p c hp => Spell_any hp (by omega) h (by omega), fun W p c hp => RefSpell_ok hp hl hsz h (by omega)⟩
set_option maxRecDepth 100000 in
set_option maxHeartbeats 8000000 in
theorem tokenSpells_any {p : Option Addr} {cap : Nat} {ts : List Tk.Token} (w : World) (hp : ToksAt w p ts) :
    Calls Try.prog 4 #[.slice p ts.length cap] w fun e w' => e = .returned (.bool true) ∧ Below w.heap.size w w' := by
  have HP := Lib.hid hp
  by_cases h300 : 300 < ts.length
  · have i1 : (300 : Int) < (ts.length : Int) := by omega
    clear hp
    generalize ts.length = n at *
    go_enter Try.func4, Try.ntmps4
    go_wp2_with (first | (go_at_call 10; refine (wakes_any _).mono ?_; rintro e w7 ⟨rfl, hb7⟩) | fail)
    go_ret
    exact ⟨rfl, hb7⟩
  · have i1 : ¬ (300 : Int) < (ts.length : Int) := by omega
    have hl : ts.length ≤ 300 := by omega
    clear hp h300
    go_enter Try.func4, Try.ntmps4
    go_wp2_with fail
    go_loopw [3] (fun kv wr => ∃ k : Nat, k ≤ ts.length ∧ kv = .int .i64 (k : Nat) ∧ Hid (∀ i, i < k → ∀ (hi : i < ts.length), ts[i].text.size ≤ 300) ∧ wr = w) (fun kv _ => ts.length - (intOf kv).toNat)
    case atStart => exact ⟨0, Nat.zero_le _, rfl, Lib.hid (fun i hi => absurd hi (Nat.not_lt_zero _)), rfl⟩
    case round =>
      obtain ⟨k, hk, rfl, H, rfl⟩ := hrel
      by_cases hlt : k < ts.length
      · have j1 : (k : Int) < (ts.length : Int) := by omega
        have j2 : (0 : Int) ≤ (k : Int) := by omega
        obtain ⟨A, rfl, c0, c1, c2, c3, hin⟩ := HP.out.at (Below.refl _ _) hlt
        have HK2 : Hid (ts[k].text.size ≤ 300 → ∀ i, i < k + 1 → ∀ (hi : i < ts.length), ts[i].text.size ≤ 300) := Lib.hid fun h i hi hi2 => by
          rcases Nat.lt_or_ge i k with h1 | h1
          · exact H.out i h1 hi2
          · have : i = k := by omega
            subst this; exact h
        generalize ts[k] = t at *
        obtain ⟨tk, tx, tn, tp⟩ := t
        simp only at c0 c1 c2 c3 HK2
        by_cases hs : 300 < tx.size
        · have i3 : (300 : Int) < (tx.size : Int) := by omega
          clear HK2 hin
          go_wp2_with (first | (go_at_call 10; refine (wakes_any _).mono ?_; rintro e w7 ⟨rfl, hb7⟩) | fail)
          go_ret
          exact ⟨rfl, hb7⟩
        · have i3 : ¬ (300 : Int) < (tx.size : Int) := by omega
          have HK3 := Lib.hid (HK2.out (by omega))
          clear HK2 hin
          go_wp2_with fail
          go_roundw
          case rel => exact ⟨k + 1, by omega, by go_num, HK3, by first | trivial | rfl⟩
          case measure => simp [intOf]; omega
      · have j1 : ¬ (k : Int) < (ts.length : Int) := by omega
        have hsz : ∀ t ∈ ts, t.text.size ≤ 300 := fun t ht => by
          obtain ⟨i, hi, rfl⟩ := List.getElem_of_mem ht
          exact H.out i (by omega) hi
        obtain ⟨x, er, qs, qr⟩ := spell_two (w := wr) hl hsz
        have hz := tk_alloc wr (.cells #[] 30)
        obtain ⟨pv1, cv1, W1, r1, o1, bb1⟩ := app_toks (own_empty wr wr.heap.size (Nat.le_refl _)) rfl (HP.out.below hz) (c' := cap) (by omega) hz.size 22
        rw [List.nil_append, Nat.zero_add] at o1
        rw [Nat.zero_add] at r1
        have hb1 := hz.trans (bb1.mono (Nat.le_refl _))
        obtain ⟨p4, c4, e4, -, -, t4⟩ := o1.toks HP.out.ok
        obtain ⟨e5, -, e6⟩ := Value.slice.inj e4
        subst e5
        subst e6
        have q1 := qs W1 pv1 cv1 t4
        have HB1 := Lib.hid hb1
        have HT4 := Lib.hid t4
        clear hz o1 bb1 hb1 t4 e4 qs hsz
        go_wp2_with (first | (at_builtin; refine Lib.wpList_append_run _ rfl (.tmp 27) (.tmp 28) _ _ rfl _ _ rfl rfl _ _ r1 ?_) | fail)
        refine q1.mono ?_
        rintro e w2 ⟨rfl, hb2⟩
        have HB2 := Lib.hid hb2
        have q2 := qr w2 p cap (HP.out.below (HB1.out.trans (hb2.mono HB1.out.size)))
        clear hb2 q1 r1
        go_wp2_with fail
        refine q2.mono ?_
        rintro e w3 ⟨rfl, hb3⟩
        have QE := Same_any (cap := cap) (cap2 := cv1) (HP.out.below (HB1.out.trans ((HB2.out.trans (hb3.mono HB2.out.size)).mono HB1.out.size))) (HT4.out.below (HB2.out.trans (hb3.mono HB2.out.size))) (by omega)
        have HB3 := Lib.hid (HB1.out.trans ((HB2.out.trans (hb3.mono HB2.out.size)).mono HB1.out.size))
        clear hb3 q2 qr
        go_wp2_with (first | (go_at_call 9; refine QE.mono ?_; rintro e w6 ⟨rfl, hb6⟩) | (go_at_call 10; refine (wakes_any _).mono ?_; rintro e w7 ⟨rfl, hb7⟩) | fail)
        go_ret
        exact ⟨rfl, HB3.out.trans ((hb6.trans (hb7.mono hb6.size)).mono HB3.out.size)⟩
end Go.Proofs.Ythbealndbfboiaa
