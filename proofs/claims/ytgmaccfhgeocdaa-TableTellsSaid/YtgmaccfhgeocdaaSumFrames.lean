/-
  Plain facts on frames: the number of four bytes, the frame of a body, the place behind the frame that stands at a place. No program, no walk.
-/
import Derived.Test.YtgmaccfhgeocdaaSumMath
namespace Go.Proofs.Ytgmaccfhgeocdaa.Sm

/-- The number of four bytes that a text begins with. -/
def num (l : List UInt8) : Nat := (l.getD 0 0).toNat + (l.getD 1 0).toNat * 256 + (l.getD 2 0).toNat * 65536 + (l.getD 3 0).toNat * 16777216
/-- A number of four bytes. -/
def four (n : Nat) : List UInt8 := [UInt8.ofNat n, UInt8.ofNat (n / 256), UInt8.ofNat (n / 65536), UInt8.ofNat (n / 16777216)]
def frame (b : List UInt8) : List UInt8 := four b.length ++ four (more (crc (four b.length)) b) ++ b

theorem num_lt (l : List UInt8) : num l < 4294967296 := by
  unfold num
  have h0 := (l.getD 0 0).toNat_lt
  have h1 := (l.getD 1 0).toNat_lt
  have h2 := (l.getD 2 0).toNat_lt
  have h3 := (l.getD 3 0).toNat_lt
  omega
theorem four_len (n : Nat) : (four n).length = 4 := rfl
theorem num_four (n : Nat) (r : List UInt8) (hn : n < 4294967296) : num (four n ++ r) = n := by
  have e : ∀ k, k < 4 → (four n ++ r).getD k 0 = (four n).getD k 0 := by
    intro k hk
    simp only [List.getD_eq_getElem?_getD]
    rw [List.getElem?_append_left (by rw [four_len]; exact hk)]
  unfold num
  rw [e 0 (by omega), e 1 (by omega), e 2 (by omega), e 3 (by omega)]
  simp only [four, List.getD_cons_zero, List.getD_cons_succ, UInt8.toNat_ofNat']
  omega
theorem frame_len (b : List UInt8) : (frame b).length = b.length + 8 := by
  simp [frame, four_len]; omega

/-- The place behind the frame that stands at a place, if one does. -/
def behindAt (l : List UInt8) (a : Nat) : Option Nat :=
  if a + 8 ≤ l.length then
    if num (l.drop a) ≤ 65536 ∧ a + 8 + num (l.drop a) ≤ l.length ∧ more (crc ((l.drop a).take 4)) ((l.drop (a + 8)).take (num (l.drop a))) = num (l.drop (a + 4)) then
      some (a + 8 + num (l.drop a))
    else none
  else none
def behind (l : List UInt8) (at_ : Int) : Option Nat := if at_ < 0 then none else behindAt l at_.toNat

/-- The frame's body. -/
def bodyAt (l : List UInt8) (a e : Nat) : List UInt8 := (l.drop (a + 8)).take (e - (a + 8))

theorem behindAt_le {l : List UInt8} {a e : Nat} (h : behindAt l a = some e) : a + 8 ≤ e ∧ e ≤ l.length ∧ e ≤ a + 8 + 65536 := by
  unfold behindAt at h
  split at h
  · split at h
    · rename_i h1 h2; obtain rfl := Option.some.inj h; omega
    · exact absurd h (by simp)
  · exact absurd h (by simp)

theorem behind_le {l : List UInt8} {at_ : Int} {e : Nat} (h : behind l at_ = some e) : 0 ≤ at_ ∧ at_ + 8 ≤ e ∧ e ≤ l.length := by
  unfold behind at h
  split at h
  · exact absurd h (by simp)
  · have := behindAt_le h; omega

/-- A frame stands where a frame of a body of at most 65536 bytes stands. -/
theorem behindAt_frame (p b r : List UInt8) (hb : b.length ≤ 65536) : behindAt (p ++ (frame b ++ r)) p.length = some (p.length + 8 + b.length) := by
  have d0 : (p ++ (frame b ++ r)).drop p.length = frame b ++ r := List.drop_left
  have hn : num (frame b ++ r) = b.length := by
    show num ((four b.length ++ four _ ++ b) ++ r) = _
    rw [List.append_assoc, List.append_assoc]
    exact num_four _ _ (by omega)
  have d4 : (p ++ (frame b ++ r)).drop (p.length + 4) = four (more (crc (four b.length)) b) ++ (b ++ r) := by
    rw [← List.drop_drop, d0]
    show ((four b.length ++ four _ ++ b) ++ r).drop 4 = _
    rw [List.append_assoc, List.append_assoc]
    exact List.drop_left (l₁ := four b.length)
  have d8 : (p ++ (frame b ++ r)).drop (p.length + 8) = b ++ r := by
    rw [show p.length + 8 = p.length + 4 + 4 from rfl, ← List.drop_drop, d4]
    exact List.drop_left (l₁ := four _)
  have hl : (p ++ (frame b ++ r)).length = p.length + (b.length + 8 + r.length) := by
    rw [List.length_append, List.length_append, frame_len]
  unfold behindAt
  rw [d0, d4, d8, hn, hl, if_pos (by omega), if_pos]
  refine ⟨hb, by omega, ?_⟩
  have t4 : (frame b ++ r).take 4 = four b.length := by
    show ((four b.length ++ four _ ++ b) ++ r).take 4 = _
    rw [List.append_assoc, List.append_assoc]
    exact List.take_left (l₁ := four b.length)
  rw [t4, List.take_left, num_four _ _ (more_lt _ _)]

theorem bodyAt_frame (p b r : List UInt8) : bodyAt (p ++ (frame b ++ r)) p.length (p.length + 8 + b.length) = b := by
  unfold bodyAt
  have h8 : (p ++ (frame b ++ r)).drop (p.length + 8) = b ++ r := by
    rw [← List.drop_drop, List.drop_left]
    show ((four b.length ++ four _ ++ b) ++ r).drop 8 = _
    rw [List.append_assoc]
    exact List.drop_left (l₁ := four b.length ++ four _)
  rw [h8, show p.length + 8 + b.length - (p.length + 8) = b.length from by omega, List.take_left]

/-- Noughts are no frame. -/
theorem behindAt_noughts (n : Nat) : behindAt (List.replicate n 0) 0 = none := by
  unfold behindAt
  split
  · rename_i h
    rw [if_neg]
    intro hc
    have hn : num (List.replicate n (0 : UInt8)) = 0 := by
      unfold num
      have e : ∀ k, (List.replicate n (0 : UInt8)).getD k 0 = 0 := by
        intro k; simp only [List.getD_eq_getElem?_getD, List.getElem?_replicate]; split <;> rfl
      rw [e, e, e, e]; rfl
    have hn4 : num ((List.replicate n (0 : UInt8)).drop 4) = 0 := by
      rw [List.drop_replicate]
      unfold num
      have e : ∀ k, (List.replicate (n - 4) (0 : UInt8)).getD k 0 = 0 := by
        intro k; simp only [List.getD_eq_getElem?_getD, List.getElem?_replicate]; split <;> rfl
      rw [e, e, e, e]; rfl
    rw [List.drop_zero, Nat.zero_add, hn, hn4, List.take_zero, List.take_replicate, show min 4 n = 4 from by rw [List.length_replicate] at h; omega] at hc
    exact absurd hc.2.2 (by decide)
  · rfl

/-- What is cut is no frame. -/
theorem behindAt_cut (b : List UInt8) (k : Nat) (hb : b.length ≤ 65536) (hk : k < b.length + 8) : behindAt ((frame b).take k) 0 = none := by
  have hl : ((frame b).take k).length = k := by rw [List.length_take, frame_len]; omega
  unfold behindAt
  rw [hl]
  split
  · rename_i h
    rw [if_neg]
    intro hc
    have hn : num (((frame b).take k).drop 0) = b.length := by
      rw [List.drop_zero]
      have : (frame b).take k = four b.length ++ (four (more (crc (four b.length)) b) ++ b).take (k - 4) := by
        unfold frame
        rw [List.append_assoc, List.take_append, four_len, List.take_of_length_le (by rw [four_len]; omega)]
      rw [this]
      exact num_four _ _ (by omega)
    rw [hn] at hc
    omega
  · rfl

/-- A frame in which one byte behind its length is another one is no frame, whatever stands behind. -/
theorem behindAt_spoilt (b r : List UInt8) (k : Nat) (y : UInt8) (hb : b.length ≤ 65536) (hk4 : 4 ≤ k) (hk : k < b.length + 8) (hy : (frame b)[k]? ≠ some y) :
    behindAt ((frame b).set k y ++ r) 0 = none := by
  have hl : ((frame b).set k y ++ r).length = b.length + 8 + r.length := by rw [List.length_append, List.length_set, frame_len]
  have h1 : (frame b).set k y = four b.length ++ (four (more (crc (four b.length)) b) ++ b).set (k - 4) y := by
    unfold frame
    rw [List.append_assoc, List.set_append_right _ _ (by rw [four_len]; exact hk4), four_len]
  have hn : num ((frame b).set k y ++ r) = b.length := by
    rw [h1, List.append_assoc]; exact num_four _ _ (by omega)
  have ht : ((frame b).set k y ++ r).take 4 = four b.length := by
    rw [h1, List.append_assoc]; exact List.take_left (l₁ := four b.length)
  have d4 : ((frame b).set k y ++ r).drop 4 = (four (more (crc (four b.length)) b) ++ b).set (k - 4) y ++ r := by
    rw [h1, List.append_assoc]; exact List.drop_left (l₁ := four b.length)
  unfold behindAt
  rw [hl]
  split
  · rw [if_neg]
    intro hc
    obtain ⟨-, -, hc⟩ := hc
    rw [List.drop_zero, Nat.zero_add, Nat.zero_add, hn, ht, show (8 : Nat) = 4 + 4 from rfl, ← List.drop_drop, d4] at hc
    by_cases h8 : k < 8
    · have e1 : (four (more (crc (four b.length)) b) ++ b).set (k - 4) y = (four (more (crc (four b.length)) b)).set (k - 4) y ++ b := by
        rw [List.set_append_left _ _ (by rw [four_len]; omega)]
      have hl4 : ((four (more (crc (four b.length)) b)).set (k - 4) y).length = 4 := by rw [List.length_set, four_len]
      have e2 : ((four (more (crc (four b.length)) b)).set (k - 4) y ++ b ++ r).drop 4 = b ++ r := by
        rw [List.append_assoc]
        have := List.drop_left (l₁ := (four (more (crc (four b.length)) b)).set (k - 4) y) (l₂ := b ++ r)
        rwa [hl4] at this
      rw [e1, e2, List.take_left, List.append_assoc] at hc
      have hne : (four (more (crc (four b.length)) b))[k - 4]? ≠ some y := by
        intro h
        apply hy
        unfold frame
        rw [List.append_assoc, List.getElem?_append_right (by rw [four_len]; exact hk4), four_len, List.getElem?_append_left (by rw [four_len]; omega)]
        exact h
      generalize more (crc (four b.length)) b = c at hc hne
      generalize b ++ r = q at hc
      have hy' := y.toNat_lt
      have hm : ∀ z w : UInt8, z ≠ w → z.toNat ≠ w.toNat := fun z w h e => h (UInt8.toNat_inj.1 e)
      have g0 := (UInt8.ofNat c).toNat_lt
      have g1 := (UInt8.ofNat (c / 256)).toNat_lt
      have g2 := (UInt8.ofNat (c / 65536)).toNat_lt
      have g3 := (UInt8.ofNat (c / 16777216)).toNat_lt
      have hcn : c = num (four c ++ q) ∨ True := Or.inr trivial
      have hcc : c < 4294967296 → c = (UInt8.ofNat c).toNat + (UInt8.ofNat (c / 256)).toNat * 256 + (UInt8.ofNat (c / 65536)).toNat * 65536 + (UInt8.ofNat (c / 16777216)).toNat * 16777216 := by
        intro h; simp only [UInt8.toNat_ofNat']; omega
      have hlt : c < 4294967296 := by rw [hc]; exact num_lt _
      have hcc := hcc hlt
      clear hcn
      obtain h | h | h | h : k = 4 ∨ k = 5 ∨ k = 6 ∨ k = 7 := by omega
      all_goals
        subst h
        simp [four, num] at hc hne
        have hne := hm _ _ hne
        omega
    · have e1 : (four (more (crc (four b.length)) b) ++ b).set (k - 4) y = four (more (crc (four b.length)) b) ++ b.set (k - 8) y := by
        rw [List.set_append_right _ _ (by rw [four_len]; omega), four_len, show k - 4 - 4 = k - 8 from by omega]
      have e2 : (four (more (crc (four b.length)) b) ++ b.set (k - 8) y ++ r).drop 4 = b.set (k - 8) y ++ r := by
        rw [List.append_assoc]; exact List.drop_left (l₁ := four (more (crc (four b.length)) b))
      have hlb : (b.set (k - 8) y ++ r).take b.length = b.set (k - 8) y := by
        have := List.take_left (l₁ := b.set (k - 8) y) (l₂ := r)
        rwa [List.length_set] at this
      rw [e1, e2, hlb, List.append_assoc, num_four _ _ (more_lt _ _)] at hc
      have hlt : k - 8 < b.length := by omega
      have hne : b[k - 8] ≠ y := by
        intro h
        apply hy
        unfold frame
        rw [List.getElem?_append_right (by rw [List.length_append, four_len, four_len]; omega), List.length_append, four_len, four_len, show k - (4 + 4) = k - 8 from rfl, List.getElem?_eq_getElem hlt, h]
      have hs : b.set (k - 8) y = b.take (k - 8) ++ y :: b.drop (k - 8 + 1) := List.set_eq_take_append_cons_drop .. |>.trans (by rw [if_pos hlt])
      have hbb : b = b.take (k - 8) ++ b[k - 8] :: b.drop (k - 8 + 1) := by
        rw [← List.drop_eq_getElem_cons hlt, List.take_append_drop]
      rw [hs] at hc
      have := more_one (c := crc (four b.length)) (b.take (k - 8)) (b.drop (k - 8 + 1)) _ _ hne
      rw [← hbb] at this
      exact this hc.symm
  · rfl

end Go.Proofs.Ytgmaccfhgeocdaa.Sm
