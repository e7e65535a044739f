/-
  The parts of SumMath, SumWalkA, SumLong that a seat without their package has. Conditions: those in the theorems.
-/
import Derived.Laws.BitsAllLaws
import Derived.Test.YtamkkdmbefekmaaGreatDoorRows
import Derived.WalkKit
import Derived.WalkSpells
import Derived.WalkLawsBesides
import Derived.Handy
import Derived.Lib.Hide
import Derived.Deep.QuietTactic
import Derived.BigQuiet
import Derived.Lib.SlBytesRow
set_option linter.unusedSimpArgs false
set_option linter.unusedVariables false
namespace Go.Proofs.YtamkkdmbefekmaaGreatDoor.Sm
def P : Nat := 2197175160

/-- One step by one bit. -/
def bit (c : Nat) : Nat := if c % 2 = 1 then (c / 2) ^^^ P else c / 2
def tab (r : Nat) : Nat := bit (bit (bit (bit r)))
def half (c : Nat) : Nat := (c / 16) ^^^ tab (c % 16)
def upd (c b : Nat) : Nat := half (half (c ^^^ b))
def crcs (c : Nat) (l : List UInt8) : Nat := l.foldl (fun c x => upd c x.toNat) c
def more (c : Nat) (l : List UInt8) : Nat := 4294967295 - crcs (4294967295 - c) l
def crc (l : List UInt8) : Nat := more 0 l

theorem bit_eq (c : Nat) : bit c = (c >>> 1) ^^^ (if c % 2 = 1 then P else 0) := by
  unfold bit; rw [show c >>> 1 = c / 2 from Nat.shiftRight_eq_div_pow c 1]; split <;> simp

theorem bit_xor (a b : Nat) : bit (a ^^^ b) = bit a ^^^ bit b := by
  have hm : ((a ^^^ b) % 2 = 1) ↔ ¬ (a % 2 = 1 ↔ b % 2 = 1) := by
    have := Nat.xor_mod_two_eq_one (a := a) (b := b)
    exact this
  rw [bit_eq, bit_eq, bit_eq, Nat.shiftRight_xor_distrib]
  by_cases ha : a % 2 = 1 <;> by_cases hb : b % 2 = 1
  · rw [if_neg (by rw [hm]; simp [ha, hb]), if_pos ha, if_pos hb]
    rw [Nat.xor_zero]
    have : ∀ x y p : Nat, x ^^^ y = x ^^^ p ^^^ (y ^^^ p) := by
      intro x y p; rw [Nat.xor_assoc, ← Nat.xor_assoc p, Nat.xor_comm p y, Nat.xor_assoc y, Nat.xor_self, Nat.xor_zero]
    exact this _ _ _
  · rw [if_pos (by rw [hm]; simp [ha, hb]), if_pos ha, if_neg hb]
    rw [Nat.xor_zero, Nat.xor_assoc, Nat.xor_assoc, Nat.xor_comm (b >>> 1)]
  · rw [if_pos (by rw [hm]; simp [ha, hb]), if_neg ha, if_pos hb]
    rw [Nat.xor_zero, Nat.xor_assoc]
  · rw [if_neg (by rw [hm]; simp [ha, hb]), if_neg ha, if_neg hb]
    simp

theorem bit_double (x : Nat) : bit (2 * x) = x := by
  unfold bit; rw [if_neg (by omega)]; omega

theorem bit4_mul (x : Nat) : bit (bit (bit (bit (16 * x)))) = x := by
  have h : 16 * x = 2 * (2 * (2 * (2 * x))) := by omega
  rw [h, bit_double, bit_double, bit_double, bit_double]

theorem split16 (c : Nat) : (16 * (c / 16)) ^^^ (c % 16) = c := by
  apply Nat.eq_of_testBit_eq
  intro i
  rw [Nat.testBit_xor, show (16 : Nat) = 2 ^ 4 from rfl, Nat.testBit_two_pow_mul, Nat.testBit_mod_two_pow, Nat.testBit_div_two_pow]
  by_cases h : i < 4
  · have h1 : ¬ 4 ≤ i := by omega
    simp [h, h1]
  · have h1 : 4 ≤ i := by omega
    have h2 : i - 4 + 4 = i := by omega
    simp [h, h1, h2]

/-- Four steps by one bit are one by half a byte. -/
theorem bit4 (c : Nat) : bit (bit (bit (bit c))) = half c := by
  have h : bit (bit (bit (bit ((16 * (c / 16)) ^^^ (c % 16))))) = (c / 16) ^^^ tab (c % 16) := by
    rw [bit_xor, bit_xor, bit_xor, bit_xor, bit4_mul]; rfl
  rw [split16] at h; exact h

theorem tab_lt : ∀ r, r < 16 → tab r < 4294967296 := by decide
theorem tab_top : ∀ r, r < 16 → ∀ s, s < 16 → tab r / 268435456 = tab s / 268435456 → r = s := by decide

theorem xor_lt {a b : Nat} (ha : a < 4294967296) (hb : b < 4294967296) : a ^^^ b < 4294967296 :=
  Nat.xor_lt_two_pow (n := 32) ha hb

theorem half_lt {c : Nat} (h : c < 4294967296) : half c < 4294967296 :=
  xor_lt (by omega) (tab_lt _ (by omega))
theorem upd_lt {c b : Nat} (h : c < 4294967296) (hb : b < 256) : upd c b < 4294967296 :=
  half_lt (half_lt (xor_lt h (by omega)))
theorem crcs_lt (l : List UInt8) : ∀ {c : Nat}, c < 4294967296 → crcs c l < 4294967296 := by
  induction l with
  | nil => intro c h; exact h
  | cons x r ih => intro c h; exact ih (upd_lt h (by have := x.toNat_lt; omega))
theorem more_lt (c : Nat) (l : List UInt8) : more c l < 4294967296 := by unfold more; omega
theorem crcs_snoc (c : Nat) (l : List UInt8) (x : UInt8) : crcs c (l ++ [x]) = upd (crcs c l) x.toNat := by
  unfold crcs; rw [List.foldl_append, List.foldl_cons, List.foldl_nil]
theorem crcs_append (c : Nat) (l r : List UInt8) : crcs c (l ++ r) = crcs (crcs c l) r := by
  unfold crcs; rw [List.foldl_append]

theorem more_nil {c : Nat} (h : c < 4294967296) : more c [] = c := by
  show 4294967295 - (4294967295 - c) = c; omega
theorem more_append {c : Nat} (l r : List UInt8) : more (more c l) r = more c (l ++ r) := by
  have h := crcs_lt l (c := 4294967295 - c) (by omega)
  unfold more; rw [crcs_append, show 4294967295 - (4294967295 - crcs (4294967295 - c) l) = crcs (4294967295 - c) l from by omega]
theorem more_crc (l r : List UInt8) : more (crc l) r = crc (l ++ r) := more_append l r

/-- Half a byte's step tells words apart. -/
theorem half_inj {a b : Nat} (ha : a < 4294967296) (hb : b < 4294967296) (h : half a = half b) : a = b := by
  unfold half at h
  have top : ∀ x r, x < 268435456 → (x ^^^ r) / 268435456 = r / 268435456 := by
    intro x r hx
    have e : ∀ n : Nat, n / 268435456 = n >>> 28 := fun n => by rw [Nat.shiftRight_eq_div_pow]
    rw [e, e, Nat.shiftRight_xor_distrib, ← e x, Nat.div_eq_of_lt hx, Nat.zero_xor]
  have h1 : tab (a % 16) / 268435456 = tab (b % 16) / 268435456 := by
    have t1 := top (a / 16) (tab (a % 16)) (by omega)
    have t2 := top (b / 16) (tab (b % 16)) (by omega)
    rw [← t1, ← t2, h]
  have h2 := tab_top _ (Nat.mod_lt _ (by omega)) _ (Nat.mod_lt _ (by omega)) h1
  rw [h2] at h
  have h3 : a / 16 = b / 16 := by
    have := congrArg (· ^^^ tab (b % 16)) h
    simpa [Nat.xor_assoc] using this
  omega
theorem xor_cancel {c a b : Nat} (h : c ^^^ a = c ^^^ b) : a = b := by
  have := congrArg (c ^^^ ·) h
  simpa [← Nat.xor_assoc] using this
theorem xor_cancel' {c d a : Nat} (h : c ^^^ a = d ^^^ a) : c = d := by
  rw [Nat.xor_comm c, Nat.xor_comm d] at h; exact xor_cancel h
theorem upd_inj {a b x y : Nat} (ha : a < 4294967296) (hb : b < 4294967296) (hx : x < 256) (hy : y < 256) (h : upd a x = upd b y) : a ^^^ x = b ^^^ y := by
  have ha' : a ^^^ x < 4294967296 := xor_lt ha (by omega)
  have hb' : b ^^^ y < 4294967296 := xor_lt hb (by omega)
  exact half_inj ha' hb' (half_inj (half_lt ha') (half_lt hb') h)
theorem crcs_inj (l : List UInt8) : ∀ {a b : Nat}, a < 4294967296 → b < 4294967296 → crcs a l = crcs b l → a = b := by
  induction l with
  | nil => intro a b _ _ h; exact h
  | cons x r ih =>
    intro a b ha hb h
    have hx : x.toNat < 256 := x.toNat_lt
    exact xor_cancel' (upd_inj ha hb hx hx (ih (upd_lt ha hx) (upd_lt hb hx) h))

/-- Texts that differ in one byte alone differ in their sums. -/
theorem crcs_one {c : Nat} (hc : c < 4294967296) (l r : List UInt8) (x y : UInt8) (hne : x ≠ y) : crcs c (l ++ x :: r) ≠ crcs c (l ++ y :: r) := by
  intro h
  rw [crcs_append, crcs_append] at h
  have hl := crcs_lt l hc
  have hx : x.toNat < 256 := x.toNat_lt
  have hy : y.toNat < 256 := y.toNat_lt
  have h1 : upd (crcs c l) x.toNat = upd (crcs c l) y.toNat := crcs_inj r (upd_lt hl hx) (upd_lt hl hy) h
  exact hne (UInt8.toNat_inj.1 (xor_cancel (upd_inj hl hl hx hy h1)))
theorem more_one {c : Nat} (l r : List UInt8) (x y : UInt8) (hne : x ≠ y) : more c (l ++ x :: r) ≠ more c (l ++ y :: r) := by
  have h := crcs_one (c := 4294967295 - c) (by omega) l r x y hne
  have h1 := crcs_lt (l ++ x :: r) (c := 4294967295 - c) (by omega)
  have h2 := crcs_lt (l ++ y :: r) (c := 4294967295 - c) (by omega)
  unfold more; omega

/-- The print. -/
def fnvs (h : Nat) (l : List UInt8) : Nat := l.foldl (fun h x => (h ^^^ x.toNat) * 1099511628211 % 18446744073709551616) h
def fnv (l : List UInt8) : Nat := fnvs 14695981039346656037 l
theorem fnvs_snoc (c : Nat) (l : List UInt8) (x : UInt8) : fnvs c (l ++ [x]) = (fnvs c l ^^^ x.toNat) * 1099511628211 % 18446744073709551616 := by
  unfold fnvs; rw [List.foldl_append, List.foldl_cons, List.foldl_nil]
theorem fnvs_append (c : Nat) (l r : List UInt8) : fnvs c (l ++ r) = fnvs (fnvs c l) r := by
  unfold fnvs; rw [List.foldl_append]
theorem fnvs_lt (l : List UInt8) : ∀ {c : Nat}, c < 18446744073709551616 → fnvs c l < 18446744073709551616 := by
  induction l with
  | nil => intro c h; exact h
  | cons x r ih => intro c h; exact ih (Nat.mod_lt _ (by omega))
theorem mul_inj {a b : Nat} (ha : a < 18446744073709551616) (hb : b < 18446744073709551616) (h : a * 1099511628211 % 18446744073709551616 = b * 1099511628211 % 18446744073709551616) : a = b := by
  have e : ∀ x : Nat, x < 18446744073709551616 → x * 1099511628211 % 18446744073709551616 * 14886173955864302971 % 18446744073709551616 = x := by
    intro x hx
    rw [Nat.mod_mul_mod, Nat.mul_assoc, ← Nat.mul_mod_mod, show (1099511628211 * 14886173955864302971) % 18446744073709551616 = 1 from by decide, Nat.mul_one]
    exact Nat.mod_eq_of_lt hx
  rw [← e a ha, ← e b hb, h]
theorem fnv_xor_lt {a b : Nat} (ha : a < 18446744073709551616) (hb : b < 256) : a ^^^ b < 18446744073709551616 :=
  Nat.xor_lt_two_pow (n := 64) ha (by omega)
theorem fnvs_inj (l : List UInt8) : ∀ {a b : Nat}, a < 18446744073709551616 → b < 18446744073709551616 → fnvs a l = fnvs b l → a = b := by
  induction l with
  | nil => intro a b _ _ h; exact h
  | cons x r ih =>
    intro a b ha hb h
    have hx : x.toNat < 256 := x.toNat_lt
    exact xor_cancel' (mul_inj (fnv_xor_lt ha hx) (fnv_xor_lt hb hx) (ih (Nat.mod_lt _ (by omega)) (Nat.mod_lt _ (by omega)) h))
theorem fnv_one (l r : List UInt8) (x y : UInt8) (hne : x ≠ y) : fnv (l ++ x :: r) ≠ fnv (l ++ y :: r) := by
  intro h
  unfold fnv at h
  rw [fnvs_append, fnvs_append] at h
  have hl := fnvs_lt l (c := 14695981039346656037) (by omega)
  have hx : x.toNat < 256 := x.toNat_lt
  have hy : y.toNat < 256 := y.toNat_lt
  have h1 := fnvs_inj r (Nat.mod_lt _ (by omega)) (Nat.mod_lt _ (by omega)) h
  exact hne (UInt8.toNat_inj.1 (xor_cancel (mul_inj (fnv_xor_lt hl hx) (fnv_xor_lt hl hy) h1)))

end Go.Proofs.YtamkkdmbefekmaaGreatDoor.Sm
namespace Go.Proofs.YtamkkdmbefekmaaGreatDoor.Sm
/-- The number of four bytes that a text begins with. -/
def num (l : List UInt8) : Nat := (l.getD 0 0).toNat + (l.getD 1 0).toNat * 256 + (l.getD 2 0).toNat * 65536 + (l.getD 3 0).toNat * 16777216
/-- A number of four bytes. -/
def four (n : Nat) : List UInt8 := [UInt8.ofNat n, UInt8.ofNat (n / 256), UInt8.ofNat (n / 65536), UInt8.ofNat (n / 16777216)]
def frame (b : List UInt8) : List UInt8 := four b.length ++ four (more (crc (four b.length)) b) ++ b

theorem num_lt (l : List UInt8) : num l < 4294967296 := by
  unfold num
  have h0 := (l.getD 0 0).toNat_lt
  have h1 := (l.getD 1 0).toNat_lt
  have h2 := (l.getD 2 0).toNat_lt
  have h3 := (l.getD 3 0).toNat_lt
  omega
theorem four_len (n : Nat) : (four n).length = 4 := rfl
theorem num_four (n : Nat) (r : List UInt8) (hn : n < 4294967296) : num (four n ++ r) = n := by
  have e : ∀ k, k < 4 → (four n ++ r).getD k 0 = (four n).getD k 0 := by
    intro k hk
    simp only [List.getD_eq_getElem?_getD]
    rw [List.getElem?_append_left (by rw [four_len]; exact hk)]
  unfold num
  rw [e 0 (by omega), e 1 (by omega), e 2 (by omega), e 3 (by omega)]
  simp only [four, List.getD_cons_zero, List.getD_cons_succ, UInt8.toNat_ofNat']
  omega
theorem frame_len (b : List UInt8) : (frame b).length = b.length + 8 := by
  simp [frame, four_len]; omega

/-- The place behind the frame that stands at a place, if one does. -/
def behindAt (l : List UInt8) (a : Nat) : Option Nat :=
  if a + 8 ≤ l.length then
    if num (l.drop a) ≤ 65536 ∧ a + 8 + num (l.drop a) ≤ l.length ∧ more (crc ((l.drop a).take 4)) ((l.drop (a + 8)).take (num (l.drop a))) = num (l.drop (a + 4)) then
      some (a + 8 + num (l.drop a))
    else none
  else none
def behind (l : List UInt8) (at_ : Int) : Option Nat := if at_ < 0 then none else behindAt l at_.toNat

/-- The frame's body. -/
def bodyAt (l : List UInt8) (a e : Nat) : List UInt8 := (l.drop (a + 8)).take (e - (a + 8))

theorem behindAt_le {l : List UInt8} {a e : Nat} (h : behindAt l a = some e) : a + 8 ≤ e ∧ e ≤ l.length ∧ e ≤ a + 8 + 65536 := by
  unfold behindAt at h
  split at h
  · split at h
    · rename_i h1 h2; obtain rfl := Option.some.inj h; omega
    · exact absurd h (by simp)
  · exact absurd h (by simp)

theorem behind_le {l : List UInt8} {at_ : Int} {e : Nat} (h : behind l at_ = some e) : 0 ≤ at_ ∧ at_ + 8 ≤ e ∧ e ≤ l.length := by
  unfold behind at h
  split at h
  · exact absurd h (by simp)
  · have := behindAt_le h; omega

/-- A frame stands where a frame of a body of at most 65536 bytes stands. -/
theorem behindAt_frame (p b r : List UInt8) (hb : b.length ≤ 65536) : behindAt (p ++ (frame b ++ r)) p.length = some (p.length + 8 + b.length) := by
  have d0 : (p ++ (frame b ++ r)).drop p.length = frame b ++ r := List.drop_left
  have hn : num (frame b ++ r) = b.length := by
    show num ((four b.length ++ four _ ++ b) ++ r) = _
    rw [List.append_assoc, List.append_assoc]
    exact num_four _ _ (by omega)
  have d4 : (p ++ (frame b ++ r)).drop (p.length + 4) = four (more (crc (four b.length)) b) ++ (b ++ r) := by
    rw [← List.drop_drop, d0]
    show ((four b.length ++ four _ ++ b) ++ r).drop 4 = _
    rw [List.append_assoc, List.append_assoc]
    exact List.drop_left (l₁ := four b.length)
  have d8 : (p ++ (frame b ++ r)).drop (p.length + 8) = b ++ r := by
    rw [show p.length + 8 = p.length + 4 + 4 from rfl, ← List.drop_drop, d4]
    exact List.drop_left (l₁ := four _)
  have hl : (p ++ (frame b ++ r)).length = p.length + (b.length + 8 + r.length) := by
    rw [List.length_append, List.length_append, frame_len]
  unfold behindAt
  rw [d0, d4, d8, hn, hl, if_pos (by omega), if_pos]
  refine ⟨hb, by omega, ?_⟩
  have t4 : (frame b ++ r).take 4 = four b.length := by
    show ((four b.length ++ four _ ++ b) ++ r).take 4 = _
    rw [List.append_assoc, List.append_assoc]
    exact List.take_left (l₁ := four b.length)
  rw [t4, List.take_left, num_four _ _ (more_lt _ _)]

theorem bodyAt_frame (p b r : List UInt8) : bodyAt (p ++ (frame b ++ r)) p.length (p.length + 8 + b.length) = b := by
  unfold bodyAt
  have h8 : (p ++ (frame b ++ r)).drop (p.length + 8) = b ++ r := by
    rw [← List.drop_drop, List.drop_left]
    show ((four b.length ++ four _ ++ b) ++ r).drop 8 = _
    rw [List.append_assoc]
    exact List.drop_left (l₁ := four b.length ++ four _)
  rw [h8, show p.length + 8 + b.length - (p.length + 8) = b.length from by omega, List.take_left]

/-- Noughts are no frame. -/
theorem behindAt_noughts (n : Nat) : behindAt (List.replicate n 0) 0 = none := by
  unfold behindAt
  split
  · rename_i h
    rw [if_neg]
    intro hc
    have hn : num (List.replicate n (0 : UInt8)) = 0 := by
      unfold num
      have e : ∀ k, (List.replicate n (0 : UInt8)).getD k 0 = 0 := by
        intro k; simp only [List.getD_eq_getElem?_getD, List.getElem?_replicate]; split <;> rfl
      rw [e, e, e, e]; rfl
    have hn4 : num ((List.replicate n (0 : UInt8)).drop 4) = 0 := by
      rw [List.drop_replicate]
      unfold num
      have e : ∀ k, (List.replicate (n - 4) (0 : UInt8)).getD k 0 = 0 := by
        intro k; simp only [List.getD_eq_getElem?_getD, List.getElem?_replicate]; split <;> rfl
      rw [e, e, e, e]; rfl
    rw [List.drop_zero, Nat.zero_add, hn, hn4, List.take_zero, List.take_replicate, show min 4 n = 4 from by rw [List.length_replicate] at h; omega] at hc
    exact absurd hc.2.2 (by decide)
  · rfl

/-- What is cut is no frame. -/
theorem behindAt_cut (b : List UInt8) (k : Nat) (hb : b.length ≤ 65536) (hk : k < b.length + 8) : behindAt ((frame b).take k) 0 = none := by
  have hl : ((frame b).take k).length = k := by rw [List.length_take, frame_len]; omega
  unfold behindAt
  rw [hl]
  split
  · rename_i h
    rw [if_neg]
    intro hc
    have hn : num (((frame b).take k).drop 0) = b.length := by
      rw [List.drop_zero]
      have : (frame b).take k = four b.length ++ (four (more (crc (four b.length)) b) ++ b).take (k - 4) := by
        unfold frame
        rw [List.append_assoc, List.take_append, four_len, List.take_of_length_le (by rw [four_len]; omega)]
      rw [this]
      exact num_four _ _ (by omega)
    rw [hn] at hc
    omega
  · rfl

/-- A frame in which one byte behind its length is another one is no frame, whatever stands behind. -/
theorem behindAt_spoilt (b r : List UInt8) (k : Nat) (y : UInt8) (hb : b.length ≤ 65536) (hk4 : 4 ≤ k) (hk : k < b.length + 8) (hy : (frame b)[k]? ≠ some y) :
    behindAt ((frame b).set k y ++ r) 0 = none := by
  have hl : ((frame b).set k y ++ r).length = b.length + 8 + r.length := by rw [List.length_append, List.length_set, frame_len]
  have h1 : (frame b).set k y = four b.length ++ (four (more (crc (four b.length)) b) ++ b).set (k - 4) y := by
    unfold frame
    rw [List.append_assoc, List.set_append_right _ _ (by rw [four_len]; exact hk4), four_len]
  have hn : num ((frame b).set k y ++ r) = b.length := by
    rw [h1, List.append_assoc]; exact num_four _ _ (by omega)
  have ht : ((frame b).set k y ++ r).take 4 = four b.length := by
    rw [h1, List.append_assoc]; exact List.take_left (l₁ := four b.length)
  have d4 : ((frame b).set k y ++ r).drop 4 = (four (more (crc (four b.length)) b) ++ b).set (k - 4) y ++ r := by
    rw [h1, List.append_assoc]; exact List.drop_left (l₁ := four b.length)
  unfold behindAt
  rw [hl]
  split
  · rw [if_neg]
    intro hc
    obtain ⟨-, -, hc⟩ := hc
    rw [List.drop_zero, Nat.zero_add, Nat.zero_add, hn, ht, show (8 : Nat) = 4 + 4 from rfl, ← List.drop_drop, d4] at hc
    by_cases h8 : k < 8
    · have e1 : (four (more (crc (four b.length)) b) ++ b).set (k - 4) y = (four (more (crc (four b.length)) b)).set (k - 4) y ++ b := by
        rw [List.set_append_left _ _ (by rw [four_len]; omega)]
      have hl4 : ((four (more (crc (four b.length)) b)).set (k - 4) y).length = 4 := by rw [List.length_set, four_len]
      have e2 : ((four (more (crc (four b.length)) b)).set (k - 4) y ++ b ++ r).drop 4 = b ++ r := by
        rw [List.append_assoc]
        have := List.drop_left (l₁ := (four (more (crc (four b.length)) b)).set (k - 4) y) (l₂ := b ++ r)
        rwa [hl4] at this
      rw [e1, e2, List.take_left, List.append_assoc] at hc
      have hne : (four (more (crc (four b.length)) b))[k - 4]? ≠ some y := by
        intro h
        apply hy
        unfold frame
        rw [List.append_assoc, List.getElem?_append_right (by rw [four_len]; exact hk4), four_len, List.getElem?_append_left (by rw [four_len]; omega)]
        exact h
      generalize more (crc (four b.length)) b = c at hc hne
      generalize b ++ r = q at hc
      have hy' := y.toNat_lt
      have hm : ∀ z w : UInt8, z ≠ w → z.toNat ≠ w.toNat := fun z w h e => h (UInt8.toNat_inj.1 e)
      have g0 := (UInt8.ofNat c).toNat_lt
      have g1 := (UInt8.ofNat (c / 256)).toNat_lt
      have g2 := (UInt8.ofNat (c / 65536)).toNat_lt
      have g3 := (UInt8.ofNat (c / 16777216)).toNat_lt
      have hcn : c = num (four c ++ q) ∨ True := Or.inr trivial
      have hcc : c < 4294967296 → c = (UInt8.ofNat c).toNat + (UInt8.ofNat (c / 256)).toNat * 256 + (UInt8.ofNat (c / 65536)).toNat * 65536 + (UInt8.ofNat (c / 16777216)).toNat * 16777216 := by
        intro h; simp only [UInt8.toNat_ofNat']; omega
      have hlt : c < 4294967296 := by rw [hc]; exact num_lt _
      have hcc := hcc hlt
      clear hcn
      obtain h | h | h | h : k = 4 ∨ k = 5 ∨ k = 6 ∨ k = 7 := by omega
      all_goals
        subst h
        simp [four, num] at hc hne
        have hne := hm _ _ hne
        omega
    · have e1 : (four (more (crc (four b.length)) b) ++ b).set (k - 4) y = four (more (crc (four b.length)) b) ++ b.set (k - 8) y := by
        rw [List.set_append_right _ _ (by rw [four_len]; omega), four_len, show k - 4 - 4 = k - 8 from by omega]
      have e2 : (four (more (crc (four b.length)) b) ++ b.set (k - 8) y ++ r).drop 4 = b.set (k - 8) y ++ r := by
        rw [List.append_assoc]; exact List.drop_left (l₁ := four (more (crc (four b.length)) b))
      have hlb : (b.set (k - 8) y ++ r).take b.length = b.set (k - 8) y := by
        have := List.take_left (l₁ := b.set (k - 8) y) (l₂ := r)
        rwa [List.length_set] at this
      rw [e1, e2, hlb, List.append_assoc, num_four _ _ (more_lt _ _)] at hc
      have hlt : k - 8 < b.length := by omega
      have hne : b[k - 8] ≠ y := by
        intro h
        apply hy
        unfold frame
        rw [List.getElem?_append_right (by rw [List.length_append, four_len, four_len]; omega), List.length_append, four_len, four_len, show k - (4 + 4) = k - 8 from rfl, List.getElem?_eq_getElem hlt, h]
      have hs : b.set (k - 8) y = b.take (k - 8) ++ y :: b.drop (k - 8 + 1) := List.set_eq_take_append_cons_drop .. |>.trans (by rw [if_pos hlt])
      have hbb : b = b.take (k - 8) ++ b[k - 8] :: b.drop (k - 8 + 1) := by
        rw [← List.drop_eq_getElem_cons hlt, List.take_append_drop]
      rw [hs] at hc
      have := more_one (c := crc (four b.length)) (b.take (k - 8)) (b.drop (k - 8 + 1)) _ _ hne
      rw [← hbb] at this
      exact this hc.symm
  · rfl

end Go.Proofs.YtamkkdmbefekmaaGreatDoor.Sm
namespace Go.Proofs.YtamkkdmbefekmaaGreatDoor.Sm
/-- The places behind the frames that stand one behind the other from a place on. -/
inductive Chain (l : List UInt8) : Nat → List Nat → Prop
  | stop {a : Nat} (h : behindAt l a = none) : Chain l a []
  | go {a e : Nat} {es : List Nat} (h : behindAt l a = some e) (r : Chain l e es) : Chain l a (e :: es)

theorem chain_ex (l : List UInt8) : ∀ (n a : Nat), l.length - a ≤ n → ∃ es, Chain l a es
  | 0, a, h => by
    refine ⟨[], .stop ?_⟩
    unfold behindAt
    rw [if_neg (by omega)]
  | n + 1, a, h => by
    cases hb : behindAt l a with
    | none => exact ⟨[], .stop hb⟩
    | some e =>
      have := behindAt_le hb
      obtain ⟨es, hes⟩ := chain_ex l n e (by omega)
      exact ⟨e :: es, .go hb hes⟩

/-- Where the next frame would have to stand, i of them over. -/
def at_ (a : Nat) (es : List Nat) (i : Nat) : Nat := (a :: es).getD i 0
theorem at_zero (a : Nat) (es : List Nat) : at_ a es 0 = a := rfl
theorem at_succ (a : Nat) (es : List Nat) (i : Nat) (hi : i < es.length) : at_ a es (i + 1) = es[i] := by
  unfold at_
  rw [List.getD_cons_succ, List.getD_eq_getElem?_getD, List.getElem?_eq_getElem hi]; rfl

theorem Chain.step {l : List UInt8} {a : Nat} {es : List Nat} (h : Chain l a es) : ∀ i (hi : i < es.length), behindAt l (at_ a es i) = some es[i] := by
  induction h with
  | stop _ => intro i hi; simp at hi
  | @go a e es hb r ih =>
    intro i hi
    cases i with
    | zero => exact hb
    | succ i =>
      have hi' : i < es.length := by simpa using hi
      have h2 := ih i hi'
      have e1 : at_ a (e :: es) (i + 1) = at_ e es i := by unfold at_; rw [List.getD_cons_succ]
      rw [e1, h2]; rfl
theorem Chain.done {l : List UInt8} {a : Nat} {es : List Nat} (h : Chain l a es) : behindAt l (at_ a es es.length) = none := by
  induction h with
  | stop hb => exact hb
  | @go a e es hb r ih =>
    have e1 : at_ a (e :: es) ((e :: es).length) = at_ e es es.length := by unfold at_; rw [List.length_cons, List.getD_cons_succ]
    rw [e1]; exact ih
theorem Chain.unique {l : List UInt8} {a : Nat} {es fs : List Nat} (h : Chain l a es) : Chain l a fs → es = fs := by
  induction h generalizing fs with
  | stop hb => intro k; cases k with
    | stop _ => rfl
    | go h2 _ => rw [hb] at h2; cases h2
  | go hb r ih => intro k; cases k with
    | stop h2 => rw [hb] at h2; cases h2
    | go h2 r2 => rw [hb] at h2; cases h2; rw [ih r2]
theorem Chain.le {l : List UInt8} {a : Nat} {es : List Nat} (h : Chain l a es) (ha : a ≤ l.length) : ∀ i, i ≤ es.length → at_ a es i ≤ l.length := by
  intro i hi
  cases i with
  | zero => exact ha
  | succ i => rw [at_succ a es i (by omega)]; exact (behindAt_le (h.step i (by omega))).2.1

/-- The frames' bodies. -/
def bodiesOf (l : List UInt8) : Nat → List Nat → List ByteArray
  | _, [] => []
  | a, e :: es => ⟨(bodyAt l a e).toArray⟩ :: bodiesOf l e es
theorem bodiesOf_len (l : List UInt8) : ∀ (es : List Nat) (a : Nat), (bodiesOf l a es).length = es.length
  | [], _ => rfl
  | e :: es, a => by show (_ :: bodiesOf l e es).length = _; rw [List.length_cons, bodiesOf_len l es e, List.length_cons]
theorem bodiesOf_at (l : List UInt8) : ∀ (es : List Nat) (a i : Nat) (hi : i < es.length) (h : i < (bodiesOf l a es).length), (bodiesOf l a es)[i] = ⟨(bodyAt l (at_ a es i) es[i]).toArray⟩
  | e :: es, a, 0, _, _ => rfl
  | e :: es, a, i + 1, hi, h => by
    have hi' : i < es.length := by simpa using hi
    have h2 := bodiesOf_at l es e i hi' (by rw [bodiesOf_len]; exact hi')
    have e1 : at_ a (e :: es) (i + 1) = at_ e es i := by unfold at_; rw [List.getD_cons_succ]
    rw [e1]; exact h2
end Go.Proofs.YtamkkdmbefekmaaGreatDoor.Sm
namespace Go.Proofs.YtamkkdmbefekmaaGreatDoor.Sm
/-- Frames one behind the other. -/
def frames : List (List UInt8) → List UInt8
  | [] => []
  | b :: bs => frame b ++ frames bs
theorem frames_append (a b : List (List UInt8)) : frames (a ++ b) = frames a ++ frames b := by
  induction a with
  | nil => rfl
  | cons x r ih => show frame x ++ frames (r ++ b) = (frame x ++ frames r) ++ frames b; rw [ih, List.append_assoc]
theorem frames_snoc (a : List (List UInt8)) (x : List UInt8) : frames (a ++ [x]) = frames a ++ frame x := by
  rw [frames_append]; show frames a ++ (frame x ++ []) = _; rw [List.append_nil]
def endsAt : Nat → List (List UInt8) → List Nat
  | _, [] => []
  | a, b :: bs => (a + 8 + b.length) :: endsAt (a + 8 + b.length) bs
theorem endsAt_len : ∀ (bs : List (List UInt8)) (a : Nat), (endsAt a bs).length = bs.length
  | [], _ => rfl
  | b :: bs, a => by show (_ :: endsAt _ bs).length = _; rw [List.length_cons, endsAt_len bs, List.length_cons]

theorem chain_frames : ∀ (bs : List (List UInt8)) (p r : List UInt8) (fs : List Nat), (∀ b ∈ bs, b.length ≤ 65536) → Chain (p ++ (frames bs ++ r)) (p.length + (frames bs).length) fs → Chain (p ++ (frames bs ++ r)) p.length (endsAt p.length bs ++ fs)
  | [], p, r, fs, _, h => h
  | b :: bs, p, r, fs, hb, h => by
    have e : p ++ (frames (b :: bs) ++ r) = (p ++ frame b) ++ (frames bs ++ r) := by
      show p ++ ((frame b ++ frames bs) ++ r) = _
      simp only [List.append_assoc]
    have hl : (p ++ frame b).length = p.length + 8 + b.length := by rw [List.length_append, frame_len]; omega
    have hlen : p.length + (frames (b :: bs)).length = (p ++ frame b).length + (frames bs).length := by
      show p.length + (frame b ++ frames bs).length = _
      rw [List.length_append, List.length_append]; omega
    have hstep : behindAt (p ++ (frames (b :: bs) ++ r)) p.length = some (p.length + 8 + b.length) := by
      have h2 := behindAt_frame p b (frames bs ++ r) (hb b (by simp))
      show behindAt (p ++ ((frame b ++ frames bs) ++ r)) p.length = _
      rw [List.append_assoc]; exact h2
    rw [hlen, e] at h
    have ih := chain_frames bs (p ++ frame b) r fs (fun x hx => hb x (by simp [hx])) h
    rw [hl] at ih
    rw [← e] at ih
    exact .go hstep ih

theorem bodies_frames : ∀ (bs : List (List UInt8)) (p r : List UInt8) (fs : List Nat), bodiesOf (p ++ (frames bs ++ r)) p.length (endsAt p.length bs ++ fs) = bs.map (fun b => (⟨b.toArray⟩ : ByteArray)) ++ bodiesOf (p ++ (frames bs ++ r)) (p.length + (frames bs).length) fs
  | [], p, r, fs => rfl
  | b :: bs, p, r, fs => by
    have e : p ++ (frames (b :: bs) ++ r) = (p ++ frame b) ++ (frames bs ++ r) := by
      show p ++ ((frame b ++ frames bs) ++ r) = _
      simp only [List.append_assoc]
    have hl : (p ++ frame b).length = p.length + 8 + b.length := by rw [List.length_append, frame_len]; omega
    have hlen : p.length + (frames (b :: bs)).length = (p ++ frame b).length + (frames bs).length := by
      show p.length + (frame b ++ frames bs).length = _
      rw [List.length_append, List.length_append]; omega
    have ih := bodies_frames bs (p ++ frame b) r fs
    rw [hl, ← e] at ih
    have hb : bodyAt (p ++ (frames (b :: bs) ++ r)) p.length (p.length + 8 + b.length) = b := by
      show bodyAt (p ++ ((frame b ++ frames bs) ++ r)) p.length (p.length + 8 + b.length) = b
      rw [List.append_assoc]; exact bodyAt_frame p b (frames bs ++ r)
    show (⟨(bodyAt (p ++ (frames (b :: bs) ++ r)) p.length (p.length + 8 + b.length)).toArray⟩ : ByteArray) :: bodiesOf (p ++ (frames (b :: bs) ++ r)) (p.length + 8 + b.length) (endsAt (p.length + 8 + b.length) bs ++ fs) = _
    rw [hb, ih, hlen, hl]
    rfl

/-- How far it goes: the last place. -/
theorem at_append (es fs : List Nat) (a : Nat) : at_ a (es ++ fs) (es ++ fs).length = at_ (at_ a es es.length) fs fs.length := by
  induction es generalizing a with
  | nil => rfl
  | cons e es ih =>
    have e1 : ∀ (gs : List Nat), at_ a (e :: gs) (e :: gs).length = at_ e gs gs.length := fun gs => by unfold at_; rw [List.length_cons, List.getD_cons_succ]
    rw [List.cons_append, e1, e1]; exact ih e
theorem at_endsAt : ∀ (bs : List (List UInt8)) (a : Nat), at_ a (endsAt a bs) (endsAt a bs).length = a + (frames bs).length
  | [], a => rfl
  | b :: bs, a => by
    have e1 : ∀ (x : Nat) (gs : List Nat), at_ a (x :: gs) (x :: gs).length = at_ x gs gs.length := fun x gs => by unfold at_; rw [List.length_cons, List.getD_cons_succ]
    show at_ a ((a + 8 + b.length) :: endsAt (a + 8 + b.length) bs) ((a + 8 + b.length) :: endsAt (a + 8 + b.length) bs).length = a + (frame b ++ frames bs).length
    rw [e1, at_endsAt bs, List.length_append, frame_len]; omega

theorem behindAt_shift (p r : List UInt8) (a : Nat) : behindAt (p ++ r) (p.length + a) = (behindAt r a).map (p.length + ·) := by
  unfold behindAt
  have d : ∀ k, (p ++ r).drop (p.length + k) = r.drop k := fun k => by rw [← List.drop_drop, List.drop_left]
  rw [Nat.add_assoc p.length a 8, Nat.add_assoc p.length a 4, d a, d (a + 8), d (a + 4), List.length_append]
  by_cases h1 : a + 8 ≤ r.length
  · rw [if_pos (show p.length + (a + 8) ≤ p.length + r.length by omega), if_pos h1]
    by_cases h2 : num (r.drop a) ≤ 65536 ∧ a + 8 + num (r.drop a) ≤ r.length ∧ more (crc ((r.drop a).take 4)) ((r.drop (a + 8)).take (num (r.drop a))) = num (r.drop (a + 4))
    · rw [if_pos ⟨h2.1, by omega, h2.2.2⟩, if_pos h2]; simp; omega
    · rw [if_neg (fun x => h2 ⟨x.1, by omega, x.2.2⟩), if_neg h2]; rfl
  · rw [if_neg (by omega), if_neg h1]; rfl

theorem chain_shift (p : List UInt8) {r : List UInt8} {a : Nat} {fs : List Nat} (h : Chain r a fs) : Chain (p ++ r) (p.length + a) (fs.map (p.length + ·)) := by
  induction h with
  | stop hb => exact .stop (by rw [behindAt_shift, hb]; rfl)
  | go hb _ ih => exact .go (by rw [behindAt_shift, hb]; rfl) ih

/-- Frames, with whatever behind. -/
theorem chain_all (bs : List (List UInt8)) (r : List UInt8) (fs : List Nat) (hb : ∀ b ∈ bs, b.length ≤ 65536) (hr : Chain r 0 fs) : Chain (frames bs ++ r) 0 (endsAt 0 bs ++ fs.map ((frames bs).length + ·)) := by
  have h := chain_frames bs [] r (fs.map ((frames bs).length + ·)) hb (by rw [List.nil_append, List.length_nil, Nat.zero_add]; exact chain_shift (frames bs) hr)
  rw [List.nil_append, List.length_nil] at h
  exact h
theorem chain_whole (bs : List (List UInt8)) (r : List UInt8) (hb : ∀ b ∈ bs, b.length ≤ 65536) (hr : behindAt r 0 = none) : Chain (frames bs ++ r) 0 (endsAt 0 bs) := by
  have h := chain_all bs r [] hb (.stop hr)
  rw [List.map_nil, List.append_nil] at h
  exact h
theorem far_whole (bs : List (List UInt8)) : at_ 0 (endsAt 0 bs) (endsAt 0 bs).length = (frames bs).length := by
  rw [at_endsAt, Nat.zero_add]
theorem far_more (bs : List (List UInt8)) {r : List UInt8} {e : Nat} {fs : List Nat} (hr : Chain r 0 fs) (he : behindAt r 0 = some e) :
    (frames bs).length < at_ 0 (endsAt 0 bs ++ fs.map ((frames bs).length + ·)) (endsAt 0 bs ++ fs.map ((frames bs).length + ·)).length := by
  rw [at_append, far_whole]
  cases hr with
  | stop h => rw [he] at h; cases h
  | @go _ f fs h2 r2 =>
    have hpos : ∀ (gs : List Nat) (x : Nat), Chain r x gs → x ≤ at_ x gs gs.length := by
      intro gs x h
      induction h with
      | stop _ => exact Nat.le_refl _
      | @go a e es hb _ ih =>
        have := behindAt_le hb
        have e1 : at_ a (e :: es) (e :: es).length = at_ e es es.length := by unfold at_; rw [List.length_cons, List.getD_cons_succ]
        rw [e1]; omega
    have hm : ∀ (gs : List Nat) (c x : Nat), at_ (c + x) (gs.map (c + ·)) (gs.map (c + ·)).length = c + at_ x gs gs.length := by
      intro gs c
      induction gs with
      | nil => intro x; rfl
      | cons g gs ih =>
        intro x
        have e1 : ∀ (y z : Nat) (ks : List Nat), at_ y (z :: ks) (z :: ks).length = at_ z ks ks.length := fun y z ks => by unfold at_; rw [List.length_cons, List.getD_cons_succ]
        rw [List.map_cons, e1, e1]; exact ih g
    have h3 := behindAt_le h2
    have h4 := hpos _ _ r2
    have h5 := hm (f :: fs) (frames bs).length 0
    have e1 : at_ 0 (f :: fs) (f :: fs).length = at_ f fs fs.length := by unfold at_; rw [List.length_cons, List.getD_cons_succ]
    rw [Nat.add_zero] at h5
    rw [h5, e1]; omega
theorem bodies_whole (bs : List (List UInt8)) : bodiesOf (frames bs) 0 (endsAt 0 bs) = bs.map (fun b => (⟨b.toArray⟩ : ByteArray)) := by
  have h := bodies_frames bs [] [] []
  rw [List.nil_append, List.length_nil, List.append_nil, List.append_nil, Nat.zero_add] at h
  rw [h]; show _ ++ [] = _; rw [List.append_nil]
end Go.Proofs.YtamkkdmbefekmaaGreatDoor.Sm
namespace Go.Proofs.YtamkkdmbefekmaaGreatDoor
open Go.RowKit
theorem take_snoc (s : ByteArray) (k : Nat) (h : k < s.size) : s.data.toList.take (k + 1) = s.data.toList.take k ++ [s[k]] := by
  rw [List.take_succ_eq_append_getElem (by simpa using h)]; rfl
theorem btr {w w1 w2 : World} (h1 : Below w.heap.size w w1) (h2 : Below w1.heap.size w1 w2) : Below w.heap.size w w2 := h1.trans (h2.mono h1.size)
theorem ret_int {k : IntKind} {a b : Int} (h : a = b) : Ending.returned (.int k a) = .returned (.int k b) := by rw [h]
theorem int_eq {k : IntKind} {a b : Int} (h : a = b) : Value.int k a = .int k b := by rw [h]
theorem wrap_u64_byte (b : UInt8) : IntKind.u64.wrap (b.toNat : Int) = (b.toNat : Int) := by
  have := b.toNat_lt; rw [IntKind.wrap_u64]; omega
theorem wrap_u32_byte (b : UInt8) : IntKind.u32.wrap (b.toNat : Int) = (b.toNat : Int) := by
  have := b.toNat_lt; rw [IntKind.wrap_u32']; omega

/-- The table's first k places are laid. -/
def fourTab (k : Nat) : Array Value := ((List.range 16).map fun r => Value.int .u32 ((if r < k then Sm.tab r else 0 : Nat) : Int)).toArray
theorem fourTab_zero : fourTab 0 = #[.int .u32 0, .int .u32 0, .int .u32 0, .int .u32 0, .int .u32 0, .int .u32 0, .int .u32 0, .int .u32 0, .int .u32 0, .int .u32 0, .int .u32 0, .int .u32 0, .int .u32 0, .int .u32 0, .int .u32 0, .int .u32 0] := by rfl
theorem fourTab_full : fourTab 16 = #[.int .u32 0, .int .u32 274646895, .int .u32 549293790, .int .u32 820201905, .int .u32 1098587580, .int .u32 1361435347, .int .u32 1640403810, .int .u32 1905808397, .int .u32 2197175160, .int .u32 2460548119, .int .u32 2722870694, .int .u32 2987750089, .int .u32 3280807620, .int .u32 3553878443, .int .u32 3811616794, .int .u32 4084100981] := by kernel_rfl
theorem fourTab_size (k : Nat) : (fourTab k).size = 16 := by simp [fourTab]
theorem fourTab_at (k r : Nat) (hr : r < 16) : (fourTab k)[r]? = some (.int .u32 ((if r < k then Sm.tab r else 0 : Nat) : Int)) := by
  simp [fourTab, hr]
theorem fourTab_set (k : Nat) (_hk : k < 16) : (fourTab k).setIfInBounds k (.int .u32 (Sm.tab k : Nat)) = fourTab (k + 1) := by
  apply Array.ext
  · simp [fourTab]
  · intro i h1 h2
    have hi : i < 16 := by simpa [fourTab] using h2
    simp only [fourTab]
    by_cases e : k = i
    · subst e; simp
    · have e2 : (i < k + 1) ↔ i < k := by omega
      simp [e, e2]
/-- j steps by one bit. -/
def steps : Nat → Nat → Nat
  | 0, c => c
  | j + 1, c => Sm.bit (steps j c)
theorem steps_lt : ∀ (j c : Nat), c < 4294967296 → steps j c < 4294967296
  | 0, _, h => h
  | j + 1, c, h => by
    have := steps_lt j c h
    show Sm.bit _ < _
    unfold Sm.bit
    split
    · exact Sm.xor_lt (by omega) (by unfold Sm.P; omega)
    · omega
theorem steps_odd (j c : Nat) (hc : c < 4294967296) (h : steps j c % 2 = 1) : bits BinOp.xor .u32 ((steps j c : Nat) / 2 : Int) 2197175160 = ((steps (j + 1) c : Nat) : Int) := by
  have hl := steps_lt j c hc
  have e : ((steps j c : Nat) / 2 : Int) = ((steps j c / 2 : Nat) : Int) := by omega
  rw [e, show (2197175160 : Int) = ((2197175160 : Nat) : Int) from rfl, u32_xor_nat _ _ (by omega) (by omega)]
  show _ = ((Sm.bit (steps j c) : Nat) : Int)
  unfold Sm.bit Sm.P
  rw [if_pos h]
theorem steps_even (j c : Nat) (h : ¬ steps j c % 2 = 1) : ((steps j c : Nat) / 2 : Int) = ((steps (j + 1) c : Nat) : Int) := by
  show _ = ((Sm.bit (steps j c) : Nat) : Int)
  unfold Sm.bit
  rw [if_neg h]
  omega
theorem and_one (d : Nat) (hd : d < 4294967296) : bits BinOp.and .u32 (d : Int) 1 = ((d % 2 : Nat) : Int) := by
  rw [show (1 : Int) = ((1 : Nat) : Int) from rfl, u32_and_nat _ _ hd (by omega), nat_mask1]

theorem not_u32 (c : Nat) (hc : c < 4294967296) : bits BinOp.xor .u32 IntKind.u32.max (c : Int) = ((4294967295 - c : Nat) : Int) := by
  have e : (4294967295 : Nat) ^^^ c = 4294967295 - c := by
    have h := BitVec.toNat_not (x := BitVec.ofNat 32 c)
    have h2 : (BitVec.allOnes 32 ^^^ BitVec.ofNat 32 c) = ~~~ (BitVec.ofNat 32 c) := BitVec.allOnes_xor
    rw [← h2, BitVec.toNat_xor, BitVec.toNat_allOnes, BitVec.toNat_ofNat, Nat.mod_eq_of_lt (by omega)] at h
    simpa using h
  rw [show IntKind.u32.max = ((4294967295 : Nat) : Int) from rfl, u32_xor_nat _ _ (by omega) hc, e]

theorem half_walk (x : Nat) (hx : x < 4294967296) : ∃ r t y : Nat, bits BinOp.and .u32 (x : Int) 15 = (r : Int) ∧ r < 16 ∧ (∀ h : r < (fourTab 16).size, (fourTab 16)[r] = .int .u32 (t : Int)) ∧ bits BinOp.xor .u32 ((x : Int) / 16) (t : Int) = (y : Int) ∧ y = Sm.half x := by
  refine ⟨x % 16, Sm.tab (x % 16), Sm.half x, ?_, Nat.mod_lt _ (by omega), ?_, ?_, rfl⟩
  · rw [show (15 : Int) = ((15 : Nat) : Int) from rfl, u32_and_nat _ _ hx (by omega), nat_mask4]
  · intro h
    have h2 := fourTab_at 16 _ (Nat.mod_lt x (show 16 > 0 by omega))
    rw [if_pos (Nat.mod_lt _ (by omega)), Array.getElem?_eq_getElem h] at h2
    exact Option.some.inj h2
  · have e : ((x : Int) / 16) = ((x / 16 : Nat) : Int) := by omega
    rw [e, u32_xor_nat _ _ (by omega) (Sm.tab_lt _ (Nat.mod_lt _ (by omega)))]; rfl

theorem upd_walk (d : Nat) (b : UInt8) (hd : d < 4294967296) : ∃ x r t y r2 t2 z : Nat, bits BinOp.xor .u32 (d : Int) ((b.toNat : Int) % 4294967296) = (x : Int) ∧
    (bits BinOp.and .u32 (x : Int) 15 = (r : Int) ∧ r < 16 ∧ (∀ h : r < (fourTab 16).size, (fourTab 16)[r] = .int .u32 (t : Int)) ∧ bits BinOp.xor .u32 ((x : Int) / 16) (t : Int) = (y : Int)) ∧
    (bits BinOp.and .u32 (y : Int) 15 = (r2 : Int) ∧ r2 < 16 ∧ (∀ h : r2 < (fourTab 16).size, (fourTab 16)[r2] = .int .u32 (t2 : Int)) ∧ bits BinOp.xor .u32 ((y : Int) / 16) (t2 : Int) = (z : Int)) ∧ x < 4294967296 ∧ y < 4294967296 ∧ z = Sm.upd d b.toNat := by
  have hb := b.toNat_lt
  have hx : d ^^^ b.toNat < 4294967296 := Sm.xor_lt hd (by omega)
  obtain ⟨r, t, y, h1, h2, h3, h4, h5⟩ := half_walk (d ^^^ b.toNat) hx
  have hy : y < 4294967296 := by rw [h5]; exact Sm.half_lt hx
  obtain ⟨r2, t2, z, g1, g2, g3, g4, g5⟩ := half_walk y hy
  exact ⟨_, r, t, y, r2, t2, z, by rw [show ((b.toNat : Int) % 4294967296) = (b.toNat : Int) from by omega, u32_xor_nat _ _ hd (by omega)], ⟨h1, h2, h3, h4⟩, ⟨g1, g2, g3, g4⟩, hx, hy, by rw [g5, h5]; rfl⟩

end Go.Proofs.YtamkkdmbefekmaaGreatDoor
namespace Go.Proofs.YtamkkdmbefekmaaGreatDoor
open Go.RowKit
theorem fnv_step (s : ByteArray) (k : Nat) (h : k < s.size) :
    IntKind.u64.wrap (bits BinOp.xor IntKind.u64 (Sm.fnv (s.data.toList.take k) : Nat) (IntKind.u64.wrap (s[k].toNat : Int)) * 1099511628211) = ((Sm.fnv (s.data.toList.take (k + 1)) : Nat) : Int) := by
  have hb : Sm.fnv (s.data.toList.take k) < 18446744073709551616 := Sm.fnvs_lt _ (by omega)
  have hx := s[k].toNat_lt
  rw [take_snoc s k h, wrap_u64_byte, bits_xor_u64_nat _ _ hb (by omega), IntKind.wrap_u64]
  unfold Sm.fnv
  rw [Sm.fnvs_snoc]
  omega

set_option maxHeartbeats 400000 in
theorem long_any (s : ByteArray) (w : World) (hs : s.size ≤ maxLen) :
    Calls Tryz.prog 57 #[.string s] w fun e w' => e = .returned (.int .u64 (Sm.fnv s.data.toList : Nat)) ∧ w = w' := by
  unfold maxLen at hs
  go_enter Tryz.func57, Tryz.ntmps57
  go_wp2
  go_loop [3, 7] (fun h i => ∃ k : Nat, k ≤ s.size ∧ i = .int .i64 k ∧ h = .int .u64 (Sm.fnv (s.data.toList.take k) : Nat)) (fun _ i => s.size - (intOf i).toNat)
  case atStart => exact ⟨0, Nat.zero_le _, rfl, rfl⟩
  case round =>
    obtain ⟨k, hk, rfl, rfl⟩ := hrel
    have hb : Sm.fnv (s.data.toList.take k) < 18446744073709551616 := Sm.fnvs_lt _ (by omega)
    by_cases hlt : k < s.size
    · have HS := Lib.hid (fnv_step s k hlt)
      go_wp2
      go_round
      case rel => exact ⟨k + 1, by omega, by go_num, int_eq HS.out⟩
      case measure => simp [intOf]; omega
    · go_wp2
      go_ret
      exact ⟨ret_int (by rw [List.take_of_length_le (by simp; omega)]), rfl⟩
end Go.Proofs.YtamkkdmbefekmaaGreatDoor
