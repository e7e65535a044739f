/-
  Plain facts on the sum (CRC-32C by half bytes), the print (FNV-1a) and frames, over lists of bytes and natural numbers: no program, no walk. No conditions but those in the theorems.
-/
import Derived.Laws.BitsAllLaws
namespace Go.Proofs.Ytgmaccfhgeocdaa.Sm

def P : Nat := 2197175160

/-- One step by one bit. -/
def bit (c : Nat) : Nat := if c % 2 = 1 then (c / 2) ^^^ P else c / 2
def tab (r : Nat) : Nat := bit (bit (bit (bit r)))
def half (c : Nat) : Nat := (c / 16) ^^^ tab (c % 16)
def upd (c b : Nat) : Nat := half (half (c ^^^ b))
def crcs (c : Nat) (l : List UInt8) : Nat := l.foldl (fun c x => upd c x.toNat) c
def more (c : Nat) (l : List UInt8) : Nat := 4294967295 - crcs (4294967295 - c) l
def crc (l : List UInt8) : Nat := more 0 l

theorem bit_eq (c : Nat) : bit c = (c >>> 1) ^^^ (if c % 2 = 1 then P else 0) := by
  unfold bit; rw [show c >>> 1 = c / 2 from Nat.shiftRight_eq_div_pow c 1]; split <;> simp

theorem bit_xor (a b : Nat) : bit (a ^^^ b) = bit a ^^^ bit b := by
  have hm : ((a ^^^ b) % 2 = 1) ↔ ¬ (a % 2 = 1 ↔ b % 2 = 1) := by
    have := Nat.xor_mod_two_eq_one (a := a) (b := b)
    exact this
  rw [bit_eq, bit_eq, bit_eq, Nat.shiftRight_xor_distrib]
  by_cases ha : a % 2 = 1 <;> by_cases hb : b % 2 = 1
  · rw [if_neg (by rw [hm]; simp [ha, hb]), if_pos ha, if_pos hb]
    rw [Nat.xor_zero]
    have : ∀ x y p : Nat, x ^^^ y = x ^^^ p ^^^ (y ^^^ p) := by
      intro x y p; rw [Nat.xor_assoc, ← Nat.xor_assoc p, Nat.xor_comm p y, Nat.xor_assoc y, Nat.xor_self, Nat.xor_zero]
    exact this _ _ _
  · rw [if_pos (by rw [hm]; simp [ha, hb]), if_pos ha, if_neg hb]
    rw [Nat.xor_zero, Nat.xor_assoc, Nat.xor_assoc, Nat.xor_comm (b >>> 1)]
  · rw [if_pos (by rw [hm]; simp [ha, hb]), if_neg ha, if_pos hb]
    rw [Nat.xor_zero, Nat.xor_assoc]
  · rw [if_neg (by rw [hm]; simp [ha, hb]), if_neg ha, if_neg hb]
    simp

theorem bit_double (x : Nat) : bit (2 * x) = x := by
  unfold bit; rw [if_neg (by omega)]; omega

theorem bit4_mul (x : Nat) : bit (bit (bit (bit (16 * x)))) = x := by
  have h : 16 * x = 2 * (2 * (2 * (2 * x))) := by omega
  rw [h, bit_double, bit_double, bit_double, bit_double]

theorem split16 (c : Nat) : (16 * (c / 16)) ^^^ (c % 16) = c := by
  apply Nat.eq_of_testBit_eq
  intro i
  rw [Nat.testBit_xor, show (16 : Nat) = 2 ^ 4 from rfl, Nat.testBit_two_pow_mul, Nat.testBit_mod_two_pow, Nat.testBit_div_two_pow]
  by_cases h : i < 4
  · have h1 : ¬ 4 ≤ i := by omega
    simp [h, h1]
  · have h1 : 4 ≤ i := by omega
    have h2 : i - 4 + 4 = i := by omega
    simp [h, h1, h2]

/-- Four steps by one bit are one by half a byte. -/
theorem bit4 (c : Nat) : bit (bit (bit (bit c))) = half c := by
  have h : bit (bit (bit (bit ((16 * (c / 16)) ^^^ (c % 16))))) = (c / 16) ^^^ tab (c % 16) := by
    rw [bit_xor, bit_xor, bit_xor, bit_xor, bit4_mul]; rfl
  rw [split16] at h; exact h

theorem tab_lt : ∀ r, r < 16 → tab r < 4294967296 := by decide
theorem tab_top : ∀ r, r < 16 → ∀ s, s < 16 → tab r / 268435456 = tab s / 268435456 → r = s := by decide

theorem xor_lt {a b : Nat} (ha : a < 4294967296) (hb : b < 4294967296) : a ^^^ b < 4294967296 :=
  Nat.xor_lt_two_pow (n := 32) ha hb

theorem half_lt {c : Nat} (h : c < 4294967296) : half c < 4294967296 :=
  xor_lt (by omega) (tab_lt _ (by omega))
theorem upd_lt {c b : Nat} (h : c < 4294967296) (hb : b < 256) : upd c b < 4294967296 :=
  half_lt (half_lt (xor_lt h (by omega)))
theorem crcs_lt (l : List UInt8) : ∀ {c : Nat}, c < 4294967296 → crcs c l < 4294967296 := by
  induction l with
  | nil => intro c h; exact h
  | cons x r ih => intro c h; exact ih (upd_lt h (by have := x.toNat_lt; omega))
theorem more_lt (c : Nat) (l : List UInt8) : more c l < 4294967296 := by unfold more; omega
theorem crcs_snoc (c : Nat) (l : List UInt8) (x : UInt8) : crcs c (l ++ [x]) = upd (crcs c l) x.toNat := by
  unfold crcs; rw [List.foldl_append, List.foldl_cons, List.foldl_nil]
theorem crcs_append (c : Nat) (l r : List UInt8) : crcs c (l ++ r) = crcs (crcs c l) r := by
  unfold crcs; rw [List.foldl_append]

theorem more_nil {c : Nat} (h : c < 4294967296) : more c [] = c := by
  show 4294967295 - (4294967295 - c) = c; omega
theorem more_append {c : Nat} (l r : List UInt8) : more (more c l) r = more c (l ++ r) := by
  have h := crcs_lt l (c := 4294967295 - c) (by omega)
  unfold more; rw [crcs_append, show 4294967295 - (4294967295 - crcs (4294967295 - c) l) = crcs (4294967295 - c) l from by omega]
theorem more_crc (l r : List UInt8) : more (crc l) r = crc (l ++ r) := more_append l r

/-- Half a byte's step tells words apart. -/
theorem half_inj {a b : Nat} (ha : a < 4294967296) (hb : b < 4294967296) (h : half a = half b) : a = b := by
  unfold half at h
  have top : ∀ x r, x < 268435456 → (x ^^^ r) / 268435456 = r / 268435456 := by
    intro x r hx
    have e : ∀ n : Nat, n / 268435456 = n >>> 28 := fun n => by rw [Nat.shiftRight_eq_div_pow]
    rw [e, e, Nat.shiftRight_xor_distrib, ← e x, Nat.div_eq_of_lt hx, Nat.zero_xor]
  have h1 : tab (a % 16) / 268435456 = tab (b % 16) / 268435456 := by
    have t1 := top (a / 16) (tab (a % 16)) (by omega)
    have t2 := top (b / 16) (tab (b % 16)) (by omega)
    rw [← t1, ← t2, h]
  have h2 := tab_top _ (Nat.mod_lt _ (by omega)) _ (Nat.mod_lt _ (by omega)) h1
  rw [h2] at h
  have h3 : a / 16 = b / 16 := by
    have := congrArg (· ^^^ tab (b % 16)) h
    simpa [Nat.xor_assoc] using this
  omega
theorem xor_cancel {c a b : Nat} (h : c ^^^ a = c ^^^ b) : a = b := by
  have := congrArg (c ^^^ ·) h
  simpa [← Nat.xor_assoc] using this
theorem xor_cancel' {c d a : Nat} (h : c ^^^ a = d ^^^ a) : c = d := by
  rw [Nat.xor_comm c, Nat.xor_comm d] at h; exact xor_cancel h
theorem upd_inj {a b x y : Nat} (ha : a < 4294967296) (hb : b < 4294967296) (hx : x < 256) (hy : y < 256) (h : upd a x = upd b y) : a ^^^ x = b ^^^ y := by
  have ha' : a ^^^ x < 4294967296 := xor_lt ha (by omega)
  have hb' : b ^^^ y < 4294967296 := xor_lt hb (by omega)
  exact half_inj ha' hb' (half_inj (half_lt ha') (half_lt hb') h)
theorem crcs_inj (l : List UInt8) : ∀ {a b : Nat}, a < 4294967296 → b < 4294967296 → crcs a l = crcs b l → a = b := by
  induction l with
  | nil => intro a b _ _ h; exact h
  | cons x r ih =>
    intro a b ha hb h
    have hx : x.toNat < 256 := x.toNat_lt
    exact xor_cancel' (upd_inj ha hb hx hx (ih (upd_lt ha hx) (upd_lt hb hx) h))

/-- Texts that differ in one byte alone differ in their sums. -/
theorem crcs_one {c : Nat} (hc : c < 4294967296) (l r : List UInt8) (x y : UInt8) (hne : x ≠ y) : crcs c (l ++ x :: r) ≠ crcs c (l ++ y :: r) := by
  intro h
  rw [crcs_append, crcs_append] at h
  have hl := crcs_lt l hc
  have hx : x.toNat < 256 := x.toNat_lt
  have hy : y.toNat < 256 := y.toNat_lt
  have h1 : upd (crcs c l) x.toNat = upd (crcs c l) y.toNat := crcs_inj r (upd_lt hl hx) (upd_lt hl hy) h
  exact hne (UInt8.toNat_inj.1 (xor_cancel (upd_inj hl hl hx hy h1)))
theorem more_one {c : Nat} (l r : List UInt8) (x y : UInt8) (hne : x ≠ y) : more c (l ++ x :: r) ≠ more c (l ++ y :: r) := by
  have h := crcs_one (c := 4294967295 - c) (by omega) l r x y hne
  have h1 := crcs_lt (l ++ x :: r) (c := 4294967295 - c) (by omega)
  have h2 := crcs_lt (l ++ y :: r) (c := 4294967295 - c) (by omega)
  unfold more; omega

/-- The print. -/
def fnvs (h : Nat) (l : List UInt8) : Nat := l.foldl (fun h x => (h ^^^ x.toNat) * 1099511628211 % 18446744073709551616) h
def fnv (l : List UInt8) : Nat := fnvs 14695981039346656037 l
theorem fnvs_snoc (c : Nat) (l : List UInt8) (x : UInt8) : fnvs c (l ++ [x]) = (fnvs c l ^^^ x.toNat) * 1099511628211 % 18446744073709551616 := by
  unfold fnvs; rw [List.foldl_append, List.foldl_cons, List.foldl_nil]
theorem fnvs_append (c : Nat) (l r : List UInt8) : fnvs c (l ++ r) = fnvs (fnvs c l) r := by
  unfold fnvs; rw [List.foldl_append]
theorem fnvs_lt (l : List UInt8) : ∀ {c : Nat}, c < 18446744073709551616 → fnvs c l < 18446744073709551616 := by
  induction l with
  | nil => intro c h; exact h
  | cons x r ih => intro c h; exact ih (Nat.mod_lt _ (by omega))
theorem mul_inj {a b : Nat} (ha : a < 18446744073709551616) (hb : b < 18446744073709551616) (h : a * 1099511628211 % 18446744073709551616 = b * 1099511628211 % 18446744073709551616) : a = b := by
  have e : ∀ x : Nat, x < 18446744073709551616 → x * 1099511628211 % 18446744073709551616 * 14886173955864302971 % 18446744073709551616 = x := by
    intro x hx
    rw [Nat.mod_mul_mod, Nat.mul_assoc, ← Nat.mul_mod_mod, show (1099511628211 * 14886173955864302971) % 18446744073709551616 = 1 from by decide, Nat.mul_one]
    exact Nat.mod_eq_of_lt hx
  rw [← e a ha, ← e b hb, h]
theorem fnv_xor_lt {a b : Nat} (ha : a < 18446744073709551616) (hb : b < 256) : a ^^^ b < 18446744073709551616 :=
  Nat.xor_lt_two_pow (n := 64) ha (by omega)
theorem fnvs_inj (l : List UInt8) : ∀ {a b : Nat}, a < 18446744073709551616 → b < 18446744073709551616 → fnvs a l = fnvs b l → a = b := by
  induction l with
  | nil => intro a b _ _ h; exact h
  | cons x r ih =>
    intro a b ha hb h
    have hx : x.toNat < 256 := x.toNat_lt
    exact xor_cancel' (mul_inj (fnv_xor_lt ha hx) (fnv_xor_lt hb hx) (ih (Nat.mod_lt _ (by omega)) (Nat.mod_lt _ (by omega)) h))
theorem fnv_one (l r : List UInt8) (x y : UInt8) (hne : x ≠ y) : fnv (l ++ x :: r) ≠ fnv (l ++ y :: r) := by
  intro h
  unfold fnv at h
  rw [fnvs_append, fnvs_append] at h
  have hl := fnvs_lt l (c := 14695981039346656037) (by omega)
  have hx : x.toNat < 256 := x.toNat_lt
  have hy : y.toNat < 256 := y.toNat_lt
  have h1 := fnvs_inj r (Nat.mod_lt _ (by omega)) (Nat.mod_lt _ (by omega)) h
  exact hne (UInt8.toNat_inj.1 (xor_cancel (mul_inj (fnv_xor_lt hl hx) (fnv_xor_lt hl hy) h1)))

end Go.Proofs.Ytgmaccfhgeocdaa.Sm
