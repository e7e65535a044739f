/-
  Plain facts on tables' texts: numbers of bytes, rows, the index, what is read of a text. No program, no walk.
-/
import Derived.Test.YtgmaccfhgeocdaaSumFrames
import Derived.Test.YtgmaccfhgeocdaaMemMath
namespace Go.Proofs.Ytgmaccfhgeocdaa.Tb
open Sm

/-- An entry. -/
structure En where
  key : ByteArray
  value : ByteArray
  gone : Bool
theorem En.ext' {a b : En} (h1 : a.key = b.key) (h2 : a.value = b.value) (h3 : a.gone = b.gone) : a = b := by
  cases a; cases b; simp_all
def bl (s : ByteArray) : List UInt8 := s.data.toList
theorem bl_len (s : ByteArray) : (bl s).length = s.size := by simp [bl]
theorem bl_mk (s : ByteArray) : (⟨(bl s).toArray⟩ : ByteArray) = s := by simp [bl]
theorem bl_inj {a b : ByteArray} (h : bl a = bl b) : a = b := by rw [← bl_mk a, ← bl_mk b, h]

/-! ### numbers -/
def le : Nat → Nat → List UInt8
  | 0, _ => []
  | w + 1, n => UInt8.ofNat n :: le w (n / 256)
def val : List UInt8 → Nat
  | [] => 0
  | x :: r => x.toNat + 256 * val r
theorem le_len (w n : Nat) : (le w n).length = w := by
  induction w generalizing n with
  | zero => rfl
  | succ w ih => rw [le, List.length_cons, ih]
theorem val_le (w n : Nat) (h : n < 256 ^ w) : val (le w n) = n := by
  induction w generalizing n with
  | zero => rw [Nat.pow_zero] at h; rw [le, val]; omega
  | succ w ih =>
    rw [le, val, ih]
    · rw [UInt8.toNat_ofNat']; omega
    · rw [Nat.pow_succ] at h; omega
theorem val_lt (l : List UInt8) : val l < 256 ^ l.length := by
  induction l with
  | nil => rw [val]; simp
  | cons x r ih =>
    rw [val, List.length_cons, Nat.pow_succ]
    have := x.toNat_lt
    omega
theorem take_le (w n : Nat) (r : List UInt8) (h : n < 256 ^ w) : val ((le w n ++ r).take w) = n := by
  have h1 : (le w n ++ r).take w = le w n := List.take_left' (le_len w n)
  rw [h1, val_le w n h]
theorem drop_le (w n : Nat) (r : List UInt8) : (le w n ++ r).drop w = r := List.drop_left' (le_len w n)

/-! ### rows -/
def vlen (e : En) : Nat := if e.gone = true then 16385 else e.value.size
def row (e : En) : List UInt8 := le 1 e.key.size ++ (le 2 (vlen e) ++ (bl e.key ++ bl e.value))
def rows (l : List En) : List UInt8 := l.flatMap row
/-- An entry that is right. -/
def Ok (e : En) : Prop := 1 ≤ e.key.size ∧ e.key.size ≤ 128 ∧ e.value.size ≤ 16384 ∧ (e.gone = true → e.value.size = 0)
theorem row_len (e : En) : (row e).length = 3 + e.key.size + e.value.size := by
  unfold row
  rw [List.length_append, List.length_append, List.length_append, le_len, le_len, bl_len, bl_len]; omega
theorem rows_cons (e : En) (l : List En) : rows (e :: l) = row e ++ rows l := rfl
theorem rows_append (a b : List En) : rows (a ++ b) = rows a ++ rows b := List.flatMap_append
/-- What stands at a place of rows, and the place behind it. -/
def atR (R : List UInt8) (p : Nat) : Option (En × Nat) :=
  if p < R.length then
    let kn := val ((R.drop p).take 1)
    let vn := val (((R.drop p).drop 1).take 2)
    let l3 := (R.drop p).drop 3
    let vm := if vn = 16385 then 0 else vn
    some (⟨⟨(l3.take kn).toArray⟩, ⟨((l3.drop kn).take vm).toArray⟩, decide (vn = 16385)⟩, R.length - ((l3.drop kn).drop vm).length)
  else none
theorem atR_next {R : List UInt8} {p q : Nat} {e : En} (h : atR R p = some (e, q)) : p < q ∧ q ≤ R.length := by
  unfold atR at h
  split at h
  · rename_i hp
    simp only [Option.some.injEq, Prod.mk.injEq] at h
    rw [← h.2]
    simp only [List.length_drop]
    omega
  · cases h
theorem at_row (A : List UInt8) (e : En) (B : List UInt8) (h : Ok e) : atR (A ++ (row e ++ B)) A.length = some (e, A.length + (row e).length) := by
  obtain ⟨h1, h2, h3, h4⟩ := h
  have hl := row_len e
  have hk : e.key.size < 256 ^ 1 := by omega
  have hv : vlen e < 256 ^ 2 := by unfold vlen; split <;> omega
  have hd : (A ++ (row e ++ B)).drop A.length = row e ++ B := List.drop_left
  have e1 : row e ++ B = le 1 e.key.size ++ (le 2 (vlen e) ++ (bl e.key ++ (bl e.value ++ B))) := by unfold row; simp [List.append_assoc]
  have d1 : (row e ++ B).drop 1 = le 2 (vlen e) ++ (bl e.key ++ (bl e.value ++ B)) := by rw [e1]; exact drop_le 1 _ _
  have d3 : (row e ++ B).drop 3 = bl e.key ++ (bl e.value ++ B) := by rw [show 3 = 1 + 2 from rfl, ← List.drop_drop, d1]; exact drop_le 2 _ _
  have t1 : val ((row e ++ B).take 1) = e.key.size := by rw [e1]; exact take_le 1 _ _ hk
  have t2 : val ((le 2 (vlen e) ++ (bl e.key ++ (bl e.value ++ B))).take 2) = vlen e := take_le 2 _ _ hv
  have vm : (if vlen e = 16385 then 0 else vlen e) = e.value.size := by
    unfold vlen
    split
    · rename_i hg; rw [if_pos rfl, h4 hg]
    · rw [if_neg (by omega)]
  have vg : decide (vlen e = 16385) = e.gone := by
    unfold vlen
    cases hg : e.gone with
    | true => simp
    | false => simp; omega
  have hlen : (A ++ (row e ++ B)).length = A.length + ((row e).length + B.length) := by rw [List.length_append, List.length_append]
  unfold atR
  rw [if_pos (by rw [hlen, hl]; omega)]
  simp only [hd, d1, d3, t1, t2, vm, vg]
  have k1 : (bl e.key ++ (bl e.value ++ B)).take e.key.size = bl e.key := List.take_left' (bl_len _)
  have k2 : (bl e.key ++ (bl e.value ++ B)).drop e.key.size = bl e.value ++ B := List.drop_left' (bl_len _)
  have k3 : (bl e.value ++ B).take e.value.size = bl e.value := List.take_left' (bl_len _)
  have k4 : (bl e.value ++ B).drop e.value.size = B := List.drop_left' (bl_len _)
  rw [k1, k2, k3, k4, bl_mk, bl_mk, hlen]
  congr 2
  omega
/-- At most n entries, from a place on. -/
def listN : Nat → Nat → List UInt8 → List En
  | 0, _, _ => []
  | n + 1, p, R => match atR R p with
    | none => []
    | some (e, q) => e :: listN n q R
theorem list_rows (l : List En) (A B : List UInt8) (h : ∀ e ∈ l, Ok e) : listN l.length A.length (A ++ (rows l ++ B)) = l := by
  induction l generalizing A with
  | nil => rfl
  | cons e r ih =>
    have h1 := at_row A e (rows r ++ B) (h e List.mem_cons_self)
    have e1 : A ++ (rows (e :: r) ++ B) = A ++ (row e ++ (rows r ++ B)) := by rw [rows_cons, List.append_assoc]
    have e2 : A ++ (row e ++ (rows r ++ B)) = (A ++ row e) ++ (rows r ++ B) := by rw [List.append_assoc]
    rw [List.length_cons, e1, listN, h1]
    simp only
    rw [e2, ← List.length_append, ih (A ++ row e) fun x hx => h x (List.mem_cons_of_mem _ hx)]

/-! ### the index -/
def idx : Nat → Nat → List En → List UInt8
  | _, _, [] => []
  | i, off, e :: r => (if i % 16 = 0 then le 4 off ++ (le 1 e.key.size ++ bl e.key) else []) ++ idx (i + 1) (off + (row e).length) r
def blocks : Nat → Nat → List En → List (ByteArray × Nat)
  | _, _, [] => []
  | i, off, e :: r => (if i % 16 = 0 then [(e.key, off)] else []) ++ blocks (i + 1) (off + (row e).length) r
def readIdx : Nat → List UInt8 → List (ByteArray × Nat) × List UInt8
  | 0, l => ([], l)
  | m + 1, l =>
    let kn := val ((l.drop 4).take 1)
    let l2 := (l.drop 4).drop 1
    ((⟨(l2.take kn).toArray⟩, val (l.take 4)) :: (readIdx m (l2.drop kn)).1, (readIdx m (l2.drop kn)).2)
/-- How many blocks begin among n entries, the first of which is the i-th. -/
def nb (i n : Nat) : Nat := (i + n + 15) / 16 - (i + 15) / 16
theorem nb_yes (i n : Nat) (h : i % 16 = 0) : nb i (n + 1) = nb (i + 1) n + 1 := by unfold nb; omega
theorem nb_no (i n : Nat) (h : ¬ i % 16 = 0) : nb i (n + 1) = nb (i + 1) n := by unfold nb; omega
theorem read_idx (l : List En) (i off : Nat) (B : List UInt8) (h : ∀ e ∈ l, Ok e) (hoff : off + (rows l).length < 4294967296) : readIdx (nb i l.length) (idx i off l ++ B) = (blocks i off l, B) := by
  induction l generalizing i off with
  | nil => rw [show nb i ([] : List En).length = 0 from by show nb i 0 = 0; unfold nb; omega]; rfl
  | cons e r ih =>
    have hr : ∀ x ∈ r, Ok x := fun x hx => h x (List.mem_cons_of_mem _ hx)
    obtain ⟨-, h2, -, -⟩ := h e List.mem_cons_self
    rw [rows_cons, List.length_append] at hoff
    have ih := ih (i + 1) (off + (row e).length) hr (by omega)
    rw [List.length_cons]
    by_cases hi : i % 16 = 0
    · have e1 : idx i off (e :: r) ++ B = le 4 off ++ (le 1 e.key.size ++ (bl e.key ++ (idx (i + 1) (off + (row e).length) r ++ B))) := by
        rw [idx, if_pos hi]; simp [List.append_assoc]
      have e2 : blocks i off (e :: r) = (e.key, off) :: blocks (i + 1) (off + (row e).length) r := by rw [blocks, if_pos hi]; rfl
      rw [nb_yes _ _ hi, e1, e2, readIdx]
      have d4 : (le 4 off ++ (le 1 e.key.size ++ (bl e.key ++ (idx (i + 1) (off + (row e).length) r ++ B)))).drop 4 = le 1 e.key.size ++ (bl e.key ++ (idx (i + 1) (off + (row e).length) r ++ B)) := drop_le 4 _ _
      have t4 : val ((le 4 off ++ (le 1 e.key.size ++ (bl e.key ++ (idx (i + 1) (off + (row e).length) r ++ B)))).take 4) = off := take_le 4 _ _ (by omega)
      have t1 : val ((le 1 e.key.size ++ (bl e.key ++ (idx (i + 1) (off + (row e).length) r ++ B))).take 1) = e.key.size := take_le 1 _ _ (by omega)
      have d1 : (le 1 e.key.size ++ (bl e.key ++ (idx (i + 1) (off + (row e).length) r ++ B))).drop 1 = bl e.key ++ (idx (i + 1) (off + (row e).length) r ++ B) := drop_le 1 _ _
      have k1 : (bl e.key ++ (idx (i + 1) (off + (row e).length) r ++ B)).take e.key.size = bl e.key := List.take_left' (bl_len _)
      have k2 : (bl e.key ++ (idx (i + 1) (off + (row e).length) r ++ B)).drop e.key.size = idx (i + 1) (off + (row e).length) r ++ B := List.drop_left' (bl_len _)
      simp only [d4, t4, t1, d1, k1, k2, ih, bl_mk]
    · have e1 : idx i off (e :: r) = idx (i + 1) (off + (row e).length) r := by rw [idx, if_neg hi]; rfl
      have e2 : blocks i off (e :: r) = blocks (i + 1) (off + (row e).length) r := by rw [blocks, if_neg hi]; rfl
      rw [nb_no _ _ hi, e1, e2, ih]

/-! ### texts -/
def body (l : List En) : List UInt8 := le 2 l.length ++ (idx 0 0 l ++ rows l)
def text (l : List En) : List UInt8 := body l ++ le 4 (crc (body l))
def weight (l : List En) : Nat := (l.map fun e => e.key.size + e.value.size).sum
/-- A right list. -/
structure Right (l : List En) : Prop where
  few : l.length ≤ 4096
  ok : ∀ e ∈ l, Ok e
  light : weight l ≤ 524288
  rise : l.Pairwise fun a b => Mm.lt a.key b.key = true
theorem rows_len (l : List En) : (rows l).length = 3 * l.length + weight l := by
  induction l with
  | nil => rfl
  | cons e r ih =>
    rw [rows_cons, List.length_append, row_len, ih, List.length_cons]
    unfold weight
    rw [List.map_cons, List.sum_cons]; omega
/-- How many entries a text seems to have; its index and its rows; its list. -/
def cnt (b : List UInt8) : Nat := val (b.take 2)
def index (b : List UInt8) : List (ByteArray × Nat) × List UInt8 := readIdx (nb 0 (cnt b)) (b.drop 2)
def listOf (b : List UInt8) : List En := listN (cnt b) 0 (index b).2
theorem cnt_body (l : List En) (h : l.length ≤ 4096) (r : List UInt8) : cnt (body l ++ r) = l.length := by
  unfold cnt body; rw [List.append_assoc]; exact take_le 2 _ _ (by omega)
theorem index_body (l : List En) (h : Right l) (r : List UInt8) : index (body l ++ r) = (blocks 0 0 l, rows l ++ r) := by
  unfold index
  rw [cnt_body l h.few]
  have e : (body l ++ r).drop 2 = idx 0 0 l ++ (rows l ++ r) := by
    unfold body
    rw [List.append_assoc, drop_le, List.append_assoc]
  rw [e]
  refine read_idx l 0 0 (rows l ++ r) h.ok ?_
  have := rows_len l
  have := h.few
  have := h.light
  omega
theorem listOf_body (l : List En) (h : Right l) (r : List UInt8) : listOf (body l ++ r) = l := by
  unfold listOf
  rw [cnt_body l h.few, index_body l h r]
  have := list_rows l [] r h.ok
  simpa using this
theorem crc_lt (l : List UInt8) : crc l < 4294967296 := more_lt _ _
theorem text_len (l : List En) : (text l).length = (body l).length + 4 := by unfold text; rw [List.length_append, le_len]
/-- What is read of a table's text. -/
theorem take_text (l : List En) : (text l).take ((text l).length - 4) = body l := by
  rw [text_len]; unfold text; exact List.take_left' (by omega)
/-- No table begins another one. -/
theorem text_free {l m : List En} (hl : Right l) (hm : Right m) {o : List UInt8} (h : text l ++ o = text m) : l = m ∧ o = [] := by
  have e : l = m := by
    have h1 : body l ++ (le 4 (crc (body l)) ++ o) = body m ++ le 4 (crc (body m)) := by rw [← List.append_assoc]; exact h
    rw [← listOf_body l hl (le 4 (crc (body l)) ++ o), h1, listOf_body m hm]
  subst e
  refine ⟨rfl, ?_⟩
  have := congrArg List.length h
  rw [List.length_append] at this
  exact List.eq_nil_of_length_eq_zero (by omega)
theorem text_inj {l m : List En} (hl : Right l) (hm : Right m) (h : text l = text m) : l = m := (text_free hl hm (o := []) (by rw [List.append_nil, h])).1
end Go.Proofs.Ytgmaccfhgeocdaa.Tb
