/-
  A row of texts that a law builds by append, as a box beside a log, or beside a disk. Conditions: those in the theorems.
  Walks over the laws of package wal: WalSynced. Condition: at most 2^47 texts.
  PROVED: the card of the law WalSynced: it answers true for every input, and leaves its arguments as they were: what was synced is told by every opening behind. Condition: the variables that the row lists hold what the text of the program lays (the card ties that).
-/
import Derived.Test.YtoecbkndbcblpaaGreatDoorWalRead
import Derived.Test.YtoecbkndbcblpaaGreatDoorWalSegs
import Derived.WalkKit
import Derived.Deep.LoopGhost
import Derived.Test.YtoecbkndbcblpaaGreatDoorRows
import Derived.Test.YtoecbkndbcblpaaGreatDoorTie
import Derived.Test.YtoecbkndbcblpaaGreatDoorCards
import Derived.Test.YtoecbkndbcblpaaGreatDoorLawKit
import Derived.Lay
import Derived.LaidOnce
import Derived.LaidMore
import Derived.SevenTiedAt
import Derived.SliceStrings
import Derived.ChangeSlices
namespace Go.Proofs.YtoecbkndbcblpaaGreatDoor
open Go.RowKit
/-- A slice of texts: cell i holds ss[i]. -/
def TextsAt (W : World) (p : Option Addr) (ss : List ByteArray) : Prop := ∀ i (h : i < ss.length), ∃ a, p = some a ∧ a.block < W.heap.size ∧ W.cell? (a.add i) = some (.string ss[i])
theorem add_block (a : Addr) (i : Nat) : (a.add i).block = a.block := by unfold Addr.add; split <;> rfl
theorem TextsAt.below {W W' : World} {p : Option Addr} {ss : List ByteArray} (h : TextsAt W p ss) (hb : Below W.heap.size W W') : TextsAt W' p ss := fun i hi => by
  obtain ⟨a, h1, h2, h3⟩ := h i hi
  exact ⟨a, h1, Nat.lt_of_lt_of_le h2 hb.size, (hb.cell (by rw [add_block]; exact h2)).trans h3⟩
/-- The lengths together, each at most m. -/
def lensTo (m : Nat) : List ByteArray → Nat
  | [] => 0
  | s :: r => min s.size m + lensTo m r
theorem lensTo_append (m : Nat) (a b : List ByteArray) : lensTo m (a ++ b) = lensTo m a + lensTo m b := by
  induction a with
  | nil => simp [lensTo]
  | cons x r ih => show min x.size m + lensTo m (r ++ b) = _; rw [ih]; show _ = min x.size m + lensTo m r + lensTo m b; omega
theorem lensTo_take (m : Nat) (ss : List ByteArray) (k : Nat) (hk : k < ss.length) : lensTo m (ss.take (k + 1)) = lensTo m (ss.take k) + min ss[k].size m := by
  rw [List.take_succ_eq_append_getElem hk, lensTo_append]; simp [lensTo]
theorem lensTo_le (m : Nat) (ss : List ByteArray) : lensTo m ss ≤ ss.length * m := by
  induction ss with
  | nil => simp [lensTo]
  | cons x r ih =>
    show min x.size m + lensTo m r ≤ (r.length + 1) * m
    rw [Nat.add_mul, Nat.one_mul]; omega
theorem lensTo_each {m n : Nat} (hn : n < m) (ss : List ByteArray) (h : lensTo m ss ≤ n) : ∀ s ∈ ss, s.size ≤ n := by
  induction ss with
  | nil => intro s hs; cases hs
  | cons x r ih =>
    have h' : min x.size m + lensTo m r ≤ n := h
    intro s hs
    rcases List.mem_cons.1 hs with rfl | hs
    · omega
    · exact ih (by omega) s hs
end Go.Proofs.YtoecbkndbcblpaaGreatDoor
namespace Go.Proofs.YtoecbkndbcblpaaGreatDoor
open Go.RowKit Go.Maps Go.Sort Go.Shelf

section
variable {w0 w w' : World} {a b : Nat} {D D' : Dm.Disk} {B C X : List (Nat × Obj)} {v : Value} {R : List (Nat × Obj)} {W : Wm.W}
/-- A row of texts in a box, or none. -/
def PutIs (v : Value) (R : List (Nat × Obj)) (l : List (List UInt8)) : Prop :=
  (v = .slice none 0 0 ∧ l = [] ∧ R = []) ∨ ∃ g cap cur, v = .slice (some ⟨g, 0, none⟩) l.length cap ∧ R = [(g, .cells cur 9 (0, 0))] ∧ l.length ≤ cap ∧ cap ≤ maxLen ∧ cur.size = cap * 1 ∧ cur.toList.take (l.length * 1) = l.map encStr
theorem PutIs.shape {l : List (List UInt8)} (h : PutIs v R l) : ∃ p cap, v = .slice p l.length cap ∧ l.length ≤ cap := by
  rcases h with ⟨rfl, rfl, -⟩ | ⟨g, cap, cur, rfl, rfl, h1, -⟩
  · exact ⟨none, 0, rfl, Nat.le_refl _⟩
  · exact ⟨_, _, rfl, h1⟩
theorem PutIs.at {l : List (List UInt8)} (h : PutIs v R l) (hb : ∀ p ∈ R, w.heap[p.1]? = some p.2) {i : Nat} (hi : i < l.length) : ∃ g cap, v = .slice (some ⟨g, 0, none⟩) l.length cap ∧ w.cell? ⟨g, i, none⟩ = some (.string ⟨l[i].toArray⟩) := by
  rcases h with ⟨rfl, rfl, -⟩ | ⟨g, cap, cur, rfl, rfl, h1, h2, h3, h4⟩
  · exact absurd hi (Nat.not_lt_zero _)
  · refine ⟨g, cap, rfl, ?_⟩
    rw [cell_of_row w g i cur _ _ (hb _ List.mem_cons_self)]
    have e : (cur.toList.take (l.length * 1))[i]? = (l.map encStr)[i]? := by rw [h4]
    rw [List.getElem?_take, if_pos (by omega)] at e
    simpa [hi, encStr] using e
theorem PutIs.owns {l : List (List UInt8)} (h : PutIs v R l) (hb : ∀ p ∈ R, w.heap[p.1]? = some p.2) : w.ownsRow 0 9 1 v l.length (l.map encStr) := by
  rcases h with ⟨rfl, rfl, -⟩ | ⟨g, cap, cur, rfl, rfl, h1, h2, h3, h4⟩
  · exact World.ownsRow_nil _ _ _ _
  · exact ⟨by simp, .inr ⟨g, cap, cur, rfl, Nat.zero_le _, hb _ List.mem_cons_self, h1, h2, h3, h4⟩⟩
/-- A text is appended to a row of them. -/
theorem PutIs.push {l : List (List UInt8)} (h : Bx w0 w a D (R ++ C)) (hr : PutIs v R l) (s : ByteArray) {z : Nat} {W1 : World} (hb : Below w.heap.size w W1) (hz : W1.heap[z]? = some (.cells #[.string s] 9 (0, 0))) (hl : l.length ≤ 1000000) (ty : TypeId) :
    ∃ (p : Option Addr) (cv : Nat) (W2 : World) (R' : List (Nat × Obj)), (Builtin.append_ #[44, 44] ty #[v, .slice (some ⟨z, 0, none⟩) 1 1]).run Tryz.prog W1 = .ok (.slice p (l.length + 1) cv) W2 ∧ Bx w0 W2 a D (R' ++ C) ∧ PutIs (.slice p (l.length + 1) cv) R' (l ++ [s.data.toList]) := by
  obtain ⟨i0, hi0, hz0, hz1, hz2⟩ := info_parts infoT
  have h1 := h.same hb
  have hown : W1.ownsRow 0 9 1 v l.length (l.map encStr) := hr.owns fun p hp => h1.box p (List.mem_append_left _ hp)
  have hnews : ∀ j u, ([.string s] : List Value)[j]? = some u → W1.cell? ((⟨z, 0, none⟩ : Addr).add j) = some u := fun j u hu => by
    have hadd : (⟨z, 0, none⟩ : Addr).add j = ⟨z, j, none⟩ := by unfold Addr.add; split <;> simp_all
    rw [hadd, cell_of_row W1 z _ _ _ _ hz]
    simpa using hu
  obtain ⟨v', W2, hrun, ho, hg, hnil, hat⟩ := run_append_own_at (P := Tryz.prog) W1 0 44 ty 9 i0 _ 1 16 Tryz.underlying44 hi0 hz0 hz1 hz2 rfl (by decide) v _ _ hown
    ⟨z, 0, none⟩ 1 1 [.string s] rfl hnews (fun u hu => by simp at hu; subst hu; rfl) (by unfold maxLen; omega) (by omega) (Nat.zero_le _)
  have e1 : l.map encStr ++ [.string s] = (l ++ [s.data.toList]).map encStr := by simp [encStr]
  have e2 : l.length + 1 = (l ++ [s.data.toList]).length := by simp
  rw [e1] at ho
  rcases ho.2 with ⟨-, e⟩ | ⟨g, cap, cur, rfl, -, q1, q2, q3, q4, q5⟩
  · omega
  have hrow : PutIs (.slice (some ⟨g, 0, none⟩) (l.length + 1) cap) [(g, .cells cur 9 (0, 0))] (l ++ [s.data.toList]) := .inr ⟨g, cap, cur, by rw [e2], rfl, by rw [← e2]; exact q2, q3, q4, by rw [← e2]; exact q5⟩
  refine ⟨_, cap, W2, [(g, .cells cur 9 (0, 0))], hrun, ?_, hrow⟩
  have hT : Turned (fun k => k ∈ rowBlk v) W1 W2 := turned_grown (S := fun k => k ∈ rowBlk v) hg fun k hk => by
    unfold Value.ownBlock at hk; unfold rowBlk; split at hk <;> simp_all
  rcases hr with ⟨rfl, rfl, rfl⟩ | ⟨g0, cap0, cur0, rfl, rfl, -⟩
  · have hg1 : W1.heap.size ≤ g := by
      rcases hat with e | e
      · simp [Value.ownBlock] at e
      · have := Option.some.inj (show some g = some W1.heap.size from e); omega
    exact h1.gain (B := C) hT (fun k hk => nomatch hk) (List.Sublist.refl _) (fun p _ e => nomatch e) hg1 q1
  · have hnd := List.nodup_cons.1 h1.apart
    have hne : ∀ p ∈ C, ¬ p.1 ∈ rowBlk (.slice (some ⟨g0, 0, none⟩) l.length cap0) := fun p hp e => by
      rw [rowBlk_some] at e
      exact hnd.1 (List.mem_map.2 ⟨p, hp, List.mem_singleton.1 e⟩)
    rcases hat with e | e
    · have hgg : g = g0 := Option.some.inj (show some g = some g0 from e)
      subst hgg
      exact Bx.turn h1 (hT.mono fun k hk => by rw [rowBlk_some] at hk; exact List.mem_singleton.1 hk) q1
    · have := Option.some.inj (show some g = some W1.heap.size from e)
      exact h1.gain (B := C) hT (fun k hk => by rw [rowBlk_some] at hk; rw [List.mem_singleton.1 hk]; simp) (List.sublist_cons_self _ _) hne (by omega) q1
theorem WalIn.pushT {l : List (List UInt8)} (h : WalIn w0 w a D b W (R ++ X)) (hr : PutIs v R l) (s : ByteArray) {z : Nat} {W1 : World} (hb : Below w.heap.size w W1) (hz : W1.heap[z]? = some (.cells #[.string s] 9 (0, 0))) (hl : l.length ≤ 1000000) (ty : TypeId) :
    ∃ (p : Option Addr) (cv : Nat) (W2 : World) (R' : List (Nat × Obj)), (Builtin.append_ #[44, 44] ty #[v, .slice (some ⟨z, 0, none⟩) 1 1]).run Tryz.prog W1 = .ok (.slice p (l.length + 1) cv) W2 ∧ WalIn w0 W2 a D b W (R' ++ X) ∧ PutIs (.slice p (l.length + 1) cv) R' (l ++ [s.data.toList]) := by
  obtain ⟨v', R0, h1, h2⟩ := h
  have h3 := h1.perm (perm_mid (b, fobj a W.f (walRest W v') 43) R0 R X).symm
  obtain ⟨p, cv, W2, R', hrun, h4, h5⟩ := PutIs.push (C := (b, fobj a W.f (walRest W v') 43) :: (R0 ++ X)) h3 hr s hb hz hl ty
  exact ⟨p, cv, W2, R', hrun, ⟨v', R0, h4.perm (perm_mid _ R0 R' X), h2⟩, h5⟩
end
end Go.Proofs.YtoecbkndbcblpaaGreatDoor
namespace Go.Proofs.YtoecbkndbcblpaaGreatDoor
open Go.RowKit Go.Maps Go.Sort Go.Shelf
open _root_.Wm (segs firstsOf fr total Body nm Sure)
/-- Numbers as they are handed in. -/
def IntsAt (W : World) (p : Option Addr) (ks : List Int) : Prop := ∀ i (h : i < ks.length), ∃ A, p = some A ∧ A.block < W.heap.size ∧ W.cell? (A.add i) = some (.int .i64 ks[i])
theorem IntsAt.below {W W' : World} {p : Option Addr} {ks : List Int} (h : IntsAt W p ks) (hb : Below W.heap.size W W') : IntsAt W' p ks := fun i hi => by
  obtain ⟨a, h1, h2, h3⟩ := h i hi
  exact ⟨a, h1, Nat.lt_of_lt_of_le h2 hb.size, (hb.cell (by rw [add_block]; exact h2)).trans h3⟩
theorem IntsAt.ints {w w' : World} {p : Option Addr} {ks : List Int} (h : IntsAt w p ks) (hb : Below w.heap.size w w') (S : Nat → Prop) (hS : ∀ k, S k → w.heap.size ≤ k) : Ints w' S p ks := fun i hi => by
  obtain ⟨a, h1, h2, h3⟩ := h i hi
  exact ⟨a, h1, fun e => by have := hS _ e; omega, Nat.lt_of_lt_of_le h2 hb.size, (hb.cell (by rw [add_block]; exact h2)).trans h3⟩
/-- What is so when no more records are put: the power is about to go. -/
structure Put (name : ByteArray) (D : Dm.Disk) (cs : List (List Body)) (bs : List Body) (s : Nat) (put : List Body) (su : Nat) : Prop where
  files : D.files = segs (Wm.logOf name).data.toList 1 cs bs [] s
  bounded : D.bounded = false
  synced : s ≤ (fr bs).length
  ne : ∀ c ∈ cs, c ≠ []
  few : total cs + bs.length ≤ 41
  bytes : ((cs.flatten ++ bs).map List.length).sum ≤ 170000
  short : ∀ b ∈ cs.flatten ++ bs, b.length ≤ 65536
  last : (fr bs.dropLast).length < 16384
  sure : Sure su cs bs s
  begins : (cs.flatten ++ bs) <+: put
/-- A round's head. -/
structure Round (name : ByteArray) (D : Dm.Disk) (cs : List (List Body)) (bs : List Body) (s : Nat) (tail : ByteArray) (put : List Body) (su : Nat) (ss : List ByteArray) (k : Nat) (at_ : Int) : Prop where
  lives : Lives name D cs bs s tail
  all : cs.flatten ++ bs = put
  sure : Sure su cs bs s
  num : put.length ≤ k
  sum : (put.map List.length).sum ≤ lensTo 100001 (ss.take k)
  calm : (k : Int) ≤ at_ → D.fuse = 0
theorem lensTo_mono (m : Nat) (ss : List ByteArray) (k : Nat) : lensTo m (ss.take k) ≤ lensTo m ss := by
  have h : lensTo m ss = lensTo m (ss.take k) + lensTo m (ss.drop k) := by rw [← lensTo_append, List.take_append_drop]
  omega
theorem Round.put {name : ByteArray} {D : Dm.Disk} {cs : List (List Body)} {bs : List Body} {s : Nat} {tail : ByteArray} {put : List Body} {su : Nat} {ss : List ByteArray} {k : Nat} {at_ : Int} (h : Round name D cs bs s tail put su ss k at_) (hz : lensTo 100001 ss ≤ 100000) (hk : k ≤ 40) : Put name D cs bs s put su :=
  ⟨h.lives.files, h.lives.bounded, h.lives.synced, h.lives.ne, by
    have := h.num
    have e2 : put.length = total cs + bs.length := by rw [← h.all, List.length_append, Wm.total_flat]
    omega, by rw [h.all]; have := h.sum; have := lensTo_mono 100001 ss k; omega, h.lives.short, h.lives.last, h.sure, by rw [h.all]; exact List.prefix_refl _⟩
theorem Round.start (name : ByteArray) (ss : List ByteArray) (at_ : Int) : Round name (Wm.D1 name ⟨#[]⟩ 0) [] [] 0 ⟨#[]⟩ [] 0 ss 0 at_ :=
  ⟨⟨by
    unfold Wm.D1 Wm.one Wm.file1
    rw [Wm.nm_list]; rfl, rfl, rfl, by rfl, Nat.le_refl _, (fun _ h => nomatch h), by decide, by decide, (fun _ h => nomatch h), by decide⟩, rfl, .inl (Nat.zero_le _), Nat.le_refl _, Nat.zero_le _, fun _ => rfl⟩
section
variable {name : ByteArray} {D D' : Dm.Disk} {cs cs' : List (List Body)} {bs bs' : List Body} {s s' : Nat} {tail tail' : ByteArray} {put : List Body} {su : Nat} {ss : List ByteArray} {k : Nat} {at_ : Int}
theorem lensTo_step (m : Nat) (ss : List ByteArray) {k : Nat} (hk : k < ss.length) : lensTo m (ss.take k) ≤ lensTo m (ss.take (k + 1)) := by rw [lensTo_take m ss k hk]; omega
theorem Round.skip (h : Round name D cs bs s tail put su ss k at_) (hk : k < ss.length) : Round name D cs bs s tail put su ss (k + 1) at_ :=
  ⟨h.lives, h.all, h.sure, by have := h.num; omega, Nat.le_trans h.sum (lensTo_step _ _ hk), fun e => h.calm (by omega)⟩
theorem Round.next (h : Round name D cs bs s tail put su ss k at_) (hk : k < ss.length) (hx : ss[k].size ≤ 65536) (hl : Lives name D' cs' bs' s' tail') (hall : cs'.flatten ++ bs' = cs.flatten ++ bs ++ [ss[k].data.toList]) (hs : ∀ n, Sure n cs bs s → Sure n cs' bs' s') (hf : D.fuse = 0 → D'.fuse = 0) : Round name D' cs' bs' s' tail' (put ++ [ss[k].data.toList]) su ss (k + 1) at_ :=
  ⟨hl, by rw [hall, h.all], hs _ h.sure, by have := h.num; rw [List.length_append]; show _ + 1 ≤ _; omega, by
    rw [sum_append, lensTo_take _ _ _ hk]
    have := h.sum
    have e := data_len ss[k]
    show _ + (List.length ss[k].data.toList + 0) ≤ _
    omega, fun e => hf (h.calm (by omega))⟩
theorem Round.synced (h : Round name D cs bs s tail put su ss (k + 1) at_) (e : at_ = (k : Int)) (hl : Lives name D' cs bs (fr bs).length ⟨#[]⟩) (n : Int) : Round name (Dm.fuseTo D' n) cs bs (fr bs).length ⟨#[]⟩ put put.length ss (k + 1) at_ :=
  ⟨hl.fuseTo n, h.all, by
    have e2 : put.length = total cs + bs.length := by rw [← h.all, List.length_append, Wm.total_flat]
    rw [e2]; exact Sure.all, h.num, h.sum, fun e3 => by omega⟩
theorem Round.fell (h : Round name D cs bs s tail put su ss k at_) (hz : lensTo 100001 ss ≤ 100000) (hk : k < 41) (x : Body) (hx : x.length ≤ 65536) (hf : Fell name D' cs' bs' s') (hall : cs'.flatten ++ bs' = cs.flatten ++ bs ∨ cs'.flatten ++ bs' = cs.flatten ++ bs ++ [x]) (hs : ∀ n, Sure n cs bs s → Sure n cs' bs' s') : Put name D' cs' bs' s' (put ++ [x]) su := by
  have h1 := h.sum
  have h2 := lensTo_mono 100001 ss k
  have h3 := h.num
  rw [h.all] at hall
  have e2 : (cs'.flatten ++ bs').length = total cs' + bs'.length := by rw [List.length_append, Wm.total_flat]
  refine ⟨hf.files, hf.bounded, hf.synced, hf.ne, ?_, ?_, hf.short, hf.last, hs _ h.sure, ?_⟩
  · rw [← e2]
    rcases hall with e | e
    · rw [e]; omega
    · rw [e, List.length_append]; show _ + 1 ≤ 41; omega
  · rcases hall with e | e
    · rw [e]; omega
    · rw [e, sum_append]; show _ + (x.length + 0) ≤ _; omega
  · rcases hall with e | e
    · rw [e]; exact List.prefix_append _ _
    · rw [e]; exact List.prefix_refl _
theorem sum_prefix {l k : List Body} (h : l <+: k) : (l.map List.length).sum ≤ (k.map List.length).sum := by
  obtain ⟨m, rfl⟩ := h
  rw [sum_append]; omega
end
theorem last_cS {w0 w : World} {a b : Nat} {D : Dm.Disk} {B : List (Nat × Obj)} {W : Wm.W} (h : WalIn w0 w a D b W B) (c : Int) (hc : (W.last : Int) = c) : Calls Tryz.prog 10 #[.pointer (some ⟨b, 0, none⟩)] w fun e w' => e = .returned (.int .i64 c) ∧ w = w' := by
  rw [← hc]; exact last_w h
theorem append_next_any {w0 w : World} {a b : Nat} {B : List (Nat × Obj)} {name : ByteArray} {D D0 : Dm.Disk} {cs : List (List Body)} {bs : List Body} {j s su : Nat} {t : List UInt8} {put : List Body} (h : WalIn w0 w a D b (Wm.Wst (Wm.logOf name) 1 cs (bs.take j) ⟨#[]⟩ ⟨t.toArray⟩) B) (hin : Wm.isName name = true) (hfs : D.files = segs (Wm.logOf name).data.toList 1 cs (bs.take j) t (fr (bs.take j) ++ t).length) (hd : D.down = false) (h0 : D.fuse = 0) (hbd : D.bounded = false)
    (hp : Put name D0 cs bs s put su) (hj : j ≤ bs.length) (ht : t ≠ [] → j < bs.length) (x : ByteArray) (hx : x.size ≤ 10) :
    Calls Tryz.prog 11 #[.pointer (some ⟨b, 0, none⟩), .string x] w fun e w' => e = .returned (.tuple #[.int .i64 (total cs + j + 1 : Nat), .int .i64 0]) ∧ Below w0.heap.size w0 w' := by
  have hlj : (bs.take j).length = j := by rw [List.length_take]; omega
  have hfew := hp.few
  have hpre : cs.flatten ++ bs.take j <+: cs.flatten ++ bs := (List.prefix_append_right_inj _).2 (List.take_prefix _ _)
  have hsum := sum_prefix hpre
  have hby := hp.bytes
  have hlast : (fr ((bs.take j).dropLast)).length ≤ (fr bs.dropLast).length := by
    have h1 : (bs.take j).dropLast <+: bs.dropLast := by
      rw [List.dropLast_eq_take, List.dropLast_eq_take, List.take_take, hlj]
      exact List.take_prefix_take_left (by omega)
    obtain ⟨m, hm⟩ := h1
    rw [← hm]; unfold fr; rw [List.flatMap_append, List.length_append]; omega
  by_cases he : t = []
  · subst he
    rw [List.append_nil] at hfs
    have hL : Lives name D cs (bs.take j) (fr (bs.take j)).length ⟨#[]⟩ := ⟨hfs, hd, hbd, by simp [Wm.suffix], Nat.le_refl _, hp.ne, by rw [hlj]; omega, by omega, fun y hy => hp.short y (hpre.subset hy), by have := hp.last; omega⟩
    rcases append_lives h hL hin x (by omega) (by rw [hlj]; omega) (by omega) with ⟨D', cs', bs', s', tail', -, -, -, -, hc⟩ | ⟨D', cs', bs', s', -, q, -⟩
    · rw [hlj] at hc
      exact hc.mono fun e w' ⟨he, hw⟩ => ⟨he, hw.below⟩
    · exact absurd h0 q
  · have hjl := ht he
    have hfull : (fr (bs.take j)).length < 16384 := by
      have h1 : bs.take j <+: bs.dropLast := by
        rw [List.dropLast_eq_take]
        exact List.take_prefix_take_left (by omega)
      obtain ⟨m, hm⟩ := h1
      have := hp.last
      rw [← hm] at this
      unfold fr at this ⊢
      rw [List.flatMap_append, List.length_append] at this; omega
    have hc := append_torn h hin hfs hd h0 hbd hp.ne (by rw [hlj]; omega) he hfull x (by omega)
    rw [hlj] at hc
    exact hc
theorem numbered_cells : ∀ (l : List Body) (n i : Nat) (h : i < l.length), (recsCells (Wm.numbered n l))[i * 2]? = some (natV (n + i)) ∧ (recsCells (Wm.numbered n l))[i * 2 + 1]? = some (encStr l[i])
  | [], _, _, h => absurd h (Nat.not_lt_zero _)
  | b :: l, n, 0, _ => ⟨rfl, rfl⟩
  | b :: l, n, i + 1, h => by
    have e : recsCells (Wm.numbered n (b :: l)) = natV n :: encStr b :: recsCells (Wm.numbered (n + 1) l) := rfl
    obtain ⟨h1, h2⟩ := numbered_cells l (n + 1) i (by simpa using h)
    rw [e, show (i + 1) * 2 = i * 2 + 1 + 1 by omega]
    refine ⟨?_, ?_⟩
    · show (recsCells (Wm.numbered (n + 1) l))[i * 2]? = _
      rw [h1, show n + 1 + i = n + (i + 1) by omega]
    · show (recsCells (Wm.numbered (n + 1) l))[i * 2 + 1]? = _
      rw [h2]; rfl
theorem rec_at {w : World} {v : Value} {R : List (Nat × Obj)} {l : List Body} {n : Nat} (h : RecIs v R (Wm.numbered n l)) (hb : ∀ p ∈ R, w.heap[p.1]? = some p.2) {i : Nat} (hi : i < l.length) :
    ∃ g cap, v = .slice (some ⟨g, 0, none⟩) l.length cap ∧ l.length ≤ cap ∧ w.cell? ⟨g, i * 2, none⟩ = some (.int .i64 (n + i : Nat)) ∧ w.cell? ⟨g, i * 2 + 1, none⟩ = some (.string ⟨l[i].toArray⟩) := by
  rcases h with ⟨-, e, -⟩ | ⟨g, cap, cur, rfl, rfl, h1, h2, h3, h4⟩
  · have h0 : l.length = 0 := by rw [← Wm.numbered_length l n, e]; rfl
    omega
  · rw [Wm.numbered_length] at h1 h4 ⊢
    obtain ⟨c1, c2⟩ := numbered_cells l n i hi
    refine ⟨g, cap, rfl, h1, ?_, ?_⟩
    · rw [cell_of_row w g _ cur _ _ (hb _ List.mem_cons_self)]
      rw [← h4, List.getElem?_take, if_pos (by omega), Array.getElem?_toList] at c1
      rw [c1]; try rfl
    · rw [cell_of_row w g _ cur _ _ (hb _ List.mem_cons_self)]
      rw [← h4, List.getElem?_take, if_pos (by omega), Array.getElem?_toList] at c2
      rw [c2]; try rfl
set_option maxRecDepth 100000 in
set_option maxHeartbeats 8000000 in
theorem walSynced_any (pa : Option Addr) (ca : Nat) (ss : List ByteArray) (at_ fu : Int) (pk : Option Addr) (ck : Nat) (ks : List Int) (w : World) (hl : TextsAt w pa ss) (hk : IntsAt w pk ks) (hck : ks.length ≤ ck) (hfu : fu ≤ 9223372036854775807) :
    Calls Tryz.prog 5 #[.slice pa ss.length ca, .int .i64 at_, .int .i64 fu, .slice pk ks.length ck] w fun e w' => e = .returned (.bool true) ∧ Below w.heap.size w w' := by
  have hn : Wm.isName ⟨#[108, 111, 103]⟩ = true := (Wm.isName_iff _).2 ⟨by decide, by decide, by decide⟩
  obtain ⟨name, hname⟩ : ∃ n : ByteArray, n = ⟨#[108, 111, 103]⟩ := ⟨_, rfl⟩
  rw [← hname] at hn
  have HN := Lib.hid hn
  have HNAME := Lib.hid hname
  have HT := Lib.hid hl
  have HK := Lib.hid hk
  have HCK := Lib.hid hck
  have HFU := Lib.hid hfu
  clear hn hname hl hk hck hfu
  go_enter Tryz.func5, Tryz.ntmps5
  go_wp2_with fail
  refine (walAwake_any _).mono ?_
  rintro e w1 ⟨rfl, hb1⟩
  have HB1 := Lib.hid hb1
  clear hb1
  go_wp2_with fail
  go_loopw [9, 10] (fun nv iv wr => ∃ k : Nat, k ≤ ss.length ∧ k ≤ 41 ∧ iv = .int .i64 (k : Nat) ∧ nv = .int .i64 (lensTo 100001 (ss.take k) : Nat) ∧ Hid (Below w.heap.size w wr)) (fun _ iv _ => 41 - (intOf iv).toNat)
  case atStart => exact ⟨0, Nat.zero_le _, Nat.zero_le _, rfl, rfl, HB1⟩
  case round =>
    obtain ⟨k, hk, hk41, rfl, rfl, HB⟩ := hrel
    clear HB1
    have hlk := lensTo_le 100001 (ss.take k)
    have hlk2 : (ss.take k).length ≤ k := by simp; omega
    have hlk3 : lensTo 100001 (ss.take k) ≤ 10000000 := by
      have := Nat.mul_le_mul_right 100001 (Nat.le_trans hlk2 hk41); omega
    by_cases hlt : k < ss.length
    · have i1 : (k : Int) < (ss.length : Int) := by omega
      have i2 : (0 : Int) ≤ (k : Int) := by omega
      by_cases hle : k ≤ 40
      · have i3 : (k : Int) ≤ 40 := by omega
        obtain ⟨A, rfl, hA, hc⟩ := HT.out k hlt
        have hc' : wr.cell? (A.add k) = some (.string ss[k]) := (HB.out.cell (by rw [add_block]; exact hA)).trans hc
        have hls := lensTo_take 100001 ss k hlt
        have HLS := Lib.hid hls
        clear hc hls hlk hlk2
        generalize ss[k] = t at *
        generalize lensTo 100001 (ss.take k) = z at *
        go_wp2_with fail
        go_roundw
        case rel => exact ⟨k + 1, by omega, by omega, by go_num, by rw [HLS.out]; congr 1; omega, HB⟩
        case measure => simp [intOf]; omega
      · have i3 : ¬ (k : Int) ≤ 40 := by omega
        have i5 : (40 : Int) < (ss.length : Int) := by omega
        go_wp2_with fail
        go_ret
        exact ⟨rfl, HB.out⟩
    · obtain rfl : k = ss.length := by omega
      have i1 : ¬ (ss.length : Int) < (ss.length : Int) := by omega
      rw [List.take_length] at hlk3 ⊢
      by_cases h40 : 40 < ss.length
      · have i5 : (40 : Int) < (ss.length : Int) := by omega
        go_wp2_with fail
        go_ret
        exact ⟨rfl, HB.out⟩
      · have i5 : ¬ (40 : Int) < (ss.length : Int) := by omega
        by_cases hs : 100000 < lensTo 100001 ss
        · have i6 : (100000 : Int) < (lensTo 100001 ss : Int) := by omega
          generalize lensTo 100001 ss = z at *
          go_wp2_with fail
          go_ret
          exact ⟨rfl, HB.out⟩
        · have i6 : ¬ (100000 : Int) < (lensTo 100001 ss : Int) := by omega
          by_cases hkk : 1000 < ks.length
          · have i7 : (1000 : Int) < (ks.length : Int) := by omega
            generalize lensTo 100001 ss = z at *
            go_wp2_with fail
            go_ret
            exact ⟨rfl, HB.out⟩
          · have i7 : ¬ (1000 : Int) < (ks.length : Int) := by omega
            have HLS : Hid (lensTo 100001 ss ≤ 100000) := Lib.hid (by omega)
            have HLN : Hid (ss.length ≤ 40) := Lib.hid (by omega)
            clear hlk hlk2 hlk3 hk hk41 hlt
            generalize hz : lensTo 100001 ss = z at i6
            clear hz
            go_wp2_with fail
            refine (new_b (w0 := w) HB.out).mono ?_
            rintro e w2 ⟨a, rfl, h2⟩
            have HO := Lib.hid (open_first h2 name HN.out)
            rw [HNAME.out] at HO
            clear h2
            go_wp2_with fail
            refine HO.out.mono ?_
            rintro e w3 ⟨b, v, Rr, rfl, h3, hr3⟩
            rw [← HNAME.out] at h3
            have H3 := Lib.hid (h3.sub (B' := []) (List.nil_sublist _))
            clear HO h3 hr3
            go_wp2_with fail
            go_loopw [15, 16, 17] (fun sv pv iv wr => ∃ (k su : Nat) (D : Dm.Disk) (cs : List (List Body)) (bs : List Body) (s : Nat) (tail : ByteArray) (put : List Body) (p : Option Addr) (c : Nat) (Rp : List (Nat × Obj)), k ≤ ss.length ∧ iv = .int .i64 (k : Nat) ∧ sv = .int .i64 (su : Nat) ∧ pv = .slice p put.length c ∧ Hid (WalIn w wr a D b (Wm.Wst (Wm.logOf name) 1 cs bs tail ⟨#[]⟩) (Rp ++ []) ∧ PutIs (.slice p put.length c) Rp put ∧ Round name D cs bs s tail put su ss k at_)) (fun _ _ iv _ => ss.length - (intOf iv).toNat)
            case atStart => exact ⟨0, 0, _, [], [], 0, ⟨#[]⟩, [], none, 0, [], Nat.zero_le _, rfl, rfl, rfl, Lib.hid ⟨H3.out, .inl ⟨rfl, rfl, rfl⟩, Round.start name ss at_⟩⟩
            case round =>
              obtain ⟨k, su, D, cs, bs, s, tail, put, p, c, Rp, hk, rfl, rfl, rfl, HR⟩ := hrel
              clear H3
              by_cases hlt : k < ss.length
              · have i1 : (k : Int) < (ss.length : Int) := by omega
                have i2 : (0 : Int) ≤ (k : Int) := by omega
                obtain ⟨A, rfl, hA, hc⟩ := HT.out k hlt
                have hc' : wr.cell? (A.add k) = some (.string ss[k]) := (HR.out.1.below.cell (by rw [add_block]; exact hA)).trans hc
                have HC := Lib.hid (And.intro hA hc)
                clear hc hA
                by_cases hbig : 65536 < ss[k].size
                · have hz : ss[k].size ≤ 100000 := lensTo_each (m := 100001) (n := 100000) (by omega) ss HLS.out _ (List.getElem_mem hlt)
                  have hap := Append_long HR.out.1 ss[k] (by unfold maxLen; omega) hbig
                  have hbb : ∀ w9, WalIn w w9 a D b (Wm.Wst (Wm.logOf name) 1 cs bs tail ⟨#[]⟩) (Rp ++ []) → w9.cell? (A.add k) = some (.string ss[k]) := fun w9 g => (g.below.cell (by rw [add_block]; exact HC.out.1)).trans HC.out.2
                  have HBB := Lib.hid hbb
                  have hrs := HR.out.2.2.skip hlt
                  have HRS := Lib.hid (And.intro HR.out.2.1 hrs)
                  have i9 : (65536 : Int) < (ss[k].size : Int) := by omega
                  clear hbb hrs hz hbig
                  generalize ss[k] = x at *
                  go_wp2_with fail
                  refine hap.mono ?_
                  rintro e w9 ⟨rfl, h9⟩
                  have hc9 := HBB.out w9 h9
                  have H9 := Lib.hid h9
                  clear h9 hap hc'
                  go_wp2_with fail
                  go_roundw
                  case rel => exact ⟨k + 1, su, D, cs, bs, s, tail, put, p, c, Rp, by omega, by go_num, rfl, rfl, Lib.hid ⟨H9.out, HRS.out.1, HRS.out.2⟩⟩
                  case measure => simp [intOf]; omega
                · have hx : ss[k].size ≤ 65536 := by omega
                  have hR := HR.out.2.2
                  have hnum := hR.num
                  have hlive := hR.lives
                  have hpl : total cs + bs.length = put.length := by rw [← hR.all, List.length_append, Wm.total_flat]
                  have hsum := hR.sum
                  have hmono := lensTo_mono 100001 ss k
                  have hz := HLS.out
                  have hln := HLN.out
                  have hbb : ∀ w9, Below w.heap.size w w9 → w9.cell? (A.add k) = some (.string ss[k]) := fun w9 g => (g.cell (by rw [add_block]; exact HC.out.1)).trans HC.out.2
                  have HBB := Lib.hid hbb
                  have i9 : ¬ (65536 : Int) < (ss[k].size : Int) := by omega
                  obtain ⟨put2, hput2⟩ : ∃ z, z = put ++ [ss[k].data.toList] := ⟨_, rfl⟩
                  have hp2 : put2.length = put.length + 1 := by rw [hput2, List.length_append]; rfl
                  have HP2 := Lib.hid hp2
                  rcases append_lives HR.out.1 hlive HN.out ss[k] hx (by omega) (by rw [hR.all]; omega) with ⟨D', cs', bs', s', tail', g1, g2, g3, g4, hap⟩ | ⟨D', cs', bs', s', g1, g0, g2, g3, hap⟩
                  · rw [hpl, ← hp2] at hap
                    have hnext := hR.next hlt hx g1 g2 g3 g4
                    rw [← hput2] at hnext
                    have hcalm := hR.calm
                    have hpi := HR.out.2.1
                    have HG := Lib.hid (And.intro hnext (And.intro g1 (And.intro (fun e : (k : Int) ≤ at_ => g4 (hcalm e)) hpi)))
                    have HPT := Lib.hid hput2
                    have HPL : Hid (put.length ≤ 1000000) := Lib.hid (by omega)
                    clear hbb hR hnum hlive hpl hsum hmono hz hln hnext hcalm hpi g1 g2 g3 g4 hput2 hp2 hx hbig HR HC
                    generalize ss[k] = x at *
                    go_wp2_with fail
                    refine hap.mono ?_
                    rintro e w9 ⟨rfl, h9⟩
                    have hc9 := HBB.out w9 h9.below
                    obtain ⟨p3, c3, W3, R3, hrun, h10, h11⟩ := h9.pushT HG.out.2.2.2 x ((Below.refl _ _).alloc (Nat.le_refl _) (.cells #[.string x] 9)) (heap_alloc_new _ _) HPL.out 44
                    rw [← HPT.out] at h11
                    rw [← HP2.out] at hrun h11
                    have H10 := Lib.hid (And.intro h10 h11)
                    clear h9 h10 h11 hap hc'
                    go_wp2_with (at_builtin; refine Lib.wpList_append_run _ rfl (.tmp 105) (.tmp 110) _ _ rfl _ _ rfl rfl _ _ hrun ?_)
                    · have hat : at_ = (k : Int) := (beq_iff_eq.1 (show ((k : Int) == at_) = true by assumption)).symm
                      obtain ⟨D2, q1, q2, hsy⟩ := sync_lives H10.out.1 HG.out.2.1 HN.out (HG.out.2.2.1 (by omega))
                      have HS2 := Lib.hid (HG.out.1.synced hat q1 fu)
                      clear q1 q2 hat
                      refine hsy.mono ?_
                      rintro e w11 ⟨rfl, h11⟩
                      have H11 := Lib.hid (fuse_wi h11 fu HFU.out)
                      clear h11 hsy
                      go_wp2_with fail
                      refine H11.out.mono ?_
                      rintro e w12 ⟨rfl, h12⟩
                      have H12 := Lib.hid h12
                      clear h12 H11
                      go_wp2_with fail
                      refine ⟨⟨k + 1, put2.length, _, cs', bs', _, _, put2, p3, c3, R3, by omega, by go_num, rfl, rfl, Lib.hid ⟨H12.out, H10.out.2, HS2.out⟩⟩, ?_⟩
                      simp [intOf]; omega
                    · refine ⟨⟨k + 1, su, _, cs', bs', _, _, put2, p3, c3, R3, by omega, by go_num, rfl, rfl, Lib.hid ⟨H10.out.1, H10.out.2, HG.out.1⟩⟩, ?_⟩
                      simp [intOf]; omega
                  · have hfell := hR.fell hz (by omega) ss[k].data.toList (by rw [data_len]; exact hx) g1 g2 g3
                    rw [← hput2] at hfell
                    have HG := Lib.hid (And.intro hfell (And.intro g1.down HR.out.2.1))
                    have HPT := Lib.hid hput2
                    have HPL : Hid (put.length ≤ 1000000) := Lib.hid (by omega)
                    clear hbb hR hnum hlive hpl hsum hmono hz hln hfell g0 g1 g2 g3 hput2 hp2 hx hbig HR HC
                    generalize ss[k] = x at *
                    go_wp2_with fail
                    refine hap.mono ?_
                    rintro e w9 ⟨rfl, h9⟩
                    have H9 := Lib.hid h9
                    clear h9 hap hc'
                    go_wp2_with fail
                    refine (down_b H9.out HG.out.2.1).mono ?_
                    rintro e w10 ⟨rfl, rfl⟩
                    have hc9 := HBB.out w9 H9.out.below
                    obtain ⟨p3, c3, W3, R3, hrun, h10, h11⟩ := PutIs.push H9.out HG.out.2.2 x ((Below.refl _ _).alloc (Nat.le_refl _) (.cells #[.string x] 9)) (heap_alloc_new _ _) HPL.out 44
                    rw [← HPT.out] at h11
                    rw [← HP2.out] at hrun h11
                    rw [List.append_nil] at h10
                    have HX := Lib.hid (show Bx w W3 a D' R3 ∧ PutIs (.slice p3 put2.length c3) R3 put2 ∧ Put name D' cs' bs' s' put2 su from ⟨h10, h11, HG.out.1⟩)
                    clear h10 h11 HG H9
                    go_wp2_with (at_builtin; refine Lib.wpList_append_run _ rfl (.tmp 98) (.tmp 103) _ _ rfl _ _ rfl rfl _ _ hrun ?_)
                    clear hrun hc9
                    refine (crash_b HX.out.1 pk ck ks HCK.out (fun S hS => HK.out.ints HX.out.1.below S hS)).mono ?_
                    rintro e w5 ⟨rfl, h5⟩
                    have H5 := Lib.hid (start_b h5)
                    clear h5
                    go_wp2_with fail
                    refine H5.out.mono ?_
                    rintro e w6 ⟨rfl, h6⟩
                    obtain ⟨j, t, j1, j2, j3, j4, j5, j6, j7, j8⟩ := off_on HX.out.2.2.files HX.out.2.2.bounded HX.out.2.2.synced (fun x hx => HX.out.2.2.short x (List.mem_append_right _ hx)) ks
                    have hsu := j8 _ HX.out.2.2.sure
                    have hfew := HX.out.2.2.few
                    have hshort := HX.out.2.2.short
                    have hlj : (bs'.take j).length = j := by rw [List.length_take]; omega
                    have hO := open_segs (name := name) h6 HN.out h6.right j3 j4 j2 HX.out.2.2.ne (fun x hx y hy => hshort y (List.mem_append_left _ (List.mem_flatten.2 ⟨x, hx, hy⟩))) (fun x hx => hshort x (List.mem_append_right _ (List.mem_of_mem_take hx))) j6 (by rw [hlj]; omega)
                    rw [HNAME.out] at hO
                    have HO := Lib.hid hO
                    have HJ := Lib.hid (show j ≤ bs'.length ∧ (Dm.start (Dm.crash D' ks)).files = segs (Wm.logOf name).data.toList 1 cs' (bs'.take j) t (fr (bs'.take j) ++ t).length ∧ (Dm.start (Dm.crash D' ks)).down = false ∧ (Dm.start (Dm.crash D' ks)).fuse = 0 ∧ (Dm.start (Dm.crash D' ks)).bounded = false ∧ Wm.NoFrame t ∧ (t ≠ [] → j < bs'.length) ∧ (bs'.take j).length = j from ⟨j1, j2, j3, j4, j5, j6, j7, hlj⟩)
                    obtain ⟨q, hq⟩ : ∃ q, q = cs'.flatten ++ bs'.take j := ⟨_, rfl⟩
                    have hql : q.length = total cs' + j := by rw [hq, List.length_append, hlj, Wm.total_flat]
                    have hqp : q <+: put2 := List.IsPrefix.trans (by rw [hq]; exact (List.prefix_append_right_inj _).2 (List.take_prefix _ _)) HX.out.2.2.begins
                    have HQP := Lib.hid hqp
                    have HQ := Lib.hid (And.intro hq hql)
                    have m1 : ¬ (q.length : Int) < (su : Int) := by omega
                    have m2 : ¬ (put2.length : Int) < (q.length : Int) := by have := hqp.length_le; omega
                    clear h6 H5 j1 j2 j3 j4 j5 j6 j7 j8 hsu hfew hshort hlj hO hq hql hqp
                    go_wp2_with fail
                    refine HO.out.mono ?_
                    rintro e w7 ⟨b5, v5, R5, rfl, h7, hr7⟩
                    obtain ⟨p5, c5, rfl, -⟩ := hr7.shape
                    rw [← HQ.out.1] at hr7
                    rw [← HQ.out.1, Wm.numbered_length]
                    rw [Wm.numbered_length] at hr7
                    rw [← HNAME.out] at h7
                    have H7 := Lib.hid (And.intro h7 hr7)
                    clear h7 hr7 HO
                    go_wp2_with fail
                    go_loopw [22] (fun iv wq => ∃ i : Nat, i ≤ q.length ∧ iv = .int .i64 (i : Nat) ∧ Hid (WalIn w wq a (Dm.start (Dm.crash D' ks)) b5 (Wm.Wst (Wm.logOf name) 1 cs' (bs'.take j) ⟨#[]⟩ ⟨t.toArray⟩) (R5 ++ R3))) (fun iv _ => q.length - (intOf iv).toNat)
                    case atStart => exact ⟨0, Nat.zero_le _, rfl, Lib.hid H7.out.1⟩
                    case round =>
                      obtain ⟨i, hi, rfl, HW⟩ := hrel
                      by_cases hlt3 : i < q.length
                      · have n1 : (i : Int) < (q.length : Int) := by omega
                        have n2 : (0 : Int) ≤ (i : Int) := by omega
                        have n3 : (i : Int) < (put2.length : Int) := by omega
                        obtain ⟨g5, cap5, ev5, hcap5, y0, y1⟩ := rec_at H7.out.2 (w := wr) (fun p hp => HW.out.box p (List.mem_append_left _ hp)) hlt3
                        obtain ⟨g6, cap6, ev6, z0⟩ := HX.out.2.1.at (w := wr) (fun p hp => HW.out.box p (List.mem_append_right _ hp)) (i := i) (by omega)
                        cases ev5
                        cases ev6
                        have heq : put2[i]'(by omega) = q[i] := (List.IsPrefix.getElem HQP.out hlt3).symm
                        rw [heq] at z0
                        have k1 : ((1 + i : Nat) : Int) = (i : Int) + 1 := by omega
                        rw [k1] at y0
                        have n4 : (q.length : Int) ≤ (c5 : Int) := by omega
                        have k2 : IntKind.i64.wrap ((i : Int) + 1) = (i : Int) + 1 := IntWalk.i64_in _ (by have := HQ.out.2; have := HX.out.2.2.few; have := HJ.out.1; omega)
                        have HWD := Lib.hid (fun n => HW.out.same (below_drewN (Below.refl _ wr) n))
                        clear heq k1 hcap5
                        generalize (⟨q[i].toArray⟩ : ByteArray) = x at *
                        go_wp2_with fail
                        go_quiet (fail)
                        go_wp2_with fail
                        go_roundw
                        case rel => exact ⟨i + 1, by omega, by go_num, Lib.hid (HWD.out _)⟩
                        case measure => simp [intOf]; omega
                      · obtain rfl : i = q.length := by omega
                        have n1 : ¬ (q.length : Int) < (q.length : Int) := by omega
                        go_wp2_with fail
                        refine (crash_b0 HW.out.disk).mono ?_
                        rintro e w8 ⟨rfl, h8⟩
                        have H8 := Lib.hid (start_b h8)
                        clear h8
                        go_wp2_with fail
                        refine H8.out.mono ?_
                        rintro e w9 ⟨rfl, h9⟩
                        have hfl : (Dm.start (Dm.crash (Dm.start (Dm.crash D' ks)) [])).files = segs (Wm.logOf name).data.toList 1 cs' (bs'.take j) t (fr (bs'.take j) ++ t).length := by
                          rw [off_on_still (by rw [HJ.out.2.1]; exact Wm.segs_synced _ _ _ _ _) [], HJ.out.2.1]
                        have hlj2 := HJ.out.2.2.2.2.2.2.2
                        have hfew2 := HX.out.2.2.few
                        have hO2 := open_segs (name := name) h9 HN.out h9.right rfl rfl hfl HX.out.2.2.ne (fun x hx y hy => HX.out.2.2.short y (List.mem_append_left _ (List.mem_flatten.2 ⟨x, hx, hy⟩))) (fun x hx => HX.out.2.2.short x (List.mem_append_right _ (List.mem_of_mem_take hx))) HJ.out.2.2.2.2.2.1 (by rw [hlj2]; have := HJ.out.1; omega)
                        rw [HNAME.out] at hO2
                        have HO2 := Lib.hid hO2
                        have HFL := Lib.hid hfl
                        clear h9 H8 hfl hO2 hlj2 hfew2
                        go_wp2_with fail
                        refine HO2.out.mono ?_
                        rintro e w10 ⟨b6, v6, R6, rfl, h10, hr10⟩
                        obtain ⟨p6, c6, rfl, -⟩ := hr10.shape
                        rw [← HQ.out.1, Wm.numbered_length]
                        rw [← HNAME.out] at h10
                        have hA := append_next_any h10 HN.out HFL.out rfl rfl HJ.out.2.2.2.2.1 HX.out.2.2 HJ.out.1 HJ.out.2.2.2.2.2.2.1 ⟨#[110, 101, 120, 116]⟩ (by decide)
                        have H10 := Lib.hid h10
                        have HA := Lib.hid hA
                        have hla : ((Wm.Wst (Wm.logOf name) 1 cs' (bs'.take j) ⟨#[]⟩ ⟨t.toArray⟩).last : Int) = (q.length : Int) := by
                          show ((1 + total cs' - 1 + (bs'.take j).length : Nat) : Int) = _
                          rw [HJ.out.2.2.2.2.2.2.2, HQ.out.2]; omega
                        have HLA := Lib.hid (last_cS h10 _ hla)
                        have o1 : IntKind.i64.wrap ((q.length : Int) + 1) = (q.length : Int) + 1 := IntWalk.i64_in _ (by have := HQ.out.2; have := HX.out.2.2.few; have := HJ.out.1; omega)
                        have o2 : ((total cs' + j + 1 : Nat) : Int) = (q.length : Int) + 1 := by rw [HQ.out.2]; omega
                        rw [o2] at HA
                        clear h10 hr10 hA hla HO2 o2
                        go_wp2_with fail
                        refine HLA.out.mono ?_
                        rintro e w11 ⟨rfl, rfl⟩
                        go_wp2_with fail
                        refine HA.out.mono ?_
                        rintro e w12 ⟨rfl, hb12⟩
                        go_wp2_with fail
                        go_ret
                        exact ⟨rfl, hb12⟩
              · obtain rfl : k = ss.length := by omega
                have i1 : ¬ (ss.length : Int) < (ss.length : Int) := by omega
                have HX := Lib.hid (show Bx w wr a D Rp ∧ PutIs (.slice p put.length c) Rp put ∧ Put name D cs bs s put su from ⟨by have := HR.out.1.disk; rwa [List.append_nil] at this, HR.out.2.1, HR.out.2.2.put HLS.out (by have := HLN.out; omega)⟩)
                clear HR hlt hk
                go_wp2_with fail
                refine (crash_b HX.out.1 pk ck ks HCK.out (fun S hS => HK.out.ints HX.out.1.below S hS)).mono ?_
                rintro e w5 ⟨rfl, h5⟩
                have H5 := Lib.hid (start_b h5)
                clear h5
                go_wp2_with fail
                refine H5.out.mono ?_
                rintro e w6 ⟨rfl, h6⟩
                obtain ⟨j, t, j1, j2, j3, j4, j5, j6, j7, j8⟩ := off_on HX.out.2.2.files HX.out.2.2.bounded HX.out.2.2.synced (fun x hx => HX.out.2.2.short x (List.mem_append_right _ hx)) ks
                have hsu := j8 _ HX.out.2.2.sure
                have hfew := HX.out.2.2.few
                have hshort := HX.out.2.2.short
                have hlj : (bs.take j).length = j := by rw [List.length_take]; omega
                have hO := open_segs (name := name) h6 HN.out h6.right j3 j4 j2 HX.out.2.2.ne (fun x hx y hy => hshort y (List.mem_append_left _ (List.mem_flatten.2 ⟨x, hx, hy⟩))) (fun x hx => hshort x (List.mem_append_right _ (List.mem_of_mem_take hx))) j6 (by rw [hlj]; omega)
                rw [HNAME.out] at hO
                have HO := Lib.hid hO
                have HJ := Lib.hid (show j ≤ bs.length ∧ (Dm.start (Dm.crash D ks)).files = segs (Wm.logOf name).data.toList 1 cs (bs.take j) t (fr (bs.take j) ++ t).length ∧ (Dm.start (Dm.crash D ks)).down = false ∧ (Dm.start (Dm.crash D ks)).fuse = 0 ∧ (Dm.start (Dm.crash D ks)).bounded = false ∧ Wm.NoFrame t ∧ (t ≠ [] → j < bs.length) ∧ (bs.take j).length = j from ⟨j1, j2, j3, j4, j5, j6, j7, hlj⟩)
                obtain ⟨q, hq⟩ : ∃ q, q = cs.flatten ++ bs.take j := ⟨_, rfl⟩
                have hql : q.length = total cs + j := by rw [hq, List.length_append, hlj, Wm.total_flat]
                have hqp : q <+: put := List.IsPrefix.trans (by rw [hq]; exact (List.prefix_append_right_inj _).2 (List.take_prefix _ _)) HX.out.2.2.begins
                have HQP := Lib.hid hqp
                have HQ := Lib.hid (And.intro hq hql)
                have m1 : ¬ (q.length : Int) < (su : Int) := by omega
                have m2 : ¬ (put.length : Int) < (q.length : Int) := by have := hqp.length_le; omega
                clear h6 H5 j1 j2 j3 j4 j5 j6 j7 j8 hsu hfew hshort hlj hO hq hql hqp
                go_wp2_with fail
                refine HO.out.mono ?_
                rintro e w7 ⟨b5, v5, R5, rfl, h7, hr7⟩
                obtain ⟨p5, c5, rfl, -⟩ := hr7.shape
                rw [← HQ.out.1] at hr7
                rw [← HQ.out.1, Wm.numbered_length]
                rw [Wm.numbered_length] at hr7
                rw [← HNAME.out] at h7
                have H7 := Lib.hid (And.intro h7 hr7)
                clear h7 hr7 HO
                go_wp2_with fail
                go_loopw [22] (fun iv wq => ∃ i : Nat, i ≤ q.length ∧ iv = .int .i64 (i : Nat) ∧ Hid (WalIn w wq a (Dm.start (Dm.crash D ks)) b5 (Wm.Wst (Wm.logOf name) 1 cs (bs.take j) ⟨#[]⟩ ⟨t.toArray⟩) (R5 ++ Rp))) (fun iv _ => q.length - (intOf iv).toNat)
                case atStart => exact ⟨0, Nat.zero_le _, rfl, Lib.hid H7.out.1⟩
                case round =>
                  obtain ⟨i, hi, rfl, HW⟩ := hrel
                  by_cases hlt3 : i < q.length
                  · have n1 : (i : Int) < (q.length : Int) := by omega
                    have n2 : (0 : Int) ≤ (i : Int) := by omega
                    have n3 : (i : Int) < (put.length : Int) := by omega
                    obtain ⟨g5, cap5, ev5, hcap5, y0, y1⟩ := rec_at H7.out.2 (w := wr) (fun p hp => HW.out.box p (List.mem_append_left _ hp)) hlt3
                    obtain ⟨g6, cap6, ev6, z0⟩ := HX.out.2.1.at (w := wr) (fun p hp => HW.out.box p (List.mem_append_right _ hp)) (i := i) (by omega)
                    cases ev5
                    cases ev6
                    have heq : put[i]'(by omega) = q[i] := (List.IsPrefix.getElem HQP.out hlt3).symm
                    rw [heq] at z0
                    have k1 : ((1 + i : Nat) : Int) = (i : Int) + 1 := by omega
                    rw [k1] at y0
                    have n4 : (q.length : Int) ≤ (c5 : Int) := by omega
                    have k2 : IntKind.i64.wrap ((i : Int) + 1) = (i : Int) + 1 := IntWalk.i64_in _ (by have := HQ.out.2; have := HX.out.2.2.few; have := HJ.out.1; omega)
                    have HWD := Lib.hid (fun n => HW.out.same (below_drewN (Below.refl _ wr) n))
                    clear heq k1 hcap5
                    generalize (⟨q[i].toArray⟩ : ByteArray) = x at *
                    go_wp2_with fail
                    go_quiet (fail)
                    go_wp2_with fail
                    go_roundw
                    case rel => exact ⟨i + 1, by omega, by go_num, Lib.hid (HWD.out _)⟩
                    case measure => simp [intOf]; omega
                  · obtain rfl : i = q.length := by omega
                    have n1 : ¬ (q.length : Int) < (q.length : Int) := by omega
                    go_wp2_with fail
                    refine (crash_b0 HW.out.disk).mono ?_
                    rintro e w8 ⟨rfl, h8⟩
                    have H8 := Lib.hid (start_b h8)
                    clear h8
                    go_wp2_with fail
                    refine H8.out.mono ?_
                    rintro e w9 ⟨rfl, h9⟩
                    have hfl : (Dm.start (Dm.crash (Dm.start (Dm.crash D ks)) [])).files = segs (Wm.logOf name).data.toList 1 cs (bs.take j) t (fr (bs.take j) ++ t).length := by
                      rw [off_on_still (by rw [HJ.out.2.1]; exact Wm.segs_synced _ _ _ _ _) [], HJ.out.2.1]
                    have hlj2 := HJ.out.2.2.2.2.2.2.2
                    have hfew2 := HX.out.2.2.few
                    have hO2 := open_segs (name := name) h9 HN.out h9.right rfl rfl hfl HX.out.2.2.ne (fun x hx y hy => HX.out.2.2.short y (List.mem_append_left _ (List.mem_flatten.2 ⟨x, hx, hy⟩))) (fun x hx => HX.out.2.2.short x (List.mem_append_right _ (List.mem_of_mem_take hx))) HJ.out.2.2.2.2.2.1 (by rw [hlj2]; have := HJ.out.1; omega)
                    rw [HNAME.out] at hO2
                    have HO2 := Lib.hid hO2
                    have HFL := Lib.hid hfl
                    clear h9 H8 hfl hO2 hlj2 hfew2
                    go_wp2_with fail
                    refine HO2.out.mono ?_
                    rintro e w10 ⟨b6, v6, R6, rfl, h10, hr10⟩
                    obtain ⟨p6, c6, rfl, -⟩ := hr10.shape
                    rw [← HQ.out.1, Wm.numbered_length]
                    rw [← HNAME.out] at h10
                    have hA := append_next_any h10 HN.out HFL.out rfl rfl HJ.out.2.2.2.2.1 HX.out.2.2 HJ.out.1 HJ.out.2.2.2.2.2.2.1 ⟨#[110, 101, 120, 116]⟩ (by decide)
                    have H10 := Lib.hid h10
                    have HA := Lib.hid hA
                    have hla : ((Wm.Wst (Wm.logOf name) 1 cs (bs.take j) ⟨#[]⟩ ⟨t.toArray⟩).last : Int) = (q.length : Int) := by
                      show ((1 + total cs - 1 + (bs.take j).length : Nat) : Int) = _
                      rw [HJ.out.2.2.2.2.2.2.2, HQ.out.2]; omega
                    have HLA := Lib.hid (last_cS h10 _ hla)
                    have o1 : IntKind.i64.wrap ((q.length : Int) + 1) = (q.length : Int) + 1 := IntWalk.i64_in _ (by have := HQ.out.2; have := HX.out.2.2.few; have := HJ.out.1; omega)
                    have o2 : ((total cs + j + 1 : Nat) : Int) = (q.length : Int) + 1 := by rw [HQ.out.2]; omega
                    rw [o2] at HA
                    clear h10 hr10 hA hla HO2 o2
                    go_wp2_with fail
                    refine HLA.out.mono ?_
                    rintro e w11 ⟨rfl, rfl⟩
                    go_wp2_with fail
                    refine HA.out.mono ?_
                    rintro e w12 ⟨rfl, hb12⟩
                    go_wp2_with fail
                    go_ret
                    exact ⟨rfl, hb12⟩
end Go.Proofs.YtoecbkndbcblpaaGreatDoor
namespace Go.Proofs.YtoecbkndbcblpaaGreatDoor
open Go.ChangeShapes Go.WideShapes Go.ChangeAt Go.RowKit
open Go.ChangeMaps (open_string shut_string)

theorem cell_block {W : World} {a : Addr} {v : Value} (h : W.cell? a = some v) : a.block < W.heap.size := by
  unfold World.cell? at h
  cases hq : W.heap[a.block]? with
  | none => rw [hq] at h; cases h
  | some o => exact (Array.getElem?_eq_some_iff.1 hq).1

set_option maxRecDepth 100000 in
theorem open_texts {H : Type} {enc : TypeId × Value → H} {W : World} {base : Nat} {v : Value} {d : DataW H} {ps : List MemPlace} (hval : Value.okWide Tryz.prog W .any base 44 v) (h : DataW.Trod enc Tryz.prog W 0 (fun _ => true) true 44 v d ps) :
    ∃ (p : Option Addr) (cap : Nat) (ss : List ByteArray), v = .slice p ss.length cap ∧ TextsAt W p ss := by
  obtain ⟨a0, len, cap, rfl⟩ := okWide_slice Tryz.underlying44 hval
  obtain ⟨fuel, hf⟩ := h
  rcases open_strings Tryz.underlying44 Tryz.underlying9 (by kernel_rfl) hf with ⟨hcs, -⟩ | ⟨a, len', cap', ss, hcs, -, hl, -, hz, -, hcell, -⟩
  · simp [Value.cells] at hcs
    obtain ⟨rfl, rfl, rfl⟩ := hcs
    exact ⟨none, 0, [], rfl, fun i hi => by cases hi⟩
  · simp [Value.cells] at hcs
    obtain ⟨rfl, rfl, rfl⟩ := hcs
    rw [if_pos rfl] at hz
    have e : (ss.take len).length = len := by rw [List.length_take]; omega
    refine ⟨some a, cap, ss.take len, by rw [e], fun i hi => ?_⟩
    have h1 := hcell i (by omega)
    have h2 := cell_block h1
    rw [add_block] at h2
    refine ⟨a, rfl, h2, h1.trans ?_⟩
    rw [List.getElem_take, List.getD_eq_getElem?_getD, List.getElem?_eq_getElem (by omega)]
    rfl
theorem wf_le {x : Int} (h : (Lit.int .i64 x).wf = true) : -9223372036854775808 ≤ x ∧ x ≤ 9223372036854775807 := by
  simp [Lit.wf, IntKind.min, IntKind.max, IntKind.signed, IntKind.bits] at h; omega
set_option maxRecDepth 100000 in
theorem open_intsAt {H : Type} {enc : TypeId × Value → H} {W : World} {base : Nat} {v : Value} {d : DataW H} {ps : List MemPlace} (hval : Value.okWide Tryz.prog W .any base 41 v) (h : DataW.Trod enc Tryz.prog W 0 (fun _ => true) true 41 v d ps) :
    ∃ (p : Option Addr) (cap : Nat) (ks : List Int), v = .slice p ks.length cap ∧ ks.length ≤ cap ∧ IntsAt W p ks := by
  obtain ⟨a0, len, cap, rfl⟩ := okWide_slice Tryz.underlying41 hval
  obtain ⟨fuel, hf⟩ := h
  rcases open_ints Tryz.underlying41 Tryz.underlying3 (by kernel_rfl) hf with ⟨e, -⟩ | ⟨a, len', cap', zs, e, -, hlc, hc, hz, -, hcell, hw⟩
  · obtain h0 := List.head_eq_of_cons_eq e
    obtain ⟨rfl, rfl, rfl⟩ := Value.slice.inj h0
    exact ⟨none, 0, [], rfl, Nat.le_refl _, fun i hi => nomatch hi⟩
  · obtain h0 := List.head_eq_of_cons_eq e
    obtain ⟨rfl, rfl, rfl⟩ := Value.slice.inj h0
    rw [if_pos rfl] at hz
    have e : (zs.take len).length = len := by rw [List.length_take]; omega
    refine ⟨some a, cap, zs.take len, by rw [e], by omega, fun i hi => ?_⟩
    rw [e] at hi
    have hiz : i < zs.length := by omega
    have h1 := hcell i hiz
    have h2 : (a.add i).block < W.heap.size := World.block_lt_of_cell? W _ h1
    rw [add_block] at h2
    have hg : zs.getD i 0 = zs[i] := by rw [List.getD_eq_getElem?_getD, List.getElem?_eq_getElem hiz]; rfl
    refine ⟨a, rfl, h2, ?_⟩
    rw [h1, hg]; simp
set_option maxRecDepth 100000 in
theorem walSynced_lifted (os : Os) (started : os.Started) (H : Type) (enc : TypeId × Value → H) :
    ReturnsInHanded {} Tryz.checked os 5 .any (fun w args => (Rows.walSyncedSpec.pre enc Tryz.prog Tryz.f5 [] false w args ∧ laidMetH Tryz.prog Rows.walSyncedRow.laid w) ∧ sizedMet enc Tryz.prog Tryz.f5 (OpenSpec.ofChange Rows.walSyncedSpec) false w args)
      (Rows.walSyncedSpec.post enc Tryz.prog Tryz.f5 false true false false) := by
  refine returnsInHanded_of_change_and (C := Tryz.checked) (X := fun w _ => laidMetH Tryz.prog Rows.walSyncedRow.laid w) (fun _ _ _ hh h => h.of_heap hh) own started (by kernel_rfl) Tryz.func5
    (ChangeSpec.witness_shaped (enc := enc) (C := Tryz.checked) (os := os) (X := fun w _ => laidMetH Tryz.prog Rows.walSyncedRow.laid w) false (World.laidAll Tryz.prog os Rows.walSyncedRow.laid) #[.slice none 0 0, .int .i64 0, .int .i64 0, .slice none 0 0] 8 (World.laidAll_os _ _ _)
      (World.shaped_of_ZipB (by kernel_rfl) (by kernel_rfl)) (by kernel_rfl) (by kernel_rfl) (by kernel_rfl)
      (by rw [MakeChecks.laidMetH_plain _ _ _ (by kernel_rfl)]; exact laidMet_laidAll _ (by kernel_rfl) (by kernel_rfl))) ?_
  intro W base args ds gs before hval0 hW _ _ _ _
  have hval : ∀ (j : Nat) t v, Tryz.f5.params[j]? = some t → args[j]? = some v → Value.okWide Tryz.prog W .any base t v := hval0
  have hW' := hW
  obtain ⟨p, q, hA0, hV, rfl, hfz, hnd⟩ := hW
  have hA : DataW.TrodAll enc Tryz.prog W 0 (fun _ => true) true Tryz.f5.params.toList args.toList ds p := hA0
  rw [Tryz.params5] at hA hval
  obtain ⟨v0, vs0, d0, ds0, p0, q0, hargs, rfl, rfl, h0, r0⟩ := trodAll_cons hA
  obtain ⟨v1, vs1, d1, ds1, p1, q1, rfl, rfl, rfl, h1, r1⟩ := trodAll_cons r0
  obtain ⟨v2, vs2, d2, ds2, p2, q2, rfl, rfl, rfl, h2, r2⟩ := trodAll_cons r1
  obtain ⟨v3, vs3, d3, ds3, p3, q3, rfl, rfl, rfl, h3, r3⟩ := trodAll_cons r2
  obtain ⟨rfl, rfl, rfl⟩ := trodAll_nil r3
  obtain rfl : args = #[v0, v1, v2, v3] := by cases args; simp_all
  obtain ⟨rfl, rfl⟩ := trodVars_none hV
  obtain ⟨pa0, ca0, m0, rfl, hl0⟩ := open_texts (hval 0 44 v0 rfl rfl) h0
  obtain ⟨m1, rfl, rfl, rfl, wf1⟩ := open_int Tryz.underlying3 (hval 1 3 v1 rfl rfl) h1
  obtain ⟨m2, rfl, rfl, rfl, wf2⟩ := open_int Tryz.underlying3 (hval 2 3 v2 rfl rfl) h2
  obtain ⟨pa3, ca3, m3, rfl, hc3, hl3⟩ := open_intsAt (hval 3 41 v3 rfl rfl) h3
  clear hA0 hval0
  refine (walSynced_any pa0 ca0 m0 m1 m2 pa3 ca3 m3 W hl0 hl3 hc3 (by have := wf_le wf2; omega)).mono fun e W' ⟨he, hb⟩ => ?_
  exact ⟨_, he, law_post hW' rfl (by kernel_rfl) rfl rfl hb⟩

theorem walSynced_holds : Rows.WalSyncedSaid :=
  OpenClaim.holds_of_wide 5 Tryz.f5 rfl rfl rfl rfl rfl rfl rfl ⟨rfl, rfl, rfl, rfl, rfl⟩ rfl rfl rfl rfl rfl (by kernel_rfl) Tryz.func5 (by kernel_rfl)
    (of_decide_eq_true (by kernel_rfl)) (by unfold Func.isWrapper; first | (rw [if_pos (by decide +kernel)]; kernel_rfl) | (rw [if_neg (by decide +kernel)]; exact ⟨rfl, rfl⟩))
    (fun os started H enc _ => walSynced_lifted os started H enc)
/-- THE CARD. -/
theorem walSynced_card : Rows.WalSyncedCardSaid :=
  Claim7.holds_tied_plain_at .later [] [.data, .data, .data, .data, .sentinel, .sentinel, .pinned] true (true, "13d47d7c3c5517ad4345e6e2bce0f9a263130bdfdb80ece8ac14669d67e50369") true walSynced_holds (fun _ h => by cases h) (by kernel_rfl) (fun _ h => by cases h) walSynced_row_tie rfl ⟨rfl, rfl⟩ (by kernel_rfl) rfl
    (fun f fn hf hfn => by
      obtain rfl : f = 5 := Option.some.inj ((show Tryz.prog.funcNamed "redress/redresslaw04.WalSynced" = some 5 by kernel_rfl).symm.trans hf) |>.symm
      obtain rfl : fn = Tryz.f5 := (Option.some.inj (Tryz.func5.symm.trans hfn)).symm
      exact ⟨by kernel_rfl, fun j t ht => by
        rw [Tryz.params5] at ht
        have hm : t ∈ ([44, 3, 3, 41] : List Nat) := by
          have h2 := Array.mem_of_getElem? ht
          simpa using h2
        have hall : (([44, 3, 3, 41] : List Nat).all fun u => !Tryz.prog.wantsStandIn u) = true := by kernel_rfl
        exact (show Tryz.prog.wantsStandIn t = false by simpa using List.all_eq_true.1 hall t hm)⟩)
    (by kernel_rfl)
end Go.Proofs.YtoecbkndbcblpaaGreatDoor
