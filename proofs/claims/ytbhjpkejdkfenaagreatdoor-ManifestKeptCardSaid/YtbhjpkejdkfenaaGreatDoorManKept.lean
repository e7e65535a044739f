/-
  A manifest on a disk beside a file of another name: opened, changed, wherever the power goes. Conditions: those in the theorems.
-/
import Derived.Test.YtbhjpkejdkfenaaGreatDoorManKeptMath
import Derived.Test.YtbhjpkejdkfenaaGreatDoorManLaid
set_option linter.unusedSimpArgs false
set_option linter.unusedVariables false
namespace Go.Proofs.YtbhjpkejdkfenaaGreatDoor
open Go.RowKit Go.Shelf
open Mf (File State Edit)
/-- What main keeps: the text of a state; none, that of a new manifest. -/
def KdIs (m : Option (List UInt8)) (t : ByteArray) (s : State) : Prop := Mf.Right s ∧ ((m = some t.data.toList ∧ t = textS s) ∨ (m = none ∧ t = ⟨#[]⟩ ∧ s = ⟨1, 0, []⟩))
theorem KdIs.keeps {m : Option (List UInt8)} {t : ByteArray} {s : State} (h : KdIs m t s) : Keeps t s := ⟨h.1, by
  rcases h.2 with ⟨-, e⟩ | ⟨-, e, e2⟩
  · exact .inl e
  · exact .inr ⟨e, e2⟩⟩
theorem KdIs.bytes {m : Option (List UInt8)} {t : ByteArray} {s : State} (h : KdIs m t s) : t.data.toList = m.getD [] := by
  rcases h.2 with ⟨e, -⟩ | ⟨e, rfl, -⟩ <;> rw [e] <;> rfl
theorem KdIs.new : KdIs none ⟨#[]⟩ ⟨1, 0, []⟩ := ⟨right_new, .inr ⟨rfl, rfl, rfl⟩⟩
theorem KdIs.text {s : State} (h : Mf.Right s) : KdIs (some (textS s).data.toList) (textS s) s := ⟨h, .inl ⟨rfl, rfl⟩⟩
section
variable {w0 w : World} {a b : Nat} {D D' : Dm.Disk} {B : List (Nat × Obj)} {t : ByteArray} {dead : Bool} {m : Option (List UInt8)} {s : State}
/-- It is opened: the spare file goes. -/
theorem open_kd {x : Option Dm.File} (h : Bx w0 w a (kd false 0 m x) B) (hk : KdIs m t s) (hs : SpeltS w0 s) : Calls Tryz.prog 13 #[.pointer (some ⟨a, 0, none⟩)] w fun e w' => ∃ b, e = .returned (.tuple #[.pointer (some ⟨b, 0, none⟩), .int .i64 0]) ∧ Bx w0 w' a (kd false 0 m none) ((b, manO a t false) :: B) := by
  obtain ⟨nx, lg, l⟩ := s
  have hr := kd_read 0 m x
  have hf := kd_few false 0 m x
  refine (manOpen_ok (t := t) h rfl (fun w1 b h1 => ?_) (kd_settle m x)).mono ?_
  · rcases hk.2 with ⟨rfl, rfl⟩ | ⟨rfl, rfl, e⟩
    · exact find_some h1 (kd_tame _ _ _ _) (by omega) hk.1 (hs.on h1.below) hr
    · exact find_none h1 (kd_tame _ _ _ _) (by omega) hr
  · rintro e w' ⟨h1, -⟩
    exact h1 rfl
/-- A Commit. -/
theorem Commit_kd {q r : Option Addr} {capd capa fu : Nat} {add : List File} {ds : List Int} {enx elg : Int} (h : Bx w0 w a (kd false fu m none) ((b, manO a t false) :: B)) (hk : KdIs m t s)
    (hd : IntsM w q ds) (ha : FilesAt w r add) (hdn : ds.length ≤ 1000) (han : add.length ≤ 1000) (i3 : I64 enx) (i4 : I64 elg) {o : Nat × State} (ho : Mf.apply s ⟨ds, add, enx, elg⟩ = o) (hsp : o.1 = 0 → SpeltS w o.2) :
    Calls Tryz.prog 17 #[.pointer (some ⟨b, 0, none⟩), edV q ds.length capd r add.length capa enx elg] w fun e w' => ∃ c : Nat, e = .returned (.int .i64 (c : Nat)) ∧
      ((o.1 ≠ 0 ∧ c = o.1 ∧ Bx w0 w' a (kd false fu m none) ((b, manO a t false) :: B)) ∨
       (o.1 = 0 ∧ c = 0 ∧ KdIs (some (textS o.2).data.toList) (textS o.2) o.2 ∧ ∃ fu', (fu = 0 → fu' = 0) ∧ Bx w0 w' a (kd false fu' (some (textS o.2).data.toList) none) ((b, manO a (textS o.2) false) :: B)) ∨
       (o.1 = 0 ∧ c = 7 ∧ fu ≠ 0 ∧ ∃ x, Bx w0 w' a (kd true 0 m x) ((b, manO a t true) :: B))) := by
  obtain ⟨nx, lg, l⟩ := s
  refine (Commit_b (capd := capd) (capa := capa) h hk.keeps (kd_lost fu m none t hk.bytes) hd ha hdn han i3 i4 ho hsp).mono ?_
  rintro e w' ⟨c, rfl, h1, h2⟩
  refine ⟨c, rfl, ?_⟩
  by_cases h0 : o.1 = 0
  · obtain ⟨D', z, hw, hb⟩ := h2 h0
    have hR : Mf.Right o.2 := by rw [← ho] at h0 ⊢; exact (Mf.apply_ok_perm h0).2.1
    rcases kd_keep (text_short hR) hw with ⟨rfl, rfl, fu', rfl, hf⟩ | ⟨rfl, rfl, hf, x, rfl⟩
    · exact .inr (.inl ⟨h0, rfl, KdIs.text hR, fu', hf, by simpa using hb⟩)
    · exact .inr (.inr ⟨h0, rfl, hf, x, by simpa using hb⟩)
  · obtain ⟨h3, h4⟩ := h1 h0
    exact .inl ⟨h0, h3, h4⟩
/-- A new block becomes a box. -/
theorem Bx.add {w' : World} {g : Nat} {o : Obj} (h : Bx w0 w a D B) (hb : Below w.heap.size w w') (hg : w.heap.size ≤ g) (ho : w'.heap[g]? = some o) : Bx w0 w' a D ((g, o) :: B) := by
  have h' := h.same hb
  obtain ⟨S, h1, h2, h3⟩ := h.ex
  refine ⟨⟨S, h1.below_ hb, fun k hk => ⟨(h2 k hk).1, Nat.lt_of_lt_of_le (h2 k hk).2 hb.size⟩, fun p hp => ?_⟩, fun p hp => ?_, ?_, fun p hp => ?_, h'.below⟩
  · rcases List.mem_cons.1 hp with rfl | hp
    · exact fun e => by have := (h2 _ e).2; simp only at this; omega
    · exact h3 p hp
  · rcases List.mem_cons.1 hp with rfl | hp
    · exact ho
    · exact h'.box p hp
  · rw [List.map_cons]
    refine List.nodup_cons.2 ⟨fun e => ?_, h.apart⟩
    obtain ⟨p, hp, e⟩ := List.mem_map.1 e
    have := h.lt p hp
    simp only at e; omega
  · rcases List.mem_cons.1 hp with rfl | hp
    · exact Nat.le_trans h.below.size hg
    · exact h.new p hp
/-- A row of tables as a box of its own; none has none. -/
def RowIs (p : Option Addr) (R : List (Nat × Obj)) (l : List File) : Prop := (l = [] ∧ R = []) ∨ ∃ g cur, p = some ⟨g, 0, none⟩ ∧ R = [(g, .cells cur 29 (0, 0))] ∧ l.length * 5 ≤ cur.size ∧ cur.toList.take (l.length * 5) = fisCells l
theorem RowIs.files {W : World} {p : Option Addr} {R : List (Nat × Obj)} {l : List File} (h : RowIs p R l) (hb : ∀ x ∈ R, W.heap[x.1]? = some x.2) (hf : ∀ f ∈ l, FiIn f) : FilesAt W p l := by
  rcases h with ⟨rfl, -⟩ | ⟨g, cur, rfl, rfl, hs, ht⟩
  · exact FilesAt.nil _ _
  · have h1 := hb _ List.mem_cons_self
    simp only at h1
    refine fun i hi => ⟨_, rfl, (Array.getElem?_eq_some_iff.1 h1).1, fun j hj => ?_, hf _ (List.getElem_mem hi)⟩
    have hadd : (⟨g, 0, none⟩ : Addr).add (i * 5 + j) = ⟨g, i * 5 + j, none⟩ := by unfold Addr.add; split <;> simp_all
    rw [hadd, cell_of_row W g _ cur _ _ h1, ← fisCells_get hi hj, ← ht, List.getElem?_take, if_pos (by omega)]; simp
/-- A row that a call made becomes a box. -/
theorem Bx.rowIs {w' : World} {p : Option Addr} {n cap : Nat} {l : List File} (h : Bx w0 w a D B) (hb : Below w.heap.size w w') (ho : OwnFis w' w.heap.size (.slice p n cap) l) (hn : n = l.length) : ∃ R, RowIs p R l ∧ Bx w0 w' a D (R ++ B) := by
  rcases ho.2 with ⟨e, h1⟩ | ⟨g, cap', cur, e, h1, h2, h3, h4, h5, h6⟩
  · refine ⟨[], .inl ⟨List.eq_nil_of_length_eq_zero (by omega), rfl⟩, h.same hb⟩
  · cases e
    exact ⟨[(g, .cells cur 29 (0, 0))], .inr ⟨g, cur, rfl, rfl, by omega, h6⟩, h.add hb h1 h2⟩
/-- What it tells, kept. -/
theorem State_kd {nx lg : Int} {l : List File} (h : Bx w0 w a D ((b, manO a t dead) :: B)) (hk : KdIs m t ⟨nx, lg, l⟩) :
    Calls Tryz.prog 18 #[.pointer (some ⟨b, 0, none⟩)] w fun e w' => ∃ pv cv R, e = .returned (.agg #[.int .i64 nx, .int .i64 lg, .slice pv l.length cv]) ∧ Hid (RowIs pv R l) ∧ Hid (l.length ≤ cv ∧ cv ≤ maxLen) ∧ Bx w0 w' a D ((b, manO a t dead) :: (R ++ B)) := by
  refine (State_b h.man hk.keeps).mono ?_
  rintro e w' ⟨v, rfl, ho, hb⟩
  obtain ⟨pv, cv, rfl, h1, h2⟩ := ho.shape
  obtain ⟨R, hR, hB⟩ := h.rowIs hb ho rfl
  refine ⟨pv, cv, R, rfl, Lib.hid hR, Lib.hid ⟨h1, h2⟩, hB.perm ?_⟩
  exact (List.perm_middle (l₁ := R) (l₂ := B) (a := (b, manO a t dead))).symm
/-- What it tells, for looking. -/
theorem State_look {nx lg : Int} {l : List File} (h : w.heap[b]? = some (manO a t dead)) (hk : KdIs m t ⟨nx, lg, l⟩) :
    Calls Tryz.prog 18 #[.pointer (some ⟨b, 0, none⟩)] w fun e w' => ∃ pv cv, e = .returned (.agg #[.int .i64 nx, .int .i64 lg, .slice pv l.length cv]) ∧ Hid (FilesAt w' pv l) ∧ Hid (l.length ≤ cv ∧ cv ≤ maxLen) ∧ Below w.heap.size w w' := by
  refine (State_b h hk.keeps).mono ?_
  rintro e w' ⟨v, rfl, ho, hb⟩
  obtain ⟨pv, cv, rfl, h1, h2, hf⟩ := ho.files (right_fi hk.1)
  exact ⟨pv, cv, rfl, Lib.hid hf, Lib.hid ⟨h1, h2⟩, hb⟩
/-- The power goes, tails are cut. -/
theorem crash_kd {p : Option Addr} {cap : Nat} {ks : List Int} {W0 : World} (h : Bx w0 w a D B) (hcap : ks.length ≤ cap) (hk : IntsM W0 p ks) (hb : Below W0.heap.size W0 w) (hz : W0.heap.size ≤ w0.heap.size) :
    Calls Tryz.prog 15 #[.pointer (some ⟨a, 0, none⟩), .slice p ks.length cap] w fun e w' => e = .returned (.tuple #[]) ∧ Bx w0 w' a (Dm.crash D ks) B :=
  crash_b h p cap ks hcap fun S hS i hi => by
    obtain ⟨A, h1, h2, h3, h4⟩ := hk i hi
    exact ⟨A, h1, fun e => by have := hS _ e; omega, Nat.lt_of_lt_of_le h2 hb.size, (hb.cell (by rw [madd_block]; exact h2)).trans h3⟩
end
/-! ### for the law's drawn regions -/
theorem ed_boxk {w W W' : World} {q r : Option Addr} {nd cd na ca : Nat} {nx lg : Int} (hW : W = w.alloc (.cells #[.slice q nd cd, .slice r na ca, .int .i64 nx, .int .i64 lg] 33)) (h : Below W.heap.size W W') :
    W'.cell? ⟨w.heap.size, 0, none⟩ = some (.slice q nd cd) ∧ W'.cell? ⟨w.heap.size, 1, none⟩ = some (.slice r na ca) ∧ W'.cell? ⟨w.heap.size, 2, none⟩ = some (.int .i64 nx) ∧ W'.cell? ⟨w.heap.size, 3, none⟩ = some (.int .i64 lg) := by
  subst hW
  exact ed_cells ((h.block _ (by simp)).trans (heap_alloc_new w _))
theorem take_tok (d : Option Nat) {P : Program} {md : Region.Mode} {ops : Array Oper} {Q : Exit → Act → World → Prop} {S : World → Prop} {i : Nat} {oi : Oper} {v : Value} {fuel : Nat} {listed : Array Bool} {a : Act} {w : World} (hi : ops[i]? = some oi) (hd : oi.dst = d)
    (hs : Region.noSelect ops = true) (hf : Region.free md ops listed i = true) (hr : (Region.ready md ops listed).contains i = true)
    (hQ : ∀ c a w, Q (.panic c) (a.put oi.dst v) w → Q (.panic c) a w) (hy : YieldsIf P ops S oi v a) (hS : S w)
    (h : wpAnyH P md ops Q S fuel (listed.setIfInBounds i true) (a.put d v) w) : wpAnyH P md ops Q S (fuel + 1) listed a w := by
  subst hd
  exact wpAnyH_take hi hs hf hr hQ hy hS h
theorem applyK {w : World} {p q r : Option Addr} {cap cd ca : Nat} {l add : List File} {ds : List Int} {nx lg enx elg : Int} (hl : FilesAt w p l) (hc : l.length ≤ cap ∧ cap ≤ maxLen) (hd : IntsM w q ds) (ha : FilesAt w r add)
    (hn : l.length ≤ 1000) (hdn : ds.length ≤ 1000) (han : add.length ≤ 1000) (i1 : I64 nx) (i2 : I64 lg) (i3 : I64 enx) (i4 : I64 elg) {c : Nat} {nx' lg' : Int} {l' : List File} (ho : Mf.apply ⟨nx, lg, l⟩ ⟨ds, add, enx, elg⟩ = (c, ⟨nx', lg', l'⟩)) :
    Calls Tryz.prog 8 #[.agg #[.int .i64 nx, .int .i64 lg, .slice p l.length cap], .agg #[.slice q ds.length cd, .slice r add.length ca, .int .i64 enx, .int .i64 elg]] w fun e w' =>
      ∃ pw cw, e = .returned (.tuple #[.agg #[.int .i64 nx', .int .i64 lg', .slice pw l'.length cw], .int .i64 (c : Nat)]) ∧ Hid (l'.length ≤ cw ∧ cw ≤ maxLen) ∧ OwnFis w' w.heap.size (.slice pw l'.length cw) l' ∧ Below w.heap.size w w' := by
  refine (Apply_any hl hc.1 hc.2 hd ha hn hdn han i1 i2 i3 i4).mono ?_
  rintro e w' ⟨v, rfl, hown, hb⟩
  rw [ho] at hown ⊢
  obtain ⟨pw, cw, rfl, h1, h2⟩ := hown.shape
  exact ⟨pw, cw, rfl, Lib.hid ⟨h1, h2⟩, hown, hb⟩
/-- A state is put into its own block; the row of its tables lies elsewhere. -/
theorem stored_k {B : Nat} {w W : World} {zb base n cw : Nat} {nx lg : Int} {pw : Option Addr} {xs : List File} (hz : W.heap[zb]? = some (stO 0 0 none 0 0)) (ho : OwnFis W base (.slice pw n cw) xs) (hB : B ≤ zb) (hb : Below B w W) :
    (((W.setCell ⟨zb, 0, none⟩ (.int .i64 nx)).setCell ⟨zb, 1, none⟩ (.int .i64 lg)).setCell ⟨zb, 2, none⟩ (.slice pw n cw)).heap[zb]? = some (stO nx lg pw n cw) ∧
      OwnFis (((W.setCell ⟨zb, 0, none⟩ (.int .i64 nx)).setCell ⟨zb, 1, none⟩ (.int .i64 lg)).setCell ⟨zb, 2, none⟩ (.slice pw n cw)) 0 (.slice pw n cw) xs ∧
      Below B w (((W.setCell ⟨zb, 0, none⟩ (.int .i64 nx)).setCell ⟨zb, 1, none⟩ (.int .i64 lg)).setCell ⟨zb, 2, none⟩ (.slice pw n cw)) := by
  refine ⟨st_set hz, (ho.stays fun j _ hj => ?_).mono (Nat.zero_le _), st_below hb hB⟩
  have hne : j ≠ zb := fun e => own_ne ho hz (by rw [hj, e])
  exact (Below.heap_setCell _ _ _ _ hne).trans ((Below.heap_setCell _ _ _ _ hne).trans (Below.heap_setCell _ _ _ _ hne))
end Go.Proofs.YtbhjpkejdkfenaaGreatDoor
