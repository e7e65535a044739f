/-
  Walks over the document's answer for declarations: Schema. Conditions: those in the theorems.
-/
import Derived.Test.YtnkdhmoocomjfaaGreatDoorBIdlRefE
import Derived.Test.YtnkdhmoocomjfaaGreatDoorIdlBase
import Derived.Deep.Cut
set_option linter.unusedSimpArgs false
set_option linter.unusedVariables false
namespace Ip
theorem declareW_indep (s t : Sch) (w : ByteArray) (r : R) : (declareW s w r).2 = (declareW t w r).2 := by
  unfold declareW
  split
  · rfl
  · split
    · rfl
    · split
      · rfl
      · split <;> rfl
theorem declsF_indep : ∀ (n : Nat) (s t : Sch) (r : R), (declsF n s r).2 = (declsF n t r).2
  | 0, s, t, r => rfl
  | n + 1, s, t, r => by
    rw [declsF_t, declsF_t]
    split
    · rfl
    · have h : (declare s r).2 = (declare t r).2 := by unfold declare; rw [bind_eq, bind_eq]; exact declareW_indep s t _ _
      rw [h]; exact declsF_indep n _ _ _
theorem decls_indep (s t : Sch) (r : R) : (decls s r).2 = (decls t r).2 := declsF_indep _ s t r
end Ip
namespace Go.Proofs.YtnkdhmoocomjfaaGreatDoor
open Go.RowKit

theorem push_rec {w W : World} {c : Nat} {s : Ip.Sch} {vr vs vg : Value} (hs : SchIn W w.heap.size c s vr vs vg) (hB : Below w.heap.size w W) (x : Ip.Rcd) (t : Value) (ht : kRcd.sub W w.heap.size t x) (hn : s.records.length + 1 ≤ 1000000) :
    ∃ (pv : Option Addr) (cv : Nat) (V : World), (Builtin.append_ #[22, 22] 22 #[vr, .slice (some ⟨W.heap.size, 0, none⟩) 1 1]).run Tryz.prog (W.alloc (.cells (kRcd.cells x t).toArray 34)) = .ok (.slice pv (s.records.length + 1) cv) V ∧ V.heap[c]? = W.heap[c]? ∧
      SchIn (V.setCell ⟨c, 1, none⟩ (.slice pv (s.records.length + 1) cv)) w.heap.size c { s with records := s.records ++ [x] } (.slice pv (s.records.length + 1) cv) vs vg ∧ Below w.heap.size w V ∧ (∀ (k : Nat) (cs : Array Value), W.heap[k]? = some (Obj.cells cs 26 (0, 0)) → V.heap[k]? = W.heap[k]?) := by
  obtain ⟨pv, cv, V, hrun, hR, hBV, hbl⟩ := append_ref okRcd hs.recs hB x t ht hn 22
  have hx := block_apart hs.recs hbl hs.blk (by show (34 : Nat) ≠ 26; decide)
  refine ⟨pv, cv, V, hrun, hx, sch_set _ _ (hx.trans hs.blk) rfl hR (row_apart okSrv hs.srvs hs.recs hbl (by show ¬ ((34 : Nat) = 98 ∨ (34 : Nat) = 100); decide)) (row_apart okSga hs.sgas hs.recs hbl (by show ¬ ((34 : Nat) = 44 ∨ (34 : Nat) = 48); decide)), hBV, fun k cs hk => block_apart hs.recs hbl hk (by show (34 : Nat) ≠ 26; decide)⟩
theorem push_srv {w W : World} {c : Nat} {s : Ip.Sch} {vr vs vg : Value} (hs : SchIn W w.heap.size c s vr vs vg) (hB : Below w.heap.size w W) (x : Ip.Srv) (t : Value) (ht : kSrv.sub W w.heap.size t x) (hn : s.services.length + 1 ≤ 1000000) :
    ∃ (pv : Option Addr) (cv : Nat) (V : World), (Builtin.append_ #[23, 23] 23 #[vs, .slice (some ⟨W.heap.size, 0, none⟩) 1 1]).run Tryz.prog (W.alloc (.cells (kSrv.cells x t).toArray 98)) = .ok (.slice pv (s.services.length + 1) cv) V ∧ V.heap[c]? = W.heap[c]? ∧
      SchIn (V.setCell ⟨c, 2, none⟩ (.slice pv (s.services.length + 1) cv)) w.heap.size c { s with services := s.services ++ [x] } vr (.slice pv (s.services.length + 1) cv) vg ∧ Below w.heap.size w V ∧ (∀ (k : Nat) (cs : Array Value), W.heap[k]? = some (Obj.cells cs 26 (0, 0)) → V.heap[k]? = W.heap[k]?) := by
  obtain ⟨pv, cv, V, hrun, hR, hBV, hbl⟩ := append_ref okSrv hs.srvs hB x t ht hn 23
  have hx := block_apart hs.srvs hbl hs.blk (by show (98 : Nat) ≠ 26; decide)
  refine ⟨pv, cv, V, hrun, hx, sch_set _ _ (hx.trans hs.blk) rfl (row_apart okRcd hs.recs hs.srvs hbl (by show ¬ ((98 : Nat) = 34 ∨ ((98 : Nat) = 39 ∨ (98 : Nat) = 41)); decide)) hR (row_apart okSga hs.sgas hs.srvs hbl (by show ¬ ((98 : Nat) = 44 ∨ (98 : Nat) = 48); decide)), hBV, fun k cs hk => block_apart hs.srvs hbl hk (by show (98 : Nat) ≠ 26; decide)⟩
theorem push_sga {w W : World} {c : Nat} {s : Ip.Sch} {vr vs vg : Value} (hs : SchIn W w.heap.size c s vr vs vg) (hB : Below w.heap.size w W) (x : Ip.Sga) (t : Value) (ht : kSga.sub W w.heap.size t x) (hn : s.sagas.length + 1 ≤ 1000000) :
    ∃ (pv : Option Addr) (cv : Nat) (V : World), (Builtin.append_ #[24, 24] 24 #[vg, .slice (some ⟨W.heap.size, 0, none⟩) 1 1]).run Tryz.prog (W.alloc (.cells (kSga.cells x t).toArray 44)) = .ok (.slice pv (s.sagas.length + 1) cv) V ∧ V.heap[c]? = W.heap[c]? ∧
      SchIn (V.setCell ⟨c, 3, none⟩ (.slice pv (s.sagas.length + 1) cv)) w.heap.size c { s with sagas := s.sagas ++ [x] } vr vs (.slice pv (s.sagas.length + 1) cv) ∧ Below w.heap.size w V ∧ (∀ (k : Nat) (cs : Array Value), W.heap[k]? = some (Obj.cells cs 26 (0, 0)) → V.heap[k]? = W.heap[k]?) := by
  obtain ⟨pv, cv, V, hrun, hR, hBV, hbl⟩ := append_ref okSga hs.sgas hB x t ht hn 24
  have hx := block_apart hs.sgas hbl hs.blk (by show (44 : Nat) ≠ 26; decide)
  refine ⟨pv, cv, V, hrun, hx, sch_set _ _ (hx.trans hs.blk) rfl (row_apart okRcd hs.recs hs.sgas hbl (by show ¬ ((44 : Nat) = 34 ∨ ((44 : Nat) = 39 ∨ (44 : Nat) = 41)); decide)) (row_apart okSrv hs.srvs hs.sgas hbl (by show ¬ ((44 : Nat) = 98 ∨ (44 : Nat) = 100); decide)) hR, hBV, fun k cs hk => block_apart hs.sgas hbl hk (by show (44 : Nat) ≠ 26; decide)⟩
/-- Behind some declarations; what was told is the same if all goes well. -/
def RunW (r : Ip.R) (s : Ip.Sch) (rk : Ip.R) : Prop := (Ip.schema r).2 = (Ip.decls s rk).2 ∧ ((Ip.decls s rk).2.stuck = false → (Ip.schema r).1 = (Ip.decls s rk).1) ∧ total s + rk.left.length + (if rk.stuck then 0 else 1) ≤ 65537
theorem runW_goes {r rk : Ip.R} {s s1 s2 : Ip.Sch} {r2 : Ip.R} (h : RunW r s rk) (he : Ip.ends rk = false) (hd : Ip.declare s rk = (s2, r2)) (hs : r2.stuck = false → s1 = s2) (ht : total s1 ≤ total s + 1) : RunW r s1 r2 ∧ (r2.stuck = true ∨ r2.left.length < rk.left.length) := by
  obtain ⟨h1, h2, h3⟩ := h
  rw [Ip.decls_eq s rk, he] at h1 h2
  simp only [Bool.false_eq_true, if_false] at h1 h2
  rw [hd] at h1 h2
  have hst := Ip.not_ends he
  have hl : r2.left.length ≤ rk.left.length := by have := (Ip.nice_declare s).len rk; rw [hd] at this; exact this
  have hk : r2.stuck = true ∨ r2.left.length < rk.left.length := by have := Ip.takes_declare s rk hst; rw [hd] at this; exact this
  rw [hst] at h3
  simp only [Bool.false_eq_true, if_false] at h3
  refine ⟨⟨by rw [h1]; exact Ip.decls_indep s2 s1 r2, fun hu => ?_, ?_⟩, hk⟩
  · have hu2 : (Ip.decls s2 r2).2.stuck = false := by rw [Ip.decls_indep s2 s1 r2]; exact hu
    have hr : r2.stuck = false := by
      cases hr : r2.stuck with
      | false => rfl
      | true => unfold Ip.decls at hu; rw [Ip.declsF_end (Ip.ends_stuck hr)] at hu; rw [hr] at hu; cases hu
    rw [h2 hu2, hs hr]
  · rcases hk with e | e
    · rw [e]; simp only [if_true]; omega
    · split <;> omega
theorem runW_ends {r rk : Ip.R} {s : Ip.Sch} (h : RunW r s rk) (he : Ip.ends rk = true) : (Ip.schema r).2 = rk ∧ (rk.stuck = false → (Ip.schema r).1 = s) := by
  obtain ⟨h1, h2, -⟩ := h
  rw [Ip.decls_eq s rk, he] at h1 h2
  simp only [if_true] at h1 h2
  exact ⟨h1, h2⟩
theorem runW_fell {r rk : Ip.R} {s : Ip.Sch} (h : RunW r s rk) (he : Ip.ends rk = false) (hd : (Ip.declare s rk).2.stuck = true) : (Ip.schema r).2 = (Ip.declare s rk).2 := by
  obtain ⟨h1, -, -⟩ := h
  rw [Ip.decls_eq s rk, he] at h1
  simp only [Bool.false_eq_true, if_false] at h1
  rw [h1]
  unfold Ip.decls
  rw [Ip.declsF_end (Ip.ends_stuck hd)]
def mpl (n : Nat) (i : Int) : Nat := if i < 0 then 0 else n + 1 - i.toNat
def mplace (n : Nat) (v : Value) : Nat := mpl n (intOf v)
theorem mplace_less {l : List Tk.Token} {k : Nat} {r2 : Ip.R} {i : Int} (hk : k < l.length) (ha : Ip.AtR l r2 i) (h : r2.stuck = true ∨ r2.left.length < (l.drop k).length) : mplace l.length (.int .i64 i) < mplace l.length (.int .i64 (k : Nat)) := by
  show mpl l.length i < mpl l.length ((k : Nat) : Int)
  have e1 : mpl l.length ((k : Nat) : Int) = l.length + 1 - k := by unfold mpl; rw [if_neg (by omega)]; omega
  rw [e1]
  cases hs : r2.stuck with
  | true =>
    have e2 : mpl l.length i = 0 := by unfold mpl; rw [if_pos (Ip.at_neg ha hs)]
    rw [e2]; omega
  | false =>
    obtain ⟨j, hj, e, rfl⟩ := Ip.at_go ha hs
    have e2 : mpl l.length ((j : Nat) : Int) = l.length + 1 - j := by unfold mpl; rw [if_neg (by omega)]; omega
    rw [e2]
    rcases h with h | h
    · rw [hs] at h; cases h
    · rw [e] at h
      simp only [List.length_drop] at h
      omega
theorem ends_at {l : List Tk.Token} {k : Nat} (hr : ∀ t ∈ l, Tk.wrong t = false) (hk : k < l.length) : Ip.ends ⟨l.drop k, false⟩ = false := by
  rw [List.drop_eq_getElem_cons hk]
  exact Ip.eqB_no (Ip.right_text (hr _ (List.getElem_mem hk)))
theorem ends_off {l : List Tk.Token} {k : Nat} (hk : l.length ≤ k) : Ip.ends ⟨l.drop k, false⟩ = true := by
  rw [List.drop_of_length_le hk]; decide
theorem refSchema_res {W : World} {tmps : Array Value} {b : Nat} {x0 x1 x2 x3 x : Value} (h2 : tmps[2]? = some (.pointer (some ⟨b, 0, none⟩))) (h3 : tmps[3]? = some x) (h : W.heap[b]? = some (.cells #[x0, x1, x2, x3] 26 (0, 0))) :
    (results Tryz.f109 tmps).run Tryz.prog W = .ok (.tuple #[.agg #[x0, x1, x2, x3], x]) W := by
  obtain ⟨c0, c1, c2, c3⟩ := cells4 h
  simp [results, Tryz.results109, h2, h3, go_sem, c0, c1, c2, c3]
/-- What the document's answer tells of a schema. -/
def RefSch (l : List Tk.Token) (x : Ip.Sch × Ip.R) (w : World) (e : Ending) (w' : World) : Prop := ∃ v i' X, e = .returned (.tuple #[v, .int .i64 i']) ∧ SchV w' w.heap.size v X ∧ (x.2.stuck = false → X = x.1) ∧ Ip.AtR l x.2 i' ∧ Below w.heap.size w w'
theorem below_set4 {w W : World} {x : Nat} (h : Below w.heap.size w W) (hx : w.heap.size ≤ x) (a b c d : Value) : Below w.heap.size w ((((W.setCell ⟨x, 0, none⟩ a).setCell ⟨x, 1, none⟩ b).setCell ⟨x, 2, none⟩ c).setCell ⟨x, 3, none⟩ d) := below_four h hx
set_option maxRecDepth 100000 in
set_option maxHeartbeats 32000000 in
theorem refSchema_any {w : World} {p : Option Addr} {cap : Nat} {l : List Tk.Token} (h : Toks w p l) :
    Calls Tryz.prog 109 #[.slice p l.length cap] w (RefSch l (Ip.schema ⟨l, false⟩) w) := by
  have hfew := h.few
  have HH := Lib.hid h
  obtain ⟨⟨n1, r1⟩, e1⟩ : ∃ y, Ip.one [Ip.kModule] ⟨l, false⟩ = y := ⟨_, rfl⟩
  have H1 := Lib.hid (fun W (hW : Below w.heap.size w W) => refStep_any (cap := cap) Ip.kModule Ip.pModule (h.below hW) (Ip.at_start l))
  rw [e1] at H1
  unfold Ip.kModule at H1
  obtain ⟨⟨n2, r2⟩, e2⟩ : ∃ y, Ip.name r1 = y := ⟨_, rfl⟩
  have H2 := Lib.hid (fun W (hW : Below w.heap.size w W) i (ha : Ip.AtR l r1 i) => refName_any (cap := cap) (h.below hW) ha)
  rw [e2] at H2
  obtain ⟨⟨n3, r3⟩, e3⟩ : ∃ y, Ip.one [Ip.sSemi] r2 = y := ⟨_, rfl⟩
  have H3 := Lib.hid (fun W (hW : Below w.heap.size w W) i (ha : Ip.AtR l r2 i) => refStep_any (cap := cap) Ip.sSemi Ip.pSemi (h.below hW) ha)
  rw [e3] at H3
  unfold Ip.sSemi at H3
  have HR : Hid (RunW ⟨l, false⟩ ⟨n2, [], [], []⟩ r3) := Lib.hid (by
    have e : Ip.schema ⟨l, false⟩ = Ip.decls ⟨n2, [], [], []⟩ r3 := by rw [Ip.schema_eq]; unfold Ip.head; simp only [Ip.bind_eq, Ip.ret_eq, e1, e2, e3]
    have h1 := (Ip.nice_one [Ip.kModule]).len ⟨l, false⟩
    have h2 := Ip.nice_name.len r1
    have h3 := (Ip.nice_one [Ip.sSemi]).len r2
    rw [e1] at h1; rw [e2] at h2; rw [e3] at h3
    simp only at h1 h2 h3
    refine ⟨by rw [e], fun _ => by rw [e], ?_⟩
    unfold total
    simp only [List.length_nil]
    split <;> omega)
  have HN := Lib.hid (fun W (hW : Below w.heap.size w W) (r : Ip.R) i (ha : Ip.AtR l r i) => refName_any (cap := cap) (h.below hW) ha)
  have HBr := Lib.hid (fun W (hW : Below w.heap.size w W) (r : Ip.R) i (ha : Ip.AtR l r i) => refBracket_any (cap := cap) (h.below hW) ha)
  have HT := Lib.hid (fun W (hW : Below w.heap.size w W) (r : Ip.R) i (ha : Ip.AtR l r i) => refText_any (cap := cap) (h.below hW) ha)
  have HF := Lib.hid (fun W (hW : Below w.heap.size w W) (r : Ip.R) i (ha : Ip.AtR l r i) => refFields_any (cap := cap) (h.below hW) ha)
  have HMm := Lib.hid (fun W (hW : Below w.heap.size w W) (r : Ip.R) i (ha : Ip.AtR l r i) => refMethods_any (cap := cap) (h.below hW) ha)
  have HSt := Lib.hid (fun W (hW : Below w.heap.size w W) (r : Ip.R) i (ha : Ip.AtR l r i) => refSteps_any (cap := cap) (h.below hW) ha)
  clear h e1 e2 e3
  go_enter Tryz.func109, Tryz.ntmps109
  go_upto_region 2 with fail
  obtain ⟨W0, hW0⟩ : ∃ W0, W0 = (w.alloc (.cells #[.string ⟨#[]⟩, .slice none 0 0, .slice none 0 0, .slice none 0 0] 26)).alloc (.cells #[.string ⟨#[]⟩, .slice none 0 0, .slice none 0 0, .slice none 0 0] 26) := ⟨_, rfl⟩
  have hb0 : Below w.heap.size w W0 := by rw [hW0]; exact (tk_alloc w _).trans ((tk_alloc _ _).mono (by rw [World.size_alloc]; omega))
  have hz0 : W0.heap[w.heap.size]? = some (.cells #[.string ⟨#[]⟩, .slice none 0 0, .slice none 0 0, .slice none 0 0] 26 (0, 0)) := by
    rw [hW0]
    exact ((tk_alloc (w.alloc _) _).block _ (by rw [World.size_alloc]; omega)).trans (heap_alloc_new w _)
  have hn0 : W0.heap[w.heap.size + 1]? = some (.cells #[.string ⟨#[]⟩, .slice none 0 0, .slice none 0 0, .slice none 0 0] 26 (0, 0)) := by
    rw [hW0]
    have := heap_alloc_new (w.alloc (.cells #[.string ⟨#[]⟩, .slice none 0 0, .slice none 0 0, .slice none 0 0] 26)) (.cells #[.string ⟨#[]⟩, .slice none 0 0, .slice none 0 0, .slice none 0 0] 26)
    rw [World.size_alloc] at this; exact this
  have HB0 := Lib.hid hb0
  have HZ0 := Lib.hid hz0
  have HN0 := Lib.hid hn0
  rw [← hW0]
  clear hW0 hb0 hz0 hn0
  go_wp2_with fail
  refine (H1.out _ HB0.out).mono ?_
  rintro e w' ⟨i1, rfl, ha1, hw⟩
  obtain rfl := hw
  have HA1 := Lib.hid ha1
  clear ha1
  go_wp2_with fail
  refine (H2.out _ HB0.out _ HA1.out).mono ?_
  rintro e w' ⟨i2, rfl, ha2, hw⟩
  obtain rfl := hw
  have HA2 := Lib.hid ha2
  have hn := HN0.out
  obtain ⟨x0, x1, x2, x3⟩ := cells4 hn
  have f := frozen2 hn 0
  clear ha2 hn
  go_upto_region 4 with fail
  obtain ⟨W1, hW⟩ : ∃ W, W = W0.setCell ⟨w.heap.size + 1, 0, none⟩ (.string n2) := ⟨_, rfl⟩
  have HN1 : Hid (W1.heap[w.heap.size + 1]? = some (.cells #[.string n2, .slice none 0 0, .slice none 0 0, .slice none 0 0] 26 (0, 0))) := Lib.hid (by rw [hW]; exact tk_set HN0.out _)
  have HZ1 : Hid (W1.heap[w.heap.size]? = some (.cells #[.string ⟨#[]⟩, .slice none 0 0, .slice none 0 0, .slice none 0 0] 26 (0, 0))) := Lib.hid (by rw [hW]; exact (Below.heap_setCell _ _ _ _ (by show w.heap.size ≠ w.heap.size + 1; omega)).trans HZ0.out)
  have HB1 : Hid (Below w.heap.size w W1) := Lib.hid (by rw [hW]; exact HB0.out.setCell (Nat.le_succ _) _)
  rw [← hW]
  clear hW x0 x1 x2 x3 f
  go_wp2_with fail
  refine (H3.out _ HB1.out _ HA2.out).mono ?_
  rintro e w' ⟨i3, rfl, ha3, hw⟩
  obtain rfl := hw
  have HA3 := Lib.hid ha3
  clear ha3
  go_wp2_with fail
  go_loopw [5] (fun iv wr => ∃ (s : Ip.Sch) (rk : Ip.R) (j : Int), iv = .int .i64 j ∧ Hid (Ip.AtR l rk j) ∧ Hid (∃ vr vs vg, SchIn wr w.heap.size (w.heap.size + 1) s vr vs vg) ∧ Hid (wr.heap[w.heap.size]? = some (.cells #[.string ⟨#[]⟩, .slice none 0 0, .slice none 0 0, .slice none 0 0] 26 (0, 0))) ∧ Hid (RunW ⟨l, false⟩ s rk) ∧ Hid (Below w.heap.size w wr)) (fun iv _ => mplace l.length iv)
  case atStart => exact ⟨⟨n2, [], [], []⟩, r3, _, rfl, HA3, Lib.hid ⟨_, _, _, HN1.out, RowIs.nil _ _ _, RowIs.nil _ _ _, RowIs.nil _ _ _⟩, HZ1, HR, HB1⟩
  case round =>
    obtain ⟨s, rk, j, rfl, HA, HS, HZ, HRn, HB⟩ := hrel
    obtain ⟨vr, vs, vg, hS⟩ := HS.out
    have hbn := HRn.out.2.2
    have HNT : Hid (s.records.length + 1 ≤ 1000000 ∧ s.services.length + 1 ≤ 1000000 ∧ s.sagas.length + 1 ≤ 1000000) := Lib.hid (by unfold total at hbn; omega)
    clear hbn
    obtain ⟨p1, k1, rfl, -, -⟩ := hS.recs.shape
    obtain ⟨p2, k2, rfl, -, -⟩ := hS.srvs.shape
    obtain ⟨p3, k3, rfl, -, -⟩ := hS.sgas.shape
    have HSI := Lib.hid hS
    have hz := HZ.out
    obtain ⟨c0, c1, c2, c3⟩ := cells4 hS.blk
    obtain ⟨z0, z1, z2, z3⟩ := cells4 hz
    have f0 := frozen2 hz 0
    have f1 := frozen2 hz 1
    have f2 := frozen2 hz 2
    have f3 := frozen2 hz 3
    have HFIN : Hid (∀ a b c d, a = Value.string s.name → b = .slice p1 s.records.length k1 → c = .slice p2 s.services.length k2 → d = .slice p3 s.sagas.length k3 → ((((wr.setCell ⟨w.heap.size, 0, none⟩ a).setCell ⟨w.heap.size, 1, none⟩ b).setCell ⟨w.heap.size, 2, none⟩ c).setCell ⟨w.heap.size, 3, none⟩ d).heap[w.heap.size]? = some (.cells #[a, b, c, d] 26 (0, 0)) ∧ SchV ((((wr.setCell ⟨w.heap.size, 0, none⟩ a).setCell ⟨w.heap.size, 1, none⟩ b).setCell ⟨w.heap.size, 2, none⟩ c).setCell ⟨w.heap.size, 3, none⟩ d) w.heap.size (.agg #[a, b, c, d]) s ∧ Below w.heap.size w ((((wr.setCell ⟨w.heap.size, 0, none⟩ a).setCell ⟨w.heap.size, 1, none⟩ b).setCell ⟨w.heap.size, 2, none⟩ c).setCell ⟨w.heap.size, 3, none⟩ d)) := Lib.hid (by
      rintro a b c d rfl rfl rfl rfl
      exact ⟨set_four _ _ _ _ HZ.out, (sch_v HSI.out).set HZ.out (tn_four _ _ _ _ _), below_set4 HB.out (Nat.le_refl _) _ _ _ _⟩)
    clear hS hz
    cases hs : rk.stuck with
    | true =>
      have i1 := Ip.at_neg HA.out hs
      have HX := Lib.hid (runW_ends HRn.out (Ip.ends_stuck hs))
      have HST := Lib.hid hs
      clear hs
      go_wp2_with fail
      obtain ⟨q1, q2, q3⟩ := HFIN.out _ _ _ _ rfl rfl rfl rfl
      refine bodyPost_ret (refSchema_res rfl rfl q1) rfl ?_
      exact ⟨_, _, s, rfl, q2, fun e => (by rw [HX.out.1, HST.out] at e; cases e), by rw [HX.out.1]; exact HA.out, q3⟩
    | false =>
      obtain ⟨k, hk, hrk, hj⟩ := Ip.at_go HA.out hs
      subst hrk hj
      have i1 : (k : Int) ≤ 65536 := by omega
      have i2 : (0 : Int) ≤ (k : Int) := by omega
      by_cases hlt : k < l.length
      · have i3 : (k : Int) < (l.length : Int) := by omega
        have he := ends_at HH.out.right hlt
        have HE := Lib.hid he
        have HLT := Lib.hid hlt
        have HQ := Lib.hid (HT.out _ HB.out _ _ HA.out)
        clear he hs
        by_cases hno : ∀ kw ∈ [Ip.kRecord, Ip.kChoice, Ip.kService, Ip.kSaga], Ip.eqB (Ip.ahead ⟨l.drop k, false⟩) kw = false
        · have e1 := Ip.of_no (r := ⟨l.drop k, false⟩) rfl hno
          have hd : Ip.declare s ⟨l.drop k, false⟩ = (s, ⟨l.drop k, true⟩) := by
            unfold Ip.declare; rw [Ip.bind_eq, e1]; exact (by unfold Ip.declareW; simp only [show Ip.eqB ⟨#[]⟩ Ip.kRecord = false by decide, show Ip.eqB ⟨#[]⟩ Ip.kChoice = false by decide, show Ip.eqB ⟨#[]⟩ Ip.kService = false by decide, show Ip.eqB ⟨#[]⟩ Ip.kSaga = false by decide, Bool.false_eq_true, if_false, Ip.ret_eq])
          have HX : Hid ((Ip.schema ⟨l, false⟩).2 = ⟨l.drop k, true⟩) := Lib.hid (by have := runW_fell HRn.out HE.out (by rw [hd]); rw [hd] at this; exact this)
          have HAS := Lib.hid (Ip.at_stop hk)
          have HNO := Lib.hid hno
          clear hno e1 hd
          go_wp2_with fail
          refine HQ.out.mono ?_
          rintro e w' ⟨x, rfl, hx, hw⟩
          obtain rfl := hw
          have gx0 := (is_kRecord x).trans ((hx _ Ip.pRecord).trans (HNO.out _ (by simp)))
          have gx1 := (is_kChoice x).trans ((hx _ Ip.pChoice).trans (HNO.out _ (by simp)))
          have gx2 := (is_kService x).trans ((hx _ Ip.pService).trans (HNO.out _ (by simp)))
          have gx3 := (is_kSaga x).trans ((hx _ Ip.pSaga).trans (HNO.out _ (by simp)))
          clear hx
          go_wp2_with fail
          obtain ⟨q1, q2, q3⟩ := HFIN.out _ _ _ _ rfl rfl rfl rfl
          refine bodyPost_ret (refSchema_res rfl rfl q1) rfl ?_
          exact ⟨_, _, s, rfl, q2, fun e => (by rw [HX.out] at e; cases e), by rw [HX.out]; exact HAS.out, q3⟩
        · clear z0 z1 z2 z3 f0 f1 f2 f3 HFIN
          cases hkRecord : Ip.eqB (Ip.ahead ⟨l.drop k, false⟩) Ip.kRecord with
          | true =>
            obtain ⟨hlt2, e1⟩ := Ip.of_yes (of := [Ip.kRecord, Ip.kChoice, Ip.kService, Ip.kSaga]) hk Ip.pRecord (by simp) hkRecord
            have HA1 := Lib.hid (Ip.at_place (l := l) (k := k + 1) (by omega))
            obtain ⟨⟨nn, ra⟩, en⟩ : ∃ y, Ip.name ⟨l.drop (k + 1), false⟩ = y := ⟨_, rfl⟩
            obtain ⟨⟨fs, r2⟩, ef⟩ : ∃ y, Ip.braced Ip.field ra = y := ⟨_, rfl⟩
            have hd : Ip.declare s ⟨l.drop k, false⟩ = ({ s with records := s.records ++ [⟨nn, false, fs⟩] }, r2) := by
              unfold Ip.declare Ip.declareW; rw [Ip.bind_eq, e1]
              simp only [show Ip.eqB Ip.kRecord Ip.kRecord = true by decide, Bool.false_eq_true, if_true, if_false, Ip.bind_eq, Ip.ret_eq]
              unfold Ip.record; simp only [Ip.bind_eq, Ip.ret_eq, en, ef]
            have HQN := Lib.hid (fun W (hW : Below w.heap.size w W) i (ha : Ip.AtR l ⟨l.drop (k + 1), false⟩ i) => HN.out W hW _ i ha)
            rw [en] at HQN
            have HQF := Lib.hid (fun W (hW : Below w.heap.size w W) i (ha : Ip.AtR l ra i) => HF.out W hW _ i ha)
            rw [ef] at HQF
            have HG := Lib.hid (fun X (hX : r2.stuck = false → X = fs) => runW_goes (s1 := { s with records := s.records ++ [⟨nn, false, X⟩] }) HRn.out HE.out hd (fun h => by rw [hX h]) (by unfold total; simp only [List.length_append, List.length_cons, List.length_nil]; omega))
            have HEkRecord := Lib.hid hkRecord
            have HNC : Hid (Ip.eqB (Ip.ahead ⟨l.drop k, false⟩) Ip.kChoice = false) := Lib.hid (by rw [Ip.eqB_iff.1 hkRecord]; decide)
            clear e1 en ef hd hkRecord hlt2
            go_wp2_with fail
            refine HQ.out.mono ?_
            rintro e w' ⟨x, rfl, hx, hw⟩
            obtain rfl := hw
            have gx0 := (is_kRecord x).trans ((hx _ Ip.pRecord).trans HEkRecord.out)
            have gx1 := (is_kChoice x).trans ((hx _ Ip.pChoice).trans HNC.out)
            clear hx
            go_wp2_with fail
            refine (HQN.out _ HB.out _ HA1.out).mono ?_
            rintro e w' ⟨i4, rfl, ha4, hw⟩
            obtain rfl := hw
            have HA4 := Lib.hid ha4
            clear ha4
            go_upto_region 15 with fail
            obtain ⟨W1, hW⟩ : ∃ W, W = wr.alloc (.cells #[.string nn, .bool false, .slice none 0 0] 34) := ⟨_, rfl⟩
            have HY1 : Hid (W1.heap[wr.heap.size]? = some (.cells #[.string nn, .bool false, .slice none 0 0] 34 (0, 0))) := Lib.hid (by rw [hW]; exact heap_alloc_new _ _)
            have HV1 : Hid (Below wr.heap.size wr W1) := Lib.hid (by rw [hW]; exact tk_alloc _ _)
            have HB1 : Hid (Below w.heap.size w W1) := Lib.hid (HB.out.trans (HV1.out.mono HB.out.size))
            rw [← hW]
            clear hW c0 c1 c2 c3
            go_wp2_with fail
            refine (HQF.out _ HB1.out _ HA4.out).mono ?_
            rintro e w3 ⟨v3, i6, X, rfl, hR3, hX3, ha6, hb3⟩
            obtain ⟨p4, k4, rfl, -, -⟩ := hR3.shape
            have HA6 := Lib.hid ha6
            have hy := (hb3.block _ (Array.getElem?_eq_some_iff.1 HY1.out).1).trans HY1.out
            have HY3 := Lib.hid hy
            have HV3 := Lib.hid (HV1.out.trans (hb3.mono HV1.out.size))
            have HR3 := Lib.hid (hR3.mono okFld HB1.out.size)
            have HG3 := Lib.hid (HG.out X hX3)
            obtain ⟨y0, y1, y2⟩ := cells3 hy
            have yf := frozen2 hy 2
            clear ha6 hy hb3 hR3 hX3
            go_upto_region 16 with fail
            obtain ⟨W4, hW⟩ : ∃ W, W = w3.setCell ⟨wr.heap.size, 2, none⟩ (.slice p4 X.length k4) := ⟨_, rfl⟩
            have HY4 : Hid (W4.heap[wr.heap.size]? = some (.cells #[.string nn, .bool false, .slice p4 X.length k4] 34 (0, 0))) := Lib.hid (by rw [hW]; exact tk_set HY3.out _)
            have HV4 : Hid (Below wr.heap.size wr W4) := Lib.hid (by rw [hW]; exact HV3.out.setCell (Nat.le_refl _) _)
            have HB4 : Hid (Below w.heap.size w W4) := Lib.hid (HB.out.trans (HV4.out.mono HB.out.size))
            have HR4 : Hid (RowIs kFld W4 w.heap.size (.slice p4 X.length k4) X) := Lib.hid (by rw [hW]; exact row_set okFld HR3.out HY3.out (by show ¬ ((34 : Nat) = 39 ∨ (34 : Nat) = 41); decide) (tn_set w3 _))
            rw [← hW]
            clear hW y0 y1 y2 yf
            have HS4 := Lib.hid (sch_below HSI.out HV4.out)
            have hs4 := HS4.out.blk
            have hy4 := HY4.out
            obtain ⟨c0, c1, c2, c3⟩ := cells4 hs4
            obtain ⟨y0, y1, y2⟩ := cells3 hy4
            obtain ⟨pv, cv, V, hrun, hx5, hS5, hB5, hO5⟩ := push_rec HS4.out HB4.out ⟨nn, false, X⟩ (.slice p4 X.length k4) HR4.out HNT.out.1
            rw [show (kRcd.cells ⟨nn, false, X⟩ (.slice p4 X.length k4)).toArray = #[.string nn, .bool false, .slice p4 X.length k4] from rfl] at hrun
            have hv5 := hx5.trans hs4
            obtain ⟨v0, v1, v2, v3⟩ := cells4 hv5
            have vf := frozen2 hv5 1
            have HS5 := Lib.hid hS5
            have HZ5 : Hid ((V.setCell ⟨w.heap.size + 1, 1, none⟩ (.slice pv (s.records.length + 1) cv)).heap[w.heap.size]? = some (.cells #[.string ⟨#[]⟩, .slice none 0 0, .slice none 0 0, .slice none 0 0] 26 (0, 0))) := Lib.hid ((Below.heap_setCell _ _ _ _ (by show w.heap.size ≠ w.heap.size + 1; omega)).trans ((hO5 _ _ ((HV4.out.block _ (Array.getElem?_eq_some_iff.1 HZ.out).1).trans HZ.out)).trans ((HV4.out.block _ (Array.getElem?_eq_some_iff.1 HZ.out).1).trans HZ.out)))
            have HB5 : Hid (Below w.heap.size w (V.setCell ⟨w.heap.size + 1, 1, none⟩ (.slice pv (s.records.length + 1) cv))) := Lib.hid (hB5.setCell (Nat.le_succ _) _)
            clear hs4 hy4 hx5 hS5 hB5 hO5 hv5
            go_wp2_with (at_builtin; refine Lib.wpList_append_run _ rfl (.tmp 74) (.tmp 76) _ _ rfl _ _ rfl rfl _ _ hrun ?_)
            go_roundw
            case rel => exact ⟨_, r2, _, rfl, HA6, Lib.hid ⟨_, _, _, HS5.out⟩, HZ5, Lib.hid HG3.out.1, HB5⟩
            case measure => exact mplace_less HLT.out HA6.out HG3.out.2
          | false =>
            have HkRecord := Lib.hid hkRecord
            cases hkChoice : Ip.eqB (Ip.ahead ⟨l.drop k, false⟩) Ip.kChoice with
            | true =>
              obtain ⟨hlt2, e1⟩ := Ip.of_yes (of := [Ip.kRecord, Ip.kChoice, Ip.kService, Ip.kSaga]) hk Ip.pChoice (by simp) hkChoice
              have HA1 := Lib.hid (Ip.at_place (l := l) (k := k + 1) (by omega))
              obtain ⟨⟨nn, ra⟩, en⟩ : ∃ y, Ip.name ⟨l.drop (k + 1), false⟩ = y := ⟨_, rfl⟩
              obtain ⟨⟨fs, r2⟩, ef⟩ : ∃ y, Ip.braced Ip.field ra = y := ⟨_, rfl⟩
              have hd : Ip.declare s ⟨l.drop k, false⟩ = ({ s with records := s.records ++ [⟨nn, true, fs⟩] }, r2) := by
                unfold Ip.declare Ip.declareW; rw [Ip.bind_eq, e1]
                simp only [show Ip.eqB Ip.kChoice Ip.kRecord = false by decide, show Ip.eqB Ip.kChoice Ip.kChoice = true by decide, Bool.false_eq_true, if_true, if_false, Ip.bind_eq, Ip.ret_eq]
                unfold Ip.record; simp only [Ip.bind_eq, Ip.ret_eq, en, ef]
              have HQN := Lib.hid (fun W (hW : Below w.heap.size w W) i (ha : Ip.AtR l ⟨l.drop (k + 1), false⟩ i) => HN.out W hW _ i ha)
              rw [en] at HQN
              have HQF := Lib.hid (fun W (hW : Below w.heap.size w W) i (ha : Ip.AtR l ra i) => HF.out W hW _ i ha)
              rw [ef] at HQF
              have HG := Lib.hid (fun X (hX : r2.stuck = false → X = fs) => runW_goes (s1 := { s with records := s.records ++ [⟨nn, true, X⟩] }) HRn.out HE.out hd (fun h => by rw [hX h]) (by unfold total; simp only [List.length_append, List.length_cons, List.length_nil]; omega))
              have HEkChoice := Lib.hid hkChoice
              clear e1 en ef hd hkChoice hlt2
              go_wp2_with fail
              refine HQ.out.mono ?_
              rintro e w' ⟨x, rfl, hx, hw⟩
              obtain rfl := hw
              have gx0 := (is_kRecord x).trans ((hx _ Ip.pRecord).trans HkRecord.out)
              have gx1 := (is_kChoice x).trans ((hx _ Ip.pChoice).trans HEkChoice.out)
              clear hx
              go_wp2_with fail
              refine (HQN.out _ HB.out _ HA1.out).mono ?_
              rintro e w' ⟨i4, rfl, ha4, hw⟩
              obtain rfl := hw
              have HA4 := Lib.hid ha4
              clear ha4
              go_upto_region 15 with fail
              obtain ⟨W1, hW⟩ : ∃ W, W = wr.alloc (.cells #[.string nn, .bool true, .slice none 0 0] 34) := ⟨_, rfl⟩
              have HY1 : Hid (W1.heap[wr.heap.size]? = some (.cells #[.string nn, .bool true, .slice none 0 0] 34 (0, 0))) := Lib.hid (by rw [hW]; exact heap_alloc_new _ _)
              have HV1 : Hid (Below wr.heap.size wr W1) := Lib.hid (by rw [hW]; exact tk_alloc _ _)
              have HB1 : Hid (Below w.heap.size w W1) := Lib.hid (HB.out.trans (HV1.out.mono HB.out.size))
              rw [← hW]
              clear hW c0 c1 c2 c3
              go_wp2_with fail
              refine (HQF.out _ HB1.out _ HA4.out).mono ?_
              rintro e w3 ⟨v3, i6, X, rfl, hR3, hX3, ha6, hb3⟩
              obtain ⟨p4, k4, rfl, -, -⟩ := hR3.shape
              have HA6 := Lib.hid ha6
              have hy := (hb3.block _ (Array.getElem?_eq_some_iff.1 HY1.out).1).trans HY1.out
              have HY3 := Lib.hid hy
              have HV3 := Lib.hid (HV1.out.trans (hb3.mono HV1.out.size))
              have HR3 := Lib.hid (hR3.mono okFld HB1.out.size)
              have HG3 := Lib.hid (HG.out X hX3)
              obtain ⟨y0, y1, y2⟩ := cells3 hy
              have yf := frozen2 hy 2
              clear ha6 hy hb3 hR3 hX3
              go_upto_region 16 with fail
              obtain ⟨W4, hW⟩ : ∃ W, W = w3.setCell ⟨wr.heap.size, 2, none⟩ (.slice p4 X.length k4) := ⟨_, rfl⟩
              have HY4 : Hid (W4.heap[wr.heap.size]? = some (.cells #[.string nn, .bool true, .slice p4 X.length k4] 34 (0, 0))) := Lib.hid (by rw [hW]; exact tk_set HY3.out _)
              have HV4 : Hid (Below wr.heap.size wr W4) := Lib.hid (by rw [hW]; exact HV3.out.setCell (Nat.le_refl _) _)
              have HB4 : Hid (Below w.heap.size w W4) := Lib.hid (HB.out.trans (HV4.out.mono HB.out.size))
              have HR4 : Hid (RowIs kFld W4 w.heap.size (.slice p4 X.length k4) X) := Lib.hid (by rw [hW]; exact row_set okFld HR3.out HY3.out (by show ¬ ((34 : Nat) = 39 ∨ (34 : Nat) = 41); decide) (tn_set w3 _))
              rw [← hW]
              clear hW y0 y1 y2 yf
              have HS4 := Lib.hid (sch_below HSI.out HV4.out)
              have hs4 := HS4.out.blk
              have hy4 := HY4.out
              obtain ⟨c0, c1, c2, c3⟩ := cells4 hs4
              obtain ⟨y0, y1, y2⟩ := cells3 hy4
              obtain ⟨pv, cv, V, hrun, hx5, hS5, hB5, hO5⟩ := push_rec HS4.out HB4.out ⟨nn, true, X⟩ (.slice p4 X.length k4) HR4.out HNT.out.1
              rw [show (kRcd.cells ⟨nn, true, X⟩ (.slice p4 X.length k4)).toArray = #[.string nn, .bool true, .slice p4 X.length k4] from rfl] at hrun
              have hv5 := hx5.trans hs4
              obtain ⟨v0, v1, v2, v3⟩ := cells4 hv5
              have vf := frozen2 hv5 1
              have HS5 := Lib.hid hS5
              have HZ5 : Hid ((V.setCell ⟨w.heap.size + 1, 1, none⟩ (.slice pv (s.records.length + 1) cv)).heap[w.heap.size]? = some (.cells #[.string ⟨#[]⟩, .slice none 0 0, .slice none 0 0, .slice none 0 0] 26 (0, 0))) := Lib.hid ((Below.heap_setCell _ _ _ _ (by show w.heap.size ≠ w.heap.size + 1; omega)).trans ((hO5 _ _ ((HV4.out.block _ (Array.getElem?_eq_some_iff.1 HZ.out).1).trans HZ.out)).trans ((HV4.out.block _ (Array.getElem?_eq_some_iff.1 HZ.out).1).trans HZ.out)))
              have HB5 : Hid (Below w.heap.size w (V.setCell ⟨w.heap.size + 1, 1, none⟩ (.slice pv (s.records.length + 1) cv))) := Lib.hid (hB5.setCell (Nat.le_succ _) _)
              clear hs4 hy4 hx5 hS5 hB5 hO5 hv5
              go_wp2_with (at_builtin; refine Lib.wpList_append_run _ rfl (.tmp 74) (.tmp 76) _ _ rfl _ _ rfl rfl _ _ hrun ?_)
              go_roundw
              case rel => exact ⟨_, r2, _, rfl, HA6, Lib.hid ⟨_, _, _, HS5.out⟩, HZ5, Lib.hid HG3.out.1, HB5⟩
              case measure => exact mplace_less HLT.out HA6.out HG3.out.2
            | false =>
              have HkChoice := Lib.hid hkChoice
              cases hkService : Ip.eqB (Ip.ahead ⟨l.drop k, false⟩) Ip.kService with
              | true =>
                obtain ⟨hlt2, e1⟩ := Ip.of_yes (of := [Ip.kRecord, Ip.kChoice, Ip.kService, Ip.kSaga]) hk Ip.pService (by simp) hkService
                have HA1 := Lib.hid (Ip.at_place (l := l) (k := k + 1) (by omega))
                obtain ⟨⟨nn, ra⟩, en⟩ : ∃ y, Ip.name ⟨l.drop (k + 1), false⟩ = y := ⟨_, rfl⟩
                obtain ⟨⟨fs, r2⟩, ef⟩ : ∃ y, Ip.braced Ip.method ra = y := ⟨_, rfl⟩
                have hd : Ip.declare s ⟨l.drop k, false⟩ = ({ s with services := s.services ++ [⟨nn, fs⟩] }, r2) := by
                  unfold Ip.declare Ip.declareW; rw [Ip.bind_eq, e1]
                  simp only [show Ip.eqB Ip.kService Ip.kRecord = false by decide, show Ip.eqB Ip.kService Ip.kChoice = false by decide, show Ip.eqB Ip.kService Ip.kService = true by decide, Bool.false_eq_true, if_true, if_false, Ip.bind_eq, Ip.ret_eq]
                  unfold Ip.service; simp only [Ip.bind_eq, Ip.ret_eq, en, ef]
                have HQN := Lib.hid (fun W (hW : Below w.heap.size w W) i (ha : Ip.AtR l ⟨l.drop (k + 1), false⟩ i) => HN.out W hW _ i ha)
                rw [en] at HQN
                have HQF := Lib.hid (fun W (hW : Below w.heap.size w W) i (ha : Ip.AtR l ra i) => HMm.out W hW _ i ha)
                rw [ef] at HQF
                have HG := Lib.hid (fun X (hX : r2.stuck = false → X = fs) => runW_goes (s1 := { s with services := s.services ++ [⟨nn, X⟩] }) HRn.out HE.out hd (fun h => by rw [hX h]) (by unfold total; simp only [List.length_append, List.length_cons, List.length_nil]; omega))
                have HEkService := Lib.hid hkService
                clear e1 en ef hd hkService hlt2
                go_wp2_with fail
                refine HQ.out.mono ?_
                rintro e w' ⟨x, rfl, hx, hw⟩
                obtain rfl := hw
                have gx0 := (is_kRecord x).trans ((hx _ Ip.pRecord).trans HkRecord.out)
                have gx1 := (is_kChoice x).trans ((hx _ Ip.pChoice).trans HkChoice.out)
                have gx2 := (is_kService x).trans ((hx _ Ip.pService).trans HEkService.out)
                clear hx
                go_wp2_with fail
                refine (HQN.out _ HB.out _ HA1.out).mono ?_
                rintro e w' ⟨i4, rfl, ha4, hw⟩
                obtain rfl := hw
                have HA4 := Lib.hid ha4
                clear ha4
                go_upto_region 19 with fail
                obtain ⟨W1, hW⟩ : ∃ W, W = wr.alloc (.cells #[.string nn, .slice none 0 0] 98) := ⟨_, rfl⟩
                have HY1 : Hid (W1.heap[wr.heap.size]? = some (.cells #[.string nn, .slice none 0 0] 98 (0, 0))) := Lib.hid (by rw [hW]; exact heap_alloc_new _ _)
                have HV1 : Hid (Below wr.heap.size wr W1) := Lib.hid (by rw [hW]; exact tk_alloc _ _)
                have HB1 : Hid (Below w.heap.size w W1) := Lib.hid (HB.out.trans (HV1.out.mono HB.out.size))
                rw [← hW]
                clear hW c0 c1 c2 c3
                go_wp2_with fail
                refine (HQF.out _ HB1.out _ HA4.out).mono ?_
                rintro e w3 ⟨v3, i6, X, rfl, hR3, hX3, ha6, hb3⟩
                obtain ⟨p4, k4, rfl, -, -⟩ := hR3.shape
                have HA6 := Lib.hid ha6
                have hy := (hb3.block _ (Array.getElem?_eq_some_iff.1 HY1.out).1).trans HY1.out
                have HY3 := Lib.hid hy
                have HV3 := Lib.hid (HV1.out.trans (hb3.mono HV1.out.size))
                have HR3 := Lib.hid (hR3.mono okMth HB1.out.size)
                have HG3 := Lib.hid (HG.out X hX3)
                obtain ⟨y0, y1⟩ := cells2 hy
                have yf := frozen2 hy 1
                clear ha6 hy hb3 hR3 hX3
                go_upto_region 20 with fail
                obtain ⟨W4, hW⟩ : ∃ W, W = w3.setCell ⟨wr.heap.size, 1, none⟩ (.slice p4 X.length k4) := ⟨_, rfl⟩
                have HY4 : Hid (W4.heap[wr.heap.size]? = some (.cells #[.string nn, .slice p4 X.length k4] 98 (0, 0))) := Lib.hid (by rw [hW]; exact tk_set HY3.out _)
                have HV4 : Hid (Below wr.heap.size wr W4) := Lib.hid (by rw [hW]; exact HV3.out.setCell (Nat.le_refl _) _)
                have HB4 : Hid (Below w.heap.size w W4) := Lib.hid (HB.out.trans (HV4.out.mono HB.out.size))
                have HR4 : Hid (RowIs kMth W4 w.heap.size (.slice p4 X.length k4) X) := Lib.hid (by rw [hW]; exact row_set okMth HR3.out HY3.out (by show ¬ ((98 : Nat) = 100 ∨ False); decide) (tn_set w3 _))
                rw [← hW]
                clear hW y0 y1 yf
                have HS4 := Lib.hid (sch_below HSI.out HV4.out)
                have hs4 := HS4.out.blk
                have hy4 := HY4.out
                obtain ⟨c0, c1, c2, c3⟩ := cells4 hs4
                obtain ⟨y0, y1⟩ := cells2 hy4
                obtain ⟨pv, cv, V, hrun, hx5, hS5, hB5, hO5⟩ := push_srv HS4.out HB4.out ⟨nn, X⟩ (.slice p4 X.length k4) HR4.out HNT.out.2.1
                rw [show (kSrv.cells ⟨nn, X⟩ (.slice p4 X.length k4)).toArray = #[.string nn, .slice p4 X.length k4] from rfl] at hrun
                have hv5 := hx5.trans hs4
                obtain ⟨v0, v1, v2, v3⟩ := cells4 hv5
                have vf := frozen2 hv5 2
                have HS5 := Lib.hid hS5
                have HZ5 : Hid ((V.setCell ⟨w.heap.size + 1, 2, none⟩ (.slice pv (s.services.length + 1) cv)).heap[w.heap.size]? = some (.cells #[.string ⟨#[]⟩, .slice none 0 0, .slice none 0 0, .slice none 0 0] 26 (0, 0))) := Lib.hid ((Below.heap_setCell _ _ _ _ (by show w.heap.size ≠ w.heap.size + 1; omega)).trans ((hO5 _ _ ((HV4.out.block _ (Array.getElem?_eq_some_iff.1 HZ.out).1).trans HZ.out)).trans ((HV4.out.block _ (Array.getElem?_eq_some_iff.1 HZ.out).1).trans HZ.out)))
                have HB5 : Hid (Below w.heap.size w (V.setCell ⟨w.heap.size + 1, 2, none⟩ (.slice pv (s.services.length + 1) cv))) := Lib.hid (hB5.setCell (Nat.le_succ _) _)
                clear hs4 hy4 hx5 hS5 hB5 hO5 hv5
                go_wp2_with (at_builtin; refine Lib.wpList_append_run _ rfl (.tmp 91) (.tmp 93) _ _ rfl _ _ rfl rfl _ _ hrun ?_)
                go_roundw
                case rel => exact ⟨_, r2, _, rfl, HA6, Lib.hid ⟨_, _, _, HS5.out⟩, HZ5, Lib.hid HG3.out.1, HB5⟩
                case measure => exact mplace_less HLT.out HA6.out HG3.out.2
              | false =>
                have HkService := Lib.hid hkService
                cases hkSaga : Ip.eqB (Ip.ahead ⟨l.drop k, false⟩) Ip.kSaga with
                | true =>
                  obtain ⟨hlt2, e1⟩ := Ip.of_yes (of := [Ip.kRecord, Ip.kChoice, Ip.kService, Ip.kSaga]) hk Ip.pSaga (by simp) hkSaga
                  have HA1 := Lib.hid (Ip.at_place (l := l) (k := k + 1) (by omega))
                  obtain ⟨⟨nn, ra⟩, en⟩ : ∃ y, Ip.name ⟨l.drop (k + 1), false⟩ = y := ⟨_, rfl⟩
                  obtain ⟨⟨na, rb⟩, eb⟩ : ∃ y, Ip.argument ra = y := ⟨_, rfl⟩
                  obtain ⟨⟨fs, r2⟩, ef⟩ : ∃ y, Ip.braced Ip.step rb = y := ⟨_, rfl⟩
                  have hd : Ip.declare s ⟨l.drop k, false⟩ = ({ s with sagas := s.sagas ++ [⟨nn, na, fs⟩] }, r2) := by
                    unfold Ip.declare Ip.declareW; rw [Ip.bind_eq, e1]
                    simp only [show Ip.eqB Ip.kSaga Ip.kRecord = false by decide, show Ip.eqB Ip.kSaga Ip.kChoice = false by decide, show Ip.eqB Ip.kSaga Ip.kService = false by decide, show Ip.eqB Ip.kSaga Ip.kSaga = true by decide, Bool.false_eq_true, if_true, if_false, Ip.bind_eq, Ip.ret_eq]
                    unfold Ip.saga; simp only [Ip.bind_eq, Ip.ret_eq, en, eb, ef]
                  have HQN := Lib.hid (fun W (hW : Below w.heap.size w W) i (ha : Ip.AtR l ⟨l.drop (k + 1), false⟩ i) => HN.out W hW _ i ha)
                  rw [en] at HQN
                  have HQB := Lib.hid (fun W (hW : Below w.heap.size w W) i (ha : Ip.AtR l ra i) => HBr.out W hW _ i ha)
                  rw [eb] at HQB
                  have HQF := Lib.hid (fun W (hW : Below w.heap.size w W) i (ha : Ip.AtR l rb i) => HSt.out W hW _ i ha)
                  rw [ef] at HQF
                  have HG := Lib.hid (fun X (hX : r2.stuck = false → X = fs) => runW_goes (s1 := { s with sagas := s.sagas ++ [⟨nn, na, X⟩] }) HRn.out HE.out hd (fun h => by rw [hX h]) (by unfold total; simp only [List.length_append, List.length_cons, List.length_nil]; omega))
                  have HEkSaga := Lib.hid hkSaga
                  clear e1 en eb ef hd hkSaga hlt2
                  go_wp2_with fail
                  refine HQ.out.mono ?_
                  rintro e w' ⟨x, rfl, hx, hw⟩
                  obtain rfl := hw
                  have gx0 := (is_kRecord x).trans ((hx _ Ip.pRecord).trans HkRecord.out)
                  have gx1 := (is_kChoice x).trans ((hx _ Ip.pChoice).trans HkChoice.out)
                  have gx2 := (is_kService x).trans ((hx _ Ip.pService).trans HkService.out)
                  have gx3 := (is_kSaga x).trans ((hx _ Ip.pSaga).trans HEkSaga.out)
                  clear hx
                  go_wp2_with fail
                  refine (HQN.out _ HB.out _ HA1.out).mono ?_
                  rintro e w' ⟨i4, rfl, ha4, hw⟩
                  obtain rfl := hw
                  have HA4 := Lib.hid ha4
                  clear ha4
                  go_upto_region 23 with fail
                  obtain ⟨W1, hW⟩ : ∃ W, W = wr.alloc (.cells #[.string nn, .string ⟨#[]⟩, .slice none 0 0] 44) := ⟨_, rfl⟩
                  have HY1 : Hid (W1.heap[wr.heap.size]? = some (.cells #[.string nn, .string ⟨#[]⟩, .slice none 0 0] 44 (0, 0))) := Lib.hid (by rw [hW]; exact heap_alloc_new _ _)
                  have HV1 : Hid (Below wr.heap.size wr W1) := Lib.hid (by rw [hW]; exact tk_alloc _ _)
                  have HB1 : Hid (Below w.heap.size w W1) := Lib.hid (HB.out.trans (HV1.out.mono HB.out.size))
                  rw [← hW]
                  clear hW c0 c1 c2 c3
                  go_wp2_with fail
                  refine (HQB.out _ HB1.out _ HA4.out).mono ?_
                  rintro e w' ⟨i5, rfl, ha5, hw⟩
                  obtain rfl := hw
                  have HA5 := Lib.hid ha5
                  have hy := HY1.out
                  obtain ⟨y0, y1, y2⟩ := cells3 hy
                  have yf := frozen2 hy 1
                  clear ha5 hy
                  go_upto_region 24 with fail
                  obtain ⟨W1b, hW⟩ : ∃ W, W = W1.setCell ⟨wr.heap.size, 1, none⟩ (.string na) := ⟨_, rfl⟩
                  have HY1b : Hid (W1b.heap[wr.heap.size]? = some (.cells #[.string nn, .string na, .slice none 0 0] 44 (0, 0))) := Lib.hid (by rw [hW]; exact tk_set HY1.out _)
                  have HV1b : Hid (Below wr.heap.size wr W1b) := Lib.hid (by rw [hW]; exact HV1.out.setCell (Nat.le_refl _) _)
                  have HB1b : Hid (Below w.heap.size w W1b) := Lib.hid (HB.out.trans (HV1b.out.mono HB.out.size))
                  rw [← hW]
                  clear hW y0 y1 y2 yf
                  go_wp2_with fail
                  refine (HQF.out _ HB1b.out _ HA5.out).mono ?_
                  rintro e w3 ⟨v3, i6, X, rfl, hR3, hX3, ha6, hb3⟩
                  obtain ⟨p4, k4, rfl, -, -⟩ := hR3.shape
                  have HA6 := Lib.hid ha6
                  have hy := (hb3.block _ (Array.getElem?_eq_some_iff.1 HY1b.out).1).trans HY1b.out
                  have HY3 := Lib.hid hy
                  have HV3 := Lib.hid (HV1b.out.trans (hb3.mono HV1b.out.size))
                  have HR3 := Lib.hid (hR3.mono okStp HB1b.out.size)
                  have HG3 := Lib.hid (HG.out X hX3)
                  obtain ⟨y0, y1, y2⟩ := cells3 hy
                  have yf := frozen2 hy 2
                  clear ha6 hy hb3 hR3 hX3
                  go_upto_region 25 with fail
                  obtain ⟨W4, hW⟩ : ∃ W, W = w3.setCell ⟨wr.heap.size, 2, none⟩ (.slice p4 X.length k4) := ⟨_, rfl⟩
                  have HY4 : Hid (W4.heap[wr.heap.size]? = some (.cells #[.string nn, .string na, .slice p4 X.length k4] 44 (0, 0))) := Lib.hid (by rw [hW]; exact tk_set HY3.out _)
                  have HV4 : Hid (Below wr.heap.size wr W4) := Lib.hid (by rw [hW]; exact HV3.out.setCell (Nat.le_refl _) _)
                  have HB4 : Hid (Below w.heap.size w W4) := Lib.hid (HB.out.trans (HV4.out.mono HB.out.size))
                  have HR4 : Hid (RowIs kStp W4 w.heap.size (.slice p4 X.length k4) X) := Lib.hid (by rw [hW]; exact row_set okStp HR3.out HY3.out (by show ¬ ((44 : Nat) = 48 ∨ False); decide) (tn_set w3 _))
                  rw [← hW]
                  clear hW y0 y1 y2 yf
                  have HS4 := Lib.hid (sch_below HSI.out HV4.out)
                  have hs4 := HS4.out.blk
                  have hy4 := HY4.out
                  obtain ⟨c0, c1, c2, c3⟩ := cells4 hs4
                  obtain ⟨y0, y1, y2⟩ := cells3 hy4
                  obtain ⟨pv, cv, V, hrun, hx5, hS5, hB5, hO5⟩ := push_sga HS4.out HB4.out ⟨nn, na, X⟩ (.slice p4 X.length k4) HR4.out HNT.out.2.2
                  rw [show (kSga.cells ⟨nn, na, X⟩ (.slice p4 X.length k4)).toArray = #[.string nn, .string na, .slice p4 X.length k4] from rfl] at hrun
                  have hv5 := hx5.trans hs4
                  obtain ⟨v0, v1, v2, v3⟩ := cells4 hv5
                  have vf := frozen2 hv5 3
                  have HS5 := Lib.hid hS5
                  have HZ5 : Hid ((V.setCell ⟨w.heap.size + 1, 3, none⟩ (.slice pv (s.sagas.length + 1) cv)).heap[w.heap.size]? = some (.cells #[.string ⟨#[]⟩, .slice none 0 0, .slice none 0 0, .slice none 0 0] 26 (0, 0))) := Lib.hid ((Below.heap_setCell _ _ _ _ (by show w.heap.size ≠ w.heap.size + 1; omega)).trans ((hO5 _ _ ((HV4.out.block _ (Array.getElem?_eq_some_iff.1 HZ.out).1).trans HZ.out)).trans ((HV4.out.block _ (Array.getElem?_eq_some_iff.1 HZ.out).1).trans HZ.out)))
                  have HB5 : Hid (Below w.heap.size w (V.setCell ⟨w.heap.size + 1, 3, none⟩ (.slice pv (s.sagas.length + 1) cv))) := Lib.hid (hB5.setCell (Nat.le_succ _) _)
                  clear hs4 hy4 hx5 hS5 hB5 hO5 hv5
                  go_wp2_with (at_builtin; refine Lib.wpList_append_run _ rfl (.tmp 115) (.tmp 117) _ _ rfl _ _ rfl rfl _ _ hrun ?_)
                  go_roundw
                  case rel => exact ⟨_, r2, _, rfl, HA6, Lib.hid ⟨_, _, _, HS5.out⟩, HZ5, Lib.hid HG3.out.1, HB5⟩
                  case measure => exact mplace_less HLT.out HA6.out HG3.out.2
                | false =>
                  have HkSaga := Lib.hid hkSaga
                  exact absurd (fun kw hkw => by simp only [List.mem_cons, List.not_mem_nil, or_false] at hkw; rcases hkw with rfl | rfl | rfl | rfl; exact HkRecord.out; exact HkChoice.out; exact HkService.out; exact HkSaga.out) hno
      · have i3 : ¬ (k : Int) < (l.length : Int) := by omega
        have HX := Lib.hid (runW_ends HRn.out (ends_off (l := l) (k := k) (by omega)))
        clear hs
        go_wp2_with fail
        obtain ⟨q1, q2, q3⟩ := HFIN.out _ _ _ _ rfl rfl rfl rfl
        refine bodyPost_ret (refSchema_res rfl rfl q1) rfl ?_
        exact ⟨_, _, s, rfl, q2, fun e => (HX.out.2 (by first | rfl | trivial)).symm, by rw [HX.out.1]; exact HA.out, q3⟩
end Go.Proofs.YtnkdhmoocomjfaaGreatDoor
