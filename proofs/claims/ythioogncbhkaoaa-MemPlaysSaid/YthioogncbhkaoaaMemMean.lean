/-
  Walks over the laws of package mem: MemPlays' meanwhile. Conditions: few pairs, no long keys.
-/
import Derived.Test.YthioogncbhkaoaaMemTbl
namespace Go.Proofs.Ythioogncbhkaoaa
open Go.RowKit
attribute [local go_sem] Oper.semAt_some

/-- An act that is handed in. -/
structure MAct where
  act : Int
  key : ByteArray
  val : ByteArray
  n : Int
def MAct.cells (x : MAct) : List Value := [.int .i64 x.act, .string x.key, .string x.val, .int .i64 x.n]
def MAct.agg (x : MAct) : Value := .agg #[.int .i64 x.act, .string x.key, .string x.val, .int .i64 x.n]
def actO (x : MAct) : Obj := .cells #[.int .i64 x.act, .string x.key, .string x.val, .int .i64 x.n] 32 (0, 0)
theorem act_cells {w : World} {b : Nat} {x : MAct} (h : w.heap[b]? = some (actO x)) : w.cell? ⟨b, 0, none⟩ = some (.int .i64 x.act) ∧ w.cell? ⟨b, 1, none⟩ = some (.string x.key) ∧ w.cell? ⟨b, 2, none⟩ = some (.string x.val) ∧ w.cell? ⟨b, 3, none⟩ = some (.int .i64 x.n) := by
  refine ⟨?_, ?_, ?_, ?_⟩ <;> (unfold World.cell?; rw [h]; rfl)
theorem results_mean (tmps : Array Value) (w : World) (g : Nat) (v : Value) (hp : tmps.getD 6 undef = .pointer (some ⟨g, 0, none⟩)) (hc : w.cell? ⟨g, 0, none⟩ = some v) :
    (results Try.f21 tmps).run Try.prog w = .ok v w := by
  have hp' : tmps[6]?.getD undef = .pointer (some ⟨g, 0, none⟩) := by simpa using hp
  simp [results, hp', asAddr, loadVar, hc, go_sem]
def mvO (mv : Value) : Obj := .cells #[mv] 25 (0, 0)
def wantO (pw : Option Addr) (n cw : Nat) : Obj := .cells #[.slice pw n cw] 30 (0, 0)
def brO (b : Bool) : Obj := .cells #[.bool b] 4 (0, 0)
def bnO (n : Int) : Obj := .cells #[.int .i64 n] 3 (0, 0)
theorem put_len {L : Mm.Row} {nn : Bool} {k : ByteArray} {v : Value} {n : Nat} (h : L.length ≤ n) : (if nn = true then [] else Mm.put L k v).length ≤ n + 1 := by
  split
  · simp
  · have := Mm.length_put_le L k v; omega
theorem del_len {L : Mm.Row} {k : ByteArray} {n : Nat} (h : L.length ≤ n) : (Mm.del L k).length ≤ n := Nat.le_trans (List.length_filter_le _ _) h

set_option maxRecDepth 100000 in
set_option maxHeartbeats 16000000 in
theorem meanwhile_any {w0 w : World} {nn : Bool} {mv : Value} {L : Mm.Row} {x : MAct} {pw : Option Addr} {cw : Nat} {ws : List Pr} (h0 : Tbl w0 w nn mv L [] []) (hlen : L.length ≤ 300) (hal : Rf.Alike L ws)
    (hkey : x.key.size ≤ 20000) (hval : x.val.size ≤ 20000) (hsz : ∀ q ∈ ws, q.1.size ≤ 20000 ∧ q.2.size ≤ 20000) (hw : PairsAt w pw (Rf.fromR ws x.key)) :
    Calls Try.prog 21 #[mv, x.agg, .slice pw (Rf.fromR ws x.key).length cw] w fun e w' => e = .returned (.bool true) ∧ Below w0.heap.size w0 w' := by
  have hrow := hal.from_ x.key
  have hin : ∀ q ∈ Rf.fromR ws x.key, q.1.size ≤ 20000 ∧ q.2.size ≤ 20000 := fun q hq => hsz q (Rf.mem_fromR.1 hq).1
  have hml : (Rf.fromR ws x.key).length ≤ 300 := by have := Rf.fromR_length ws x.key; have := hal.length; omega
  generalize Rf.fromR ws x.key = M at *
  obtain ⟨om, rfl, -⟩ := h0.ptr
  obtain ⟨bm, hbm⟩ : ∃ bm, bm = w.heap.size := ⟨_, rfl⟩
  have h1 := (((h0.alloc (mvO (.pointer om))).alloc (actO x)).alloc (wantO pw M.length cw)).alloc (brO false)
  have hw1 : PairsAt ((((w.alloc (mvO (.pointer om))).alloc (actO x)).alloc (wantO pw M.length cw)).alloc (brO false)) pw M := (((hw.below (below_alloc _ _)).below (below_alloc _ _)).below (below_alloc _ _)).below (below_alloc _ _)
  simp only [World.size_alloc, ← hbm] at h1
  have HIN := Lib.hid hin
  have HROW := Lib.hid hrow
  have HML := Lib.hid hml
  have HLEN := Lib.hid hlen
  have HK := Lib.hid (And.intro hkey hval)
  clear hin hrow hml hlen hkey hval hsz hal h0 hw
  unfold MAct.agg
  refine (callsIn_wide (n := 9)).1 ?_
  refine callsIn_of_wp_marks Try.func21 rfl trivial ?_ rfl
  simp only [Try.ntmps21, List.size_toArray, List.length_cons, List.length_nil, Nat.reduceAdd, Nat.reduceSub, Array.replicate_succ, Array.replicate_zero, List.push_toArray, List.append_toArray, List.nil_append, List.cons_append]
  gi_wp2_with fail
  rw [← hbm]
  refine ⟨trivial, ?_⟩
  obtain ⟨BL, hBL⟩ : ∃ BL : List (Nat × Obj), BL = [(bm + 1 + 1 + 1, brO false), (bm + 1 + 1, wantO pw M.length cw), (bm + 1, actO x), (bm, mvO (.pointer om))] := ⟨_, rfl⟩
  rw [← hBL] at h1
  have HBL := Lib.hid hBL
  have HC : Hid (∀ (C : World) (L' : Mm.Row) (R' : List (Value × Mm.Row)) (B' : List (Nat × Obj)), Tbl w0 C nn (.pointer om) L' R' B' → (∀ q ∈ BL, q ∈ B') → C.cell? ⟨bm, 0, none⟩ = some (.pointer om) ∧ C.cell? ⟨bm + 1, 1, none⟩ = some (.string x.key) ∧ C.cell? ⟨bm + 1, 2, none⟩ = some (.string x.val) ∧ C.cell? ⟨bm + 1, 3, none⟩ = some (.int .i64 x.n) ∧ C.cell? ⟨bm + 1 + 1, 0, none⟩ = some (.slice pw M.length cw)) := Lib.hid fun C L' R' B' h hs => by
    rw [hBL] at hs
    obtain ⟨-, d1, d2, d3⟩ := act_cells (h.box (q := (bm + 1, actO x)) (hs _ (by simp)))
    exact ⟨(cells1 (h.box (q := (bm, mvO (.pointer om))) (hs _ (by simp)))).1, d1, d2, d3, (cells1 (h.box (q := (bm + 1 + 1, wantO pw M.length cw)) (hs _ (by simp)))).1⟩
  clear hBL hbm
  refine (callsIn_wide.2 (from_tr h1 x.key (by have := HK.out.1; omega))).mono ?_
  rintro e w2 ⟨b1, b2, p, rfl, h2, hb2⟩
  obtain ⟨BL2, hBL2⟩ : ∃ BL2 : List (Nat × Obj), BL2 = (b1, .cells #[p] 27 (0, 0)) :: (b2, .cells #[.string x.key] 9 (0, 0)) :: BL := ⟨_, rfl⟩
  rw [← hBL2] at h2
  have hsub : ∀ q ∈ BL, q ∈ BL2 := fun q hq => by rw [hBL2]; simp [hq]
  have HBL2 := Lib.hid hBL2
  have HW2 := Lib.hid (hw1.below hb2)
  obtain ⟨cm, ck, cv, cN, cw0⟩ := HC.out _ _ _ _ h2 hsub
  clear h1 hw1 hb2 hBL2
  gi_wp2_with fail
  refine ⟨trivial, ?_⟩
  refine (callsIn_wide.2 (set_t h2 x.key (by have := HK.out.1; omega) (by have := HLEN.out; omega) ⟨#[110, 101, 119]⟩ rfl)).mono ?_
  rintro e w3 ⟨rfl, h3, k3, -⟩
  have HL3 := Lib.hid (put_len (nn := nn) (k := x.key) (v := .string ⟨#[110, 101, 119]⟩) HLEN.out)
  generalize (if nn = true then [] else Mm.put L x.key (.string ⟨#[110, 101, 119]⟩)) = L3 at *
  generalize (!nn && !(Mm.get L x.key).isSome) = bo3 at *
  have HW3 := Lib.hid (k3 _ _ HW2.out)
  clear cm ck cv cN cw0 h2 k3
  obtain ⟨cm, ck, cv, cN, cw0⟩ := HC.out _ _ _ _ h3 hsub
  gi_wp2_with fail
  refine ⟨trivial, ?_⟩
  refine (callsIn_wide.2 (set_t h3 ⟨#[]⟩ (by decide) (by have := HL3.out; omega) ⟨#[110, 101, 119]⟩ rfl)).mono ?_
  rintro e w4 ⟨rfl, h4, k4, -⟩
  have HL4 := Lib.hid (put_len (nn := nn) (k := ⟨#[]⟩) (v := .string ⟨#[110, 101, 119]⟩) HL3.out)
  generalize (if nn = true then [] else Mm.put L3 ⟨#[]⟩ (.string ⟨#[110, 101, 119]⟩)) = L4 at *
  generalize (!nn && !(Mm.get L3 ⟨#[]⟩).isSome) = bo4 at *
  have HW4 := Lib.hid (k4 _ _ HW3.out)
  clear cm ck cv cN cw0 h3 k4
  obtain ⟨cm, ck, cv, cN, cw0⟩ := HC.out _ _ _ _ h4 hsub
  gi_wp2_with fail
  refine ⟨trivial, ?_⟩
  refine (callsIn_wide.2 (delete_t h4 x.val (by have := HL4.out; omega) rfl)).mono ?_
  rintro e w5 ⟨rfl, h5, k5, -⟩
  have HL5 := Lib.hid (del_len (k := x.val) HL4.out)
  generalize Mm.del L4 x.val = L5 at *
  generalize (Mm.get L4 x.val).isSome = bo5 at *
  have HW5 := Lib.hid (k5 _ _ HW4.out)
  have h6 := h5.alloc (bnO (0 : Nat))
  have HW6 := Lib.hid (HW5.out.below (below_alloc w5 (bnO (0 : Nat))))
  obtain ⟨bn, hbn⟩ : ∃ bn, bn = w5.heap.size := ⟨_, rfl⟩
  rw [← hbn] at h6
  have hen := fun (u : World) => eql_seqS u (.func 58) #[] #[.pointer (some ⟨b1, 0, none⟩), .pointer (some ⟨b2, 0, none⟩)]
  clear cm ck cv cN cw0 h4 k5 h5 HW2 HW3 HW4 HW5 HL3 HL4
  unfold MS.fromV
  gi_wp2_with fail
  rw [← hbn]
  clear hen
  obtain ⟨W, hW⟩ : ∃ W, w5.alloc (bnO (0 : Nat)) = W := ⟨_, rfl⟩
  have h7 := h6
  have p7 := HW6.out
  rw [hW] at h7 p7
  have hW' : w5.alloc (.cells #[.int .i64 0] 3) = W := hW
  rw [hW']
  clear h6 HW6 hW hW' hbn
  have hsq := MS.from_seq 8 (h7.box (q := (b1, .cells #[p] 27 (0, 0))) (by rw [HBL2.out]; simp)) (h7.box (q := (b2, .cells #[.string x.key] 9 (0, 0))) (by rw [HBL2.out]; simp)) (h7.rt (r := (p, L)) (by simp))
  rw [← HROW.out] at hsq
  have hlo := h7.low
  have hbb := h7.below.size
  have haw := h7.away
  have hlt7 : ∀ q ∈ (bn, bnO (0 : Nat)) :: BL2, q.1 < W.heap.size := fun q hq => h7.lt hq
  have hIts : ∀ (i : Nat) (L' : Mm.Row) (C E : World), Tbl w0 C nn (.pointer om) L' [(p, L)] ((bn, bnO (i : Nat)) :: BL2) → ItS W.heap.size C E → Tbl w0 E nn (.pointer om) L' [(p, L)] ((bn, bnO (i : Nat)) :: BL2) := fun i L' C E hs st => hs.its st hbb hlo (fun q hq => by
      rcases List.mem_cons.1 hq with rfl | hq
      · exact hlt7 (bn, bnO (0 : Nat)) (by simp)
      · exact hlt7 q (by simp [hq]))
  apply wpIn_rangeY rfl (by omega) (gf := 58) (lb := #[.pointer (some ⟨b1, 0, none⟩), .pointer (some ⟨b2, 0, none⟩)]) rfl trivial (enters_of Try.func58 (by kernel_rfl) rfl)
    (encs := fun q : ByteArray × Value => #[.string q.1, q.2]) (xs := Rf.row M) (cap := IsNode W) hsq (fun k hk => hk.lt) (fun _ => rfl)
    (fun i C => ∃ L', Tbl w0 C nn (.pointer om) L' [(p, L)] ((bn, bnO (i : Nat)) :: BL2) ∧ L'.length ≤ 302 + i ∧ PairsAt C pw M)
    (fun c i C => c = .exit 0 ∧ (i : Int) = x.n ∧ ∃ L', Tbl w0 C nn (.pointer om) L' [(p, L)] ((bn, bnO (i : Nat)) :: BL2) ∧ PairsAt C pw M)
    (fun i C E hs st => by
      obtain ⟨L', q1, q2, q3⟩ := hs
      exact ⟨L', hIts i L' C E q1 st, q2, pairs_its q3 st⟩)
    (fun c i C E hs st => by
      obtain ⟨z1, z2, L', q1, q3⟩ := hs
      exact ⟨z1, z2, L', hIts i L' C E q1 st, pairs_its q3 st⟩)
    ⟨L5, h7, HL5.out, p7⟩
  case hassign =>
    intro l x W K hK
    gi_wp2
    exact hK
  case hbody =>
    rintro l i hi A hA ⟨L1, hm, hl1, hp⟩
    have hi' : i < M.length := by rw [← Rf.row_length]; exact hi
    rw [row_get M i hi hi']
    obtain ⟨A0, rfl, a0, a1, -, -⟩ := hp.at (Below.refl _ A) hi'
    have hks := (HIN.out _ (List.getElem_mem hi')).1
    have hml := HML.out
    have i0 : (i : Int) < (M.length : Int) := by omega
    have i1 : (0 : Int) ≤ (i : Int) := by omega
    have i2 : (i : Int) ≤ 300 := by omega
    have i3 : (M.length : Int) ≤ 300 := by omega
    have hgr := hm.box (q := (bn, bnO (i : Nat))) (by simp)
    obtain ⟨cg, fg⟩ := cells1 hgr
    have fg0 := fg 0
    obtain ⟨cm, ck, cv, cN, cw0⟩ := HC.out _ _ _ _ hm (fun q hq => by simp [hsub q hq])
    have hng : ¬ IsNode W bn := not_node (h7.box (q := (bn, bnO (0 : Nat))) (by simp)) int_not
    have hm2 := Tbl.set (x := .int .i64 (i : Int)) (T := 3) hm int_not (.int .i64 ((i : Int) + 1))
    have HP2 : Hid (PairsAt (A.setCell ⟨bn, 0, none⟩ (.int .i64 ((i : Int) + 1))) (some A0) M) := Lib.hid (pairs_turn hp (by simp [World.setCell]) fun k _ hc => Below.heap_setCell _ _ _ _ fun (e : k = bn) => by
      subst e; exact no_text hgr (fun _ h => by cases h) hc)
    have HBK : Hid (BodyK (IsNode W) A (A.setCell ⟨bn, 0, none⟩ (.int .i64 ((i : Int) + 1)))) := Lib.hid (BodyK.setCell (p := ⟨bn, 0, none⟩) _ hgr hng)
    obtain ⟨cm2, ck2, cv2, cN2, cw2⟩ := HC.out _ _ _ _ hm2 (fun q hq => by simp [hsub q hq])
    generalize M[i] = q at *
    obtain ⟨k, v⟩ := q
    simp only at a0 a1 hks
    have hadd := fun u => run_string_add_sum (P := Try.prog) u k ⟨#[120]⟩ (by show k.size + 1 ≤ _; omega)
    have hkx : (k ++ (⟨#[120]⟩ : ByteArray)).size ≤ 20001 := by rw [ByteArray.size_append]; show k.size + 1 ≤ _; omega
    have HST := Lib.hid (set_t hm2 (k ++ ⟨#[120]⟩) (by omega) (by omega) v rfl)
    have HL1 := Lib.hid (put_len (nn := nn) (k := k ++ ⟨#[120]⟩) (v := .string v) hl1)
    clear fg hm hp hgr hng hsq h7 p7 hm2 hl1 hkx
    gi_wp2_with fail
    first | refine ⟨trivial, fun _ => by omega, ?_⟩ | refine ⟨trivial, ?_⟩
    refine (CallsIn.inRound l (callsIn_wide.2 HST.out)).mono ?_
    rintro e A3 ⟨rfl, hm3, k3, lt3⟩
    generalize (if nn = true then [] else Mm.put L1 (k ++ ⟨#[120]⟩) (.string v)) = L2 at *
    generalize (!nn && !(Mm.get L1 (k ++ ⟨#[120]⟩)).isSome) = bo at *
    have HF : Hid (BodyK (IsNode W) A A3 ∧ Tbl w0 A3 nn (.pointer om) L2 [(p, L)] ((bn, bnO ((i + 1 : Nat) : Int)) :: BL2) ∧ PairsAt A3 (some A0) M) := Lib.hid ⟨HBK.out.trans (lt3 _ haw), hm3, k3 _ _ HP2.out⟩
    obtain ⟨cm3, ck3, cv3, cN3, cw3⟩ := HC.out _ _ _ _ hm3 (fun q hq => by simp [hsub q hq])
    obtain ⟨cg3, -⟩ := cells1 (hm3.box (q := (bn, .cells #[.int .i64 ((i : Int) + 1)] 3 (0, 0))) (by simp))
    clear cg fg0 cm ck cv cN cw0 cm2 ck2 cv2 cN2 cw2 hm3 k3 lt3 hadd HST HBK HP2 a0 a1
    by_cases hE : (i : Int) + 1 = x.n
    · have d2 : (((i : Int) + 1) == x.n) = true := by rw [beq_iff_eq]; exact hE
      have HE := Lib.hid hE
      clear hE
      gi_wp2_with fail
      exact ⟨HF.out.1, rfl, by have := HE.out; omega, L2, HF.out.2⟩
    · have d2 : (((i : Int) + 1) == x.n) = false := by rw [beq_eq_false_iff_ne]; exact hE
      clear hE
      gi_wp2_with fail
      exact ⟨HF.out.1, L2, HF.out.2.1, by have := HL1.out; omega, HF.out.2.2⟩
  case hstop =>
    rintro D c i A hD hi ⟨rfl, hN, L1, h10, p11⟩ hK
    have h11 := h10.mark hK (by omega) (hlo.mono hD) (fun q hq => by
      have : q.1 < W.heap.size := by
        rcases List.mem_cons.1 hq with rfl | hq
        · exact hlt7 (bn, bnO (0 : Nat)) (by simp)
        · exact hlt7 q (by simp [hq])
      omega)
    have hlt11 : i ≤ M.length := by rw [← Rf.row_length]; exact hi
    have hml := HML.out
    clear h10 hsq h7 p7 hIts hlt7 hlo
    by_cases hiM : i = M.length
    · subst hiM
      have d1 : ((M.length : Int) == (M.length : Int)) = true := by simp
      obtain ⟨cg, fg⟩ := cells1 (h11.box (q := (bn, bnO M.length)) (by simp))
      have fg0 := fg 0
      obtain ⟨cm, ck, cv, cN, cw0⟩ := HC.out _ _ _ _ h11 (fun q hq => by simp [hsub q hq])

      have h12 : Tbl w0 (A.setCell ⟨bn, 0, none⟩ (.int .i64 ((0 : Nat) : Int))) nn (.pointer om) L1 [(p, L)] ((bn, bnO (0 : Nat)) :: (D, MarkO) :: BL2) := Tbl.set (x := .int .i64 (M.length : Int)) (T := 3) (h11.perm (List.Perm.swap _ _ _)) int_not (.int .i64 ((0 : Nat) : Int))
      have p12 : PairsAt (A.setCell ⟨bn, 0, none⟩ (.int .i64 ((0 : Nat) : Int))) pw M := pairs_turn p11 (by simp [World.setCell]) fun k _ hc => Below.heap_setCell _ _ _ _ fun (e : k = bn) => by
        subst e; exact no_text (h11.box (q := (_, bnO M.length)) (by simp)) (fun _ h => by cases h) hc
      have H12 := Lib.hid h12
      have P12 := Lib.hid p12
      clear h11 p11 h12 p12
      gi_wp2_with fail
      obtain ⟨W2, hW2⟩ : ∃ W2, A.setCell ⟨bn, 0, none⟩ (.int .i64 ((0 : Nat) : Int)) = W2 := ⟨_, rfl⟩
      have h12 := H12.out
      have p12 := P12.out
      have hW2' : A.setCell ⟨bn, 0, none⟩ (.int .i64 0) = W2 := hW2
      rw [hW2] at h12 p12
      rw [hW2']
      clear H12 P12 hW2 hW2' cg fg fg0 cm ck cv cN cw0 hK
      have hsq2 := MS.from_seq 8 (h12.box (q := (b1, .cells #[p] 27 (0, 0))) (by rw [HBL2.out]; simp)) (h12.box (q := (b2, .cells #[.string x.key] 9 (0, 0))) (by rw [HBL2.out]; simp)) (h12.rt (r := (p, L)) (by simp))
      rw [← HROW.out] at hsq2
      have hlo2 := h12.low
      have hbb2 := h12.below.size
      have hlt2 : ∀ q ∈ (bn, bnO (0 : Nat)) :: (D, MarkO) :: BL2, q.1 < W2.heap.size := fun q hq => h12.lt hq
      apply wpIn_rangeY rfl (by omega) (gf := 58) (lb := #[.pointer (some ⟨b1, 0, none⟩), .pointer (some ⟨b2, 0, none⟩)]) rfl trivial (enters_of Try.func58 (by kernel_rfl) rfl)
          (encs := fun q : ByteArray × Value => #[.string q.1, q.2]) (xs := Rf.row M) (cap := IsNode W2) hsq2 (fun k hk => hk.lt) (fun _ => rfl)
          (fun i C => Tbl w0 C nn (.pointer om) L1 [(p, L)] ((bn, bnO (i : Nat)) :: (D, MarkO) :: BL2) ∧ PairsAt C pw M)
          (fun _ _ _ => False)
          (fun i C E hs st => ⟨hs.1.its st hbb2 hlo2 (fun q hq => by
            rcases List.mem_cons.1 hq with rfl | hq
            · exact hlt2 (bn, bnO (0 : Nat)) (by simp)
            · exact hlt2 q (by simp [hq])), pairs_its hs.2 st⟩)
          (fun _ _ _ _ hs _ => hs)
          ⟨h12, p12⟩
      case hassign =>
        intro l x W K hK
        gi_wp2
        exact hK
      case hstop =>
        rintro D c i A _ _ h _
        exact h.elim
      case hbody =>
        rintro l i hi A hA ⟨hm, hp⟩
        have hi' : i < M.length := by rw [← Rf.row_length]; exact hi
        rw [row_get M i hi hi']
        obtain ⟨A0, rfl, a0, a1, -, -⟩ := hp.at (Below.refl _ A) hi'
        have hml := HML.out
        have i0 : (i : Int) < (M.length : Int) := by omega
        have i1 : (0 : Int) ≤ (i : Int) := by omega
        have i2 : (i : Int) ≤ 300 := by omega
        have i3 : (M.length : Int) ≤ 300 := by omega
        have hgr := hm.box (q := (bn, bnO (i : Nat))) (by simp)
        obtain ⟨cg, fg⟩ := cells1 hgr
        have fg0 := fg 0
        obtain ⟨cm, ck, cv, cN, cw0⟩ := HC.out _ _ _ _ hm (fun q hq => by simp [hsub q hq])
        have hng : ¬ IsNode W2 bn := not_node (h12.box (q := (bn, bnO (0 : Nat))) (by simp)) int_not
        have HM2 := Lib.hid (Tbl.set (x := .int .i64 (i : Int)) (T := 3) hm int_not (.int .i64 ((i + 1 : Nat) : Int)))
        have HP2 : Hid (PairsAt (A.setCell ⟨bn, 0, none⟩ (.int .i64 ((i + 1 : Nat) : Int))) (some A0) M) := Lib.hid (pairs_turn hp (by simp [World.setCell]) fun k _ hc => Below.heap_setCell _ _ _ _ fun (e : k = bn) => by
          subst e; exact no_text hgr (fun _ h => by cases h) hc)
        have HBK : Hid (BodyK (IsNode W2) A (A.setCell ⟨bn, 0, none⟩ (.int .i64 ((i + 1 : Nat) : Int)))) := Lib.hid (BodyK.setCell (p := ⟨bn, 0, none⟩) _ hgr hng)
        generalize M[i] = q at *
        obtain ⟨k, v⟩ := q
        simp only at a0 a1
        clear fg hm hp hgr hng hsq2 h12 p12
        gi_wp2_with fail
        exact ⟨HBK.out, HM2.out, HP2.out⟩
      case hdone =>
        rintro D2 A2 hD2 ⟨h15, -⟩ hK
        have h16 := h15.mark hK (by omega) (hlo2.mono hD2) (fun q hq => by
          have : q.1 < W2.heap.size := by
            rcases List.mem_cons.1 hq with rfl | hq
            · exact hlt2 (bn, bnO (0 : Nat)) (by simp)
            · exact hlt2 q (by simp [hq])
          omega)
        rw [Rf.row_length] at h16
        obtain ⟨cg, -⟩ := cells1 (h16.box (q := (bn, bnO (M.length : Nat))) (by simp))
        obtain ⟨-, -, -, -, cw0⟩ := HC.out _ _ _ _ h16 (fun q hq => by simp [hsub q hq])
        have hbr : (bm + 1 + 1 + 1, brO false) ∈ BL2 := hsub _ (by rw [HBL.out]; simp)
        obtain ⟨cr, fr⟩ := cells1 (h16.box (q := (bm + 1 + 1 + 1, brO false)) (by simp [hbr]))
        have fr0 := fr 0
        have hn16 := h16.now.sub (B' := [(D2, MarkO), (D, MarkO), (bm + 1 + 1 + 1, brO false)]) (by
          refine List.Sublist.cons_cons _ (List.Sublist.cons _ (List.Sublist.cons_cons _ ?_))
          rw [HBL2.out]; simp [HBL.out])
        have HE := Lib.hid (Now.set (x := .bool false) (T := 4) (hn16.perm (List.perm_middle (l₁ := [(D2, MarkO), (D, MarkO)]))) (.bool true))
        clear h15 h16 hK fr hn16 hbr hsq2 hlo2 hbb2 hlt2 h12 p12
        gi_wp2_with fail
        exact leaves_box w0 (bm + 1 + 1 + 1) 4 (fun W hc => results_mean _ W _ _ rfl hc) [D2, D] _ (HE.out.perm (List.perm_middle (l₁ := [(D2, MarkO), (D, MarkO)])).symm) (fun W' hb => ⟨rfl, hb⟩)
    · have d1 : ((i : Int) == (M.length : Int)) = false := by rw [beq_eq_false_iff_ne]; omega
      have d2 : ((i : Int) == x.n) = true := by rw [beq_iff_eq]; exact hN
      obtain ⟨cg, fg⟩ := cells1 (h11.box (q := (bn, bnO i)) (by simp))
      have fg0 := fg 0
      obtain ⟨cm, ck, cv, cN, cw0⟩ := HC.out _ _ _ _ h11 (fun q hq => by simp [hsub q hq])

      have h12 : Tbl w0 (A.setCell ⟨bn, 0, none⟩ (.int .i64 ((0 : Nat) : Int))) nn (.pointer om) L1 [(p, L)] ((bn, bnO (0 : Nat)) :: (D, MarkO) :: BL2) := Tbl.set (x := .int .i64 (i : Int)) (T := 3) (h11.perm (List.Perm.swap _ _ _)) int_not (.int .i64 ((0 : Nat) : Int))
      have p12 : PairsAt (A.setCell ⟨bn, 0, none⟩ (.int .i64 ((0 : Nat) : Int))) pw M := pairs_turn p11 (by simp [World.setCell]) fun k _ hc => Below.heap_setCell _ _ _ _ fun (e : k = bn) => by
        subst e; exact no_text (h11.box (q := (_, bnO i)) (by simp)) (fun _ h => by cases h) hc
      have H12 := Lib.hid h12
      have P12 := Lib.hid p12
      clear h11 p11 h12 p12
      gi_wp2_with fail
      obtain ⟨W2, hW2⟩ : ∃ W2, A.setCell ⟨bn, 0, none⟩ (.int .i64 ((0 : Nat) : Int)) = W2 := ⟨_, rfl⟩
      have h12 := H12.out
      have p12 := P12.out
      have hW2' : A.setCell ⟨bn, 0, none⟩ (.int .i64 0) = W2 := hW2
      rw [hW2] at h12 p12
      rw [hW2']
      clear H12 P12 hW2 hW2' cg fg fg0 cm ck cv cN cw0 hK
      have hsq2 := MS.from_seq 8 (h12.box (q := (b1, .cells #[p] 27 (0, 0))) (by rw [HBL2.out]; simp)) (h12.box (q := (b2, .cells #[.string x.key] 9 (0, 0))) (by rw [HBL2.out]; simp)) (h12.rt (r := (p, L)) (by simp))
      rw [← HROW.out] at hsq2
      have hlo2 := h12.low
      have hbb2 := h12.below.size
      have hlt2 : ∀ q ∈ (bn, bnO (0 : Nat)) :: (D, MarkO) :: BL2, q.1 < W2.heap.size := fun q hq => h12.lt hq
      apply wpIn_rangeY rfl (by omega) (gf := 58) (lb := #[.pointer (some ⟨b1, 0, none⟩), .pointer (some ⟨b2, 0, none⟩)]) rfl trivial (enters_of Try.func58 (by kernel_rfl) rfl)
          (encs := fun q : ByteArray × Value => #[.string q.1, q.2]) (xs := Rf.row M) (cap := IsNode W2) hsq2 (fun k hk => hk.lt) (fun _ => rfl)
          (fun i C => Tbl w0 C nn (.pointer om) L1 [(p, L)] ((bn, bnO (i : Nat)) :: (D, MarkO) :: BL2) ∧ PairsAt C pw M)
          (fun _ _ _ => False)
          (fun i C E hs st => ⟨hs.1.its st hbb2 hlo2 (fun q hq => by
            rcases List.mem_cons.1 hq with rfl | hq
            · exact hlt2 (bn, bnO (0 : Nat)) (by simp)
            · exact hlt2 q (by simp [hq])), pairs_its hs.2 st⟩)
          (fun _ _ _ _ hs _ => hs)
          ⟨h12, p12⟩
      case hassign =>
        intro l x W K hK
        gi_wp2
        exact hK
      case hstop =>
        rintro D c i A _ _ h _
        exact h.elim
      case hbody =>
        rintro l i hi A hA ⟨hm, hp⟩
        have hi' : i < M.length := by rw [← Rf.row_length]; exact hi
        rw [row_get M i hi hi']
        obtain ⟨A0, rfl, a0, a1, -, -⟩ := hp.at (Below.refl _ A) hi'
        have hml := HML.out
        have i0 : (i : Int) < (M.length : Int) := by omega
        have i1 : (0 : Int) ≤ (i : Int) := by omega
        have i2 : (i : Int) ≤ 300 := by omega
        have i3 : (M.length : Int) ≤ 300 := by omega
        have hgr := hm.box (q := (bn, bnO (i : Nat))) (by simp)
        obtain ⟨cg, fg⟩ := cells1 hgr
        have fg0 := fg 0
        obtain ⟨cm, ck, cv, cN, cw0⟩ := HC.out _ _ _ _ hm (fun q hq => by simp [hsub q hq])
        have hng : ¬ IsNode W2 bn := not_node (h12.box (q := (bn, bnO (0 : Nat))) (by simp)) int_not
        have HM2 := Lib.hid (Tbl.set (x := .int .i64 (i : Int)) (T := 3) hm int_not (.int .i64 ((i + 1 : Nat) : Int)))
        have HP2 : Hid (PairsAt (A.setCell ⟨bn, 0, none⟩ (.int .i64 ((i + 1 : Nat) : Int))) (some A0) M) := Lib.hid (pairs_turn hp (by simp [World.setCell]) fun k _ hc => Below.heap_setCell _ _ _ _ fun (e : k = bn) => by
          subst e; exact no_text hgr (fun _ h => by cases h) hc)
        have HBK : Hid (BodyK (IsNode W2) A (A.setCell ⟨bn, 0, none⟩ (.int .i64 ((i + 1 : Nat) : Int)))) := Lib.hid (BodyK.setCell (p := ⟨bn, 0, none⟩) _ hgr hng)
        generalize M[i] = q at *
        obtain ⟨k, v⟩ := q
        simp only at a0 a1
        clear fg hm hp hgr hng hsq2 h12 p12
        gi_wp2_with fail
        exact ⟨HBK.out, HM2.out, HP2.out⟩
      case hdone =>
        rintro D2 A2 hD2 ⟨h15, -⟩ hK
        have h16 := h15.mark hK (by omega) (hlo2.mono hD2) (fun q hq => by
          have : q.1 < W2.heap.size := by
            rcases List.mem_cons.1 hq with rfl | hq
            · exact hlt2 (bn, bnO (0 : Nat)) (by simp)
            · exact hlt2 q (by simp [hq])
          omega)
        rw [Rf.row_length] at h16
        obtain ⟨cg, -⟩ := cells1 (h16.box (q := (bn, bnO (M.length : Nat))) (by simp))
        obtain ⟨-, -, -, -, cw0⟩ := HC.out _ _ _ _ h16 (fun q hq => by simp [hsub q hq])
        have hbr : (bm + 1 + 1 + 1, brO false) ∈ BL2 := hsub _ (by rw [HBL.out]; simp)
        obtain ⟨cr, fr⟩ := cells1 (h16.box (q := (bm + 1 + 1 + 1, brO false)) (by simp [hbr]))
        have fr0 := fr 0
        have hn16 := h16.now.sub (B' := [(D2, MarkO), (D, MarkO), (bm + 1 + 1 + 1, brO false)]) (by
          refine List.Sublist.cons_cons _ (List.Sublist.cons _ (List.Sublist.cons_cons _ ?_))
          rw [HBL2.out]; simp [HBL.out])
        have HE := Lib.hid (Now.set (x := .bool false) (T := 4) (hn16.perm (List.perm_middle (l₁ := [(D2, MarkO), (D, MarkO)]))) (.bool true))
        clear h15 h16 hK fr hn16 hbr hsq2 hlo2 hbb2 hlt2 h12 p12
        gi_wp2_with fail
        exact leaves_box w0 (bm + 1 + 1 + 1) 4 (fun W hc => results_mean _ W _ _ rfl hc) [D2, D] _ (HE.out.perm (List.perm_middle (l₁ := [(D2, MarkO), (D, MarkO)])).symm) (fun W' hb => ⟨rfl, hb⟩)
  case hdone =>
    rintro D A hD ⟨L1, h10, -, p11⟩ hK
    have h11 := h10.mark hK (by omega) (hlo.mono hD) (fun q hq => by
      have : q.1 < W.heap.size := by
        rcases List.mem_cons.1 hq with rfl | hq
        · exact hlt7 (bn, bnO (0 : Nat)) (by simp)
        · exact hlt7 q (by simp [hq])
      omega)
    rw [Rf.row_length] at h11
    have hml := HML.out
    clear h10 hsq h7 p7 hIts hlt7 hlo
    obtain ⟨cg, fg⟩ := cells1 (h11.box (q := (bn, bnO M.length)) (by simp))
    have fg0 := fg 0
    obtain ⟨cm, ck, cv, cN, cw0⟩ := HC.out _ _ _ _ h11 (fun q hq => by simp [hsub q hq])
    have d1 : ((M.length : Int) == (M.length : Int)) = true := by simp
    have h12 : Tbl w0 (A.setCell ⟨bn, 0, none⟩ (.int .i64 ((0 : Nat) : Int))) nn (.pointer om) L1 [(p, L)] ((bn, bnO (0 : Nat)) :: (D, MarkO) :: BL2) := Tbl.set (x := .int .i64 (M.length : Int)) (T := 3) (h11.perm (List.Perm.swap _ _ _)) int_not (.int .i64 ((0 : Nat) : Int))
    have p12 : PairsAt (A.setCell ⟨bn, 0, none⟩ (.int .i64 ((0 : Nat) : Int))) pw M := pairs_turn p11 (by simp [World.setCell]) fun k _ hc => Below.heap_setCell _ _ _ _ fun (e : k = bn) => by
      subst e; exact no_text (h11.box (q := (_, bnO M.length)) (by simp)) (fun _ h => by cases h) hc
    have H12 := Lib.hid h12
    have P12 := Lib.hid p12
    clear h11 p11 h12 p12
    gi_wp2_with fail
    obtain ⟨W2, hW2⟩ : ∃ W2, A.setCell ⟨bn, 0, none⟩ (.int .i64 ((0 : Nat) : Int)) = W2 := ⟨_, rfl⟩
    have h12 := H12.out
    have p12 := P12.out
    have hW2' : A.setCell ⟨bn, 0, none⟩ (.int .i64 0) = W2 := hW2
    rw [hW2] at h12 p12
    rw [hW2']
    clear H12 P12 hW2 hW2' cg fg fg0 cm ck cv cN cw0 hK
    have hsq2 := MS.from_seq 8 (h12.box (q := (b1, .cells #[p] 27 (0, 0))) (by rw [HBL2.out]; simp)) (h12.box (q := (b2, .cells #[.string x.key] 9 (0, 0))) (by rw [HBL2.out]; simp)) (h12.rt (r := (p, L)) (by simp))
    rw [← HROW.out] at hsq2
    have hlo2 := h12.low
    have hbb2 := h12.below.size
    have hlt2 : ∀ q ∈ (bn, bnO (0 : Nat)) :: (D, MarkO) :: BL2, q.1 < W2.heap.size := fun q hq => h12.lt hq
    apply wpIn_rangeY rfl (by omega) (gf := 58) (lb := #[.pointer (some ⟨b1, 0, none⟩), .pointer (some ⟨b2, 0, none⟩)]) rfl trivial (enters_of Try.func58 (by kernel_rfl) rfl)
        (encs := fun q : ByteArray × Value => #[.string q.1, q.2]) (xs := Rf.row M) (cap := IsNode W2) hsq2 (fun k hk => hk.lt) (fun _ => rfl)
        (fun i C => Tbl w0 C nn (.pointer om) L1 [(p, L)] ((bn, bnO (i : Nat)) :: (D, MarkO) :: BL2) ∧ PairsAt C pw M)
        (fun _ _ _ => False)
        (fun i C E hs st => ⟨hs.1.its st hbb2 hlo2 (fun q hq => by
          rcases List.mem_cons.1 hq with rfl | hq
          · exact hlt2 (bn, bnO (0 : Nat)) (by simp)
          · exact hlt2 q (by simp [hq])), pairs_its hs.2 st⟩)
        (fun _ _ _ _ hs _ => hs)
        ⟨h12, p12⟩
    case hassign =>
      intro l x W K hK
      gi_wp2
      exact hK
    case hstop =>
      rintro D c i A _ _ h _
      exact h.elim
    case hbody =>
      rintro l i hi A hA ⟨hm, hp⟩
      have hi' : i < M.length := by rw [← Rf.row_length]; exact hi
      rw [row_get M i hi hi']
      obtain ⟨A0, rfl, a0, a1, -, -⟩ := hp.at (Below.refl _ A) hi'
      have hml := HML.out
      have i0 : (i : Int) < (M.length : Int) := by omega
      have i1 : (0 : Int) ≤ (i : Int) := by omega
      have i2 : (i : Int) ≤ 300 := by omega
      have i3 : (M.length : Int) ≤ 300 := by omega
      have hgr := hm.box (q := (bn, bnO (i : Nat))) (by simp)
      obtain ⟨cg, fg⟩ := cells1 hgr
      have fg0 := fg 0
      obtain ⟨cm, ck, cv, cN, cw0⟩ := HC.out _ _ _ _ hm (fun q hq => by simp [hsub q hq])
      have hng : ¬ IsNode W2 bn := not_node (h12.box (q := (bn, bnO (0 : Nat))) (by simp)) int_not
      have HM2 := Lib.hid (Tbl.set (x := .int .i64 (i : Int)) (T := 3) hm int_not (.int .i64 ((i + 1 : Nat) : Int)))
      have HP2 : Hid (PairsAt (A.setCell ⟨bn, 0, none⟩ (.int .i64 ((i + 1 : Nat) : Int))) (some A0) M) := Lib.hid (pairs_turn hp (by simp [World.setCell]) fun k _ hc => Below.heap_setCell _ _ _ _ fun (e : k = bn) => by
        subst e; exact no_text hgr (fun _ h => by cases h) hc)
      have HBK : Hid (BodyK (IsNode W2) A (A.setCell ⟨bn, 0, none⟩ (.int .i64 ((i + 1 : Nat) : Int)))) := Lib.hid (BodyK.setCell (p := ⟨bn, 0, none⟩) _ hgr hng)
      generalize M[i] = q at *
      obtain ⟨k, v⟩ := q
      simp only at a0 a1
      clear fg hm hp hgr hng hsq2 h12 p12
      gi_wp2_with fail
      exact ⟨HBK.out, HM2.out, HP2.out⟩
    case hdone =>
      rintro D2 A2 hD2 ⟨h15, -⟩ hK
      have h16 := h15.mark hK (by omega) (hlo2.mono hD2) (fun q hq => by
        have : q.1 < W2.heap.size := by
          rcases List.mem_cons.1 hq with rfl | hq
          · exact hlt2 (bn, bnO (0 : Nat)) (by simp)
          · exact hlt2 q (by simp [hq])
        omega)
      rw [Rf.row_length] at h16
      obtain ⟨cg, -⟩ := cells1 (h16.box (q := (bn, bnO (M.length : Nat))) (by simp))
      obtain ⟨-, -, -, -, cw0⟩ := HC.out _ _ _ _ h16 (fun q hq => by simp [hsub q hq])
      have hbr : (bm + 1 + 1 + 1, brO false) ∈ BL2 := hsub _ (by rw [HBL.out]; simp)
      obtain ⟨cr, fr⟩ := cells1 (h16.box (q := (bm + 1 + 1 + 1, brO false)) (by simp [hbr]))
      have fr0 := fr 0
      have hn16 := h16.now.sub (B' := [(D2, MarkO), (D, MarkO), (bm + 1 + 1 + 1, brO false)]) (by
        refine List.Sublist.cons_cons _ (List.Sublist.cons _ (List.Sublist.cons_cons _ ?_))
        rw [HBL2.out]; simp [HBL.out])
      have HE := Lib.hid (Now.set (x := .bool false) (T := 4) (hn16.perm (List.perm_middle (l₁ := [(D2, MarkO), (D, MarkO)]))) (.bool true))
      clear h15 h16 hK fr hn16 hbr hsq2 hlo2 hbb2 hlt2 h12 p12
      gi_wp2_with fail
      exact leaves_box w0 (bm + 1 + 1 + 1) 4 (fun W hc => results_mean _ W _ _ rfl hc) [D2, D] _ (HE.out.perm (List.perm_middle (l₁ := [(D2, MarkO), (D, MarkO)])).symm) (fun W' hb => ⟨rfl, hb⟩)
end Go.Proofs.Ythioogncbhkaoaa
