/-
  Several texts of one proof in one file, in the order in which they build.
-/
import Derived.Laws.CopyOwn
import Derived.Deep.RegionLaw
import Derived.Maps.OwnOps
import Derived.DeepKeys4
import Derived.BigQuiet
import Derived.Deep.QuietTactic
import Derived.Test.YtpmmjaceehlpiaaGreatDoorS18
import Derived.Test.YtpmmjaceehlpiaaGreatDoorS05
import Derived.Test.YtpmmjaceehlpiaaGreatDoorS06
import Derived.Test.YtpmmjaceehlpiaaGreatDoorS01
import Derived.Test.YtpmmjaceehlpiaaGreatDoorS20
/-
  The law's own copy of a state.
-/
namespace Go.Proofs.YtpmmjaceehlpiaaGreatDoor
open Go Go.RowKit Go.ChangeShapes Go.WideShapes Go.ChangeAt

def CopyState (p : Int) (vs zs : List Int) (w : World) (e : Ending) (w' : World) : Prop :=
  ∃ a b, e = .returned (spC p a vs.length vs.length b zs.length zs.length) ∧ HeapIn w.heap.size w'.heap.size w' a vs.length b zs.length (intVals vs) (intVals zs) ∧ Below w.heap.size w w'
theorem box3s (w : World) (xs ys us : List Value) (t t' t'' : TypeId) : ∃ W0, ((w.alloc (.cells xs.toArray t)).alloc (.cells ys.toArray t')).alloc (.cells us.toArray t'') = W0 ∧ Below w.heap.size w W0 ∧ BoxL W0 w.heap.size xs ∧ BoxL W0 (w.heap.size + 1) ys ∧ BoxL W0 (w.heap.size + 2) us := by
  obtain ⟨W1, h1, hb1, b1, b2⟩ := two_boxL w xs ys t t'
  have hs1 : W1.heap.size = w.heap.size + 2 := by rw [← h1]; simp
  rw [h1]
  have b3 := BoxL.new W1 us t''
  have ha := (Below.refl W1.heap.size W1).alloc (Nat.le_refl _) (.cells us.toArray t'')
  rw [hs1] at b3
  exact ⟨_, rfl, hb1.trans (ha.mono (by omega)), b1.below ha, b2.below ha, b3⟩
end Go.Proofs.YtpmmjaceehlpiaaGreatDoor
/-
  The key of a state: a value of twelve numbers.
-/
namespace Go.Proofs.YtpmmjaceehlpiaaGreatDoor
open Go Go.RowKit Go.ChangeShapes Go.WideShapes Go.ChangeAt

def keyNums (p : Int) (vs zs : List Int) : List Int := [p, (zs.length : Int), vs.getD 0 0, vs.getD 1 0, vs.getD 2 0, vs.getD 3 0, zs.getD 0 0, zs.getD 1 0, zs.getD 2 0, zs.getD 3 0, zs.getD 4 0, zs.getD 5 0]
abbrev keyV (p : Int) (vs zs : List Int) : Value := .agg #[.int .i64 p, .int .i64 (zs.length : Int), .int .i64 (vs.getD 0 0), .int .i64 (vs.getD 1 0), .int .i64 (vs.getD 2 0), .int .i64 (vs.getD 3 0), .int .i64 (zs.getD 0 0), .int .i64 (zs.getD 1 0), .int .i64 (zs.getD 2 0), .int .i64 (zs.getD 3 0), .int .i64 (zs.getD 4 0), .int .i64 (zs.getD 5 0)]
def keyCells (p : Int) (vs zs : List Int) : List Value := (keyNums p vs zs).map (Value.int .i64)
theorem splice_key (p : Int) (vs zs : List Int) (hv : vs.length ≤ 4) (hz : zs.length ≤ 6) :
    splice (splice [.int .i64 p, .int .i64 (zs.length : Int), .int .i64 0, .int .i64 0, .int .i64 0, .int .i64 0, .int .i64 0, .int .i64 0, .int .i64 0, .int .i64 0, .int .i64 0, .int .i64 0] 2 (intVals vs)) 6 (intVals zs) = keyCells p vs zs := by
  match vs, zs, hv, hz with
  | vs, zs, hv, hz =>
    rcases vs with _ | ⟨v0, _ | ⟨v1, _ | ⟨v2, _ | ⟨v3, _ | ⟨_, _⟩⟩⟩⟩⟩
    all_goals try (exfalso; simp only [List.length_cons] at hv; omega; done)
    all_goals rcases zs with _ | ⟨z0, _ | ⟨z1, _ | ⟨z2, _ | ⟨z3, _ | ⟨z4, _ | ⟨z5, _ | ⟨_, _⟩⟩⟩⟩⟩⟩⟩ <;> first | rfl | (exfalso; simp only [List.length_cons] at hz; omega)
theorem box_cells {W : World} {K : Nat} {xs : List Value} {t : TypeId} (h : W.heap[K]? = some (.cells xs.toArray t (0, 0))) : BoxL W K xs := by
  refine ⟨fun i x hx => ?_, fun o => ?_, ?_⟩
  · simp [World.cell?, h, hx]
  · simp [World.frozen?, h]
  · exact (Array.getElem?_eq_some_iff.1 h).1
theorem row_from {w : World} {B : Nat} {a : Option Addr} {ns : List Int} (h : Row w B a (intVals ns)) : 0 < (intVals ns).length → ∃ ad, a = some ad ∧ ∀ j v, (intVals ns)[j]? = some v → w.cell? (ad.add j) = some v := by
  intro h0
  obtain ⟨b, o, e, _, _⟩ := h 0 _ (List.getElem?_eq_getElem h0)
  refine ⟨_, e, fun j v hj => ?_⟩
  obtain ⟨b', o', e', _, hc⟩ := h j v hj
  rw [e] at e'
  injection e' with e'
  injection e' with e1 e2 _
  subst e1 e2
  rw [add_plain]
  exact hc
theorem numSize : (Tryz.prog.info? 3).map (·.size) = some 1 := by kernel_rfl
set_option maxRecDepth 100000 in
set_option maxHeartbeats 1600000 in
theorem implKeyOf (p : Int) (a b : Option Addr) (ca cb : Nat) (vs zs : List Int) (w : World) (hv : vs.length ≤ 4) (hz : zs.length ≤ 6) (h : HeapAt w a b vs zs) :
    Calls Tryz.prog 111 #[spC p a vs.length ca b zs.length cb] w (GaveX (keyV p vs zs) w) := by
  obtain ⟨kv, hkv⟩ : ∃ kv, keyV p vs zs = kv := ⟨_, rfl⟩
  rw [hkv]
  have HKV := Lib.hid hkv
  clear hkv
  go_enter Tryz.func111, Tryz.ntmps111
  go_wp2
  obtain ⟨W0, hW0, hb0, b0, b1, _⟩ := box3s w [.int .i64 p, .slice a vs.length ca, .slice b zs.length cb] [.int .i64 0, .int .i64 0, .int .i64 0, .int .i64 0, .int .i64 0, .int .i64 0, .int .i64 0, .int .i64 0, .int .i64 0, .int .i64 0, .int .i64 0, .int .i64 0] [.int .i64 p, .int .i64 (zs.length : Int), .int .i64 0, .int .i64 0, .int .i64 0, .int .i64 0, .int .i64 0, .int .i64 0, .int .i64 0, .int .i64 0, .int .i64 0, .int .i64 0] 34 134 134
  have hk : W0.heap[w.heap.size + 1 + 1]? = some (.cells [.int .i64 p, .int .i64 (zs.length : Int), .int .i64 0, .int .i64 0, .int .i64 0, .int .i64 0, .int .i64 0, .int .i64 0, .int .i64 0, .int .i64 0, .int .i64 0, .int .i64 0].toArray 134 (0, 0)) := by
    rw [← hW0]
    refine (congrArg (fun i => (World.heap _)[i]?) (by simp : w.heap.size + 1 + 1 = ((w.alloc _).alloc _).heap.size)).trans (heap_alloc_new _ _)
  simp only [List.toArray] at hW0
  rw [hW0]
  clear hW0
  have hA : ∀ W, Below (w.heap.size + 1 + 1) W0 W → (W.cell? ⟨w.heap.size, 1, none⟩ = some (.slice a vs.length ca) ∧ W.cell? ⟨w.heap.size, 2, none⟩ = some (.slice b zs.length cb)) ∧ HeapAt W a b vs zs ∧ BoxL W (w.heap.size + 1) [.int .i64 0, .int .i64 0, .int .i64 0, .int .i64 0, .int .i64 0, .int .i64 0, .int .i64 0, .int .i64 0, .int .i64 0, .int .i64 0, .int .i64 0, .int .i64 0] ∧ Below w.heap.size w W := fun W hb => by
    have hs : w.heap.size + 1 + 1 ≤ W0.heap.size := Nat.le_of_lt (Array.getElem?_eq_some_iff.1 hk).1
    have hz0 := hb0.size
    refine ⟨⟨(hb.cell (p := ⟨w.heap.size, 1, none⟩) (by show w.heap.size < _; omega)).trans (b0.c 1 _ rfl), (hb.cell (p := ⟨w.heap.size, 2, none⟩) (by show w.heap.size < _; omega)).trans (b0.c 2 _ rfl)⟩, h.below (hb0.trans (hb.mono (by omega))) (Nat.le_refl _), ⟨fun i x hx => (hb.cell (p := ⟨w.heap.size + 1, i, none⟩) (by show w.heap.size + 1 < _; omega)).trans (b1.c i x hx), fun o => (hb.frozen (p := ⟨w.heap.size + 1, o, none⟩) (by show w.heap.size + 1 < _; omega)).trans (b1.f o), Nat.lt_of_lt_of_le b1.lt hb.size⟩, hb0.trans (hb.mono (by omega))⟩
  have HA := Lib.hid hA
  have hl : (intVals vs).length = vs.length := intVals_length vs
  have hl2 : (intVals zs).length = zs.length := intVals_length zs
  have c1 := b0.c 1 _ rfl
  have c2 := b0.c 2 _ rfl
  have HKK := Lib.hid hk
  have hd : ∀ n, Below (w.heap.size + 1 + 1) W0 (W0.drewN n) := fun n => below_draws (Below.refl _ _) n
  clear hA b0 b1 hb0 h hk
  go_region_law (refine step_copy_splice rfl (.tmp 12) (.tmp 15) 28 28 rfl 3 Tryz.underlying28 numSize (some ⟨w.heap.size + 1 + 1, 2, none⟩) a 4 4 vs.length ca rfl rfl (w.heap.size + 1 + 1) 2 [.int .i64 p, .int .i64 (zs.length : Int), .int .i64 0, .int .i64 0, .int .i64 0, .int .i64 0, .int .i64 0, .int .i64 0, .int .i64 0, .int .i64 0, .int .i64 0, .int .i64 0] 134 HKK.out (intVals vs) (by rw [hl]; exact (Nat.min_eq_left hv).symm) (fun h0 => ⟨rfl, row_from (HA.out _ (Below.drew (Below.refl _ _))).2.1.v h0⟩) (by rw [hl]; show 2 + vs.length ≤ 12; omega) (intVals_onec vs) (w.heap.size + 1 + 1) W0 (Below.drew (Below.refl _ _)) (Nat.le_refl _) ?_; intro w4 hg4 hb4)
  have c2' := (HA.out _ hb4).1.2
  have HG4 := Lib.hid hg4.out
  have HB4 := Lib.hid hb4
  clear hd c1 c2 hg4 hb4
  obtain ⟨X4, hX4⟩ : ∃ X, splice [.int .i64 p, .int .i64 (zs.length : Int), .int .i64 0, .int .i64 0, .int .i64 0, .int .i64 0, .int .i64 0, .int .i64 0, .int .i64 0, .int .i64 0, .int .i64 0, .int .i64 0] 2 (intVals vs) = X := ⟨_, rfl⟩
  have hXl : X4.length = 12 := by
    rw [← hX4]
    simp only [splice, List.length_append, List.length_take, List.length_drop, hl, List.length_cons, List.length_nil]
    omega
  have hHG : w4.heap[w.heap.size + 1 + 1]? = some (.cells X4.toArray 134 (0, 0)) := by rw [← hX4]; exact HG4.out
  have HHG := Lib.hid hHG
  have HX4 := Lib.hid hX4
  clear hHG hX4 HG4
  go_wp2
  go_region_law (refine step_copy_splice rfl (.tmp 18) (.tmp 21) 28 28 rfl 3 Tryz.underlying28 numSize (some ⟨w.heap.size + 1 + 1, 6, none⟩) b 6 6 zs.length cb rfl rfl (w.heap.size + 1 + 1) 6 X4 134 HHG.out (intVals zs) (by rw [hl2]; exact (Nat.min_eq_left hz).symm) (fun h0 => ⟨rfl, row_from (HA.out _ (Below.drew HB4.out)).2.1.z h0⟩) (by rw [hl2, hXl]; omega) (intVals_onec zs) (w.heap.size + 1 + 1) W0 (Below.drew HB4.out) (Nat.le_refl _) ?_; intro w5 hg5 hb5)
  have hK := hg5.out
  rw [← HX4.out, splice_key p vs zs hv hz] at hK
  have bK := box_cells hK
  have bR := (HA.out _ hb5).2.2.1
  have HB5 := Lib.hid (HA.out _ hb5).2.2.2
  have k0 := bK.c 0 _ rfl
  have k1 := bK.c 1 _ rfl
  have k2 := bK.c 2 _ rfl
  have k3 := bK.c 3 _ rfl
  have k4 := bK.c 4 _ rfl
  have k5 := bK.c 5 _ rfl
  have k6 := bK.c 6 _ rfl
  have k7 := bK.c 7 _ rfl
  have k8 := bK.c 8 _ rfl
  have k9 := bK.c 9 _ rfl
  have k10 := bK.c 10 _ rfl
  have k11 := bK.c 11 _ rfl
  have r0 := bR.c 0 _ rfl
  have r1 := bR.c 1 _ rfl
  have r2 := bR.c 2 _ rfl
  have r3 := bR.c 3 _ rfl
  have r4 := bR.c 4 _ rfl
  have r5 := bR.c 5 _ rfl
  have r6 := bR.c 6 _ rfl
  have r7 := bR.c 7 _ rfl
  have r8 := bR.c 8 _ rfl
  have r9 := bR.c 9 _ rfl
  have r10 := bR.c 10 _ rfl
  have r11 := bR.c 11 _ rfl
  have rf := bR.f
  clear bK bR hK hg5 hb5 HB4 HHG HX4 c2' HKK
  have hkv : Value.agg #[.int .i64 p, .int .i64 (zs.length : Int), .int .i64 (vs.getD 0 0), .int .i64 (vs.getD 1 0), .int .i64 (vs.getD 2 0), .int .i64 (vs.getD 3 0), .int .i64 (zs.getD 0 0), .int .i64 (zs.getD 1 0), .int .i64 (zs.getD 2 0), .int .i64 (zs.getD 3 0), .int .i64 (zs.getD 4 0), .int .i64 (zs.getD 5 0)] = kv := HKV.out
  clear HKV
  generalize vs.getD 0 0 = n0 at *
  generalize vs.getD 1 0 = n1 at *
  generalize vs.getD 2 0 = n2 at *
  generalize vs.getD 3 0 = n3 at *
  generalize zs.getD 0 0 = m0 at *
  generalize zs.getD 1 0 = m1 at *
  generalize zs.getD 2 0 = m2 at *
  generalize zs.getD 3 0 = m3 at *
  generalize zs.getD 4 0 = m4 at *
  generalize zs.getD 5 0 = m5 at *
  have HKV := Lib.hid hkv
  clear hkv
  go_wp2
  refine bodyPost_ret (v := .agg #[.int .i64 p, .int .i64 (zs.length : Int), .int .i64 n0, .int .i64 n1, .int .i64 n2, .int .i64 n3, .int .i64 m0, .int .i64 m1, .int .i64 m2, .int .i64 m3, .int .i64 m4, .int .i64 m5]) (by simp [results, Tryz.results111, go_sem, r0, r1, r2, r3, r4, r5, r6, r7, r8, r9, r10, r11]) rfl ⟨by rw [HKV.out], ?_⟩
  repeat (first | with_reducible exact HB5.out | refine Below.setCell ?_ (by show w.heap.size ≤ w.heap.size + 1; omega) _)
end Go.Proofs.YtpmmjaceehlpiaaGreatDoor
/-
  The map of the states that have been met, keyed by a struct: what it says of a state.
-/
namespace Go.Proofs.YtpmmjaceehlpiaaGreatDoor
open Go Go.RowKit Go.Maps

def keyLs (p : Int) (vs zs : List Int) : List Lit := (keyNums p vs zs).map (Lit.int .i64)
def keyL (x : Sb) : Lit := .string (keyBytes (keyLs x.1 x.2.1 x.2.2))
def Fits (n : Int) : Prop := -9223372036854775808 ≤ n ∧ n ≤ 9223372036854775807
/-- A state of a program with n variables. -/
structure Kx (n : Nat) (x : Sb) : Prop where
  n4 : n ≤ 4
  lv : x.2.1.length = n
  lz : x.2.2.length ≤ 6
  fp : Fits x.1
  fv : ∀ k ∈ x.2.1, Fits k
  fz : ∀ k ∈ x.2.2, Fits k
theorem fits_getD {l : List Int} (h : ∀ k ∈ l, Fits k) (i : Nat) : Fits (l.getD i 0) := by
  rw [List.getD_eq_getElem?_getD]
  cases hq : l[i]? with
  | none => exact ⟨by decide, by decide⟩
  | some v => exact h v (List.mem_of_getElem? hq)
theorem fits_wf {n : Int} (h : Fits n) : (Lit.int .i64 n).wf = true := by
  simp only [Lit.wf, Bool.and_eq_true, decide_eq_true_eq]
  exact h
theorem size_big : ∃ d, Tryz.prog.types.size + 1 = d + 3 := ⟨Tryz.prog.types.size - 2, by have : 2 ≤ Tryz.prog.types.size := of_decide_eq_true (by kernel_rfl); omega⟩
theorem cells_key : Tryz.prog.cellsOf 134 = 12 := by kernel_rfl
theorem cells_arr4 : Tryz.prog.cellsOf 131 = 4 := by kernel_rfl
theorem cells_arr6 : Tryz.prog.cellsOf 132 = 6 := by kernel_rfl
theorem cells_num : Tryz.prog.cellsOf 3 = 1 := by kernel_rfl
theorem lits12 (d : Nat) (p m a0 a1 a2 a3 b0 b1 b2 b3 b4 b5 : Int) (w0 : (Lit.int .i64 p).wf = true) (w1 : (Lit.int .i64 m).wf = true) (w2 : (Lit.int .i64 a0).wf = true) (w3 : (Lit.int .i64 a1).wf = true) (w4 : (Lit.int .i64 a2).wf = true) (w5 : (Lit.int .i64 a3).wf = true) (w6 : (Lit.int .i64 b0).wf = true) (w7 : (Lit.int .i64 b1).wf = true) (w8 : (Lit.int .i64 b2).wf = true) (w9 : (Lit.int .i64 b3).wf = true) (w10 : (Lit.int .i64 b4).wf = true) (w11 : (Lit.int .i64 b5).wf = true) :
    Tryz.prog.keyLits (d + 3) 134 [.int .i64 p, .int .i64 m, .int .i64 a0, .int .i64 a1, .int .i64 a2, .int .i64 a3, .int .i64 b0, .int .i64 b1, .int .i64 b2, .int .i64 b3, .int .i64 b4, .int .i64 b5] = some [.int .i64 p, .int .i64 m, .int .i64 a0, .int .i64 a1, .int .i64 a2, .int .i64 a3, .int .i64 b0, .int .i64 b1, .int .i64 b2, .int .i64 b3, .int .i64 b4, .int .i64 b5] := by
  simp [Program.keyLits, Tryz.underlying134, Tryz.underlying131, Tryz.underlying132, Tryz.underlying3, cells_key, cells_arr4, cells_arr6, cells_num, List.range, List.range.loop, w0, w1, w2, w3, w4, w5, w6, w7, w8, w9, w10, w11]
theorem key_lits {n : Nat} {x : Sb} (h : Kx n x) (d : Nat) : Tryz.prog.keyLits (d + 3) 134 (keyV x.1 x.2.1 x.2.2).cells.toList = some (keyLs x.1 x.2.1 x.2.2) :=
  lits12 d _ _ _ _ _ _ _ _ _ _ _ _ (fits_wf h.fp) (fits_wf ⟨by omega, by have := h.lz; omega⟩) (fits_wf (fits_getD h.fv 0)) (fits_wf (fits_getD h.fv 1)) (fits_wf (fits_getD h.fv 2)) (fits_wf (fits_getD h.fv 3)) (fits_wf (fits_getD h.fz 0)) (fits_wf (fits_getD h.fz 1)) (fits_wf (fits_getD h.fz 2)) (fits_wf (fits_getD h.fz 3)) (fits_wf (fits_getD h.fz 4)) (fits_wf (fits_getD h.fz 5))
theorem key_of {n : Nat} {x : Sb} (h : Kx n x) : keyOf Tryz.prog 134 (keyV x.1 x.2.1 x.2.2) = some (keyL x) := by
  obtain ⟨d, hd⟩ := size_big
  have hk := key_lits h d
  have ht : Tryz.prog.keyType 134 = true := by kernel_rfl
  have hf : (keyV x.1 x.2.1 x.2.2).formed Tryz.prog 134 = true := by simp [Value.formed, Tryz.underlying134, cells_key]
  unfold keyOf
  rw [hd, hk, ht, hf, Tryz.underlying134]
  rfl
theorem getD_all {l m : List Int} (hl : l.length = m.length) (h : ∀ i, i < l.length → l.getD i 0 = m.getD i 0) : l = m := by
  apply List.ext_getElem hl
  intro i h1 h2
  have := h i h1
  simpa [h1, h2] using this
theorem key_inj {n : Nat} {x y : Sb} (hx : Kx n x) (hy : Kx n y) (e : keyL x = keyL y) : x = y := by
  obtain ⟨d, hd⟩ := size_big
  have e1 : keyBytes (keyLs x.1 x.2.1 x.2.2) = keyBytes (keyLs y.1 y.2.1 y.2.2) := by injection e
  have e2 := keyLits_inj (key_lits hx d) (key_lits hy d) e1
  have e3 : keyNums x.1 x.2.1 x.2.2 = keyNums y.1 y.2.1 y.2.2 := by
    unfold keyLs at e2
    exact (List.map_inj_right (fun a b h => by injection h)).1 e2
  simp only [keyNums, List.cons.injEq, and_true] at e3
  obtain ⟨hp, hl, v0, v1, v2, v3, z0, z1, z2, z3, z4, z5⟩ := e3
  have hlz : x.2.2.length = y.2.2.length := by omega
  have hv : x.2.1 = y.2.1 := getD_all (hx.lv.trans hy.lv.symm) fun i hi => by
    have := hx.n4
    have := hx.lv
    match i, (by omega : i < 4) with
    | 0, _ => exact v0
    | 1, _ => exact v1
    | 2, _ => exact v2
    | 3, _ => exact v3
  have hz : x.2.2 = y.2.2 := getD_all hlz fun i hi => by
    have := hx.lz
    match i, (by omega : i < 6) with
    | 0, _ => exact z0
    | 1, _ => exact z1
    | 2, _ => exact z2
    | 3, _ => exact z3
    | 4, _ => exact z4
    | 5, _ => exact z5
  exact Prod.ext hp (Prod.ext hv hz)

def metOf {H : Type} (bs : List Sb) : DataW H := bs.foldl (fun D x => D.put (keyL x) (.lit (.bool true))) (.map [])
theorem metOf_snoc {H : Type} (bs : List Sb) (x : Sb) : (metOf (bs ++ [x]) : DataW H) = (metOf bs).put (keyL x) (.lit (.bool true)) := by simp [metOf, List.foldl_append]
theorem keyL_ok (x : Sb) : WideAt.IsKeyLit (keyL x) := trivial
structure MetSays {H : Type} (n : Nat) (bs : List Sb) : Prop where
  tidy : Tidy (metOf bs : DataW H)
  at_ : ∀ x : Sb, Kx n x → (metOf bs : DataW H).atKey (keyL x) (.lit (.bool false)) = .lit (.bool (decide (x ∈ bs)))
theorem metSays {H : Type} {n : Nat} : ∀ (k : Nat) (bs : List Sb), bs.length = k → (∀ y ∈ bs, Kx n y) → MetSays (H := H) n bs
  | 0, bs, hl, _ => by
    obtain rfl : bs = [] := List.eq_nil_of_length_eq_zero hl
    exact ⟨tidy_empty, fun x _ => by simp [metOf, DataW.atKey]⟩
  | k + 1, bs, hl, hb => by
    rcases snoc_cases bs with rfl | ⟨a, c, rfl⟩
    · simp at hl
    · have ih := metSays (H := H) k a (by simpa using hl) fun y hy => hb y (by simp [hy])
      refine ⟨?_, fun x hx => ?_⟩
      · rw [metOf_snoc]
        exact ih.tidy.put (keyL_ok c) _
      · rw [metOf_snoc]
        by_cases h : x = c
        · subst h
          rw [Maps.atKey_put_same ih.tidy.isMap (keyL_ok x)]
          simp
        · rw [Maps.atKey_put_other (fun e => h (key_inj hx (hb c (by simp)) e)), ih.at_ x hx]
          simp [h]
theorem key_row : (134 : TypeId) < Tryz.prog.types.size := of_decide_eq_true (by kernel_rfl)
theorem key_wide : (match Tryz.prog.underlying 134 with | some (.array _ _) | some (.struct _) => true | _ => false) = true := by kernel_rfl
set_option maxRecDepth 100000 in
theorem key_laid : laidOutB Tryz.prog = true := by kernel_rfl
set_option maxRecDepth 100000 in
theorem lawKey : Keyed Tryz.prog 134 := Keyed.of_law (deep_law_laid key_laid (m := 3) (by omega) key_row (by kernel_rfl) key_wide)
theorem zeroB (w : World) : (zeroValue 4).run Tryz.prog w = .ok (.bool false) w := by kernel_rfl
/-- A map of the states that have been met. -/
def Met (H : Type) (w : World) (mb : Nat) (bs : List Sb) : Prop := w.ownsMap (H := H) Tryz.prog 134 (plainElem Tryz.prog 4) mb bs.length (metOf bs)
theorem plain_bool_inv {H : Type} {P : Program} {e : TypeId} (he : P.underlying e = some .bool) {v : Value} {c : Bool} {ps : List MemPlace} (h : plainElem (H := H) P e v = some (.lit (.bool c), ps)) : v = .bool c := by
  unfold plainElem at h
  rw [he] at h
  cases v <;> simp_all
section
variable {H : Type} {w w' : World} {mb n : Nat} {bs : List Sb}
theorem Met.run (h : Met H w mb bs) (hb : ∀ y ∈ bs, Kx n y) {x : Sb} (hx : Kx n x) : (Instr.lookup 95 (.map (some mb)) (keyV x.1 x.2.1 x.2.2) false).run Tryz.prog w = .ok (.bool (decide (x ∈ bs))) w := by
  obtain ⟨v, ps, hr, hv⟩ := World.ownsMap.lookup h lawKey Tryz.underlying95 (zeroB w) (plainElem_bool Tryz.underlying4 false) (key_of hx)
  rw [(metSays (H := H) _ bs rfl hb).at_ x hx] at hv
  rw [plain_bool_inv Tryz.underlying4 hv] at hr
  exact hr
theorem Met.store (h : Met H w mb bs) (hl : bs.length < maxLen) {x : Sb} (hx : Kx n x) : ∃ w', (Instr.mapUpdate 95 (.map (some mb)) (keyV x.1 x.2.1 x.2.2) (.bool true)).run Tryz.prog w = .ok () w' ∧ Met H w' mb (bs ++ [x]) ∧ w.grownBy w' (some mb) := by
  obtain ⟨w', hr, ho, hg⟩ := World.ownsMap.update h lawKey Tryz.underlying95 hl (key_of hx) (plainElem_bool Tryz.underlying4 true)
  refine ⟨w', hr, ?_, hg⟩
  unfold Met
  rw [metOf_snoc, List.length_append]
  exact ho
theorem Met.kept {r : Option Nat} (h : Met H w mb bs) (hg : w.grownBy w' r) (hr : some mb ≠ r) : Met H w' mb bs := World.ownsMap.kept h hg hr
theorem Met.below (h : Met H w mb bs) (hb : Below w.heap.size w w') : Met H w' mb bs := World.ownsMap.kept (row := none) h ⟨hb.os, hb.tape, hb.output, hb.size, fun k hk _ => hb.block k hk⟩ (by simp)
theorem Met.lt (h : Met H w mb bs) : mb < w.heap.size := World.ownsMap.lt h
end
end Go.Proofs.YtpmmjaceehlpiaaGreatDoor
/-
  The program's list of states: one is added that is not there yet.
-/
namespace Go.Proofs.YtpmmjaceehlpiaaGreatDoor
open Go Go.RowKit Go.ChangeShapes Go.WideShapes Go.ChangeAt Go.Maps

/-- A store into a map of one's own, as a step of a region. -/
theorem step_update_own {P : Program} {ops : Array Oper} {o : Oper} {act : Act} {K : Act → World → Prop} {Q : Exit → Act → World → Prop} {E : Prop} (w : World) (hgd : o.guard = none) (m x u : Operand) (t : TypeId) (ho : o.op = Op.mapUpdate t m x u)
    (vm key val : Value) (hm : act.eval m = vm) (hx : act.eval x = key) (hu : act.eval u = val) (w1 : World) (hrun : (Instr.mapUpdate t vm key val).run P w = .ok () w1) (h : K (act.put o.dst undef) w1) :
    if Region.wanted o (yielded ops act.tmps) = true then Oper.wp P o act w K Q else E := by
  have hw : Region.wanted o (yielded ops act.tmps) = true := by simp [Region.wanted, hgd]
  rw [if_pos hw]
  unfold Oper.wp
  simp [execOp, ho, hm, hx, hu, hrun, Result.andThen]
  exact h

theorem BoxL.onlyA {S : Nat → Prop} {W W' : World} {g : Nat} {xs : List Value} (h : BoxL W g xs) (t : Only S W W') (hd : ¬ S g) : BoxL W' g xs :=
  ⟨fun i x hx => (World.cell?_of_block (t.block g h.lt hd)).trans (h.c i x hx), fun o => (World.frozen?_of_block (t.block g h.lt hd)).trans (h.f o), Nat.lt_of_lt_of_le h.lt t.size⟩
/-- The list: its box at L, its map at mb, its states. -/
structure ListIs (H : Type) (base L mb n : Nat) (bs : List Sb) (w : World) (v : Value) (ss : List Sp) : Prop where
  box : BoxL w L [v, .map (some mb)]
  met : Met H w mb bs
  body : ss.map Sp.body = bs
  own : w.ownsRow base 34 3 v ss.length (spVals ss)
  ins : HeapsIn base w (ss.map Sp.h)
  off : ∀ k, v.ownBlock = some k → ¬ hasAny (ss.map Sp.h) k
  kx : ∀ y ∈ bs, Kx n y
  hL : L < base
  hmb : mb < L
section
variable {H : Type} {base L mb n : Nat} {bs : List Sb} {w w' : World} {v : Value} {ss : List Sp}
theorem ListIs.below (h : ListIs H base L mb n bs w v ss) (hb : Below w.heap.size w w') : ListIs H base L mb n bs w' v ss :=
  ⟨h.box.below hb, h.met.below hb, h.body, own_keeps h.own hb, h.ins.below hb, h.off, h.kx, h.hL, h.hmb⟩
theorem ListIs.len (h : ListIs H base L mb n bs w v ss) : ss.length = bs.length := by rw [← h.body, List.length_map]
end
/-- What an addition leaves. -/
def AddEnd (H : Type) (base L mb n : Nat) (bs : List Sb) (v : Value) (ss : List Sp) (w : World) (e : Ending) (w' : World) : Prop :=
  e = .returned (.tuple #[]) ∧ ∃ v' ss', ListIs H base L mb n bs w' v' ss' ∧ (∃ r, ss' = ss ++ r) ∧ Only (fun k => k = L ∨ k = mb ∨ v.ownBlock = some k) w w' ∧ (v'.ownBlock = v.ownBlock ∨ ∃ k, v'.ownBlock = some k ∧ w.heap.size ≤ k)
theorem Met.only {H : Type} {S : Nat → Prop} {w w' : World} {mb : Nat} {bs : List Sb} (h : Met H w mb bs) (t : Only S w w') (hd : ¬ S mb) : Met H w' mb bs := by
  have hlt := h.lt
  obtain ⟨es, clock, hb, F, hs, hD⟩ := h
  exact ⟨es, clock, (t.block mb hlt hd).trans hb, F, hs, hD⟩
theorem add_done {H : Type} {base L mb n g9 cap9 : Nat} {bs : List Sb} {va : Option Addr} {vc : Nat} {ss : List Sp} {p : Int} {N : Hp} {w W3 w4 w9 : World} (HL3 : ListIs H base L mb n bs W3 (.slice va ss.length vc) ss) (hB3 : Below w.heap.size w W3)
    (hN : N.In base w.heap.size w) (hNs : ∀ y ∈ ss, ∀ k, y.h.has k → ¬ N.has k) (hNv : ∀ k, (Value.slice va ss.length vc).ownBlock = some k → ¬ N.has k) (hx : Kx n (p, N.body)) (hm : (p, N.body) ∉ bs)
    (hM4 : Met H w4 mb (bs ++ [(p, N.body)])) (ho4 : Only (fun k => k = mb) W3 w4) (hob9 : Only (fun k => (Value.slice va ss.length vc).ownBlock = some k) w4 w9) (hbl9 : BoxL w9 L [.slice va ss.length vc, .map (some mb)])
    (hown9 : w9.ownsRow base 34 3 (.slice (some ⟨g9, 0, none⟩) (ss.length + 1) cap9) (ss.length + 1) (spVals ss ++ [.int .i64 p, .slice N.a N.vs.length N.ca, .slice N.b N.zs.length N.cb])) (hat9 : (Value.slice va ss.length vc).ownBlock = some g9 ∨ w4.heap.size ≤ g9) :
    AddEnd H base L mb n (putS bs (p, N.body)) (.slice va ss.length vc) ss w (.returned (.tuple #[])) (w9.setCell ⟨L, 0, none⟩ (.slice (some ⟨g9, 0, none⟩) (ss.length + 1) cap9)) := by
  have hLb := HL3.hL
  have hmL := HL3.hmb
  have hz3 := hB3.size
  have hz34 := ho4.size
  have hoV : Only (fun k => k = L) w9 (w9.setCell ⟨L, 0, none⟩ (.slice (some ⟨g9, 0, none⟩) (ss.length + 1) cap9)) := Only.set (S := fun k => k = L) rfl
  have hvb : ∀ k, (Value.slice va ss.length vc).ownBlock = some k → base ≤ k ∧ k < W3.heap.size := fun k hk => HL3.own.lt k hk
  have hallS : Only (fun k => k = L ∨ k = mb ∨ (Value.slice va ss.length vc).ownBlock = some k) W3 (w9.setCell ⟨L, 0, none⟩ (.slice (some ⟨g9, 0, none⟩) (ss.length + 1) cap9)) :=
    ((ho4.mono fun k h => .inr (.inl h)).trans (hob9.mono fun k h => .inr (.inr h))).trans (hoV.mono fun k h => .inl h)
  have hN3 : N.In base W3.heap.size W3 := (hN.same hz3 fun k hk => hB3.block k (hN.has_lt hk).2).mono (Nat.le_refl _) hz3 (Nat.le_refl _)
  have hins3 : HeapsIn base W3 ((ss ++ [(⟨p, N⟩ : Sp)]).map Sp.h) := by
    rw [List.map_append]
    refine HL3.ins.snoc hN3 fun y hy k hk => ?_
    obtain ⟨z, hz, rfl⟩ := List.mem_map.1 hy
    exact hNs z hz k hk
  have hoff3 : ∀ k, (Value.slice va ss.length vc).ownBlock = some k → ¬ hasAny ((ss ++ [(⟨p, N⟩ : Sp)]).map Sp.h) k := by
    rintro k hk ⟨y, hy, hyk⟩
    rw [List.map_append] at hy
    rcases List.mem_append.1 hy with hy | hy
    · exact HL3.off k hk ⟨y, hy, hyk⟩
    · rw [List.map_cons, List.map_nil] at hy
      rw [List.mem_singleton.1 hy] at hyk
      exact hNv k hk hyk
  have hkx : ∀ y ∈ bs ++ [(p, N.body)], Kx n y := fun y hy => by
    rcases List.mem_append.1 hy with hy | hy
    · exact HL3.kx y hy
    · rw [List.mem_singleton.1 hy]
      exact hx
  refine ⟨rfl, .slice (some ⟨g9, 0, none⟩) (ss.length + 1) cap9, ss ++ [⟨p, N⟩], ⟨hbl9.set 0 _, (hM4.only hob9 fun e => by have := (hvb mb e).1; omega).only hoV (by omega) |> (by rw [putS, if_neg hm]; exact ·), ?_, ?_, ?_, ?_, by rw [putS, if_neg hm]; exact hkx, hLb, hmL⟩, ⟨_, rfl⟩, (Only.of_below hB3).trans hallS, ?_⟩
  · rw [putS, if_neg hm, List.map_append, HL3.body]
    rfl
  · rw [List.length_append, show spVals (ss ++ [(⟨p, N⟩ : Sp)]) = spVals ss ++ spCells ⟨p, N⟩ from fl_snoc ss _]
    exact ownsRow_setCell_below hown9 (a := ⟨L, 0, none⟩) hLb _
  · refine hins3.same hallS.size fun x hx k hk => hallS.block k (hins3.has_lt hx hk).2 ?_
    have hk2 := (hins3.has_lt hx hk).1
    rintro (e | e | e)
    · omega
    · omega
    · exact hoff3 k e ⟨x, hx, hk⟩
  · intro k hk
    have hk : g9 = k := Option.some.inj hk
    rcases hat9 with e | e
    · rw [hk] at e
      exact hoff3 k e
    · rintro ⟨y, hy, hyk⟩
      have := (hins3.has_lt hy hyk).2
      omega
  · rcases hat9 with e | e
    · exact .inl e.symm
    · exact .inr ⟨g9, rfl, by omega⟩
set_option maxRecDepth 100000 in
set_option maxHeartbeats 3200000 in
theorem implAdd {H : Type} (base L mb n : Nat) (bs : List Sb) (v : Value) (ss : List Sp) (p : Int) (N : Hp) (w : World) (hl : ListIs H base L mb n bs w v ss) (hx : Kx n (p, N.body)) (hN : N.In base w.heap.size w) (hNs : ∀ y ∈ ss, ∀ k, y.h.has k → ¬ N.has k) (hNv : ∀ k, v.ownBlock = some k → ¬ N.has k) (hbase : base ≤ w.heap.size) (hlen : bs.length ≤ 16777216) :
    Calls Tryz.prog 62 #[.pointer (some ⟨L, 0, none⟩), spC p N.a N.vs.length N.ca N.b N.zs.length N.cb] w (AddEnd H base L mb n (putS bs (p, N.body)) v ss w) := by
  obtain ⟨i0, hi9, hz0, hz1, hz2⟩ := info_parts stateInfo
  obtain ⟨va, vc, rfl⟩ := own_shape2 hl.own
  have hb0 := (Below.refl w.heap.size w).alloc (Nat.le_refl _) (.cells #[.int .i64 p, .slice N.a N.vs.length N.ca, .slice N.b N.zs.length N.cb] 34)
  have hbx : BoxL (w.alloc (.cells #[.int .i64 p, .slice N.a N.vs.length N.ca, .slice N.b N.zs.length N.cb] 34)) w.heap.size [.int .i64 p, .slice N.a N.vs.length N.ca, .slice N.b N.zs.length N.cb] := BoxL.new w _ _
  have hlv : N.vs.length ≤ 4 := by have h1 : N.vs.length = n := hx.lv; have := hx.n4; omega
  have hlz : N.zs.length ≤ 6 := hx.lz
  have HX := Lib.hid hx
  have HL := Lib.hid hl
  have HN := Lib.hid hN
  have HNS := Lib.hid hNs
  have HNV := Lib.hid hNv
  clear hl hx hN hNs hNv
  go_enter Tryz.func62, Tryz.ntmps62
  go_wp2_with fail
  obtain ⟨W0, hW0⟩ : ∃ W, w.alloc (.cells #[.int .i64 p, .slice N.a N.vs.length N.ca, .slice N.b N.zs.length N.cb] 34) = W := ⟨_, rfl⟩
  rw [hW0] at hb0 hbx ⊢
  clear hW0
  refine (implKeyOf p N.a N.b N.ca N.cb N.vs N.zs _ hlv hlz (HN.out.at_.below hb0)).mono ?_
  rintro e w1 ⟨rfl, hb1⟩
  have hB1 := hb0.trans (hb1.mono hb0.size)
  have bx1 := hbx.below hb1
  have hzw := hbx.lt
  have hz1' := hb1.size
  have L1 := HL.out.below hB1
  have hrun : ∀ W, Met H W mb bs → (Instr.lookup 95 (.map (some mb)) (keyV p N.vs N.zs) false).run Tryz.prog W = .ok (.bool (decide ((p, N.body) ∈ bs))) W := fun W h => h.run HL.out.kx HX.out
  have hst : ∀ W, Met H W mb bs → ∃ w', (Instr.mapUpdate 95 (.map (some mb)) (keyV p N.vs N.zs) (.bool true)).run Tryz.prog W = .ok () w' ∧ Met H w' mb (bs ++ [(p, N.body)]) ∧ W.grownBy w' (some mb) := fun W h => h.store (by unfold maxLen; omega) HX.out
  unfold keyV at hrun hst ⊢
  generalize N.vs.getD 0 0 = n0 at *
  generalize N.vs.getD 1 0 = n1 at *
  generalize N.vs.getD 2 0 = n2 at *
  generalize N.vs.getD 3 0 = n3 at *
  generalize N.zs.getD 0 0 = m0 at *
  generalize N.zs.getD 1 0 = m1 at *
  generalize N.zs.getD 2 0 = m2 at *
  generalize N.zs.getD 3 0 = m3 at *
  generalize N.zs.getD 4 0 = m4 at *
  generalize N.zs.getD 5 0 = m5 at *
  generalize hnz : (N.zs.length : Int) = mz at hrun hst
  have hzl : 0 ≤ mz := by omega
  have LL1 := Lib.hid L1
  have HRUN := Lib.hid hrun
  have HST := Lib.hid hst
  have HNZ := Lib.hid hnz
  clear hbx hb0 L1 hrun hst hnz
  obtain ⟨W2, hW2, hb2, bk⟩ : ∃ W2, w1.alloc (.cells #[.int .i64 p, .int .i64 mz, .int .i64 n0, .int .i64 n1, .int .i64 n2, .int .i64 n3, .int .i64 m0, .int .i64 m1, .int .i64 m2, .int .i64 m3, .int .i64 m4, .int .i64 m5] 134) = W2 ∧ Below w1.heap.size w1 W2 ∧ BoxL W2 w1.heap.size [.int .i64 p, .int .i64 mz, .int .i64 n0, .int .i64 n1, .int .i64 n2, .int .i64 n3, .int .i64 m0, .int .i64 m1, .int .i64 m2, .int .i64 m3, .int .i64 m4, .int .i64 m5] := ⟨_, rfl, (Below.refl _ _).alloc (Nat.le_refl _) _, BoxL.new w1 _ _⟩
  have bx2 := bx1.below hb2
  have L2 := LL1.out.below hb2
  have l0 := L2.box.c 0 _ rfl
  have l1 := L2.box.c 1 _ rfl
  have k0 := bk.c 0 _ rfl
  have k1 := bk.c 1 _ rfl
  have k2 := bk.c 2 _ rfl
  have k3 := bk.c 3 _ rfl
  have k4 := bk.c 4 _ rfl
  have k5 := bk.c 5 _ rfl
  have k6 := bk.c 6 _ rfl
  have k7 := bk.c 7 _ rfl
  have k8 := bk.c 8 _ rfl
  have k9 := bk.c 9 _ rfl
  have k10 := bk.c 10 _ rfl
  have k11 := bk.c 11 _ rfl
  have hr2 : ∀ d, (Instr.lookup 95 (.map (some mb)) (.agg #[.int .i64 p, .int .i64 mz, .int .i64 n0, .int .i64 n1, .int .i64 n2, .int .i64 n3, .int .i64 m0, .int .i64 m1, .int .i64 m2, .int .i64 m3, .int .i64 m4, .int .i64 m5]) false).run Tryz.prog (W2.drewN d) = .ok (.bool (decide ((p, N.body) ∈ bs))) (W2.drewN d) := fun d => by
    exact HRUN.out (W2.drewN d) (L2.met.below (below_draws (Below.refl _ _) d))
  go_wp2
  (try rw [hW2])
  clear hW2
  go_quiet (fail)
  have hB2 := hB1.trans (hb2.mono hB1.size)
  have hd3 : Below W2.heap.size W2 (W2.drewN nq) := below_draws (Below.refl _ _) nq
  have bx3 := bx2.below hd3
  have bk3 := bk.below hd3
  have L3 := L2.below hd3
  have hB3 := hB2.trans (hd3.mono hB2.size)
  have hz23 : W2.heap.size = (W2.drewN nq).heap.size := rfl
  have hzk := bk3.lt
  have hzx := bx3.lt
  clear hr2 l0 l1 k0 k1 k2 k3 k4 k5 k6 k7 k8 k9 k10 k11 hd3 bx2 bk L2 hb2 hB2 hz23 bx1
  generalize W2.drewN nq = W3 at *
  obtain ⟨isin, hisin⟩ : ∃ q, decide ((p, N.body) ∈ bs) = q := ⟨_, rfl⟩
  rw [hisin]
  cases isin
  case' true =>
    have hm : (p, N.body) ∈ bs := of_decide_eq_true hisin
    have HE := Lib.hid (show AddEnd H base L mb n (putS bs (p, N.body)) (.slice va ss.length vc) ss w (.returned (.tuple #[])) W3 from ⟨rfl, _, ss, by rw [putS, if_pos hm]; exact L3, ⟨[], by simp⟩, Only.of_below hB3, .inl rfl⟩)
    clear hm hisin bx3 bk3 L3 hB3
    go_wp2
    exact bodyPost_ret (v := .tuple #[]) (by simp [results, Tryz.results62, go_sem]) rfl HE.out
  case' false =>
    have hm : (p, N.body) ∉ bs := of_decide_eq_false hisin
    have hmet3 : Met H W3.drew mb bs := L3.met.below (Below.drew (Below.refl _ _))
    obtain ⟨w4, hrun4, hm4, hg4⟩ := HST.out W3.drew hmet3
    have hmbL := HL.out.hmb
    have hLb := HL.out.hL
    have ho4 : Only (fun k => k = mb) W3 w4 := (Only.of_below (Below.drew (Below.refl _ _))).trans (Only.of_grown hg4 fun k hk => (Option.some.inj hk).symm)
    have hbx4 : BoxL w4 w.heap.size [.int .i64 p, .slice N.a N.vs.length N.ca, .slice N.b N.zs.length N.cb] := bx3.onlyA ho4 (by omega)
    have hbl4 : BoxL w4 L [.slice va ss.length vc, .map (some mb)] := L3.box.onlyA ho4 (by omega)
    have hown4 : w4.ownsRow base 34 3 (.slice va ss.length vc) ss.length (spVals ss) := own_other (own_keeps L3.own (Below.drew (Below.refl _ _))) hg4 (fun k hk e => by have h1 := (L3.own.lt k hk).1; have h2 := Option.some.inj e; omega)
    have l1 := L3.box.c 1 _ rfl
    have k0 := bk3.c 0 _ rfl
    have k1 := bk3.c 1 _ rfl
    have k2 := bk3.c 2 _ rfl
    have k3 := bk3.c 3 _ rfl
    have k4 := bk3.c 4 _ rfl
    have k5 := bk3.c 5 _ rfl
    have k6 := bk3.c 6 _ rfl
    have k7 := bk3.c 7 _ rfl
    have k8 := bk3.c 8 _ rfl
    have k9 := bk3.c 9 _ rfl
    have k10 := bk3.c 10 _ rfl
    have k11 := bk3.c 11 _ rfl
    have HBX3 := Lib.hid bx3
    have HM := Lib.hid hm
    have HL3 := Lib.hid L3
    have HB3 := Lib.hid hB3
    have HOWN4 := Lib.hid hown4
    have HBX4 := Lib.hid hbx4
    have HBL4 := Lib.hid hbl4
    have HM4 := Lib.hid hm4
    have HO4 := Lib.hid ho4
    clear hisin hm hmet3 bx3 bk3 L3 hB3 hown4 hbx4 hbl4 hm4 hg4 ho4
    go_wp2
    go_region_law (refine step_update_own _ rfl _ _ _ 95 rfl (.map (some mb)) (.agg #[.int .i64 p, .int .i64 mz, .int .i64 n0, .int .i64 n1, .int .i64 n2, .int .i64 n3, .int .i64 m0, .int .i64 m1, .int .i64 m2, .int .i64 m3, .int .i64 m4, .int .i64 m5]) (.bool true) rfl rfl rfl w4 hrun4 ?_)
    all_goals
      clear l1 k0 k1 k2 k3 k4 k5 k6 k7 k8 k9 k10 k11 hrun4
      have l0 := HBL4.out.c 0 _ rfl
      have x0 := HBX4.out.c 0 _ rfl
      have x1 := HBX4.out.c 1 _ rfl
      have x2 := HBX4.out.c 2 _ rfl
      have lf := HBL4.out.f
      have ll4 := HBL4.out.lt
      have lx4 := HBX4.out.lt
      have lln : ¬ L = w4.heap.size := by omega
      have lxn : ¬ w.heap.size = w4.heap.size := by omega
      have hz4 := HO4.out.size
      go_wp2
      go_region_law (refine step_append_lies _ rfl (.tmp 23) (.tmp 25) 41 rfl base 34 i0 (.agg #[.int .i64 0, .slice none 0 0, .slice none 0 0]) 3 56 Tryz.underlying41 hi9 hz0 hz1 hz2 rfl (by decide) (.slice va ss.length vc) ss.length (spVals ss) ?_ ?_ ⟨w4.heap.size, 0, none⟩ 1 1 [.int .i64 p, .slice N.a N.vs.length N.ca, .slice N.b N.zs.length N.cb] ?_ rfl (lit3_news w4 _ _ _ _) (lit3_one _ _ _ _ _ _ _) (by omega) ?_ ?_ ?_ _ rfl ?_
                     · simp [Act.eval]
                     · exact own_keeps (HOWN4.out.alloc _) (Below.drew (Below.refl _ _))
                     · simp [Act.eval]
                     · have := HL3.out.len; unfold maxLen; omega
                     · have := HL3.out.len; omega
                     · simp; omega
                     intro g9 cap9 w9 hown9 hg9 hat9 hlt9
                     have hob9 : Only (fun k => (Value.slice va ss.length vc).ownBlock = some k) w4 w9 := (Only.of_below (Below.drew ((Below.refl _ _).alloc (Nat.le_refl _) _))).trans (Only.of_grown hg9 fun k hk => hk)
                     have hbl9 := HBL4.out.onlyA hob9 (fun e => by have := (HOWN4.out.lt L e).1; have := HL.out.hL; omega)
                     have d9 := hbl9.c 0 _ rfl
                     have pf9 := hbl9.f)
      all_goals
        exact bodyPost_ret (v := .tuple #[]) (by simp [results, Tryz.results62, go_sem]) rfl (add_done HL3.out HB3.out HN.out HNS.out HNV.out HX.out HM.out HM4.out HO4.out hob9 hbl9 hown9 (hat9.imp id fun e => by rw [e]; simp))
end Go.Proofs.YtpmmjaceehlpiaaGreatDoor
