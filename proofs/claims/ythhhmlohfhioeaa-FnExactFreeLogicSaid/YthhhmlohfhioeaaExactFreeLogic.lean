/-
  Proved: for every formula the law FnExactFreeLogic returns true and leaves its argument as it was. No condition beyond the given row's own.
-/
import Derived.Test.YthhhmlohfhioeaaSpecFreeLogic
import Derived.Test.YthhhmlohfhioeaaMarkTree
import Derived.Test.YthhhmlohfhioeaaMarkInts
import Derived.Test.YthhhmlohfhioeaaToInts
import Derived.Test.YthhhmlohfhioeaaEqInts
import Derived.Test.YthhhmlohfhioeaaSzTree
import Derived.Test.YthhhmlohfhioeaaOpenTree
import Derived.Test.YthhhmlohfhioeaaRows
import Derived.ChangeMaps5
import Derived.LaidLaws
namespace Go.Proofs.Ythhhmlohfhioeaa.exactFreeLogic
open Go Go.RowKit Go.ChangeShapes Go.WideShapes Go.ChangeAt

/-- The law said true, and nothing old has turned. -/
def TrueEnd (w : World) (e : Ending) (w' : World) : Prop := e = .returned (.bool true) ∧ Below w.heap.size w w'

/-- What lies apart: the argument's box, the model's answer, the copy's rows, the copy's box, the program's answer. -/
structure FL (w : World) (x z : Ft) (p0 p1 m0 m1 bb g0 g1 : Nat) (ap : Option Addr) (ps : List Value) (vg : Value) (n : Nat) (gs : List Value) (W : World) : Prop where
  below : Below w.heap.size w W
  bx : BoxL W w.heap.size x.cells
  bz : BoxL W bb z.cells
  p : RowIn p0 p1 W ap ps
  g : OwnIn g0 g1 W 3 1 vg n gs
  ord : w.heap.size < p0 ∧ p0 ≤ p1 ∧ p1 ≤ m0 ∧ m0 ≤ m1 ∧ m1 ≤ bb ∧ bb < g0
section
variable {w W W' : World} {x z : Ft} {p0 p1 m0 m1 bb g0 g1 : Nat} {ap : Option Addr} {ps : List Value} {vg : Value} {n : Nat} {gs gs' : List Value}
theorem FL.call (h : FL w x z p0 p1 m0 m1 bb g0 g1 ap ps vg n gs W) (hb : Below W.heap.size W W') : FL w x z p0 p1 m0 m1 bb g0 g1 ap ps vg n gs W' :=
  ⟨h.below.trans (hb.mono h.below.size), h.bx.below hb, h.bz.below hb, h.p.below hb, h.g.below hb, h.ord⟩
theorem FL.draws (h : FL w x z p0 p1 m0 m1 bb g0 g1 ap ps vg n gs W) (k : Nat) : FL w x z p0 p1 m0 m1 bb g0 g1 ap ps vg n gs (W.drewN k) := h.call (below_draws (Below.refl _ _) k)
theorem FL.markZ (h : FL w x z p0 p1 m0 m1 bb g0 g1 ap ps vg n gs W) (t : Turn m0 m1 W W') : FL w x z p0 p1 m0 m1 bb g0 g1 ap ps vg n gs W' := by
  have := h.ord
  exact ⟨Turn.below h.below t (by omega) h.below.size, h.bx.turn t (by omega), h.bz.turn t (by omega), h.p.turn t (by omega), h.g.turn t (by omega), h.ord⟩
theorem FL.markG (h : FL w x z p0 p1 m0 m1 bb g0 g1 ap ps vg n gs W) (hg : W.grownBy W' vg.ownBlock) (ho : W'.ownsRow g0 3 1 vg n gs') : FL w x z p0 p1 m0 m1 bb g0 g1 ap ps vg n gs' W' := by
  have := h.ord
  have t := h.g.grows hg
  exact ⟨Turn.below h.below t (by omega) h.below.size, h.bx.turn t (by omega), h.bz.turn t (by omega), h.p.turn t (by omega), h.g.again (Nat.le_trans h.g.1 hg.size) ho, h.ord⟩
theorem FL.rowG {a : Option Addr} {c : Nat} (h : FL w x z p0 p1 m0 m1 bb g0 g1 ap ps (.slice a n c) n gs W) : Row W W.heap.size a gs := h.g.row
theorem FL.cx (h : FL w x z p0 p1 m0 m1 bb g0 g1 ap ps vg n gs W) : W.cell? ⟨w.heap.size, 0, none⟩ = some (.int .i64 x.kd) ∧ W.cell? ⟨w.heap.size, 1, none⟩ = some (.int .i64 x.k) ∧ W.cell? ⟨w.heap.size, 2, none⟩ = some (.int .i64 x.u) ∧ W.cell? ⟨w.heap.size, 3, none⟩ = some (.int .i64 x.v) ∧ W.cell? ⟨w.heap.size, 4, none⟩ = some (.slice x.a x.args.length x.cap) :=
  ⟨h.bx.c 0 _ rfl, h.bx.c 1 _ rfl, h.bx.c 2 _ rfl, h.bx.c 3 _ rfl, h.bx.c 4 _ rfl⟩
theorem FL.cz (h : FL w x z p0 p1 m0 m1 bb g0 g1 ap ps vg n gs W) : W.cell? ⟨bb, 0, none⟩ = some (.int .i64 z.kd) ∧ W.cell? ⟨bb, 1, none⟩ = some (.int .i64 z.k) ∧ W.cell? ⟨bb, 2, none⟩ = some (.int .i64 z.u) ∧ W.cell? ⟨bb, 3, none⟩ = some (.int .i64 z.v) ∧ W.cell? ⟨bb, 4, none⟩ = some (.slice z.a z.args.length z.cap) :=
  ⟨h.bz.c 0 _ rfl, h.bz.c 1 _ rfl, h.bz.c 2 _ rfl, h.bz.c 3 _ rfl, h.bz.c 4 _ rfl⟩
end
theorem freeL_length (t : Fm) : (freeL t).length ≤ 4 := Nat.le_trans (List.length_filter_le _ _) (by decide)

set_option maxRecDepth 100000 in
set_option maxHeartbeats 3200000 in
theorem walk (x : Ft) (w : World) (hin : x.In w w.heap.size) (hsh : x.Short) (_hok : x.er.Ok) : Calls Try.prog 4 #[x.val] w (TrueEnd w) := by
  have hb0 : ∀ c e, Below w.heap.size w (w.alloc (.cells c e)) := fun c e => (Below.refl _ _).alloc (Nat.le_refl _) _
  have HB0 := Lib.hid hb0
  have HBX0 := Lib.hid (BoxL.new w x.cells 42)
  have HIN := Lib.hid (fun (W : World) (hb : Below w.heap.size w W) => hin.to hb)
  have HSH := Lib.hid hsh
  clear hb0 hin hsh
  go_enter Try.func4, Try.ntmps4
  go_wp2_with fail
  refine (szTree x HSH.out 1048576 _ (by omega) (HIN.out _ (HB0.out _ _))).mono ?_
  rintro e w1 ⟨r, rfl, hb1, hr, hsz⟩
  have hB1 : Below w.heap.size w w1 := (HB0.out _ _).trans (hb1.mono (by simp))
  have hs1 : w.heap.size < w1.heap.size := by have h := hb1.size; simp at h; omega
  have HSZ := Lib.hid hsz
  have hbx1 : BoxL w1 w.heap.size x.cells := HBX0.out.below hb1
  by_cases hneg : r < 0
  · clear hsz hbx1
    go_wp2_with fail
    go_ret
    exact ⟨rfl, hB1⟩
  have hsmall : x.er.size ≤ 1048577 := by have := hsz (by omega); omega
  have HBX1 := Lib.hid hbx1
  have hsm : x.er.size ≤ 1099511627776 := by omega
  obtain ⟨c0, c1, c2, c3, c4⟩ : w1.cell? ⟨w.heap.size, 0, none⟩ = some (.int .i64 x.kd) ∧ w1.cell? ⟨w.heap.size, 1, none⟩ = some (.int .i64 x.k) ∧ w1.cell? ⟨w.heap.size, 2, none⟩ = some (.int .i64 x.u) ∧ w1.cell? ⟨w.heap.size, 3, none⟩ = some (.int .i64 x.v) ∧ w1.cell? ⟨w.heap.size, 4, none⟩ = some (.slice x.a x.args.length x.cap) := ⟨hbx1.c 0 _ rfl, hbx1.c 1 _ rfl, hbx1.c 2 _ rfl, hbx1.c 3 _ rfl, hbx1.c 4 _ rfl⟩
  clear hsz hb1 HBX0 hbx1
  go_wp2_with fail
  refine (toTree x _ hsm (HIN.out _ hB1)).mono ?_
  rintro e w2 ⟨y, rfl, hy, hyo, hb2⟩
  have hB2 := hB1.trans (hb2.mono hB1.size)
  have hyin : y.In w2 w2.heap.size := hyo.in_ y (Nat.le_refl _)
  have hysh : y.Short := y.short_of_size (by rw [hy]; exact hsm)
  have hyd : y.er.depth ≤ 1048577 := Nat.le_trans (Fm.depth_le_size _) (by rw [hy]; exact hsmall)
  have hs2 := hb2.size
  have hbx2 := HBX1.out.below hb2
  have HBX2 := Lib.hid hbx2
  clear hyo c0 c1 c2 c3 c4 hb2 hbx2
  go_wp2_with fail
  refine (specFreeLogic y _ hysh hyd hyin).mono ?_
  rw [hy]
  rintro e w3 ⟨ap, cp, rfl, hcp, hp3, hb3⟩
  have hB3 := hB2.trans (hb3.mono hB2.size)
  have hs3 := hb3.size
  have hbx3 := HBX2.out.below hb3
  have hP3 := (OwnIn.of hp3).rowIn
  have hL4 := freeL_length x.er
  have hFL := Lib.hid (fun (z : Ft) (h : z.er = x.er) => show freeL z.er = freeL x.er by rw [h])
  obtain ⟨fs, hfs⟩ : ∃ fs, freeL x.er = fs := ⟨_, rfl⟩
  rw [hfs] at hP3 hL4 hFL
  rw [hfs]
  obtain ⟨c0, c1, c2, c3, c4⟩ : w3.cell? ⟨w.heap.size, 0, none⟩ = some (.int .i64 x.kd) ∧ w3.cell? ⟨w.heap.size, 1, none⟩ = some (.int .i64 x.k) ∧ w3.cell? ⟨w.heap.size, 2, none⟩ = some (.int .i64 x.u) ∧ w3.cell? ⟨w.heap.size, 3, none⟩ = some (.int .i64 x.v) ∧ w3.cell? ⟨w.heap.size, 4, none⟩ = some (.slice x.a x.args.length x.cap) := ⟨hbx3.c 0 _ rfl, hbx3.c 1 _ rfl, hbx3.c 2 _ rfl, hbx3.c 3 _ rfl, hbx3.c 4 _ rfl⟩
  have HBX3 := Lib.hid hbx3
  have HP3 := Lib.hid hP3
  have HS := Lib.hid (And.intro hs1 (And.intro hs2 hs3))
  clear hb3 hyin hysh hyd hy hfs hp3 hcp hP3 hbx3 hB1 hB2 hs2 hs3
  rw [intVals_length]
  go_wp2_with fail
  refine (toTree x _ hsm (HIN.out _ hB3)).mono ?_
  rintro e w4 ⟨z, rfl, hz, hzo, hb4⟩
  have hsol : Solid w4 z := hzo.solid (Nat.le_refl _) (by rw [hz]; exact hsm)
  have hmine : z.Mine w4 w3.heap.size w4.heap.size := hzo.mine z (Nat.le_refl _)
  have hB4 := hB3.trans (hb4.mono hB3.size)
  have hbx : Below w4.heap.size w4 (w4.alloc (.cells #[.int .i64 z.kd, .int .i64 z.k, .int .i64 z.u, .int .i64 z.v, .slice z.a z.args.length z.cap] 26)) := (Below.refl _ _).alloc (Nat.le_refl _) _
  have hbz : BoxL (w4.alloc (.cells #[.int .i64 z.kd, .int .i64 z.k, .int .i64 z.u, .int .i64 z.v, .slice z.a z.args.length z.cap] 26)) w4.heap.size z.cells := BoxL.new w4 z.cells _
  obtain ⟨W5, hW5⟩ : ∃ W, w4.alloc (.cells #[.int .i64 z.kd, .int .i64 z.k, .int .i64 z.u, .int .i64 z.v, .slice z.a z.args.length z.cap] 26) = W := ⟨_, rfl⟩
  have hs5 : W5.heap.size = w4.heap.size + 1 := by rw [← hW5]; simp
  rw [hW5] at hbx hbz
  have hb35 := hb4.trans (hbx.mono hb4.size)
  have HW5 := Lib.hid hW5
  have HBZ := Lib.hid hbz
  have HSOL := Lib.hid (hsol.below hbx)
  have HM5 := Lib.hid (Ft.Mine.turn (Turn.of_below (lo := 0) (hi := 0) hbx) z hmine (.inl (Nat.zero_le _)))
  have HZ := Lib.hid hz
  have HB5 := Lib.hid (hB4.trans (hbx.mono hB4.size))
  have HBX5 := Lib.hid (HBX3.out.below hb35)
  have HP5 := Lib.hid (HP3.out.below hb35)
  have hs4 := hb4.size
  have HS4 := Lib.hid hs4
  have HS5 := Lib.hid hs5
  clear hzo hsol hmine hB4 hb35 hb4 hbx hbz hW5 c0 c1 c2 c3 c4 hz hB3 hs4 hs5
  go_wp2_with fail
  rw [HW5.out]
  refine (implFreeLogic z _ HSOL.out (by rw [HZ.out]; omega)).mono ?_
  rw [hFL.out z HZ.out]
  rintro e w6 ⟨ag, cg, rfl, hcg, hg6, hb6⟩
  rw [intVals_length] at *
  have hF6 : FL w x z w2.heap.size w3.heap.size w3.heap.size w4.heap.size w4.heap.size W5.heap.size w6.heap.size ap (intVals fs) (.slice ag fs.length cg) fs.length (intVals fs) w6 := by
    have h1 := HS.out
    have h4 := HS4.out
    have h5 := HS5.out
    exact ⟨HB5.out.trans (hb6.mono HB5.out.size), HBX5.out.below hb6, HBZ.out.below hb6, HP5.out.below hb6, OwnIn.of hg6, by omega⟩
  have hm6 : z.Mine w6 w3.heap.size w4.heap.size := Ft.Mine.turn (Turn.of_below (lo := 0) (hi := 0) hb6) z HM5.out (.inl (Nat.zero_le _))
  generalize w2.heap.size = s2 at *
  generalize w3.heap.size = s3 at *
  generalize w4.heap.size = s4 at *
  generalize W5.heap.size = s5 at *
  generalize w6.heap.size = s6 at *
  have HM6 := Lib.hid hm6
  have HF6 := Lib.hid hF6
  have hpr := hF6.p.row
  have hgr := hF6.rowG
  clear hcg hg6 hb6 hm6 hF6
  go_wp2_with fail
  refine (eqInts _ _ _ _ fs _ (by unfold maxLen; omega) hgr hpr).mono ?_
  rintro e w7 ⟨d1, rfl, rfl⟩
  clear hpr hgr
  have hF7 := HF6.out.draws d1
  have hm7 : z.Mine (w6.drewN d1) s3 s4 := Ft.Mine.turn (Turn.of_below (lo := 0) (hi := 0) (below_draws (Below.refl _ _) d1)) z HM6.out (.inl (Nat.zero_le _))
  obtain ⟨W7, hW7⟩ : ∃ W, W = w6.drewN d1 := ⟨_, rfl⟩
  rw [← hW7] at hF7 hm7 ⊢
  clear hW7
  have hD : Below W7.heap.size W7 W7.drew := (Below.refl _ _).drew
  have KF := Lib.hid (fun (W : World) (h : Below W7.heap.size W7 W) => hF7.call h)
  have KM := Lib.hid (fun (W : World) (h : Below W7.heap.size W7 W) => (Ft.Mine.turn (Turn.of_below (lo := 0) (hi := 0) h) z hm7 (.inl (Nat.zero_le _)) : z.Mine W s3 s4))
  clear hF7 hm7
  go_wp2_with fail
  go_region_held3 (fun W => (W.cell? ⟨s4, 0, none⟩ = some (.int .i64 z.kd) ∧ W.cell? ⟨s4, 1, none⟩ = some (.int .i64 z.k) ∧ W.cell? ⟨s4, 2, none⟩ = some (.int .i64 z.u) ∧ W.cell? ⟨s4, 3, none⟩ = some (.int .i64 z.v) ∧ W.cell? ⟨s4, 4, none⟩ = some (.slice z.a z.args.length z.cap)) ∧
      (W.cell? ⟨w.heap.size, 0, none⟩ = some (.int .i64 x.kd) ∧ W.cell? ⟨w.heap.size, 1, none⟩ = some (.int .i64 x.k) ∧ W.cell? ⟨w.heap.size, 2, none⟩ = some (.int .i64 x.u) ∧ W.cell? ⟨w.heap.size, 3, none⟩ = some (.int .i64 x.v) ∧ W.cell? ⟨w.heap.size, 4, none⟩ = some (.slice x.a x.args.length x.cap)))
    (first | exact ⟨(KF.out _ hD).cz, (KF.out _ hD).cx⟩ | exact ⟨(KF.out _ (Below.drew hD)).cz, (KF.out _ (Below.drew hD)).cx⟩ | exact ⟨(KF.out _ H7).cz, (KF.out _ H7).cx⟩ | exact ⟨(KF.out _ H8).cz, (KF.out _ H8).cx⟩)
    (first
      | (go_at_call 22; (refine (toTree x _ hsm (HIN.out _ (KF.out _ hD).below)).mono ?_); rintro e w7 ⟨q, rfl, hq, hqo, hb7⟩; have H7 := hD.trans (hb7.mono hD.size))
      | (go_at_call 24; (refine (eqTree z q (HZ.out.trans hq.symm) _ (z.short_of_size (by rw [HZ.out]; exact hsm)) (Ft.Mine.in_ z (KM.out _ H7) (Nat.le_trans (Nat.le_refl _) (by have := (KM.out _ H7); have := (KF.out _ H7).bz.lt; omega))) (hqo.in_ q (Nat.le_refl _))).mono ?_); rintro e w8 ⟨rfl, hb8⟩; have H8 := H7.trans (hb8.mono H7.size)))
  have hF8 := KF.out _ H8
  have hm8 := KM.out _ H8
  obtain ⟨K, hK⟩ : ∃ K : Nat, 1 + 4 * Fm.sizes (z.args.map Ft.er) = K := ⟨_, rfl⟩
  have hzs := z.size_er
  rw [HZ.out] at hzs
  have hmark := fun (v : World) (h : z.Mine v s3 s4) => markFormula z s3 s4 1 v (by omega) (by omega) h
  unfold MarkedTree at hmark
  rw [hK] at hmark
  have hKs : K ≤ 9223372036854775000 := by omega
  have HMK := Lib.hid hmark
  have HF8 := Lib.hid hF8
  have HM8 := Lib.hid hm8
  obtain ⟨e0, e1, e2, e3, e4⟩ := hF8.cz
  clear hq hqo hb7 hb8 H7 H8 hD hF8 hm8 hK hzs hmark KF KM
  go_wp2_with fail
  refine (HMK.out _ HM8.out).mono ?_
  rintro e w9 ⟨rfl, _, ht9⟩
  have hF9 := HF8.out.markZ ht9
  have HF9 := Lib.hid hF9
  have hpr := hF9.p.row
  have hgr := hF9.rowG
  clear ht9 hF9 e0 e1 e2 e3 e4
  go_wp2_with fail
  refine (eqInts _ _ _ _ fs _ (by unfold maxLen; omega) hgr hpr).mono ?_
  rintro e w10 ⟨d2, rfl, rfl⟩
  have hF10 := HF9.out.draws d2
  have HF10 := Lib.hid hF10
  have hg := hF10.g.2.1
  clear hpr hgr hF10
  go_wp2_with fail
  refine (markInts _ 1 _ _ _ _ _ (by omega) (by omega) hg).mono ?_
  rintro e w11 ⟨rfl, hx11, hg11⟩
  have hF11 := HF10.out.markG hg11 hx11
  have HF11 := Lib.hid hF11
  have hgr := hF11.rowG
  clear hx11 hg11 hF11 hg
  go_wp2_with fail
  refine (heldInts 1 _ _ _ _ (by omega) (by omega) hgr).mono ?_
  rintro e w12 ⟨rfl, rfl⟩
  obtain ⟨e0, e1, e2, e3, e4⟩ := HF11.out.cx
  clear hgr
  go_wp2_with fail
  refine (toTree x _ hsm (HIN.out _ HF11.out.below)).mono ?_
  rintro e w13 ⟨q, rfl, hq, hqo, hb13⟩
  have hsol : Solid w13 q := hqo.solid (Nat.le_refl _) (by rw [hq]; exact hsm)
  have HSQ := Lib.hid hsol
  have HQ := Lib.hid hq
  have HF13 := Lib.hid (HF11.out.call hb13)
  clear e0 e1 e2 e3 e4 hq hqo hsol hb13
  go_wp2_with fail
  refine (implFreeLogic q _ HSQ.out (by rw [HQ.out]; omega)).mono ?_
  rw [hFL.out q HQ.out]
  rintro e w14 ⟨ah, ch, rfl, hch, hh14, hb14⟩
  rw [intVals_length] at *
  have HF14 := Lib.hid (HF13.out.call hb14)
  have hhr := Row.owned hh14
  have hpr := HF14.out.p.row
  clear hh14 hb14 hch
  go_wp2_with fail
  refine (eqInts _ _ _ _ fs _ (by unfold maxLen; omega) hhr hpr).mono ?_
  rintro e w15 ⟨d3, rfl, rfl⟩
  have HF15 := Lib.hid (HF14.out.draws d3)
  have hgr := HF15.out.rowG
  clear hhr hpr
  go_wp2_with fail
  refine (heldInts 1 _ _ _ _ (by omega) (by omega) hgr).mono ?_
  rintro e w16 ⟨rfl, rfl⟩
  go_wp2_with fail
  go_ret
  exact ⟨rfl, HF15.out.below⟩
theorem own : ownKnob Try.prog.godebug = none := by kernel_rfl
theorem laidOut : laidOutB Try.prog = true := by kernel_rfl
set_option maxRecDepth 100000 in
theorem contract (H : Type) (enc : TypeId × Value → H) (W : World) (base : Nat) (args : Array Value) (ds gs : List (DataW H)) (before : List MemPlace)
    (hval : ∀ (j : Nat) t v, Try.f4.params[j]? = some t → args[j]? = some v → Value.okWide Try.prog W .any base t v)
    (hW : DataW.Whole enc Try.prog Try.f4.params.toList Rows.fnExactFreeLogicSpec.vars false W args.toList ds gs before)
    (_hL : laidMetH Try.prog Rows.fnExactFreeLogicRow.laid W) (_hSh : W.ShapedOpen Try.prog) :
    Calls Try.prog 4 args W fun e W' => ∃ v, e = .returned v ∧ Rows.fnExactFreeLogicSpec.post enc Try.prog Try.f4 false true false false W args v W' := by
  have hW' := hW
  have hlt : ∀ x ∈ before, x.block < W.heap.size := fun x hx => hW'.lt x hx
  obtain ⟨p, q, hA0, hV, rfl, _, _⟩ := hW
  have hA : DataW.TrodAll enc Try.prog W 0 (fun _ => true) true Try.f4.params.toList args.toList ds p := hA0
  rw [Try.params4] at hA hval
  obtain ⟨v0, d0, rfl, rfl, t0⟩ := trodAll_one hA
  obtain ⟨x0, rfl, hin0, hsh0, hok0⟩ := open_formula Try.underlying42 (by kernel_rfl) rfl (by kernel_rfl) Try.underlying3 Try.underlying3 Try.underlying3 Try.underlying3 Try.underlying40 (fun x hx => hlt x (by simp [hx])) (hval 0 42 v0 rfl rfl) t0
  refine (walk x0 W hin0 hsh0 hok0).mono fun e W' ⟨he, hb⟩ => ?_
  subst he
  exact ⟨_, rfl, law_post laidOut rfl (by kernel_rfl) (by kernel_rfl) Try.underlying4 hW' rfl hb⟩

/-- A world for the witness. -/
noncomputable def start (os : Os) : World := World.holding Try.prog os ⟨#[], #[], []⟩
theorem laid_met (os : Os) : laidMet Try.prog Rows.fnExactFreeLogicRow.laid ((start os).forCall (fun _ _ => 0) ⟨#[], #[.agg #[.int .i64 0, .int .i64 0, .int .i64 0, .int .i64 0, .slice none 0 0]], []⟩).memory :=
  laidMet_of_run' 8 (by kernel_rfl) (by kernel_rfl)
theorem reads (os : Os) {H : Type} (enc : TypeId × Value → H) : ∃ places, DataW.whole enc Try.prog ((start os).forCall (fun _ _ => 0) ⟨#[], #[.agg #[.int .i64 0, .int .i64 0, .int .i64 0, .int .i64 0, .slice none 0 0]], []⟩).memory Try.f4.params.toList Rows.fnExactFreeLogicSpec.vars false #[Value.agg #[.int .i64 0, .int .i64 0, .int .i64 0, .int .i64 0, .slice none 0 0]].toList 8 = some ([.agg [.lit (.int .i64 0), .lit (.int .i64 0), .lit (.int .i64 0), .lit (.int .i64 0), .nil]], [], places) :=
  ⟨[], by kernel_rfl⟩

set_option maxRecDepth 100000 in
theorem lifted (os : Os) (started : os.Started) (H : Type) (enc : TypeId × Value → H) (F : Stop.Interp) :
    ReturnsInHanded {} Try.checked os 4 .any ((OpenSpec.ofChange Rows.fnExactFreeLogicSpec).preRow enc Try.prog Try.f4 Rows.fnExactFreeLogicRow.domain false Rows.fnExactFreeLogicRow.laid) (((OpenSpec.ofChange Rows.fnExactFreeLogicSpec).at F).post enc Try.prog Try.f4 false true false false) := by
  obtain ⟨places, hx⟩ := reads os enc
  refine returnsInHanded_of_row (C := Try.checked) (s := OpenSpec.ofChange Rows.fnExactFreeLogicSpec) own started (by kernel_rfl) Try.func4
    (witness_row_at (enc := enc) (C := Try.checked) false (start os) #[.agg #[.int .i64 0, .int .i64 0, .int .i64 0, .int .i64 0, .slice none 0 0]] rfl (by kernel_rfl) (by kernel_rfl) (by kernel_rfl)
      (OpenSpec.preRow_of_cond 8 hx (by kernel_rfl) (fun k hk => by cases hk) (by kernel_rfl) (laid_met os))) ?_
  intro W base args ds gs before hval hW _ _ _ hL hSh _
  exact contract H enc W base args ds gs before hval hW hL hSh

theorem said : Rows.FnExactFreeLogicSaid :=
  OpenClaim.holds_of_cond 4 Try.f4 rfl rfl rfl rfl rfl rfl rfl ⟨rfl, rfl, rfl, rfl, rfl⟩ rfl rfl rfl rfl rfl (by kernel_rfl) Try.func4 (by kernel_rfl)
    (of_decide_eq_true (by kernel_rfl)) (by unfold Func.isWrapper; first | (rw [if_pos (by decide +kernel)]; kernel_rfl) | (rw [if_neg (by decide +kernel)]; exact ⟨rfl, rfl⟩))
    (fun os started H enc _ F => by rw [OpenClaim.pre_eq_preRow]; exact lifted os started H enc F)
#print axioms said
end Go.Proofs.Ythhhmlohfhioeaa.exactFreeLogic
