/-
  Proved: for every two formulas the law FnExactEqualFormula returns true and leaves its arguments as they were. No condition beyond the given row's own.
-/
import Derived.Test.YthojbagdblmfnaaEqualFm
import Derived.Test.YthojbagdblmfnaaSzTree
import Derived.Test.YthojbagdblmfnaaOpenTree
import Derived.Test.YthojbagdblmfnaaRows
import Derived.ChangeMaps5
import Derived.LaidLaws
namespace Go.Proofs.Ythojbagdblmfnaa.exactEqualFormula
open Go Go.RowKit Go.ChangeShapes Go.WideShapes Go.ChangeAt

/-- The law said true, and nothing old has turned. -/
def TrueEnd (w : World) (e : Ending) (w' : World) : Prop := e = .returned (.bool true) ∧ Below w.heap.size w w'
theorem small_prod {a b : Nat} (h : a + b ≤ 1048578) : a * b ≤ 1099511627776 := by
  rcases Nat.lt_or_ge a 524290 with h1 | h1
  · exact Nat.le_trans (Nat.mul_le_mul (show a ≤ 524289 by omega) (show b ≤ 1048578 by omega)) (by decide)
  · exact Nat.le_trans (Nat.mul_le_mul (show a ≤ 1048578 by omega) (show b ≤ 524289 by omega)) (by decide)

set_option maxRecDepth 100000 in
set_option maxHeartbeats 6400000 in
theorem walk (x y : Ft) (w : World) (hx : x.In w w.heap.size) (hsx : x.Short) (_okx : x.er.Ok) (hy : y.In w w.heap.size) (hsy : y.Short) (_oky : y.er.Ok) : Calls Try.prog 9 #[x.val, y.val] w (TrueEnd w) := by
  have hb2 : Below w.heap.size w ((w.alloc (.cells #[.int .i64 x.kd, .int .i64 x.k, .int .i64 x.u, .int .i64 x.v, .slice x.a x.args.length x.cap] 43)).alloc (.cells #[.int .i64 y.kd, .int .i64 y.k, .int .i64 y.u, .int .i64 y.v, .slice y.a y.args.length y.cap] 43)) := ((Below.refl _ _).alloc (Nat.le_refl _) _).alloc (by simp) _
  obtain ⟨W0, hW0⟩ : ∃ W, (w.alloc (.cells #[.int .i64 x.kd, .int .i64 x.k, .int .i64 x.u, .int .i64 x.v, .slice x.a x.args.length x.cap] 43)).alloc (.cells #[.int .i64 y.kd, .int .i64 y.k, .int .i64 y.u, .int .i64 y.v, .slice y.a y.args.length y.cap] 43) = W := ⟨_, rfl⟩
  have hK : ∀ W, Below W0.heap.size W0 W → Hid ((Below w.heap.size w W ∧ x.In W W.heap.size ∧ y.In W W.heap.size) ∧ ((W.cell? ⟨w.heap.size, 0, none⟩ = some (.int .i64 x.kd) ∧ W.cell? ⟨w.heap.size, 1, none⟩ = some (.int .i64 x.k) ∧ W.cell? ⟨w.heap.size, 2, none⟩ = some (.int .i64 x.u) ∧ W.cell? ⟨w.heap.size, 3, none⟩ = some (.int .i64 x.v) ∧ W.cell? ⟨w.heap.size, 4, none⟩ = some (.slice x.a x.args.length x.cap)) ∧ (W.cell? ⟨(w.heap.size + 1), 0, none⟩ = some (.int .i64 y.kd) ∧ W.cell? ⟨(w.heap.size + 1), 1, none⟩ = some (.int .i64 y.k) ∧ W.cell? ⟨(w.heap.size + 1), 2, none⟩ = some (.int .i64 y.u) ∧ W.cell? ⟨(w.heap.size + 1), 3, none⟩ = some (.int .i64 y.v) ∧ W.cell? ⟨(w.heap.size + 1), 4, none⟩ = some (.slice y.a y.args.length y.cap)))) := fun W hW => by
    rw [← hW0] at hW
    have hB := hb2.trans (hW.mono (by simp; omega))
    have hc : ∀ o, W.cell? ⟨w.heap.size, o, none⟩ = _ := fun o => hW.cell (p := ⟨w.heap.size, o, none⟩) (by simp; omega)
    have hd : ∀ o, W.cell? ⟨w.heap.size + 1, o, none⟩ = _ := fun o => hW.cell (p := ⟨w.heap.size + 1, o, none⟩) (by simp)
    refine Lib.hid ⟨⟨hB, hx.to hB, hy.to hB⟩, ⟨?_, ?_, ?_, ?_, ?_⟩, ⟨?_, ?_, ?_, ?_, ?_⟩⟩
    all_goals first | (rw [hc]; simp [go_sem]; done) | (rw [hd]; simp [go_sem]; done)
  have KK := Lib.hid hK
  have HW0 := Lib.hid hW0
  have HSX := Lib.hid hsx
  have HSY := Lib.hid hsy
  have hs0 : w.heap.size + 1 < W0.heap.size := by rw [← hW0]; simp
  clear hb2 hK hW0 hsx hsy hx hy
  go_enter Try.func9, Try.ntmps9
  go_wp2_with fail
  rw [HW0.out]
  clear HW0
  obtain ⟨⟨hB0, hx0, hy0⟩, ⟨c0, c1, c2, c3, c4⟩, d0, d1, d2, d3, d4⟩ := (KK.out W0 (Below.refl _ _)).out
  refine (szTree x HSX.out 1048576 _ (by omega) hx0).mono ?_
  rintro e w1 ⟨r, rfl, hb1, hr, hsz⟩
  have HSZ := Lib.hid hsz
  clear c0 c1 c2 c3 c4 d0 d1 d2 d3 d4 hB0 hx0 hy0
  obtain ⟨⟨hB1, hx1, hy1⟩, ⟨c0, c1, c2, c3, c4⟩, d0, d1, d2, d3, d4⟩ := (KK.out w1 hb1).out
  by_cases hneg : r < 0
  · clear hsz c0 c1 c2 c3 c4 d0 d1 d2 d3 d4 hx1 hy1
    go_wp2_with fail
    go_ret
    exact ⟨rfl, hB1⟩
  obtain ⟨r1, rfl⟩ : ∃ r1 : Nat, r = (r1 : Int) := ⟨r.toNat, by omega⟩
  have hr1 : r1 ≤ 1048576 := by omega
  have HSZ1 := Lib.hid (hsz (by omega))
  clear hsz HSZ hr
  go_wp2_with fail
  refine (szTree y HSY.out r1 _ (by omega) hy1).mono ?_
  rintro e w2 ⟨r, rfl, hb2, hr2, hsz⟩
  have hb02 := hb1.trans (hb2.mono hb1.size)
  clear c0 c1 c2 c3 c4 d0 d1 d2 d3 d4 hB1 hx1 hy1 hb1 hb2
  obtain ⟨⟨hB2, hx2, hy2⟩, _⟩ := (KK.out w2 hb02).out
  by_cases hneg2 : r < 0
  · clear hsz hx2 hy2
    go_wp2_with fail
    go_ret
    exact ⟨rfl, hB2⟩
  have hsum : x.er.size + y.er.size ≤ 1048578 := by have h1 := HSZ1.out; have h2 := hsz (by omega); omega
  have hprod : x.er.size * y.er.size ≤ 1099511627776 := small_prod hsum
  have hxs : x.er.size ≤ 1099511627776 := by omega
  have hys : y.er.size ≤ 1099511627776 := by omega
  obtain ⟨c, hc⟩ : ∃ c : Bool, (c = true ↔ x.er = y.er) := by
    by_cases h : x.er = y.er
    · exact ⟨true, by simp [h]⟩
    · exact ⟨false, by simp [h]⟩
  have HC := Lib.hid hc
  have hD0 : Below W0.heap.size W0 w2.drew := hb02.drew
  have HXS := Lib.hid hxs
  have HYS := Lib.hid hys
  have HPR := Lib.hid hprod
  clear hsz hB2 hx2 hy2 hc hsum hxs hys hprod
  go_wp2_with fail
  go_region_held3 (fun W => ((W.cell? ⟨w.heap.size, 0, none⟩ = some (.int .i64 x.kd) ∧ W.cell? ⟨w.heap.size, 1, none⟩ = some (.int .i64 x.k) ∧ W.cell? ⟨w.heap.size, 2, none⟩ = some (.int .i64 x.u) ∧ W.cell? ⟨w.heap.size, 3, none⟩ = some (.int .i64 x.v) ∧ W.cell? ⟨w.heap.size, 4, none⟩ = some (.slice x.a x.args.length x.cap)) ∧ (W.cell? ⟨(w.heap.size + 1), 0, none⟩ = some (.int .i64 y.kd) ∧ W.cell? ⟨(w.heap.size + 1), 1, none⟩ = some (.int .i64 y.k) ∧ W.cell? ⟨(w.heap.size + 1), 2, none⟩ = some (.int .i64 y.u) ∧ W.cell? ⟨(w.heap.size + 1), 3, none⟩ = some (.int .i64 y.v) ∧ W.cell? ⟨(w.heap.size + 1), 4, none⟩ = some (.slice y.a y.args.length y.cap))))
    (first | exact (KK.out _ hb02).out.2 | exact (KK.out _ hD0).out.2 | exact (KK.out _ hb03).out.2 | exact (KK.out _ hb04).out.2 | exact (KK.out _ hb05).out.2)
    (first
      | (go_at_call_of 28 x.kd; (refine (toTree x _ HXS.out (KK.out _ hD0).out.1.2.1).mono ?_); rintro e w3 ⟨x1, rfl, hx1, hxo1, hb3⟩; have hb03 := hD0.trans (hb3.mono hD0.size))
      | (go_at_call_of 28 y.kd; (refine (toTree y _ HYS.out (KK.out _ hb03).out.1.2.2).mono ?_); rintro e w4 ⟨y1, rfl, hy1, hyo1, hb4⟩; have hxi1 := (hxo1.in_ x1 (Nat.le_refl _)).to hb4; have hb04 := hb03.trans (hb4.mono hb03.size))
      | (go_at_call 20; (refine (specEqual x1 y1 c (by rw [hx1, hy1]; exact HC.out) _ (x1.short_of_size (by rw [hx1]; exact HXS.out)) hxi1 (hyo1.in_ y1 (Nat.le_refl _))).mono ?_); rintro e w5 ⟨rfl, hb5⟩; have hb05 := hb04.trans (hb5.mono hb04.size)))
  have HB05 := Lib.hid hb05
  clear hb03 hb04 hb3 hb4 hb5 hx1 hy1 hxo1 hyo1 hxi1 hD0 hb02 hb05
  obtain ⟨⟨hB5, hx5, _⟩, ⟨c0, c1, c2, c3, c4⟩, d0, d1, d2, d3, d4⟩ := (KK.out w5 HB05.out).out
  go_wp2_with fail
  refine (toTree x _ HXS.out hx5).mono ?_
  rintro e w6 ⟨p, rfl, hp, hpo, hb6⟩
  have hb06 := HB05.out.trans (hb6.mono HB05.out.size)
  have HSP := Lib.hid (hpo.solid (Nat.le_refl _) (by rw [hp]; exact HXS.out))
  have HP := Lib.hid hp
  clear c0 c1 c2 c3 c4 d0 d1 d2 d3 d4 hB5 hx5 hp hpo hb6
  have hbp : Below w6.heap.size w6 (w6.alloc (.cells #[.int .i64 p.kd, .int .i64 p.k, .int .i64 p.u, .int .i64 p.v, .slice p.a p.args.length p.cap] 26)) := (Below.refl _ _).alloc (Nat.le_refl _) _
  obtain ⟨W7, hW7⟩ : ∃ W, w6.alloc (.cells #[.int .i64 p.kd, .int .i64 p.k, .int .i64 p.u, .int .i64 p.v, .slice p.a p.args.length p.cap] 26) = W := ⟨_, rfl⟩
  have hs7 : W7.heap.size = w6.heap.size + 1 := by rw [← hW7]; simp
  rw [hW7] at hbp
  have hb07 := hb06.trans (hbp.mono hb06.size)
  have HSP7 := Lib.hid (HSP.out.below hbp)
  have hP7 : ∀ W, Below W7.heap.size W7 W → Hid (W.cell? ⟨w6.heap.size, 0, none⟩ = some (.int .i64 p.kd) ∧ W.cell? ⟨w6.heap.size, 1, none⟩ = some (.int .i64 p.k) ∧ W.cell? ⟨w6.heap.size, 2, none⟩ = some (.int .i64 p.u) ∧ W.cell? ⟨w6.heap.size, 3, none⟩ = some (.int .i64 p.v) ∧ W.cell? ⟨w6.heap.size, 4, none⟩ = some (.slice p.a p.args.length p.cap)) := fun W hW => by
    rw [← hW7] at hW
    have hc : ∀ o, W.cell? ⟨w6.heap.size, o, none⟩ = _ := fun o => hW.cell (p := ⟨w6.heap.size, o, none⟩) (by simp)
    refine Lib.hid ⟨?_, ?_, ?_, ?_, ?_⟩
    all_goals rw [hc]; simp [go_sem]
  have HP7 := Lib.hid hP7
  obtain ⟨⟨hB7, _, hy7⟩, ⟨c0, c1, c2, c3, c4⟩, d0, d1, d2, d3, d4⟩ := (KK.out W7 hb07).out
  have HB07 := Lib.hid hb07
  obtain ⟨z0, z1, z2, z3, z4⟩ := (KK.out w6 hb06).out.2.1
  clear hP7 hb06 hbp hb07
  go_wp2_with fail
  clear hW7 z0 z1 z2 z3 z4
  refine (toTree y _ HYS.out hy7).mono ?_
  rintro e w8 ⟨q, rfl, hq, hqo, hb8⟩
  have hb78 := hb8
  have hb08 := HB07.out.trans (hb8.mono HB07.out.size)
  have HSQ := Lib.hid (hqo.solid (Nat.le_refl _) (by rw [hq]; exact HYS.out))
  have HQ := Lib.hid hq
  clear c0 c1 c2 c3 c4 d0 d1 d2 d3 d4 hB7 hy7 hq hqo hb8
  have hbq : Below w8.heap.size w8 (w8.alloc (.cells #[.int .i64 q.kd, .int .i64 q.k, .int .i64 q.u, .int .i64 q.v, .slice q.a q.args.length q.cap] 26)) := (Below.refl _ _).alloc (Nat.le_refl _) _
  obtain ⟨W9, hW9⟩ : ∃ W, w8.alloc (.cells #[.int .i64 q.kd, .int .i64 q.k, .int .i64 q.u, .int .i64 q.v, .slice q.a q.args.length q.cap] 26) = W := ⟨_, rfl⟩
  have hs9 : W9.heap.size = w8.heap.size + 1 := by rw [← hW9]; simp
  rw [hW9] at hbq
  have hb09 := hb08.trans (hbq.mono hb08.size)
  have hb79 := hb78.trans (hbq.mono hb78.size)
  have HSP9 := Lib.hid (HSP7.out.below hb79)
  have HSQ9 := Lib.hid (HSQ.out.below hbq)
  have hQ9 : ∀ W, Below W9.heap.size W9 W → Hid (W.cell? ⟨w8.heap.size, 0, none⟩ = some (.int .i64 q.kd) ∧ W.cell? ⟨w8.heap.size, 1, none⟩ = some (.int .i64 q.k) ∧ W.cell? ⟨w8.heap.size, 2, none⟩ = some (.int .i64 q.u) ∧ W.cell? ⟨w8.heap.size, 3, none⟩ = some (.int .i64 q.v) ∧ W.cell? ⟨w8.heap.size, 4, none⟩ = some (.slice q.a q.args.length q.cap)) := fun W hW => by
    rw [← hW9] at hW
    have hc : ∀ o, W.cell? ⟨w8.heap.size, o, none⟩ = _ := fun o => hW.cell (p := ⟨w8.heap.size, o, none⟩) (by simp)
    refine Lib.hid ⟨?_, ?_, ?_, ?_, ?_⟩
    all_goals rw [hc]; simp [go_sem]
  have HQ9 := Lib.hid hQ9
  have hALL : ∀ W, Below W9.heap.size W9 W → Hid ((Below w.heap.size w W ∧ x.In W W.heap.size ∧ y.In W W.heap.size) ∧ (Solid W p ∧ Solid W q) ∧ (((W.cell? ⟨w6.heap.size, 0, none⟩ = some (.int .i64 p.kd) ∧ W.cell? ⟨w6.heap.size, 1, none⟩ = some (.int .i64 p.k) ∧ W.cell? ⟨w6.heap.size, 2, none⟩ = some (.int .i64 p.u) ∧ W.cell? ⟨w6.heap.size, 3, none⟩ = some (.int .i64 p.v) ∧ W.cell? ⟨w6.heap.size, 4, none⟩ = some (.slice p.a p.args.length p.cap)) ∧ (W.cell? ⟨w8.heap.size, 0, none⟩ = some (.int .i64 q.kd) ∧ W.cell? ⟨w8.heap.size, 1, none⟩ = some (.int .i64 q.k) ∧ W.cell? ⟨w8.heap.size, 2, none⟩ = some (.int .i64 q.u) ∧ W.cell? ⟨w8.heap.size, 3, none⟩ = some (.int .i64 q.v) ∧ W.cell? ⟨w8.heap.size, 4, none⟩ = some (.slice q.a q.args.length q.cap))) ∧ (W.cell? ⟨w.heap.size, 0, none⟩ = some (.int .i64 x.kd) ∧ W.cell? ⟨w.heap.size, 1, none⟩ = some (.int .i64 x.k) ∧ W.cell? ⟨w.heap.size, 2, none⟩ = some (.int .i64 x.u) ∧ W.cell? ⟨w.heap.size, 3, none⟩ = some (.int .i64 x.v) ∧ W.cell? ⟨w.heap.size, 4, none⟩ = some (.slice x.a x.args.length x.cap)) ∧ (W.cell? ⟨(w.heap.size + 1), 0, none⟩ = some (.int .i64 y.kd) ∧ W.cell? ⟨(w.heap.size + 1), 1, none⟩ = some (.int .i64 y.k) ∧ W.cell? ⟨(w.heap.size + 1), 2, none⟩ = some (.int .i64 y.u) ∧ W.cell? ⟨(w.heap.size + 1), 3, none⟩ = some (.int .i64 y.v) ∧ W.cell? ⟨(w.heap.size + 1), 4, none⟩ = some (.slice y.a y.args.length y.cap)))) := fun W hW => by
    obtain ⟨h1, h2, h3⟩ := (KK.out W (hb09.trans (hW.mono hb09.size))).out
    exact Lib.hid ⟨h1, ⟨HSP9.out.below hW, HSQ9.out.below hW⟩, ⟨(HP7.out W (hb79.trans (hW.mono hb79.size))).out, (HQ9.out W hW).out⟩, h2, h3⟩
  have ALL := Lib.hid hALL
  obtain ⟨_, ⟨sp9, sq9⟩, ⟨⟨e0, e1, e2, e3, e4⟩, f0, f1, f2, f3, f4⟩, _⟩ := (ALL.out W9 (Below.refl _ _)).out
  obtain ⟨g0, g1, g2, g3, g4⟩ := (KK.out w8 hb08).out.2.2
  clear hQ9 hALL hb78 hb08 hbq hb09 hb79
  go_wp2_with fail
  clear hW9 g0 g1 g2 g3 g4
  refine (implEqual p q c (by rw [HP.out, HQ.out]; exact HC.out) _ sp9 sq9 (by rw [HP.out, HQ.out]; exact HPR.out)).mono ?_
  rintro e v1 ⟨rfl, hv1⟩
  have hD1 : Below W9.heap.size W9 v1.drew := hv1.drew
  clear e0 e1 e2 e3 e4 f0 f1 f2 f3 f4 sp9 sq9
  go_wp2_with fail
  go_region_held3 (fun W => (((W.cell? ⟨w6.heap.size, 0, none⟩ = some (.int .i64 p.kd) ∧ W.cell? ⟨w6.heap.size, 1, none⟩ = some (.int .i64 p.k) ∧ W.cell? ⟨w6.heap.size, 2, none⟩ = some (.int .i64 p.u) ∧ W.cell? ⟨w6.heap.size, 3, none⟩ = some (.int .i64 p.v) ∧ W.cell? ⟨w6.heap.size, 4, none⟩ = some (.slice p.a p.args.length p.cap)) ∧ (W.cell? ⟨w8.heap.size, 0, none⟩ = some (.int .i64 q.kd) ∧ W.cell? ⟨w8.heap.size, 1, none⟩ = some (.int .i64 q.k) ∧ W.cell? ⟨w8.heap.size, 2, none⟩ = some (.int .i64 q.u) ∧ W.cell? ⟨w8.heap.size, 3, none⟩ = some (.int .i64 q.v) ∧ W.cell? ⟨w8.heap.size, 4, none⟩ = some (.slice q.a q.args.length q.cap))) ∧ (W.cell? ⟨w.heap.size, 0, none⟩ = some (.int .i64 x.kd) ∧ W.cell? ⟨w.heap.size, 1, none⟩ = some (.int .i64 x.k) ∧ W.cell? ⟨w.heap.size, 2, none⟩ = some (.int .i64 x.u) ∧ W.cell? ⟨w.heap.size, 3, none⟩ = some (.int .i64 x.v) ∧ W.cell? ⟨w.heap.size, 4, none⟩ = some (.slice x.a x.args.length x.cap)) ∧ (W.cell? ⟨(w.heap.size + 1), 0, none⟩ = some (.int .i64 y.kd) ∧ W.cell? ⟨(w.heap.size + 1), 1, none⟩ = some (.int .i64 y.k) ∧ W.cell? ⟨(w.heap.size + 1), 2, none⟩ = some (.int .i64 y.u) ∧ W.cell? ⟨(w.heap.size + 1), 3, none⟩ = some (.int .i64 y.v) ∧ W.cell? ⟨(w.heap.size + 1), 4, none⟩ = some (.slice y.a y.args.length y.cap))))
    (first | exact (ALL.out _ hv1).out.2.2 | exact (ALL.out _ hD1).out.2.2 | exact (ALL.out _ hv2).out.2.2 | exact (ALL.out _ hv3).out.2.2)
    (first
      | (go_at_call 28; (refine (toTree x _ HXS.out (ALL.out _ hD1).out.1.2.1).mono ?_); rintro e v2 ⟨x1, rfl, hx1, hxo1, hb2⟩; have hv2 := hD1.trans (hb2.mono hD1.size))
      | (go_at_call 29; (refine (eqTree p x1 (HP.out.trans hx1.symm) _ (p.short_of_size (by rw [HP.out]; exact HXS.out)) (ALL.out _ hv2).out.2.1.1.in_ (hxo1.in_ x1 (Nat.le_refl _))).mono ?_); rintro e v3 ⟨rfl, hb3⟩; have hv3 := hv2.trans (hb3.mono hv2.size)))
  have hD3 : Below W9.heap.size W9 v3.drew := hv3.drew
  have HV3 := Lib.hid hv3
  clear hx1 hxo1 hb2 hb3 hv1 hv2 hD1
  go_wp2_with fail
  go_region_held3 (fun W => (((W.cell? ⟨w6.heap.size, 0, none⟩ = some (.int .i64 p.kd) ∧ W.cell? ⟨w6.heap.size, 1, none⟩ = some (.int .i64 p.k) ∧ W.cell? ⟨w6.heap.size, 2, none⟩ = some (.int .i64 p.u) ∧ W.cell? ⟨w6.heap.size, 3, none⟩ = some (.int .i64 p.v) ∧ W.cell? ⟨w6.heap.size, 4, none⟩ = some (.slice p.a p.args.length p.cap)) ∧ (W.cell? ⟨w8.heap.size, 0, none⟩ = some (.int .i64 q.kd) ∧ W.cell? ⟨w8.heap.size, 1, none⟩ = some (.int .i64 q.k) ∧ W.cell? ⟨w8.heap.size, 2, none⟩ = some (.int .i64 q.u) ∧ W.cell? ⟨w8.heap.size, 3, none⟩ = some (.int .i64 q.v) ∧ W.cell? ⟨w8.heap.size, 4, none⟩ = some (.slice q.a q.args.length q.cap))) ∧ (W.cell? ⟨w.heap.size, 0, none⟩ = some (.int .i64 x.kd) ∧ W.cell? ⟨w.heap.size, 1, none⟩ = some (.int .i64 x.k) ∧ W.cell? ⟨w.heap.size, 2, none⟩ = some (.int .i64 x.u) ∧ W.cell? ⟨w.heap.size, 3, none⟩ = some (.int .i64 x.v) ∧ W.cell? ⟨w.heap.size, 4, none⟩ = some (.slice x.a x.args.length x.cap)) ∧ (W.cell? ⟨(w.heap.size + 1), 0, none⟩ = some (.int .i64 y.kd) ∧ W.cell? ⟨(w.heap.size + 1), 1, none⟩ = some (.int .i64 y.k) ∧ W.cell? ⟨(w.heap.size + 1), 2, none⟩ = some (.int .i64 y.u) ∧ W.cell? ⟨(w.heap.size + 1), 3, none⟩ = some (.int .i64 y.v) ∧ W.cell? ⟨(w.heap.size + 1), 4, none⟩ = some (.slice y.a y.args.length y.cap))))
    (first | exact (ALL.out _ hv3).out.2.2 | exact (ALL.out _ hD3).out.2.2 | exact (ALL.out _ hv4).out.2.2 | exact (ALL.out _ hv5).out.2.2)
    (first
      | (go_at_call 28; (refine (toTree y _ HYS.out (ALL.out _ hD3).out.1.2.2).mono ?_); rintro e v4 ⟨y1, rfl, hy1, hyo1, hb4⟩; have hv4 := hD3.trans (hb4.mono hD3.size))
      | (go_at_call 29; (refine (eqTree q y1 (HQ.out.trans hy1.symm) _ (q.short_of_size (by rw [HQ.out]; exact HYS.out)) (ALL.out _ hv4).out.2.1.2.in_ (hyo1.in_ y1 (Nat.le_refl _))).mono ?_); rintro e v5 ⟨rfl, hb5⟩; have hv5 := hv4.trans (hb5.mono hv4.size)))
  obtain ⟨⟨hB, _⟩, _⟩ := (ALL.out _ hv5).out
  clear hy1 hyo1 hb4 hb5 hv3 hv4 hv5 hD3
  go_wp2_with fail
  go_ret
  exact ⟨rfl, hB⟩

theorem own : ownKnob Try.prog.godebug = none := by kernel_rfl
theorem laidOut : laidOutB Try.prog = true := by kernel_rfl
set_option maxRecDepth 100000 in
theorem contract (H : Type) (enc : TypeId × Value → H) (W : World) (base : Nat) (args : Array Value) (ds gs : List (DataW H)) (before : List MemPlace)
    (hval : ∀ (j : Nat) t v, Try.f9.params[j]? = some t → args[j]? = some v → Value.okWide Try.prog W .any base t v)
    (hW : DataW.Whole enc Try.prog Try.f9.params.toList Rows.fnExactEqualFormulaSpec.vars false W args.toList ds gs before)
    (_hL : laidMetH Try.prog Rows.fnExactEqualFormulaRow.laid W) (_hSh : W.ShapedOpen Try.prog) :
    Calls Try.prog 9 args W fun e W' => ∃ v, e = .returned v ∧ Rows.fnExactEqualFormulaSpec.post enc Try.prog Try.f9 false true false false W args v W' := by
  have hW' := hW
  have hlt : ∀ x ∈ before, x.block < W.heap.size := fun x hx => hW'.lt x hx
  obtain ⟨p, q, hA0, hV, rfl, _, _⟩ := hW
  have hA : DataW.TrodAll enc Try.prog W 0 (fun _ => true) true Try.f9.params.toList args.toList ds p := hA0
  rw [Try.params9] at hA hval
  obtain ⟨v0, v1, d0, d1, p0, p1, rfl, rfl, rfl, t0, t1⟩ := trodAll_two hA
  obtain ⟨x0, rfl, hin0, hsh0, hok0⟩ := open_formula Try.underlying43 (by kernel_rfl) rfl (by kernel_rfl) Try.underlying3 Try.underlying3 Try.underlying3 Try.underlying3 Try.underlying41 (fun x hx => hlt x (by simp [hx])) (hval 0 43 v0 rfl rfl) t0
  obtain ⟨x1, rfl, hin1, hsh1, hok1⟩ := open_formula Try.underlying43 (by kernel_rfl) rfl (by kernel_rfl) Try.underlying3 Try.underlying3 Try.underlying3 Try.underlying3 Try.underlying41 (fun x hx => hlt x (by simp [hx])) (hval 1 43 v1 rfl rfl) t1
  refine (walk x0 x1 W hin0 hsh0 hok0 hin1 hsh1 hok1).mono fun e W' ⟨he, hb⟩ => ?_
  subst he
  exact ⟨_, rfl, law_post laidOut rfl (by kernel_rfl) (by kernel_rfl) Try.underlying4 hW' rfl hb⟩

/-- A world for the witness. -/
noncomputable def start (os : Os) : World := World.holding Try.prog os ⟨#[], #[], []⟩
theorem laid_met (os : Os) : laidMet Try.prog Rows.fnExactEqualFormulaRow.laid ((start os).forCall (fun _ _ => 0) ⟨#[], #[.agg #[.int .i64 0, .int .i64 0, .int .i64 0, .int .i64 0, .slice none 0 0], .agg #[.int .i64 0, .int .i64 0, .int .i64 0, .int .i64 0, .slice none 0 0]], []⟩).memory :=
  laidMet_of_run' 8 (by kernel_rfl) (by kernel_rfl)
theorem reads (os : Os) {H : Type} (enc : TypeId × Value → H) : ∃ places, DataW.whole enc Try.prog ((start os).forCall (fun _ _ => 0) ⟨#[], #[.agg #[.int .i64 0, .int .i64 0, .int .i64 0, .int .i64 0, .slice none 0 0], .agg #[.int .i64 0, .int .i64 0, .int .i64 0, .int .i64 0, .slice none 0 0]], []⟩).memory Try.f9.params.toList Rows.fnExactEqualFormulaSpec.vars false #[Value.agg #[.int .i64 0, .int .i64 0, .int .i64 0, .int .i64 0, .slice none 0 0], .agg #[.int .i64 0, .int .i64 0, .int .i64 0, .int .i64 0, .slice none 0 0]].toList 8 = some ([.agg [.lit (.int .i64 0), .lit (.int .i64 0), .lit (.int .i64 0), .lit (.int .i64 0), .nil], .agg [.lit (.int .i64 0), .lit (.int .i64 0), .lit (.int .i64 0), .lit (.int .i64 0), .nil]], [], places) :=
  ⟨[], by kernel_rfl⟩

set_option maxRecDepth 100000 in
theorem lifted (os : Os) (started : os.Started) (H : Type) (enc : TypeId × Value → H) (F : Stop.Interp) :
    ReturnsInHanded {} Try.checked os 9 .any ((OpenSpec.ofChange Rows.fnExactEqualFormulaSpec).preRow enc Try.prog Try.f9 Rows.fnExactEqualFormulaRow.domain false Rows.fnExactEqualFormulaRow.laid) (((OpenSpec.ofChange Rows.fnExactEqualFormulaSpec).at F).post enc Try.prog Try.f9 false true false false) := by
  obtain ⟨places, hx⟩ := reads os enc
  refine returnsInHanded_of_row (C := Try.checked) (s := OpenSpec.ofChange Rows.fnExactEqualFormulaSpec) own started (by kernel_rfl) Try.func9
    (witness_row_at (enc := enc) (C := Try.checked) false (start os) #[.agg #[.int .i64 0, .int .i64 0, .int .i64 0, .int .i64 0, .slice none 0 0], .agg #[.int .i64 0, .int .i64 0, .int .i64 0, .int .i64 0, .slice none 0 0]] rfl (by kernel_rfl) (by kernel_rfl) (by kernel_rfl)
      (OpenSpec.preRow_of_cond 8 hx (by kernel_rfl) (fun k hk => by cases hk) (by kernel_rfl) (laid_met os))) ?_
  intro W base args ds gs before hval hW _ _ _ hL hSh _
  exact contract H enc W base args ds gs before hval hW hL hSh

theorem said : Rows.FnExactEqualFormulaSaid :=
  OpenClaim.holds_of_cond 9 Try.f9 rfl rfl rfl rfl rfl rfl rfl ⟨rfl, rfl, rfl, rfl, rfl⟩ rfl rfl rfl rfl rfl (by kernel_rfl) Try.func9 (by kernel_rfl)
    (of_decide_eq_true (by kernel_rfl)) (by unfold Func.isWrapper; first | (rw [if_pos (by decide +kernel)]; kernel_rfl) | (rw [if_neg (by decide +kernel)]; exact ⟨rfl, rfl⟩))
    (fun os started H enc _ F => by rw [OpenClaim.pre_eq_preRow]; exact lifted os started H enc F)
#print axioms said
end Go.Proofs.Ythojbagdblmfnaa.exactEqualFormula
