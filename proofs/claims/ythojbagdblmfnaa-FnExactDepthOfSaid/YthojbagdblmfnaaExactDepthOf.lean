/-
  Proved: for every formula the law FnExactDepthOf returns true and leaves its argument as it was. No condition beyond the given row's own.
-/
import Derived.Test.YthojbagdblmfnaaWidths
import Derived.Test.YthojbagdblmfnaaSzTree
import Derived.Test.YthojbagdblmfnaaOpenTree
import Derived.Test.YthojbagdblmfnaaRows
import Derived.ChangeMaps5
import Derived.LaidLaws
namespace Go.Proofs.Ythojbagdblmfnaa.exactDepthOf
open Go Go.RowKit Go.ChangeShapes Go.WideShapes Go.ChangeAt

/-- The law said true, and nothing old has turned. -/
def TrueEnd (w : World) (e : Ending) (w' : World) : Prop := e = .returned (.bool true) ∧ Below w.heap.size w w'

set_option maxHeartbeats 1600000 in
theorem walk (x : Ft) (w : World) (hin : x.In w w.heap.size) (hsh : x.Short) (_hok : x.er.Ok) : Calls Try.prog 6 #[x.val] w (TrueEnd w) := by
  have hb0 : ∀ c e, Below w.heap.size w (w.alloc (.cells c e)) := fun c e => (Below.refl _ _).alloc (Nat.le_refl _) _
  have HB0 := Lib.hid hb0
  have HIN := Lib.hid (fun (W : World) (hb : Below w.heap.size w W) => hin.to hb)
  have HSH := Lib.hid hsh
  clear hb0 hin hsh
  go_enter Try.func6, Try.ntmps6
  go_wp2_with fail
  refine (szTree x HSH.out 1048576 _ (by omega) (HIN.out _ (HB0.out _ _))).mono ?_
  rintro e w1 ⟨r, rfl, hb1, hr, hsz⟩
  have hB1 : Below w.heap.size w w1 := (HB0.out _ _).trans (hb1.mono (by simp))
  have hs1 : w.heap.size < w1.heap.size := by have h := hb1.size; simp at h; omega
  have HSZ := Lib.hid hsz
  by_cases hneg : r < 0
  · clear hsz
    go_wp2_with fail
    go_ret
    exact ⟨rfl, hB1⟩
  have hsmall : x.er.size ≤ 1099511627776 := by have := hsz (by omega); omega
  have HK : ∀ W, Below w1.heap.size w1 W → Hid (Below w.heap.size w W ∧ W.cell? ⟨w.heap.size, 0, none⟩ = some (.int .i64 x.kd) ∧ W.cell? ⟨w.heap.size, 1, none⟩ = some (.int .i64 x.k) ∧ W.cell? ⟨w.heap.size, 2, none⟩ = some (.int .i64 x.u) ∧ W.cell? ⟨w.heap.size, 3, none⟩ = some (.int .i64 x.v) ∧ W.cell? ⟨w.heap.size, 4, none⟩ = some (.slice x.a x.args.length x.cap)) := fun W hW => by
    have hc : ∀ o, W.cell? ⟨w.heap.size, o, none⟩ = _ := fun o => (hW.cell (p := ⟨w.heap.size, o, none⟩) hs1).trans (hb1.cell (p := ⟨w.heap.size, o, none⟩) (by simp))
    exact Lib.hid ⟨hB1.trans (hW.mono (by omega)), by rw [hc]; simp [go_sem], by rw [hc]; simp [go_sem], by rw [hc]; simp [go_sem], by rw [hc]; simp [go_sem], by rw [hc]; simp [go_sem]⟩
  have HKK := Lib.hid HK
  obtain ⟨_, c0, c1, c2, c3, c4⟩ := (HKK.out w1 (Below.refl _ _)).out
  clear hsz HK hb1
  go_wp2_with fail
  refine (toTree x _ hsmall (HIN.out _ hB1)).mono ?_
  rintro e w2 ⟨y, rfl, hy, hyo, hb2⟩
  have hyin : y.In w2 w2.heap.size := hyo.in_ y (Nat.le_refl _)
  have hysm : y.er.size ≤ 1099511627776 := by rw [hy]; exact hsmall
  clear hyo c0 c1 c2 c3 c4
  go_wp2_with fail
  refine (specDepthOf y _ hysm hyin).mono ?_
  rintro e w3 ⟨rfl, hb3⟩
  have hb13 := hb2.trans (hb3.mono hb2.size)
  obtain ⟨hB3, c0, c1, c2, c3, c4⟩ := (HKK.out w3 hb13).out
  rw [hy]
  clear hb2 hb3 hyin hysm hy
  go_wp2_with fail
  refine (toTree x _ hsmall (HIN.out _ hB3)).mono ?_
  rintro e w4 ⟨z, rfl, hz, hzo, hb4⟩
  have hzsm : z.er.size ≤ 1099511627776 := by rw [hz]; exact hsmall
  have hsol : Solid w4 z := hzo.solid (Nat.le_refl _) hzsm
  have hb14 := hb13.trans (hb4.mono hb13.size)
  have hbx : Below w4.heap.size w4 (w4.alloc (.cells #[.int .i64 z.kd, .int .i64 z.k, .int .i64 z.u, .int .i64 z.v, .slice z.a z.args.length z.cap] 26)) := (Below.refl _ _).alloc (Nat.le_refl _) _
  have HBX := Lib.hid hbx
  have HSOL := Lib.hid hsol
  have HZ := Lib.hid hz
  clear hzo hzsm hsol hb4 c0 c1 c2 c3 c4 hbx hz
  go_wp2_with fail
  refine (implDepthOf z _ (HSOL.out.below HBX.out)).mono ?_
  rintro e w5 ⟨rfl, hb5⟩
  have hz5 := hb5.size
  simp at hz5
  have hz14 := hb14.size
  have hb15 : Below w1.heap.size w1 w5 := (hb14.trans (HBX.out.mono hz14)).trans (hb5.mono (by simp; omega))
  obtain ⟨hB5, c0, c1, c2, c3, c4⟩ := (HKK.out w5 hb15).out
  have hALL : ∀ W, Below w5.heap.size w5 W → ((W.cell? ⟨w4.heap.size, 0, none⟩ = some (.int .i64 z.kd) ∧ W.cell? ⟨w4.heap.size, 1, none⟩ = some (.int .i64 z.k) ∧ W.cell? ⟨w4.heap.size, 2, none⟩ = some (.int .i64 z.u) ∧ W.cell? ⟨w4.heap.size, 3, none⟩ = some (.int .i64 z.v) ∧ W.cell? ⟨w4.heap.size, 4, none⟩ = some (.slice z.a z.args.length z.cap)) ∧
      (W.cell? ⟨w.heap.size, 0, none⟩ = some (.int .i64 x.kd) ∧ W.cell? ⟨w.heap.size, 1, none⟩ = some (.int .i64 x.k) ∧ W.cell? ⟨w.heap.size, 2, none⟩ = some (.int .i64 x.u) ∧ W.cell? ⟨w.heap.size, 3, none⟩ = some (.int .i64 x.v) ∧ W.cell? ⟨w.heap.size, 4, none⟩ = some (.slice x.a x.args.length x.cap))) ∧ Below w.heap.size w W ∧ z.In W W.heap.size := fun W hW => by
    have hbW : Below (w4.heap.size + 1) (w4.alloc (.cells #[.int .i64 z.kd, .int .i64 z.k, .int .i64 z.u, .int .i64 z.v, .slice z.a z.args.length z.cap] 26)) W := (hb5.mono (by simp)).trans (hW.mono (by omega))
    have hd : ∀ o, W.cell? ⟨w4.heap.size, o, none⟩ = _ := fun o => hbW.cell (p := ⟨w4.heap.size, o, none⟩) (Nat.lt_succ_self _)
    have hk := (HKK.out W (hb15.trans (hW.mono hb15.size))).out
    refine ⟨⟨⟨?_, ?_, ?_, ?_, ?_⟩, hk.2⟩, hk.1, ((HSOL.out.in_.to HBX.out).to hb5).to hW⟩
    all_goals rw [hd]; simp [go_sem]
  have ALL := Lib.hid hALL
  rw [HZ.out]
  have hD : Below w5.heap.size w5 w5.drew := (Below.refl _ _).drew
  clear hb13 hb14 hb5 hALL c0 c1 c2 c3 c4 hz5 hb15 hz14
  go_wp2_with fail
  go_region_held3 (fun W => (W.cell? ⟨w4.heap.size, 0, none⟩ = some (.int .i64 z.kd) ∧ W.cell? ⟨w4.heap.size, 1, none⟩ = some (.int .i64 z.k) ∧ W.cell? ⟨w4.heap.size, 2, none⟩ = some (.int .i64 z.u) ∧ W.cell? ⟨w4.heap.size, 3, none⟩ = some (.int .i64 z.v) ∧ W.cell? ⟨w4.heap.size, 4, none⟩ = some (.slice z.a z.args.length z.cap)) ∧
      (W.cell? ⟨w.heap.size, 0, none⟩ = some (.int .i64 x.kd) ∧ W.cell? ⟨w.heap.size, 1, none⟩ = some (.int .i64 x.k) ∧ W.cell? ⟨w.heap.size, 2, none⟩ = some (.int .i64 x.u) ∧ W.cell? ⟨w.heap.size, 3, none⟩ = some (.int .i64 x.v) ∧ W.cell? ⟨w.heap.size, 4, none⟩ = some (.slice x.a x.args.length x.cap)))
    (first | exact (ALL.out _ hD).1 | exact (ALL.out _ (Below.drew hD)).1 | exact (ALL.out _ H7).1 | exact (ALL.out _ H8).1)
    (first
      | (go_at_call 28; (refine (toTree x _ hsmall (HIN.out _ (ALL.out _ hD).2.1)).mono ?_); rintro e w7 ⟨q, rfl, hq, hqo, hb7⟩; have H7 := hD.trans (hb7.mono hD.size))
      | (go_at_call 29; (refine (eqTree z q (HZ.out.trans hq.symm) _ (z.short_of_size (by rw [HZ.out]; exact hsmall)) (ALL.out _ H7).2.2 (hqo.in_ q (Nat.le_refl _))).mono ?_); rintro e w8 ⟨rfl, hb8⟩; have H8 := H7.trans (hb8.mono H7.size)))
  go_wp2_with fail
  go_ret
  exact ⟨rfl, (ALL.out _ H8).2.1⟩

theorem own : ownKnob Try.prog.godebug = none := by kernel_rfl
theorem laidOut : laidOutB Try.prog = true := by kernel_rfl
set_option maxRecDepth 100000 in
theorem contract (H : Type) (enc : TypeId × Value → H) (W : World) (base : Nat) (args : Array Value) (ds gs : List (DataW H)) (before : List MemPlace)
    (hval : ∀ (j : Nat) t v, Try.f6.params[j]? = some t → args[j]? = some v → Value.okWide Try.prog W .any base t v)
    (hW : DataW.Whole enc Try.prog Try.f6.params.toList Rows.fnExactDepthOfSpec.vars false W args.toList ds gs before)
    (_hL : laidMetH Try.prog Rows.fnExactDepthOfRow.laid W) (_hSh : W.ShapedOpen Try.prog) :
    Calls Try.prog 6 args W fun e W' => ∃ v, e = .returned v ∧ Rows.fnExactDepthOfSpec.post enc Try.prog Try.f6 false true false false W args v W' := by
  have hW' := hW
  have hlt : ∀ x ∈ before, x.block < W.heap.size := fun x hx => hW'.lt x hx
  obtain ⟨p, q, hA0, hV, rfl, _, _⟩ := hW
  have hA : DataW.TrodAll enc Try.prog W 0 (fun _ => true) true Try.f6.params.toList args.toList ds p := hA0
  rw [Try.params6] at hA hval
  obtain ⟨v0, d0, rfl, rfl, t0⟩ := trodAll_one hA
  obtain ⟨x0, rfl, hin0, hsh0, hok0⟩ := open_formula Try.underlying43 (by kernel_rfl) rfl (by kernel_rfl) Try.underlying3 Try.underlying3 Try.underlying3 Try.underlying3 Try.underlying41 (fun x hx => hlt x (by simp [hx])) (hval 0 43 v0 rfl rfl) t0
  refine (walk x0 W hin0 hsh0 hok0).mono fun e W' ⟨he, hb⟩ => ?_
  subst he
  exact ⟨_, rfl, law_post laidOut rfl (by kernel_rfl) (by kernel_rfl) Try.underlying4 hW' rfl hb⟩

/-- A world for the witness. -/
noncomputable def start (os : Os) : World := World.holding Try.prog os ⟨#[], #[], []⟩
theorem laid_met (os : Os) : laidMet Try.prog Rows.fnExactDepthOfRow.laid ((start os).forCall (fun _ _ => 0) ⟨#[], #[.agg #[.int .i64 0, .int .i64 0, .int .i64 0, .int .i64 0, .slice none 0 0]], []⟩).memory :=
  laidMet_of_run' 8 (by kernel_rfl) (by kernel_rfl)
theorem reads (os : Os) {H : Type} (enc : TypeId × Value → H) : ∃ places, DataW.whole enc Try.prog ((start os).forCall (fun _ _ => 0) ⟨#[], #[.agg #[.int .i64 0, .int .i64 0, .int .i64 0, .int .i64 0, .slice none 0 0]], []⟩).memory Try.f6.params.toList Rows.fnExactDepthOfSpec.vars false #[Value.agg #[.int .i64 0, .int .i64 0, .int .i64 0, .int .i64 0, .slice none 0 0]].toList 8 = some ([.agg [.lit (.int .i64 0), .lit (.int .i64 0), .lit (.int .i64 0), .lit (.int .i64 0), .nil]], [], places) :=
  ⟨[], by kernel_rfl⟩

set_option maxRecDepth 100000 in
theorem lifted (os : Os) (started : os.Started) (H : Type) (enc : TypeId × Value → H) (F : Stop.Interp) :
    ReturnsInHanded {} Try.checked os 6 .any ((OpenSpec.ofChange Rows.fnExactDepthOfSpec).preRow enc Try.prog Try.f6 Rows.fnExactDepthOfRow.domain false Rows.fnExactDepthOfRow.laid) (((OpenSpec.ofChange Rows.fnExactDepthOfSpec).at F).post enc Try.prog Try.f6 false true false false) := by
  obtain ⟨places, hx⟩ := reads os enc
  refine returnsInHanded_of_row (C := Try.checked) (s := OpenSpec.ofChange Rows.fnExactDepthOfSpec) own started (by kernel_rfl) Try.func6
    (witness_row_at (enc := enc) (C := Try.checked) false (start os) #[.agg #[.int .i64 0, .int .i64 0, .int .i64 0, .int .i64 0, .slice none 0 0]] rfl (by kernel_rfl) (by kernel_rfl) (by kernel_rfl)
      (OpenSpec.preRow_of_cond 8 hx (by kernel_rfl) (fun k hk => by cases hk) (by kernel_rfl) (laid_met os))) ?_
  intro W base args ds gs before hval hW _ _ _ hL hSh _
  exact contract H enc W base args ds gs before hval hW hL hSh

theorem said : Rows.FnExactDepthOfSaid :=
  OpenClaim.holds_of_cond 6 Try.f6 rfl rfl rfl rfl rfl rfl rfl ⟨rfl, rfl, rfl, rfl, rfl⟩ rfl rfl rfl rfl rfl (by kernel_rfl) Try.func6 (by kernel_rfl)
    (of_decide_eq_true (by kernel_rfl)) (by unfold Func.isWrapper; first | (rw [if_pos (by decide +kernel)]; kernel_rfl) | (rw [if_neg (by decide +kernel)]; exact ⟨rfl, rfl⟩))
    (fun os started H enc _ F => by rw [OpenClaim.pre_eq_preRow]; exact lifted os started H enc F)
#print axioms said
end Go.Proofs.Ythojbagdblmfnaa.exactDepthOf
