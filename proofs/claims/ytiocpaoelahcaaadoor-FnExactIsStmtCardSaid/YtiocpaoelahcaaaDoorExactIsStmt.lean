/-
  Proved: for every list of strings and every statement the law FnExactIsStmt returns true and leaves its arguments as they were, where the listed table of the program reads as its text lays it (the card ties it).
-/
import Derived.Test.YtiocpaoelahcaaaDoorSzStrs
import Derived.Test.YtiocpaoelahcaaaDoorToStrs
import Derived.Test.YtiocpaoelahcaaaDoorEqStrs
import Derived.Test.YtiocpaoelahcaaaDoorIsStmt
import Derived.Test.YtiocpaoelahcaaaDoorOpenStmt
import Derived.Test.YtiocpaoelahcaaaDoorCards
import Derived.Test.YtiocpaoelahcaaaDoorTie
import Derived.ChangeMaps5
import Derived.Deep.RegionHeld3
import Derived.Deep.DeepWitnessRowRef
import Derived.LaidMore
namespace Go.Proofs.YtiocpaoelahcaaaDoor.exactIsStmt
open Go Go.RowKit Go.ChangeShapes Go.WideShapes Go.ChangeAt

/-- The law said true, and nothing old has turned. -/
def TrueEnd (w : World) (e : Ending) (w' : World) : Prop := e = .returned (.bool true) ∧ Below w.heap.size w w'

theorem held3 {W W' : World} {g : Nat} {x y z : Value} (h : W.cell? ⟨g, 0, none⟩ = some x ∧ W.cell? ⟨g, 1, none⟩ = some y ∧ W.cell? ⟨g, 2, none⟩ = some z) (hg : g < W.heap.size) (hb : Below W.heap.size W W') :
    W'.cell? ⟨g, 0, none⟩ = some x ∧ W'.cell? ⟨g, 1, none⟩ = some y ∧ W'.cell? ⟨g, 2, none⟩ = some z :=
  ⟨(hb.cell (p := ⟨g, 0, none⟩) hg).trans h.1, (hb.cell (p := ⟨g, 1, none⟩) hg).trans h.2.1, (hb.cell (p := ⟨g, 2, none⟩) hg).trans h.2.2⟩

set_option maxHeartbeats 1600000 in
theorem walk (a : Option Addr) (cap : Nat) (ss : List ByteArray) (k : Int) (sa sb : ByteArray) (w : World) (hlen : ss.length ≤ maxLen) (hws : ∀ s ∈ ss, s.size ≤ maxLen) (hrow : Row w w.heap.size a (strVals ss))
    (_hk : -9223372036854775808 ≤ k ∧ k ≤ 9223372036854775807) (ha : sa.size ≤ maxLen) (hb : sb.size ≤ maxLen) (hT : HasNamesTable w) :
    Calls Tryd.prog 5 #[.slice a ss.length cap, stV k sa sb] w (TrueEnd w) := by
  have hb0 : Below w.heap.size w (w.alloc (.cells #[.int .i64 k, .string sa, .string sb] 37)) := (Below.refl _ _).alloc (Nat.le_refl _) _
  have hr0 : Row (w.alloc (.cells #[.int .i64 k, .string sa, .string sb] 37)) (w.heap.size + 1) a (strVals ss) := (hrow.below hb0).grow (by omega)
  go_enter Tryd.func5, Tryd.ntmps5
  go_wp2_with fail
  refine (szStrs a cap ss 1048576 _ (by omega) hlen hws (by simpa using hr0)).mono ?_
  rintro e w1 ⟨r, rfl, rfl, hr, hok⟩
  by_cases hneg : r < 0
  · go_wp2
    go_ret
    exact ⟨rfl, hb0⟩
  · have hsum := hok (by omega)
    have hnat : ss.length + total ss ≤ 1048576 := by omega
    clear hok hsum
    obtain ⟨r', rfl⟩ : ∃ r' : Nat, r = (r' : Int) := ⟨r.toNat, by omega⟩
    go_wp2_with fail
    refine (szStmt k sa sb r' _ (by omega) ha hb).mono ?_
    rintro e w1 ⟨r2, rfl, hb1, hr2, _⟩
    obtain ⟨hc1, _⟩ := bcell hb1
    have hs1 : w.heap.size < w1.heap.size := by have h := hb1.size; simp at h; omega
    have hB1 : Below w.heap.size w w1 := hb0.trans (hb1.mono (by simp))
    clear hb1
    by_cases hneg2 : r2 < 0
    · go_wp2
      go_ret
      exact ⟨rfl, hB1⟩
    · have hr1 : Row w1.drew w1.drew.heap.size a (strVals ss) := (hrow.below hB1).grow hB1.size
      have hS1 : w1.drew.cell? ⟨w.heap.size, 0, none⟩ = some (.int .i64 k) ∧ w1.drew.cell? ⟨w.heap.size, 1, none⟩ = some (.string sa) ∧ w1.drew.cell? ⟨w.heap.size, 2, none⟩ = some (.string sb) := by
        simp [hc1]
      have HS1 := Lib.hid hS1
      clear hS1
      go_wp2_with fail
      go_region_held3 (fun w' => w'.cell? ⟨w.heap.size, 0, none⟩ = some (.int .i64 k) ∧ w'.cell? ⟨w.heap.size, 1, none⟩ = some (.string sa) ∧ w'.cell? ⟨w.heap.size, 2, none⟩ = some (.string sb))
        (first | exact HS1.out | exact HS2.out | exact HS3.out | exact HS4.out)
        (first
          | (go_at_call 20; refine (toStrs a cap ss _ (by omega) hr1).mono ?_; rintro e w2 ⟨rfl, ho2, hb2⟩; have HS2 := Lib.hid (held3 HS1.out (by simp; omega) hb2))
          | (go_at_call 21; refine (lawToStmt k sa sb _).mono ?_; rintro e w3 ⟨rfl, hb3⟩; have HS3 := Lib.hid (held3 HS2.out (by have := hb2.size; simp at this; omega) hb3))
          | (go_at_call 14; refine (specIsStmt _ _ ss k sa sb _ hlen hws (((Row.owned ho2).below hb3).grow hb3.size)).mono ?_; rintro e w4 ⟨rfl, hb4⟩; have HS4 := Lib.hid (held3 HS3.out (by have := hb2.size; have := hb3.size; simp at *; omega) hb4)))
      have hb14 : Below w1.heap.size w1 w4 := (Below.drew (Below.refl _ _)).trans (hb2.trans ((hb3.trans (hb4.mono hb3.size)).mono hb2.size))
      have hB4 : Below w.heap.size w w4 := hB1.trans (hb14.mono hB1.size)
      have hs4 : w.heap.size < w4.heap.size := Nat.lt_of_lt_of_le hs1 hb14.size
      obtain ⟨hc4, _⟩ := bcell hb14
      have hs14 := hb14.size
      clear hb2 hb3 hb4 ho2 HS2 HS3 HS1 hr1
      generalize hq : stmtB ss k sa sb = q at *
      have HQ := Lib.hid hq
      clear hq
      go_wp2_with fail
      refine (toStrs a cap ss _ (by omega) ((hrow.below hB4).grow hB4.size)).mono ?_
      rintro e w5 ⟨rfl, ho5, hb5⟩
      have hS5 := held3 (W := w4) (W' := w5) HS4.out hs4 hb5
      obtain ⟨hS50, hS51, hS52⟩ := hS5
      have hB5 : Below w.heap.size w w5 := hB4.trans (hb5.mono hB4.size)
      have hs5 : w.heap.size < w5.heap.size := Nat.lt_of_lt_of_le hs4 hb5.size
      clear hb5 HS4 hc4 hc1
      go_wp2_with fail
      refine (lawToStmt k sa sb _).mono ?_
      rintro e w6 ⟨rfl, hb6⟩
      go_wp2_with fail
      refine (implIsStmt _ _ ss k sa sb _ hlen hws (((Row.owned ho5).below hb6).grow hb6.size) (hT.keeps (hB5.trans (hb6.mono hB5.size)))).mono ?_
      rw [HQ.out]
      rintro e w7 ⟨rfl, hb7⟩
      have hb57 : Below w5.heap.size w5 w7 := hb6.trans (hb7.mono hb6.size)
      have hB7 : Below w.heap.size w w7 := hB5.trans (hb57.mono hB5.size)
      have hr7 : Row w7 w7.heap.size (some ⟨w4.heap.size, 0, none⟩) (strVals ss) := ((Row.owned ho5).below (w' := w7) hb57).grow hb57.size
      clear hb6 hb7 ho5 hb57 hS50 hS51 hS52
      go_wp2_with fail
      refine (toStrs a cap ss _ (by omega) ((hrow.below hB7).grow hB7.size)).mono ?_
      rintro e w8 ⟨rfl, ho8, hb8⟩
      have hr8 := (hr7.below hb8).grow hb8.size
      have hB8 : Below w.heap.size w w8 := hB7.trans (hb8.mono hB7.size)
      clear hb8
      go_wp2_with fail
      refine (eqStrs _ _ _ _ ss _ hlen hr8 (Row.owned ho8)).mono ?_
      rintro e w9 ⟨n, rfl, rfl⟩
      go_wp2
      go_ret
      exact ⟨rfl, below_draws hB8 n⟩

theorem own : ownKnob Tryd.prog.godebug = none := by kernel_rfl
theorem laidOut : laidOutB Tryd.prog = true := by kernel_rfl
theorem cellsString : Tryd.prog.cellsOf 9 = 1 := by kernel_rfl
set_option maxRecDepth 100000 in
theorem contract (H : Type) (enc : TypeId × Value → H) (W : World) (base : Nat) (args : Array Value) (ds gs : List (DataW H)) (before : List MemPlace)
    (hval : ∀ (j : Nat) t v, Tryd.f5.params[j]? = some t → args[j]? = some v → Value.okWide Tryd.prog W .any base t v)
    (hW : DataW.Whole enc Tryd.prog Tryd.f5.params.toList Rows.fnExactIsStmtSpec.vars false W args.toList ds gs before)
    (hL : laidMetH Tryd.prog Rows.fnExactIsStmtRow.laid W) (_hSh : W.ShapedOpen Tryd.prog) :
    Calls Tryd.prog 5 args W fun e W' => ∃ v, e = .returned v ∧ Rows.fnExactIsStmtSpec.post enc Tryd.prog Tryd.f5 false true false false W args v W' := by
  have hW' := hW
  have hlt : ∀ x ∈ before, x.block < W.heap.size := fun x hx => hW'.lt x hx
  have hnamesTable : HasNamesTable W := namesTable_of 0 hL rfl
  obtain ⟨p, q, hA0, hV, rfl, _, _⟩ := hW
  have hA : DataW.TrodAll enc Tryd.prog W 0 (fun _ => true) true Tryd.f5.params.toList args.toList ds p := hA0
  rw [Tryd.params5] at hA hval
  obtain ⟨v0, v1, d0, d1, p0, p1, rfl, rfl, rfl, t0, t1⟩ := trodAll_two hA
  obtain ⟨g1, gs1, q1, rfl, hV1⟩ := gs_cons hV
  obtain ⟨rfl, _⟩ := trodVars_none hV1
  obtain ⟨a0, cap0, ss0, rfl, _, hlen0, hrow0, hws0, _, _⟩ := open_strs Tryd.underlying29 Tryd.underlying9 cellsString (fun x hx => hlt x (by simp [hx])) (base := base) (hval 0 29 v0 rfl rfl) t0
  obtain ⟨k1, sa1, sb1, rfl, hk1, hsa1, hsb1⟩ := open_stmt Tryd.underlying37 (by kernel_rfl) (by kernel_rfl) Tryd.underlying3 Tryd.underlying9 Tryd.underlying9 (hval 1 37 v1 rfl rfl) t1
  refine (walk a0 cap0 ss0 k1 sa1 sb1 W hlen0 hws0 hrow0 hk1 hsa1 hsb1 hnamesTable).mono fun e W' ⟨he, hb⟩ => ?_
  subst he
  exact ⟨_, rfl, law_post_vars laidOut (by kernel_rfl) (by kernel_rfl) (by kernel_rfl) Tryd.underlying4 hW' rfl hb⟩

/-- A world for the witness. -/
noncomputable def start (os : Os) : World := World.doorLaid Tryd.prog 4000 os
theorem laid_met (os : Os) : laidMet Tryd.prog Rows.fnExactIsStmtRow.laid ((start os).forCall (fun _ _ => 0) ⟨#[], #[.slice none 0 0, .agg #[.int .i64 0, .string ⟨#[]⟩, .string ⟨#[]⟩]], []⟩).memory :=
  laidMet_of_run' 8 (by kernel_rfl) (by kernel_rfl)
theorem reads (os : Os) {H : Type} (enc : TypeId × Value → H) : ∃ places, DataW.whole enc Tryd.prog ((start os).forCall (fun _ _ => 0) ⟨#[], #[.slice none 0 0, .agg #[.int .i64 0, .string ⟨#[]⟩, .string ⟨#[]⟩]], []⟩).memory Tryd.f5.params.toList Rows.fnExactIsStmtSpec.vars false #[Value.slice none 0 0, .agg #[.int .i64 0, .string ⟨#[]⟩, .string ⟨#[]⟩]].toList 8 = some ([.nil, .agg [.lit (.int .i64 0), .lit (.string []), .lit (.string [])]], [Rows.laid_loop_example_g00590_impl_namesTable], places) :=
  ⟨[.cell 0 0, .cell 0 1, .cell 0 2, .cell 0 3, .cell 0 4, .cell 0 5, .cell 0 6, .cell 0 7, .cell 0 8, .cell 0 9, .cell 0 10, .cell 0 11, .cell 0 12], by kernel_rfl⟩

set_option maxRecDepth 100000 in
theorem lifted (os : Os) (started : os.Started) (H : Type) (enc : TypeId × Value → H) (F : Stop.Interp) :
    ReturnsInHanded {} Tryd.checked os 5 .any ((OpenSpec.ofChange Rows.fnExactIsStmtSpec).preRow enc Tryd.prog Tryd.f5 Rows.fnExactIsStmtRow.domain false Rows.fnExactIsStmtRow.laid) (((OpenSpec.ofChange Rows.fnExactIsStmtSpec).at F).post enc Tryd.prog Tryd.f5 false true false false) := by
  obtain ⟨places, hx⟩ := reads os enc
  refine returnsInHanded_of_row (C := Tryd.checked) (s := OpenSpec.ofChange Rows.fnExactIsStmtSpec) own started (by kernel_rfl) Tryd.func5
    (witness_row_atRef (enc := enc) (C := Tryd.checked) false (start os) #[.slice none 0 0, .agg #[.int .i64 0, .string ⟨#[]⟩, .string ⟨#[]⟩]] rfl (by kernel_rfl) (by kernel_rfl) (by kernel_rfl)
      (OpenSpec.preRow_of_cond 8 hx (by kernel_rfl) (fun k hk => by cases hk) (by kernel_rfl) (laid_met os))) ?_
  intro W base args ds gs before hval hW _ _ _ hL hSh _
  exact contract H enc W base args ds gs before hval hW hL hSh

theorem said : Rows.FnExactIsStmtSaid :=
  OpenClaim.holds_of_cond 5 Tryd.f5 rfl rfl rfl rfl rfl rfl rfl ⟨rfl, rfl, rfl, rfl, rfl⟩ rfl rfl rfl rfl rfl (by kernel_rfl) Tryd.func5 (by kernel_rfl)
    (of_decide_eq_true (by kernel_rfl)) (by unfold Func.isWrapper; first | (rw [if_pos (by decide +kernel)]; kernel_rfl) | (rw [if_neg (by decide +kernel)]; exact ⟨rfl, rfl⟩))
    (fun os started H enc _ F => by rw [OpenClaim.pre_eq_preRow]; exact lifted os started H enc F)

theorem plain (f : FuncId) (fn : Func) (hf : Tryd.pinned.checked.prog.funcNamed "loop.example/g00590/laws.FnExactIsStmt" = some f) (hfn : Tryd.pinned.checked.prog.funcs[f]? = some fn) :
    Rows.fnExactIsStmtCard.stood.looks = Tryd.pinned.checked.prog.looks [] ∧ ∀ (j : Nat) t, fn.params[j]? = some t → Tryd.pinned.checked.prog.wantsStandIn t = false := by
  obtain rfl : f = 5 := Option.some.inj ((show Tryd.prog.funcNamed "loop.example/g00590/laws.FnExactIsStmt" = some 5 by kernel_rfl).symm.trans hf) |>.symm
  obtain rfl : fn = Tryd.f5 := (Option.some.inj (Tryd.func5.symm.trans hfn)).symm
  refine ⟨by kernel_rfl, fun j t ht => ?_⟩
  rw [Tryd.params5] at ht
  have hm : t ∈ [29, 37] := by simpa using Array.mem_of_getElem? ht
  have hall : ([29, 37].all fun u => !Tryd.prog.wantsStandIn u) = true := by kernel_rfl
  exact (show Tryd.prog.wantsStandIn t = false by simpa using List.all_eq_true.1 hall t hm)

/-- The card. -/
theorem card : Rows.FnExactIsStmtCardSaid :=
  Claim7.holds_tied_plain_at .later [] _ _ _ _ said (fun _ h => by cases h) (by kernel_rfl) (fun _ h => by cases h) fnExactIsStmt_row_tie rfl ⟨rfl, rfl⟩ (by kernel_rfl) rfl plain (by kernel_rfl)
#print axioms card
end Go.Proofs.YtiocpaoelahcaaaDoor.exactIsStmt
