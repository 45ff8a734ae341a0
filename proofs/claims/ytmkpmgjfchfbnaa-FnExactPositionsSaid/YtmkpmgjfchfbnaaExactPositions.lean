/-
  Proved: for every list of ints and every int the law FnExactPositions returns true and leaves its arguments as they were. No condition beyond the given row's own.
-/
import Derived.Test.YtmkpmgjfchfbnaaToInts
import Derived.Test.YtmkpmgjfchfbnaaEqInts
import Derived.Test.YtmkpmgjfchfbnaaMarkInts
import Derived.Test.YtmkpmgjfchfbnaaImplNames
import Derived.Test.YtmkpmgjfchfbnaaRows
import Derived.ChangeMaps5
import Derived.LaidLaws
namespace Go.Proofs.Ytmkpmgjfchfbnaa.exactPositions
open Go Go.RowKit Go.ChangeShapes Go.WideShapes Go.ChangeAt

/-- The law said true, and nothing old has turned. -/
def TrueEnd (w : World) (e : Ending) (w' : World) : Prop := e = .returned (.bool true) ∧ Below w.heap.size w w'

set_option maxHeartbeats 1600000 in
theorem walk (a : Option Addr) (cap : Nat) (ns : List Int) (n : Int) (w : World) (hlen : ns.length ≤ maxLen) (_hns : ∀ n ∈ ns, -9223372036854775808 ≤ n ∧ n ≤ 9223372036854775807) (hrow : Row w w.heap.size a (intVals ns)) (_h0 : -9223372036854775808 ≤ n) (_h1 : n ≤ 9223372036854775807) :
    Calls Try.prog 7 #[.slice a ns.length cap, .int .i64 n] w (TrueEnd w) := by
  have hlen' := hlen
  unfold maxLen at hlen'
  by_cases hbig : 1048576 < (ns.length : Int)
  · go_enter Try.func7, Try.ntmps7
    go_wp2
    go_ret
    exact ⟨rfl, Below.refl _ _⟩
  · have hpl := posFrom_length n ns 0
    go_enter Try.func7, Try.ntmps7
    go_wp2_with fail
    refine (toInts a cap ns _ (by omega) hrow).mono ?_
    rintro e w1 ⟨rfl, ho1, hb1⟩
    go_wp2_with fail
    refine (specPositions _ _ ns n _ (by omega) (Row.owned ho1)).mono ?_
    rintro e w2 ⟨ap, cp, rfl, hcp, hp2, hb2⟩
    have hb12 : Below w.heap.size w w2 := hb1.trans (hb2.mono hb1.size)
    have hs12 := hb12.size
    clear ho1 hb1 hb2
    go_wp2_with fail
    refine (toInts a cap ns _ (by omega) ((hrow.below hb12).grow hs12)).mono ?_
    rintro e w3 ⟨rfl, ho3, hb3⟩
    go_wp2_with fail
    refine (implPositions _ _ ns n _ (by omega) (Row.owned ho3)).mono ?_
    rintro e w4 ⟨ag, cg, rfl, hcg, hg4, hb4⟩
    have hT : Trio w w4 w2.heap.size w3.heap.size 3 ns.length (intVals ns) 3 (.slice ag (intVals (posFrom n 0 ns)).length cg) (intVals (posFrom n 0 ns)).length (intVals (posFrom n 0 ns)) ap (intVals (posFrom n 0 ns)) :=
      ⟨own_keeps ho3 hb4, hg4, ((Row.owned hp2).below hb3).keeps fun _ hp => hb4.cell (Nat.lt_of_lt_of_le hp hb3.size), (ho3.lt _ rfl).2, hb4.size, hs12, (hb12.trans (hb3.mono hs12)).trans (hb4.mono (Nat.le_trans hs12 hb3.size))⟩
    clear ho3 hb3 hb4 hg4 hp2 hb12 hcp hcg
    generalize hps : posFrom n 0 ns = ps at *
    rw [intVals_length] at *
    generalize w2.heap.size = s2 at *
    generalize w3.heap.size = s3 at *
    clear hs12
    go_wp2_with fail
    refine (eqInts _ _ _ _ ps _ (by unfold maxLen; omega) hT.rowG hT.rowP).mono ?_
    rintro e w5 ⟨d1, rfl, rfl⟩
    have hT := hT.draws d1
    go_wp2_with fail
    refine (toInts a cap ns _ (by omega) (hT.rowOld hrow)).mono ?_
    rintro e w5 ⟨rfl, ho5, hb5⟩
    have hT := hT.call hb5
    go_wp2_with fail
    refine (eqInts _ _ _ _ ns _ hlen hT.rowX (Row.owned ho5)).mono ?_
    rintro e w6 ⟨d2, rfl, rfl⟩
    have hT := hT.draws d2
    clear ho5 hb5
    go_wp2_with fail
    refine (markInts _ 1 _ _ _ _ _ (by omega) (by omega) hT.x).mono ?_
    rintro e w7 ⟨rfl, hx7, hg7⟩
    have hT := hT.markX hg7 hx7
    clear hx7 hg7
    go_wp2_with fail
    refine (eqInts _ _ _ _ ps _ (by unfold maxLen; omega) hT.rowG hT.rowP).mono ?_
    rintro e w8 ⟨d3, rfl, rfl⟩
    have hT := hT.draws d3
    go_wp2_with fail
    refine (markInts _ 1 _ _ _ _ _ (by omega) (by omega) hT.g).mono ?_
    rintro e w9 ⟨rfl, hx9, hg9⟩
    have hT := hT.markG hg9 hx9
    clear hx9 hg9
    go_wp2_with fail
    refine (heldInts 1 _ _ _ _ (by omega) (by omega) hT.rowG).mono ?_
    rintro e w10 ⟨rfl, rfl⟩
    go_wp2_with fail
    refine (toInts a cap ns _ (by omega) (hT.rowOld hrow)).mono ?_
    rintro e w11 ⟨rfl, ho11, hb11⟩
    have hT := hT.call hb11
    go_wp2_with fail
    refine (implPositions _ _ ns n _ (by omega) (Row.owned ho11)).mono ?_
    rw [hps]
    rintro e w12 ⟨ah, ch, rfl, hch, hh12, hb12⟩
    have hT := hT.call hb12
    rw [intVals_length] at *
    clear ho11 hb11 hb12
    go_wp2_with fail
    refine (eqInts _ _ _ _ ps _ (by unfold maxLen; omega) (Row.owned hh12) hT.rowP).mono ?_
    rintro e w13 ⟨d4, rfl, rfl⟩
    have hT := hT.draws d4
    clear hh12
    go_wp2_with fail
    refine (heldInts 1 _ _ _ _ (by omega) (by omega) hT.rowG).mono ?_
    rintro e w14 ⟨rfl, rfl⟩
    go_wp2
    go_ret
    exact ⟨rfl, hT.below⟩

theorem own : ownKnob Try.prog.godebug = none := by kernel_rfl
theorem laidOut : laidOutB Try.prog = true := by kernel_rfl
theorem cellsInt : Try.prog.cellsOf 3 = 1 := by kernel_rfl
set_option maxRecDepth 100000 in
theorem contract (H : Type) (enc : TypeId × Value → H) (W : World) (base : Nat) (args : Array Value) (ds gs : List (DataW H)) (before : List MemPlace)
    (hval : ∀ (j : Nat) t v, Try.f7.params[j]? = some t → args[j]? = some v → Value.okWide Try.prog W .any base t v)
    (hW : DataW.Whole enc Try.prog Try.f7.params.toList Rows.fnExactPositionsSpec.vars false W args.toList ds gs before)
    (_hL : laidMetH Try.prog Rows.fnExactPositionsRow.laid W) (_hSh : W.ShapedOpen Try.prog) :
    Calls Try.prog 7 args W fun e W' => ∃ v, e = .returned v ∧ Rows.fnExactPositionsSpec.post enc Try.prog Try.f7 false true false false W args v W' := by
  have hW' := hW
  have hlt : ∀ x ∈ before, x.block < W.heap.size := fun x hx => hW'.lt x hx
  obtain ⟨p, q, hA0, hV, rfl, _, _⟩ := hW
  have hA : DataW.TrodAll enc Try.prog W 0 (fun _ => true) true Try.f7.params.toList args.toList ds p := hA0
  rw [Try.params7] at hA hval
  obtain ⟨v0, v1, d0, d1, p0, p1, rfl, rfl, rfl, t0, t1⟩ := trodAll_two hA
  obtain ⟨a0, cap0, zs0, rfl, _, hlen0, hrow0, hws0, _⟩ := open_nums Try.underlying26 Try.underlying3 cellsInt (fun x hx => hlt x (by simp [hx])) (base := base) (hval 0 26 v0 rfl rfl) t0
  obtain ⟨n1, rfl, _, _, hw1⟩ := open_int Try.underlying3 (hval 1 3 v1 rfl rfl) t1
  have hr1 := i64_bounds hw1
  refine (walk a0 cap0 zs0 n1 W hlen0 hws0 hrow0 hr1.1 hr1.2).mono fun e W' ⟨he, hb⟩ => ?_
  subst he
  exact ⟨_, rfl, law_post laidOut rfl (by kernel_rfl) (by kernel_rfl) Try.underlying4 hW' rfl hb⟩

/-- A world for the witness. -/
noncomputable def start (os : Os) : World := World.holding Try.prog os ⟨#[], #[], []⟩
theorem laid_met (os : Os) : laidMet Try.prog Rows.fnExactPositionsRow.laid ((start os).forCall (fun _ _ => 0) ⟨#[], #[.slice none 0 0, .int .i64 0], []⟩).memory :=
  laidMet_of_run' 8 (by kernel_rfl) (by kernel_rfl)
theorem reads (os : Os) {H : Type} (enc : TypeId × Value → H) : ∃ places, DataW.whole enc Try.prog ((start os).forCall (fun _ _ => 0) ⟨#[], #[.slice none 0 0, .int .i64 0], []⟩).memory Try.f7.params.toList Rows.fnExactPositionsSpec.vars false #[Value.slice none 0 0, .int .i64 0].toList 8 = some ([.nil, .lit (.int .i64 0)], [], places) :=
  ⟨[], by kernel_rfl⟩

set_option maxRecDepth 100000 in
theorem lifted (os : Os) (started : os.Started) (H : Type) (enc : TypeId × Value → H) (F : Stop.Interp) :
    ReturnsInHanded {} Try.checked os 7 .any ((OpenSpec.ofChange Rows.fnExactPositionsSpec).preRow enc Try.prog Try.f7 Rows.fnExactPositionsRow.domain false Rows.fnExactPositionsRow.laid) (((OpenSpec.ofChange Rows.fnExactPositionsSpec).at F).post enc Try.prog Try.f7 false true false false) := by
  obtain ⟨places, hx⟩ := reads os enc
  refine returnsInHanded_of_row (C := Try.checked) (s := OpenSpec.ofChange Rows.fnExactPositionsSpec) own started (by kernel_rfl) Try.func7
    (witness_row_at (enc := enc) (C := Try.checked) false (start os) #[.slice none 0 0, .int .i64 0] rfl (by kernel_rfl) (by kernel_rfl) (by kernel_rfl)
      (OpenSpec.preRow_of_cond 8 hx (by kernel_rfl) (fun k hk => by cases hk) (by kernel_rfl) (laid_met os))) ?_
  intro W base args ds gs before hval hW _ _ _ hL hSh _
  exact contract H enc W base args ds gs before hval hW hL hSh

theorem said : Rows.FnExactPositionsSaid :=
  OpenClaim.holds_of_cond 7 Try.f7 rfl rfl rfl rfl rfl rfl rfl ⟨rfl, rfl, rfl, rfl, rfl⟩ rfl rfl rfl rfl rfl (by kernel_rfl) Try.func7 (by kernel_rfl)
    (of_decide_eq_true (by kernel_rfl)) (by unfold Func.isWrapper; first | (rw [if_pos (by decide +kernel)]; kernel_rfl) | (rw [if_neg (by decide +kernel)]; exact ⟨rfl, rfl⟩))
    (fun os started H enc _ F => by rw [OpenClaim.pre_eq_preRow]; exact lifted os started H enc F)
#print axioms said
end Go.Proofs.Ytmkpmgjfchfbnaa.exactPositions
