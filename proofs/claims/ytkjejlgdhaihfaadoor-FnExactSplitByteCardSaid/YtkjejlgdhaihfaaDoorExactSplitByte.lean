/-
  Proved: for every string and every byte the law FnExactSplitByte returns true and leaves its arguments as they were, where the listed tables of Go's library read as the program's text lays them (the card ties them).
-/
import Derived.Test.YtkjejlgdhaihfaaDoorImplSplit
import Derived.Test.YtkjejlgdhaihfaaDoorMarkStrs
import Derived.Test.YtkjejlgdhaihfaaDoorEqStrs
import Derived.LaidMore
import Derived.Deep.DeepWitnessRowRef
import Derived.LaidLaws
import Derived.ChangeMaps5
import Derived.Test.YtkjejlgdhaihfaaDoorCards
import Derived.Test.YtkjejlgdhaihfaaDoorTie
namespace Go.Proofs.YtkjejlgdhaihfaaDoor.exactSplitByte
open Go Go.RowKit Go.ChangeShapes Go.WideShapes Go.ChangeAt
open Go.ChangeMaps (open_string shut_string)

/-- The law said true, and nothing old has turned. -/
def TrueEnd (w : World) (e : Ending) (w' : World) : Prop := e = .returned (.bool true) ∧ Below w.heap.size w w'

set_option maxRecDepth 100000 in
set_option maxHeartbeats 800000 in
theorem walk (s : ByteArray) (c : UInt8) (w : World) (hs : s.size ≤ maxLen) (hsw : Switch w) :
    Calls Tryd.prog 8 #[.string s, .int .u8 (c.toNat : Int)] w (TrueEnd w) := by
  have hs' := hs
  unfold maxLen at hs'
  by_cases hbig : 1048576 < s.size
  · go_enter Tryd.func8, Tryd.ntmps8
    go_wp2
    go_ret
    exact ⟨rfl, Below.refl _ _⟩
  · have hpl := pieces_length c s
    have hml : (pieces c s).length ≤ maxLen := by unfold maxLen; omega
    go_enter Tryd.func8, Tryd.ntmps8
    go_wp2_with fail
    refine (specSplit s c _ (by omega)).mono ?_
    rintro e w1 ⟨a0, cap0, rfl, _, ho0, hb01⟩
    have hr0 : Row w1 w1.heap.size a0 (strVals (pieces c s)) := Row.owned ho0
    clear ho0
    go_wp2_with fail
    refine (implSplit s c _ (by omega) (hsw.keeps hb01)).mono ?_
    rintro e w2 ⟨a1, cap1, rfl, _, ho1, hb12⟩
    go_wp2_with fail
    refine (eqStrs _ _ _ _ (pieces c s) _ hml (Row.owned ho1) ((hr0.below hb12).grow hb12.size)).mono ?_
    rintro e w3 ⟨n3, rfl, rfl⟩
    have ho3 : (w2.drewN n3).ownsRow w1.heap.size 9 1 (.slice a1 (pieces c s).length cap1) (pieces c s).length (strVals (pieces c s)) := ho1
    have hb13 : Below w1.heap.size w1 (w2.drewN n3) := below_draws hb12 n3
    clear ho1 hb12
    go_wp2_with fail
    refine (markStrs w1.heap.size 1 (pieces c s).length a1 cap1 _ _ (by omega) (by omega) hb13.size ho3).mono ?_
    rintro e w4 ⟨rfl, ho4, hb34⟩
    have hb14 : Below w1.heap.size w1 w4 := hb13.trans hb34
    clear ho3 hb13 hb34
    go_wp2_with fail
    refine (heldStrs 1 (pieces c s).length a1 cap1 _ (by omega) (by omega) (Row.owned ho4)).mono ?_
    rintro e w5 ⟨rfl, hb45⟩
    have hb05 : Below w.heap.size w w5 := hb01.trans ((hb14.trans (hb45.mono hb14.size)).mono hb01.size)
    go_wp2_with fail
    refine (implSplit s c _ (by omega) (hsw.keeps hb05)).mono ?_
    rintro e w6 ⟨a2, cap2, rfl, _, ho6, hb56⟩
    have hb16 : Below w1.heap.size w1 w6 := (hb14.trans (hb45.mono hb14.size)).trans (hb56.mono (Nat.le_trans hb14.size hb45.size))
    go_wp2_with fail
    refine (eqStrs _ _ _ _ (pieces c s) _ hml (Row.owned ho6) ((hr0.below hb16).grow hb16.size)).mono ?_
    rintro e w7 ⟨n7, rfl, rfl⟩
    have hb47 : Below w4.heap.size w4 (w6.drewN n7) := below_draws (hb45.trans (hb56.mono hb45.size)) n7
    have hr7 : Row (w6.drewN n7) (w6.drewN n7).heap.size a1 (strVals (marksFrom 1 (pieces c s).length)) := ((Row.owned ho4).below hb47).grow hb47.size
    go_wp2_with fail
    refine (heldStrs 1 (pieces c s).length a1 cap1 _ (by omega) (by omega) hr7).mono ?_
    rintro e w8 ⟨rfl, hb78⟩
    have hb17 : Below w1.heap.size w1 (w6.drewN n7) := below_draws hb16 n7
    have hb18 : Below w1.heap.size w1 w8 := hb17.trans (hb78.mono hb17.size)
    go_wp2
    go_ret
    exact ⟨rfl, hb01.trans (hb18.mono hb01.size)⟩

theorem own : ownKnob Tryd.prog.godebug = none := by kernel_rfl
theorem laidOut : laidOutB Tryd.prog = true := by kernel_rfl

set_option maxRecDepth 100000 in
theorem contract (H : Type) (enc : TypeId × Value → H) (W : World) (base : Nat) (args : Array Value) (ds gs : List (DataW H)) (before : List MemPlace)
    (hval : ∀ (j : Nat) t v, Tryd.f8.params[j]? = some t → args[j]? = some v → Value.okWide Tryd.prog W .any base t v)
    (hW : DataW.Whole enc Tryd.prog Tryd.f8.params.toList Rows.fnExactSplitByteSpec.vars false W args.toList ds gs before)
    (hSh : W.ShapedOpen Tryd.prog) :
    Calls Tryd.prog 8 args W fun e W' => ∃ v, e = .returned v ∧ Rows.fnExactSplitByteSpec.post enc Tryd.prog Tryd.f8 false true false false W args v W' := by
  have hW' := hW
  obtain ⟨p, q, hA0, hV, rfl, _, _⟩ := hW
  have hA : DataW.TrodAll enc Tryd.prog W 0 (fun _ => true) true Tryd.f8.params.toList args.toList ds p := hA0
  rw [Tryd.params8] at hA hval
  obtain ⟨v0, v1, d0, d1, p0, p1, rfl, rfl, rfl, t0, t1⟩ := trodAll_two hA
  obtain ⟨s, rfl, _, _, hs⟩ := open_string Tryd.underlying9 (hval 0 9 v0 rfl rfl) t0
  obtain ⟨n, rfl, _, _, hwf⟩ := open_int Tryd.underlying5 (hval 1 5 v1 rfl rfl) t1
  have hr := u8_bounds hwf
  obtain ⟨c, rfl⟩ : ∃ c : UInt8, n = (c.toNat : Int) := ⟨UInt8.ofNat n.toNat, by simp; omega⟩
  refine (walk s c W hs (switch_of hSh)).mono fun e W' ⟨he, hb⟩ => ?_
  subst he
  exact ⟨_, rfl, law_post laidOut rfl (by kernel_rfl) (by kernel_rfl) Tryd.underlying4 hW' rfl hb⟩

/-- A world for the witness: the listed variables as the program's own text lays them. -/
noncomputable def start (os : Os) : World :=
  { World.doorLaid Tryd.prog 4000 os with heap := (World.doorLaid Tryd.prog 4000 os).heap.modify 4 fun
      | .cells _ t frozen => .cells (Go.Pinned.utf8FirstZ.map fun (n : Nat) => Value.int .u8 (n : Int)).toArray t frozen
      | o => o }
theorem laid_met (os : Os) : laidMet Tryd.prog Rows.fnExactSplitByteRow.laid ((start os).forCall (fun _ _ => 0) ⟨#[], #[.string ⟨#[]⟩, .int .u8 0], []⟩).memory :=
  laidMet_of_run' 8 (by kernel_rfl) (by kernel_rfl)
theorem reads (os : Os) {H : Type} (enc : TypeId × Value → H) : ∃ places, DataW.whole enc Tryd.prog ((start os).forCall (fun _ _ => 0) ⟨#[], #[.string ⟨#[]⟩, .int .u8 0], []⟩).memory Tryd.f8.params.toList Rows.fnExactSplitByteSpec.vars false #[Value.string ⟨#[]⟩, .int .u8 0].toList 8 = some ([.lit (.string []), .lit (.int .u8 0)], [], places) :=
  ⟨[], by kernel_rfl⟩

set_option maxRecDepth 100000 in
theorem lifted (os : Os) (started : os.Started) (H : Type) (enc : TypeId × Value → H) (F : Stop.Interp) :
    ReturnsInHanded {} Tryd.checked os 8 .any ((OpenSpec.ofChange Rows.fnExactSplitByteSpec).preRow enc Tryd.prog Tryd.f8 Rows.fnExactSplitByteRow.domain false Rows.fnExactSplitByteRow.laid) (((OpenSpec.ofChange Rows.fnExactSplitByteSpec).at F).post enc Tryd.prog Tryd.f8 false true false false) := by
  obtain ⟨places, hx⟩ := reads os enc
  refine returnsInHanded_of_row (C := Tryd.checked) (s := OpenSpec.ofChange Rows.fnExactSplitByteSpec) own started (by kernel_rfl) Tryd.func8
    (witness_row_atRef (enc := enc) (C := Tryd.checked) false (start os) #[.string ⟨#[]⟩, .int .u8 0] rfl (by kernel_rfl) (by kernel_rfl) (by kernel_rfl)
      (OpenSpec.preRow_of_cond 8 hx (by kernel_rfl) (fun k hk => by cases hk) (by kernel_rfl) (laid_met os))) ?_
  intro W base args ds gs before hval hW _ _ _ _ hSh _
  exact contract H enc W base args ds gs before hval hW hSh

theorem said : Rows.FnExactSplitByteSaid :=
  OpenClaim.holds_of_cond 8 Tryd.f8 rfl rfl rfl rfl rfl rfl rfl ⟨rfl, rfl, rfl, rfl, rfl⟩ rfl rfl rfl rfl rfl (by kernel_rfl) Tryd.func8 (by kernel_rfl)
    (of_decide_eq_true (by kernel_rfl)) (by unfold Func.isWrapper; first | (rw [if_pos (by decide +kernel)]; kernel_rfl) | (rw [if_neg (by decide +kernel)]; exact ⟨rfl, rfl⟩))
    (fun os started H enc _ F => by rw [OpenClaim.pre_eq_preRow]; exact lifted os started H enc F)

theorem plain (f : FuncId) (fn : Func) (hf : Tryd.pinned.checked.prog.funcNamed "loop.example/g00590/laws.FnExactSplitByte" = some f) (hfn : Tryd.pinned.checked.prog.funcs[f]? = some fn) :
    true = Tryd.pinned.checked.prog.looks [] ∧ ∀ (j : Nat) t, fn.params[j]? = some t → Tryd.pinned.checked.prog.wantsStandIn t = false := by
  obtain rfl : f = 8 := Option.some.inj ((show Tryd.prog.funcNamed "loop.example/g00590/laws.FnExactSplitByte" = some 8 by kernel_rfl).symm.trans hf) |>.symm
  obtain rfl : fn = Tryd.f8 := (Option.some.inj (Tryd.func8.symm.trans hfn)).symm
  refine ⟨by kernel_rfl, fun j t ht => ?_⟩
  rw [Tryd.params8] at ht
  have hm : t ∈ [9, 5] := by simpa using Array.mem_of_getElem? ht
  have hall : ([9, 5].all fun u => !Tryd.prog.wantsStandIn u) = true := by kernel_rfl
  exact (show Tryd.prog.wantsStandIn t = false by simpa using List.all_eq_true.1 hall t hm)

/-- The card. -/
theorem card : Rows.FnExactSplitByteCardSaid :=
  Claim7.holds_tied_plain_at .later [] _ _ _ _ said (fun _ h => by cases h) (by kernel_rfl) (fun _ h => by cases h) fnExactSplitByte_row_tie rfl ⟨rfl, rfl⟩ (by kernel_rfl) rfl plain (by kernel_rfl)
#print axioms card
end Go.Proofs.YtkjejlgdhaihfaaDoor.exactSplitByte
