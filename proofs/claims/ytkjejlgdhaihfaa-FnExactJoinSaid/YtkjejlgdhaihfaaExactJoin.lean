/-
  Proved: for every list of strings and every separator the law FnExactJoin returns true and leaves its arguments as they were. No condition beyond the given row's own.
-/
import Derived.Test.YtkjejlgdhaihfaaSzStrs
import Derived.Test.YtkjejlgdhaihfaaToStrs
import Derived.Test.YtkjejlgdhaihfaaEqStrs
import Derived.Test.YtkjejlgdhaihfaaSpecJoin
import Derived.Test.YtkjejlgdhaihfaaImplJoin
import Derived.Test.YtkjejlgdhaihfaaRows
import Derived.ChangeMaps5
import Derived.LaidLaws
namespace Go.Proofs.Ytkjejlgdhaihfaa.exactJoin
open Go Go.RowKit Go.ChangeShapes Go.WideShapes Go.ChangeAt
open Go.ChangeMaps (open_string shut_string)

/-- The law said true, and nothing old has turned. -/
def TrueEnd (w : World) (e : Ending) (w' : World) : Prop := e = .returned (.bool true) ∧ Below w.heap.size w w'

set_option maxHeartbeats 800000 in
theorem walk (a : Option Addr) (cap : Nat) (ss : List ByteArray) (sep : ByteArray) (w : World) (hlen : ss.length ≤ maxLen) (hws : ∀ s ∈ ss, s.size ≤ maxLen) (hsep : sep.size ≤ maxLen) (hrow : Row w w.heap.size a (strVals ss)) :
    Calls Try.prog 3 #[.slice a ss.length cap, .string sep] w (TrueEnd w) := by
  unfold maxLen at hsep
  by_cases hbig : 1048576 < sep.size
  · go_enter Try.func3, Try.ntmps3
    go_wp2
    go_ret
    exact ⟨rfl, Below.refl _ _⟩
  · go_enter Try.func3, Try.ntmps3
    go_wp2_with fail
    refine (szStrs a cap ss 1048576 _ (by omega) hlen hws hrow).mono ?_
    rintro e w1 ⟨r, rfl, rfl, hr, hok⟩
    by_cases hneg : r < 0
    · go_wp2
      go_ret
      exact ⟨rfl, Below.refl _ _⟩
    · have hsum := hok (by omega)
      have hnat : ss.length + total ss ≤ 1048576 := by omega
      have hmul : ss.length * sep.size ≤ 1048576 * 1048576 := Nat.mul_le_mul (by omega) (by omega)
      have Hok := Lib.hid hsum
      clear hok hsum
      go_wp2_with fail
      refine (toStrs a cap ss _ (by omega) hrow).mono ?_
      rintro e w1 ⟨rfl, ho1, hb1⟩
      go_wp2_with fail
      refine (specJoin _ _ ss sep _ hlen (by omega) (Row.owned ho1)).mono ?_
      rintro e w2 ⟨rfl, hb2⟩
      have hb12 : Below w.heap.size w w2 := hb1.trans (hb2.mono hb1.size)
      have hs12 := hb12.size
      clear ho1 hb1 hb2
      go_wp2_with fail
      refine (toStrs a cap ss _ (by omega) ((hrow.below hb12).grow hs12)).mono ?_
      rintro e w3 ⟨rfl, ho3, hb3⟩
      go_wp2_with fail
      refine (implJoin _ _ ss sep _ (Nat.le_refl _) (by omega) (by omega) (Row.owned ho3)).mono ?_
      rintro e w4 ⟨rfl, hb4⟩
      have hr4 : Row w4 w3.heap.size (some ⟨w2.heap.size, 0, none⟩) (strVals ss) := (Row.owned ho3).below hb4
      have hb34 : Below w.heap.size w w4 := (hb12.trans (hb3.mono hs12)).trans (hb4.mono (Nat.le_trans hs12 hb3.size))
      have hs34 := hb34.size
      have hs4 := hb4.size
      clear ho3 hb3 hb4
      go_wp2_with fail
      refine (toStrs a cap ss _ (by omega) ((hrow.below hb34).grow hs34)).mono ?_
      rintro e w5 ⟨rfl, ho5, hb5⟩
      have hr5 : Row w5 w5.heap.size (some ⟨w2.heap.size, 0, none⟩) (strVals ss) := ((hr4.grow hs4).below hb5).grow hb5.size
      have hb45 : Below w.heap.size w w5 := hb34.trans (hb5.mono hs34)
      clear hb5
      go_wp2_with fail
      refine (eqStrs _ _ _ _ ss _ hlen hr5 (Row.owned ho5)).mono ?_
      rintro e w6 ⟨n, rfl, rfl⟩
      go_wp2
      go_ret
      exact ⟨rfl, below_draws hb45 n⟩

theorem own : ownKnob Try.prog.godebug = none := by kernel_rfl
theorem laidOut : laidOutB Try.prog = true := by kernel_rfl
theorem cellsStr : Try.prog.cellsOf 9 = 1 := by kernel_rfl

theorem contract (H : Type) (enc : TypeId × Value → H) (W : World) (base : Nat) (args : Array Value) (ds gs : List (DataW H)) (before : List MemPlace)
    (hval : ∀ (j : Nat) t v, Try.f3.params[j]? = some t → args[j]? = some v → Value.okWide Try.prog W .any base t v)
    (hW : DataW.Whole enc Try.prog Try.f3.params.toList Rows.fnExactJoinSpec.vars false W args.toList ds gs before) :
    Calls Try.prog 3 args W fun e W' => ∃ v, e = .returned v ∧ Rows.fnExactJoinSpec.post enc Try.prog Try.f3 false true false false W args v W' := by
  have hW' := hW
  have hlt : ∀ x ∈ before, x.block < W.heap.size := fun x hx => hW'.lt x hx
  obtain ⟨p, q, hA0, hV, rfl, _, _⟩ := hW
  have hA : DataW.TrodAll enc Try.prog W 0 (fun _ => true) true Try.f3.params.toList args.toList ds p := hA0
  rw [Try.params3] at hA hval
  obtain ⟨v0, v1, d0, d1, p0, p1, rfl, rfl, rfl, h0, h1⟩ := trodAll_two hA
  obtain ⟨a, cap, ss, rfl, _, hlen, hrow, hws, _, _⟩ := open_strs Try.underlying22 Try.underlying9 cellsStr (fun x hx => hlt x (by simp [hx])) (base := base) (hval 0 22 v0 rfl rfl) h0
  obtain ⟨sep, rfl, _, _, hsep⟩ := open_string Try.underlying9 (hval 1 9 v1 rfl rfl) h1
  refine (walk a cap ss sep W hlen hws hsep hrow).mono fun e W' ⟨he, hb⟩ => ?_
  subst he
  exact ⟨_, rfl, law_post laidOut rfl (by kernel_rfl) (by kernel_rfl) Try.underlying4 hW' rfl hb⟩

/-- A world for the witness. -/
noncomputable def start (os : Os) : World := World.holding Try.prog os ⟨#[], #[], []⟩
theorem reads (os : Os) {H : Type} (enc : TypeId × Value → H) : ∃ places, DataW.whole enc Try.prog ((start os).forCall (fun _ _ => 0) ⟨#[], #[.slice none 0 0, .string ⟨#[]⟩], []⟩).memory Try.f3.params.toList Rows.fnExactJoinSpec.vars false #[Value.slice none 0 0, .string ⟨#[]⟩].toList 8 = some ([.nil, .lit (.string [])], [], places) :=
  ⟨[], by kernel_rfl⟩

set_option maxRecDepth 100000 in
theorem lifted (os : Os) (started : os.Started) (H : Type) (enc : TypeId × Value → H) (F : Stop.Interp) :
    ReturnsInHanded {} Try.checked os 3 .any ((OpenSpec.ofChange Rows.fnExactJoinSpec).preRow enc Try.prog Try.f3 Rows.fnExactJoinRow.domain false Rows.fnExactJoinRow.laid) (((OpenSpec.ofChange Rows.fnExactJoinSpec).at F).post enc Try.prog Try.f3 false true false false) := by
  obtain ⟨places, hx⟩ := reads os enc
  refine returnsInHanded_of_row (C := Try.checked) (s := OpenSpec.ofChange Rows.fnExactJoinSpec) own started (by kernel_rfl) Try.func3
    (witness_row_at (enc := enc) (C := Try.checked) false (start os) #[.slice none 0 0, .string ⟨#[]⟩] rfl (by kernel_rfl) (by kernel_rfl) (by kernel_rfl)
      (OpenSpec.preRow_of_cond 8 hx (by kernel_rfl) (fun k hk => by cases hk) (by kernel_rfl) (laidMet_of_run' 8 (by kernel_rfl) (by kernel_rfl)))) ?_
  intro W base args ds gs before hval hW _ _ _ _ _ _
  exact contract H enc W base args ds gs before hval hW

theorem holds : Rows.FnExactJoinSaid :=
  OpenClaim.holds_of_cond 3 Try.f3 rfl rfl rfl rfl rfl rfl rfl ⟨rfl, rfl, rfl, rfl, rfl⟩ rfl rfl rfl rfl rfl (by kernel_rfl) Try.func3 (by kernel_rfl)
    (of_decide_eq_true (by kernel_rfl)) (by unfold Func.isWrapper; first | (rw [if_pos (by decide +kernel)]; kernel_rfl) | (rw [if_neg (by decide +kernel)]; exact ⟨rfl, rfl⟩))
    (fun os started H enc _ F => by rw [OpenClaim.pre_eq_preRow]; exact lifted os started H enc F)
#print axioms holds
end Go.Proofs.Ytkjejlgdhaihfaa.exactJoin
