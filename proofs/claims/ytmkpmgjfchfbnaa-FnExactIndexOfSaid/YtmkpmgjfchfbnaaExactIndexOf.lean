/-
  Proved: for every list of strings and every string the law FnExactIndexOf returns true and leaves its arguments as they were. No condition beyond the given row's own.
-/
import Derived.Test.YtmkpmgjfchfbnaaSzStrs
import Derived.Test.YtmkpmgjfchfbnaaToStrs
import Derived.Test.YtmkpmgjfchfbnaaEqStrs
import Derived.Test.YtmkpmgjfchfbnaaImplNames
import Derived.Test.YtmkpmgjfchfbnaaRows
import Derived.ChangeMaps5
import Derived.LaidLaws
namespace Go.Proofs.Ytmkpmgjfchfbnaa.exactIndexOf
open Go Go.RowKit Go.ChangeShapes Go.WideShapes Go.ChangeAt

/-- The law said true, and nothing old has turned. -/
def TrueEnd (w : World) (e : Ending) (w' : World) : Prop := e = .returned (.bool true) ∧ Below w.heap.size w w'

set_option maxHeartbeats 800000 in
theorem walk (a : Option Addr) (cap : Nat) (ss : List ByteArray) (s : ByteArray) (w : World) (hlen : ss.length ≤ maxLen) (hws : ∀ s ∈ ss, s.size ≤ maxLen) (hrow : Row w w.heap.size a (strVals ss)) (hs : s.size ≤ maxLen) :
    Calls Try.prog 5 #[.slice a ss.length cap, .string s] w (TrueEnd w) := by
  have hs' : s.size ≤ 9223372036854775807 := hs
  by_cases hbig : 1048576 < (s.size : Int)
  · go_enter Try.func5, Try.ntmps5
    go_wp2
    go_ret
    exact ⟨rfl, Below.refl _ _⟩
  · go_enter Try.func5, Try.ntmps5
    go_wp2_with fail
    refine (szStrs a cap ss 1048576 _ (by omega) hlen hws hrow).mono ?_
    rintro e w1 ⟨r, rfl, rfl, hr, hok⟩
    by_cases hneg : r < 0
    · go_wp2
      go_ret
      exact ⟨rfl, Below.refl _ _⟩
    · have hsum := hok (by omega)
      have hnat : ss.length + total ss ≤ 1048576 := by omega
      have Hok := Lib.hid hsum
      clear hok hsum
      go_wp2_with fail
      refine (toStrs a cap ss _ (by omega) hrow).mono ?_
      rintro e w1 ⟨rfl, ho1, hb1⟩
      go_wp2_with fail
      refine (specIndexOf _ _ ss s _ hlen (Row.owned ho1)).mono ?_
      rintro e w2 ⟨rfl, rfl⟩
      have hs12 := hb1.size
      clear ho1
      go_wp2_with fail
      refine (toStrs a cap ss _ (by omega) ((hrow.below hb1).grow hs12)).mono ?_
      rintro e w3 ⟨rfl, ho3, hb3⟩
      go_wp2_with fail
      refine (implIndexOf _ _ ss s _ hlen (Row.owned ho3)).mono ?_
      rintro e w4 ⟨rfl, rfl⟩
      have hr4 := Row.owned ho3
      have hb34 : Below w.heap.size w w3 := hb1.trans (hb3.mono hs12)
      have hs34 := hb34.size
      clear ho3 hb3
      generalize place ss s = q at *
      go_wp2_with fail
      refine (toStrs a cap ss _ (by omega) ((hrow.below hb34).grow hs34)).mono ?_
      rintro e w5 ⟨rfl, ho5, hb5⟩
      have hr5 := (hr4.below hb5).grow hb5.size
      have hb45 : Below w.heap.size w w5 := hb34.trans (hb5.mono hs34)
      clear hb5
      go_wp2_with fail
      refine (eqStrs _ _ _ _ ss _ hlen hr5 (Row.owned ho5)).mono ?_
      rintro e w6 ⟨n, rfl, rfl⟩
      go_wp2
      go_ret
      exact ⟨rfl, below_draws hb45 n⟩

theorem own : ownKnob Try.prog.godebug = none := by kernel_rfl
theorem laidOut : laidOutB Try.prog = true := by kernel_rfl
theorem cellsString : Try.prog.cellsOf 9 = 1 := by kernel_rfl
set_option maxRecDepth 100000 in
theorem contract (H : Type) (enc : TypeId × Value → H) (W : World) (base : Nat) (args : Array Value) (ds gs : List (DataW H)) (before : List MemPlace)
    (hval : ∀ (j : Nat) t v, Try.f5.params[j]? = some t → args[j]? = some v → Value.okWide Try.prog W .any base t v)
    (hW : DataW.Whole enc Try.prog Try.f5.params.toList Rows.fnExactIndexOfSpec.vars false W args.toList ds gs before)
    (_hL : laidMetH Try.prog Rows.fnExactIndexOfRow.laid W) (_hSh : W.ShapedOpen Try.prog) :
    Calls Try.prog 5 args W fun e W' => ∃ v, e = .returned v ∧ Rows.fnExactIndexOfSpec.post enc Try.prog Try.f5 false true false false W args v W' := by
  have hW' := hW
  have hlt : ∀ x ∈ before, x.block < W.heap.size := fun x hx => hW'.lt x hx
  obtain ⟨p, q, hA0, hV, rfl, _, _⟩ := hW
  have hA : DataW.TrodAll enc Try.prog W 0 (fun _ => true) true Try.f5.params.toList args.toList ds p := hA0
  rw [Try.params5] at hA hval
  obtain ⟨v0, v1, d0, d1, p0, p1, rfl, rfl, rfl, t0, t1⟩ := trodAll_two hA
  obtain ⟨a0, cap0, ss0, rfl, _, hlen0, hrow0, hws0, _, _⟩ := open_strs Try.underlying24 Try.underlying9 cellsString (fun x hx => hlt x (by simp [hx])) (base := base) (hval 0 24 v0 rfl rfl) t0
  obtain ⟨s1, rfl, _, _, hs1⟩ := Go.ChangeMaps.open_string Try.underlying9 (hval 1 9 v1 rfl rfl) t1
  refine (walk a0 cap0 ss0 s1 W hlen0 hws0 hrow0 hs1).mono fun e W' ⟨he, hb⟩ => ?_
  subst he
  exact ⟨_, rfl, law_post laidOut rfl (by kernel_rfl) (by kernel_rfl) Try.underlying4 hW' rfl hb⟩

/-- A world for the witness. -/
noncomputable def start (os : Os) : World := World.holding Try.prog os ⟨#[], #[], []⟩
theorem laid_met (os : Os) : laidMet Try.prog Rows.fnExactIndexOfRow.laid ((start os).forCall (fun _ _ => 0) ⟨#[], #[.slice none 0 0, .string ⟨#[]⟩], []⟩).memory :=
  laidMet_of_run' 8 (by kernel_rfl) (by kernel_rfl)
theorem reads (os : Os) {H : Type} (enc : TypeId × Value → H) : ∃ places, DataW.whole enc Try.prog ((start os).forCall (fun _ _ => 0) ⟨#[], #[.slice none 0 0, .string ⟨#[]⟩], []⟩).memory Try.f5.params.toList Rows.fnExactIndexOfSpec.vars false #[Value.slice none 0 0, .string ⟨#[]⟩].toList 8 = some ([.nil, .lit (.string [])], [], places) :=
  ⟨[], by kernel_rfl⟩

set_option maxRecDepth 100000 in
theorem lifted (os : Os) (started : os.Started) (H : Type) (enc : TypeId × Value → H) (F : Stop.Interp) :
    ReturnsInHanded {} Try.checked os 5 .any ((OpenSpec.ofChange Rows.fnExactIndexOfSpec).preRow enc Try.prog Try.f5 Rows.fnExactIndexOfRow.domain false Rows.fnExactIndexOfRow.laid) (((OpenSpec.ofChange Rows.fnExactIndexOfSpec).at F).post enc Try.prog Try.f5 false true false false) := by
  obtain ⟨places, hx⟩ := reads os enc
  refine returnsInHanded_of_row (C := Try.checked) (s := OpenSpec.ofChange Rows.fnExactIndexOfSpec) own started (by kernel_rfl) Try.func5
    (witness_row_at (enc := enc) (C := Try.checked) false (start os) #[.slice none 0 0, .string ⟨#[]⟩] rfl (by kernel_rfl) (by kernel_rfl) (by kernel_rfl)
      (OpenSpec.preRow_of_cond 8 hx (by kernel_rfl) (fun k hk => by cases hk) (by kernel_rfl) (laid_met os))) ?_
  intro W base args ds gs before hval hW _ _ _ hL hSh _
  exact contract H enc W base args ds gs before hval hW hL hSh

theorem said : Rows.FnExactIndexOfSaid :=
  OpenClaim.holds_of_cond 5 Try.f5 rfl rfl rfl rfl rfl rfl rfl ⟨rfl, rfl, rfl, rfl, rfl⟩ rfl rfl rfl rfl rfl (by kernel_rfl) Try.func5 (by kernel_rfl)
    (of_decide_eq_true (by kernel_rfl)) (by unfold Func.isWrapper; first | (rw [if_pos (by decide +kernel)]; kernel_rfl) | (rw [if_neg (by decide +kernel)]; exact ⟨rfl, rfl⟩))
    (fun os started H enc _ F => by rw [OpenClaim.pre_eq_preRow]; exact lifted os started H enc F)
#print axioms said
end Go.Proofs.Ytmkpmgjfchfbnaa.exactIndexOf
