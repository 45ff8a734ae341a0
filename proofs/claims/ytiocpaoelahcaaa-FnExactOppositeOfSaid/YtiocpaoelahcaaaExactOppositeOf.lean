/-
  Proved: for every statement the law FnExactOppositeOf returns true and leaves its argument as it was. No condition beyond the given row's own.
-/
import Derived.Test.YtiocpaoelahcaaaStmt
import Derived.Test.YtiocpaoelahcaaaOpenStmt
import Derived.Test.YtiocpaoelahcaaaRows
import Derived.ChangeMaps5
import Derived.LaidLaws
namespace Go.Proofs.Ytiocpaoelahcaaa.exactOppositeOf
open Go Go.RowKit Go.ChangeShapes Go.WideShapes Go.ChangeAt

/-- The law said true, and nothing old has turned. -/
def TrueEnd (w : World) (e : Ending) (w' : World) : Prop := e = .returned (.bool true) ∧ Below w.heap.size w w'

set_option maxHeartbeats 800000 in
theorem walk (k : Int) (a b : ByteArray) (w : World) (_hk : -9223372036854775808 ≤ k ∧ k ≤ 9223372036854775807) (ha : a.size ≤ maxLen) (hb : b.size ≤ maxLen) : Calls Try.prog 4 #[stV k a b] w (TrueEnd w) := by
  have hcases : isTestS k = true ∨ isTestS k = false := by cases isTestS k <;> simp
  have Hcases := Lib.hid hcases
  clear hcases
  go_enter Try.func4, Try.ntmps4
  go_wp2_with fail
  refine (szStmt k a b 1048576 _ (by omega) ha hb).mono ?_
  rintro e w1 ⟨r, rfl, hb1, hr, _⟩
  have hs1 : w.heap.size < w1.heap.size := by have h := hb1.size; simp at h; omega
  obtain ⟨hc1, _⟩ := bcell hb1
  have hB1 : Below w.heap.size w w1 := ((Below.refl _ _).alloc (Nat.le_refl _) _).trans (hb1.mono (by simp))
  by_cases hneg : r < 0
  · go_wp2
    go_ret
    exact ⟨rfl, hB1⟩
  rcases Hcases.out with ht | ht
  · have HT := Lib.hid ht
    generalize hk' : oppS k = k' at *
    have HK := Lib.hid hk'
    clear ht hk'
    go_wp2_with fail
    refine (lawToStmt k a b _).mono ?_
    rintro e w2 ⟨rfl, hb2⟩
    go_wp2_with fail
    refine (specOppositeYes k a b _ HT.out).mono ?_
    rw [HK.out]
    rintro e w3 ⟨rfl, hb3⟩
    have hb13 := hb2.trans (hb3.mono hb2.size)
    obtain ⟨hc3, _⟩ := bcell hb13
    have hs3 := hb13.size
    have hs3' : w.heap.size < w3.heap.size := by omega
    have hB3 : Below w.heap.size w w3 := hB1.trans (hb13.mono hB1.size)
    clear hb2 hb3
    go_wp2_with fail
    refine (lawToStmt k a b _).mono ?_
    rintro e w4 ⟨rfl, hb4⟩
    go_wp2_with fail
    refine (implOppositeYes k a b _ HT.out).mono ?_
    rw [HK.out]
    rintro e w5 ⟨rfl, hb5⟩
    have hb45 := hb4.trans (hb5.mono hb4.size)
    obtain ⟨hc5, _⟩ := bcell hb45
    have hs5 : w3.heap.size < w5.heap.size := by have h := hb45.size; simp at h; omega
    have hB5 : Below w.heap.size w w5 := (hB3.alloc hB3.size _).trans (hb45.mono (by simp; omega))
    clear hb4 hb5
    go_wp2_with fail
    refine (eqStmtSame k' a b _).mono ?_
    rintro e w6 ⟨rfl, hb6⟩
    have hB6 : Below w.heap.size w w6 := (hB5.alloc (by omega) _).trans (hb6.mono (by simp; omega))
    go_wp2
    go_ret
    exact ⟨rfl, hB6⟩
  · have HT := Lib.hid ht
    clear ht
    go_wp2_with fail
    refine (lawToStmt k a b _).mono ?_
    rintro e w2 ⟨rfl, hb2⟩
    go_wp2_with fail
    refine (specOppositeNo k a b _ HT.out).mono ?_
    rintro e w3 ⟨rfl, hb3⟩
    have hb13 := hb2.trans (hb3.mono hb2.size)
    obtain ⟨hc3, _⟩ := bcell hb13
    have hs3 := hb13.size
    have hs3' : w.heap.size < w3.heap.size := by omega
    have hB3 : Below w.heap.size w w3 := hB1.trans (hb13.mono hB1.size)
    clear hb2 hb3
    go_wp2_with fail
    refine (lawToStmt k a b _).mono ?_
    rintro e w4 ⟨rfl, hb4⟩
    go_wp2_with fail
    refine (implOppositeNo k a b _ HT.out).mono ?_
    rintro e w5 ⟨rfl, hb5⟩
    have hb45 := hb4.trans (hb5.mono hb4.size)
    obtain ⟨hc5, _⟩ := bcell hb45
    have hs5 : w3.heap.size < w5.heap.size := by have h := hb45.size; simp at h; omega
    have hB5 : Below w.heap.size w w5 := (hB3.alloc hB3.size _).trans (hb45.mono (by simp; omega))
    clear hb4 hb5
    go_wp2_with fail
    refine (eqStmtSame 0 ⟨#[]⟩ ⟨#[]⟩ _).mono ?_
    rintro e w6 ⟨rfl, hb6⟩
    have hB6 : Below w.heap.size w w6 := (hB5.alloc (by omega) _).trans (hb6.mono (by simp; omega))
    go_wp2
    go_ret
    exact ⟨rfl, hB6⟩

theorem own : ownKnob Try.prog.godebug = none := by kernel_rfl
theorem laidOut : laidOutB Try.prog = true := by kernel_rfl
set_option maxRecDepth 100000 in
theorem contract (H : Type) (enc : TypeId × Value → H) (W : World) (base : Nat) (args : Array Value) (ds gs : List (DataW H)) (before : List MemPlace)
    (hval : ∀ (j : Nat) t v, Try.f4.params[j]? = some t → args[j]? = some v → Value.okWide Try.prog W .any base t v)
    (hW : DataW.Whole enc Try.prog Try.f4.params.toList Rows.fnExactOppositeOfSpec.vars false W args.toList ds gs before)
    (_hL : laidMetH Try.prog Rows.fnExactOppositeOfRow.laid W) (_hSh : W.ShapedOpen Try.prog) :
    Calls Try.prog 4 args W fun e W' => ∃ v, e = .returned v ∧ Rows.fnExactOppositeOfSpec.post enc Try.prog Try.f4 false true false false W args v W' := by
  have hW' := hW
  obtain ⟨p, q, hA0, hV, rfl, _, _⟩ := hW
  have hA : DataW.TrodAll enc Try.prog W 0 (fun _ => true) true Try.f4.params.toList args.toList ds p := hA0
  rw [Try.params4] at hA hval
  obtain ⟨v0, d0, rfl, rfl, t0⟩ := trodAll_one hA
  obtain ⟨k0, sa0, sb0, rfl, hk0, hsa0, hsb0⟩ := open_stmt Try.underlying23 (by kernel_rfl) (by kernel_rfl) Try.underlying3 Try.underlying9 Try.underlying9 (hval 0 23 v0 rfl rfl) t0
  refine (walk k0 sa0 sb0 W hk0 hsa0 hsb0).mono fun e W' ⟨he, hb⟩ => ?_
  subst he
  exact ⟨_, rfl, law_post laidOut rfl (by kernel_rfl) (by kernel_rfl) Try.underlying4 hW' rfl hb⟩

/-- A world for the witness. -/
noncomputable def start (os : Os) : World := World.holding Try.prog os ⟨#[], #[], []⟩
theorem laid_met (os : Os) : laidMet Try.prog Rows.fnExactOppositeOfRow.laid ((start os).forCall (fun _ _ => 0) ⟨#[], #[.agg #[.int .i64 0, .string ⟨#[]⟩, .string ⟨#[]⟩]], []⟩).memory :=
  laidMet_of_run' 8 (by kernel_rfl) (by kernel_rfl)
theorem reads (os : Os) {H : Type} (enc : TypeId × Value → H) : ∃ places, DataW.whole enc Try.prog ((start os).forCall (fun _ _ => 0) ⟨#[], #[.agg #[.int .i64 0, .string ⟨#[]⟩, .string ⟨#[]⟩]], []⟩).memory Try.f4.params.toList Rows.fnExactOppositeOfSpec.vars false #[Value.agg #[.int .i64 0, .string ⟨#[]⟩, .string ⟨#[]⟩]].toList 8 = some ([.agg [.lit (.int .i64 0), .lit (.string []), .lit (.string [])]], [], places) :=
  ⟨[], by kernel_rfl⟩

set_option maxRecDepth 100000 in
theorem lifted (os : Os) (started : os.Started) (H : Type) (enc : TypeId × Value → H) (F : Stop.Interp) :
    ReturnsInHanded {} Try.checked os 4 .any ((OpenSpec.ofChange Rows.fnExactOppositeOfSpec).preRow enc Try.prog Try.f4 Rows.fnExactOppositeOfRow.domain false Rows.fnExactOppositeOfRow.laid) (((OpenSpec.ofChange Rows.fnExactOppositeOfSpec).at F).post enc Try.prog Try.f4 false true false false) := by
  obtain ⟨places, hx⟩ := reads os enc
  refine returnsInHanded_of_row (C := Try.checked) (s := OpenSpec.ofChange Rows.fnExactOppositeOfSpec) own started (by kernel_rfl) Try.func4
    (witness_row_at (enc := enc) (C := Try.checked) false (start os) #[.agg #[.int .i64 0, .string ⟨#[]⟩, .string ⟨#[]⟩]] rfl (by kernel_rfl) (by kernel_rfl) (by kernel_rfl)
      (OpenSpec.preRow_of_cond 8 hx (by kernel_rfl) (fun k hk => by cases hk) (by kernel_rfl) (laid_met os))) ?_
  intro W base args ds gs before hval hW _ _ _ hL hSh _
  exact contract H enc W base args ds gs before hval hW hL hSh

theorem said : Rows.FnExactOppositeOfSaid :=
  OpenClaim.holds_of_cond 4 Try.f4 rfl rfl rfl rfl rfl rfl rfl ⟨rfl, rfl, rfl, rfl, rfl⟩ rfl rfl rfl rfl rfl (by kernel_rfl) Try.func4 (by kernel_rfl)
    (of_decide_eq_true (by kernel_rfl)) (by unfold Func.isWrapper; first | (rw [if_pos (by decide +kernel)]; kernel_rfl) | (rw [if_neg (by decide +kernel)]; exact ⟨rfl, rfl⟩))
    (fun os started H enc _ F => by rw [OpenClaim.pre_eq_preRow]; exact lifted os started H enc F)
#print axioms said
end Go.Proofs.Ytiocpaoelahcaaa.exactOppositeOf
