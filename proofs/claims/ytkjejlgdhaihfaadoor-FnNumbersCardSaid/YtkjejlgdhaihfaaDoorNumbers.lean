/-
  Proved: for every list of bytes the law FnNumbers returns true and leaves its argument as it was, where the listed tables and sentinels of Go's library read as the program's text lays them (the card ties them).
-/
import Derived.Test.YtkjejlgdhaihfaaDoorParse
import Derived.Test.YtkjejlgdhaihfaaDoorDraw1
import Derived.ChangeMaps5
import Derived.Test.YtkjejlgdhaihfaaDoorCards
import Derived.Test.YtkjejlgdhaihfaaDoorTie
namespace Go.Proofs.YtkjejlgdhaihfaaDoor.numbers
open Go Go.RowKit Go.ChangeShapes Go.WideShapes Go.ChangeAt
open Go.ChangeMaps (open_string shut_string)

/-- The law said true, and nothing old has turned. -/
def TrueEnd (w : World) (e : Ending) (w' : World) : Prop := e = .returned (.bool true) ∧ Below w.heap.size w w'

theorem both (t : ByteArray) (ht : t.size ≤ 1048576) : ∃ (y : Int) (f : Bool),
    (∀ W, Pows W → Sents W → Calls Tryd.prog 15 #[.string t] W fun e w' => e = .returned (.tuple #[.int .i64 y, .bool f]) ∧ Below W.heap.size W w') ∧
    (∀ W, Calls Tryd.prog 16 #[.string t] W fun e w' => e = .returned (.tuple #[.int .i64 y, .bool f]) ∧ Below W.heap.size W w') ∧
    ((f = true ∧ 0 ≤ y ∧ y ≤ 999999 ∧ Lib.itoa y = t.data.toList) ∨ (f = false ∧ y = 0)) := by
  refine ⟨_, _, fun W hp hst => parseNumber t W (by omega) hp hst, fun W => specParseNumber t W (by unfold maxLen; omega), ?_⟩
  cases h : num 0 999999 t.data.toList with
  | true =>
    obtain ⟨_, h2, h3, h4⟩ := atoi_num h
    left
    simp [h2, h3, h4]
  | false =>
    right
    simp

set_option maxRecDepth 100000 in
set_option maxHeartbeats 2000000 in
theorem walk (a : Option Addr) (n cap : Nat) (w : World) (hn : n ≤ maxLen) (hcode : Code8 w w.heap.size n a) (hp : Pows w) (hst : Sents w) :
    Calls Tryd.prog 3 #[.slice a n cap] w (TrueEnd w) := by
  by_cases hbig : 1048576 < n
  · go_enter Tryd.func3, Tryd.ntmps3
    go_wp2_with fail
    refine (bigYes a n cap _ hn hbig).mono ?_
    rintro e w1 ⟨rfl, rfl⟩
    go_wp2
    go_ret
    exact ⟨rfl, Below.refl _ _⟩
  · have Hst := Lib.hid hst
    clear hst
    go_enter Tryd.func3, Tryd.ntmps3
    go_wp2_with fail
    refine (bigNo a n cap _ (by omega)).mono ?_
    rintro e w1 ⟨rfl, rfl⟩
    go_wp2_with fail
    refine (drawFormatInt a n cap _ (by omega) hcode).mono ?_
    rintro e w1 ⟨m, hm0, hm1, rfl, hb1⟩
    go_wp2_with fail
    refine (implFormat m hm0 hm1 _ (hp.keeps hb1)).mono ?_
    rintro e w2 ⟨rfl, hb12⟩
    have hb2 : Below w.heap.size w w2 := hb1.trans (hb12.mono hb1.size)
    clear hb1 hb12
    have hsz : (⟨(Lib.itoa m).toArray⟩ : ByteArray).size ≤ 21 := by
      have h := Lib.itoa_length_le m hm0 hm1
      show (Lib.itoa m).toArray.size ≤ 21
      simpa using h
    have hl : (⟨(Lib.itoa m).toArray⟩ : ByteArray).size = (Lib.itoa m).length := by
      show (Lib.itoa m).toArray.size = _
      simp
    have hnum := num_itoa m
    have hval := (val_itoa m).1
    have I := fun W => parseInt ⟨(Lib.itoa m).toArray⟩ W (by omega)
    unfold PairEnd at I
    have hdat : (⟨(Lib.itoa m).toArray⟩ : ByteArray).data.toList = Lib.itoa m := rfl
    rw [hdat, hval] at I
    have I2 : ∃ (v : Int) (b : Bool), (∀ W, Pows W → Sents W → Calls Tryd.prog 12 #[.string ⟨(Lib.itoa m).toArray⟩] W fun e w' => e = .returned (.tuple #[.int .i64 v, .bool b]) ∧ Below W.heap.size W w') ∧
        ((b = true ∧ v = m ∧ (Lib.itoa m).length ≤ 12 ∧ (m < 0 ∨ 0 ≤ m)) ∨ (b = true ∧ v = m ∧ 12 < (Lib.itoa m).length ∧ (m < 0 ∧ (Lib.itoa m).length ≤ 13)) ∨ (b = false ∧ v = 0 ∧ 12 < (Lib.itoa m).length ∧ 0 ≤ m) ∨ (b = false ∧ v = 0 ∧ 12 < (Lib.itoa m).length ∧ (m < 0 ∧ 13 < (Lib.itoa m).length))) := by
      refine ⟨_, _, I, ?_⟩
      rw [hnum]
      by_cases c1 : (Lib.itoa m).length ≤ 12
      · left
        simp [c1]
        omega
      · by_cases c2 : m < 0
        · by_cases c3 : (Lib.itoa m).length ≤ 13
          · right; left
            simp [c1, c2, c3]
            omega
          · right; right; right
            simp [c1, c2, c3]
            omega
        · right; right; left
          simp [c1, c2]
          omega
    have HI := Lib.hid I2
    clear I I2 hl hnum hval hdat
    obtain ⟨v, b, hI, hcase⟩ := HI.out
    clear HI
    have HI := Lib.hid hI
    clear hI
    rcases hcase with ⟨rfl, rfl, hc1, hc2⟩ | ⟨rfl, rfl, hc1, hc2⟩ | ⟨rfl, rfl, hc1, hc2⟩ | ⟨rfl, rfl, hc1, hc2⟩
    all_goals
      go_wp2_with fail
      refine (HI.out _ (hp.keeps hb2) (Hst.out.keeps hb2)).mono ?_
      rintro e w3 ⟨rfl, hb23⟩
      have hb3 : Below w.heap.size w w3 := hb2.trans (hb23.mono hb2.size)
      clear hb23 hb2
      go_wp2_with fail
      refine (specFormat _ hm0 hm1 _).mono ?_
      rintro e w4 ⟨rfl, hb34⟩
      have hb4 : Below w.heap.size w w4 := hb3.trans (hb34.mono hb3.size)
      clear hb34 hb3
      go_wp2_with fail
    all_goals try
      have hx : (!decide (((Lib.itoa v).length : Int) ≤ 12)) = true ∧ (!decide (((Lib.itoa v).length : Int) ≤ 13)) = true := by assumption
      simp at hx
      omega
    all_goals
      have hcode4 : Code8 _ _ n a := (hcode.keeps fun p hp => hb4.cell hp).grow hb4.size
      refine (drawParseNumber a n cap _ (by omega) hcode4).mono ?_
      clear hcode4
      rintro e w5 ⟨t, ht, rfl, hb45⟩
      have hb5 : Below w.heap.size w w5 := hb4.trans (hb45.mono hb4.size)
      clear hb45 hb4
      obtain ⟨y, f, hI3, hS3, hcase⟩ := both t (by omega)
      have HI3 := Lib.hid hI3
      have HS3 := Lib.hid hS3
      clear hI3 hS3
      rcases hcase with ⟨rfl, hy0, hy1, hyt⟩ | ⟨rfl, rfl⟩
    all_goals
      go_wp2_with fail
      refine (HI3.out _ (hp.keeps hb5) (Hst.out.keeps hb5)).mono ?_
      rintro e w6 ⟨rfl, hb56⟩
      have hb6 : Below w.heap.size w w6 := hb5.trans (hb56.mono hb5.size)
      clear hb56 hb5
      go_wp2_with fail
      refine (HS3.out _).mono ?_
      rintro e w7 ⟨rfl, hb67⟩
      have hb7 : Below w.heap.size w w7 := hb6.trans (hb67.mono hb6.size)
      clear hb67 hb6
    all_goals first
      | (have heq := lists_eq hyt
         clear hyt
         go_wp2_with fail
         refine (implFormat y (by omega) (by omega) _ (hp.keeps hb7)).mono ?_
         rintro e w8 ⟨rfl, hb78⟩
         go_wp2
         go_ret
         exact ⟨rfl, hb7.trans (hb78.mono hb7.size)⟩)
      | (go_wp2
         go_ret
         exact ⟨rfl, hb7⟩)

theorem own : ownKnob Tryd.prog.godebug = none := by kernel_rfl
theorem cellsByte : Tryd.prog.cellsOf 5 = 1 := by kernel_rfl
theorem laidOut : laidOutB Tryd.prog = true := by kernel_rfl

set_option maxRecDepth 100000 in
theorem contract (H : Type) (enc : TypeId × Value → H) (W : World) (base : Nat) (args : Array Value) (ds gs : List (DataW H)) (before : List MemPlace)
    (hval : ∀ (j : Nat) t v, Tryd.f3.params[j]? = some t → args[j]? = some v → Value.okWide Tryd.prog W .any base t v)
    (hW : DataW.Whole enc Tryd.prog Tryd.f3.params.toList Rows.fnNumbersSpec.vars false W args.toList ds gs before)
    (hL : laidMetH Tryd.prog Rows.fnNumbersRow.laid W) :
    Calls Tryd.prog 3 args W fun e W' => ∃ v, e = .returned v ∧ Rows.fnNumbersSpec.post enc Tryd.prog Tryd.f3 false true false false W args v W' := by
  have hW' := hW
  have hlt : ∀ x ∈ before, x.block < W.heap.size := fun x hx => hW'.lt x hx
  have hp : Pows W := pows_of hL
  have hst : Sents W := sents_of hL
  obtain ⟨p, q, hA0, hV, rfl, _, _⟩ := hW
  have hA : DataW.TrodAll enc Tryd.prog W 0 (fun _ => true) true Tryd.f3.params.toList args.toList ds p := hA0
  rw [Tryd.params3] at hA hval
  obtain ⟨v0, d0, rfl, rfl, t0⟩ := trodAll_one hA
  obtain ⟨a, n, cap, rfl, _, hn, hcode⟩ := open_codes Tryd.underlying22 Tryd.underlying5 cellsByte (fun x hx => hlt x (by simp [hx])) (base := base) (hval 0 22 v0 rfl rfl) t0
  refine (walk a n cap W hn hcode hp hst).mono fun e W' ⟨he, hb⟩ => ?_
  subst he
  exact ⟨_, rfl, law_post laidOut rfl (by kernel_rfl) (by kernel_rfl) Tryd.underlying4 hW' rfl hb⟩

/-- A world for the witness: the listed variables as the program's own text lays them. -/
noncomputable def start (os : Os) : World := World.doorLaid Tryd.prog 4000 os
theorem laid_met (os : Os) : laidMet Tryd.prog Rows.fnNumbersRow.laid ((start os).forCall (fun _ _ => 0) ⟨#[], #[.slice none 0 0], []⟩).memory :=
  laidMet_of_run' 8 (by kernel_rfl) (by kernel_rfl)
theorem reads (os : Os) {H : Type} (enc : TypeId × Value → H) : ∃ places, DataW.whole enc Tryd.prog ((start os).forCall (fun _ _ => 0) ⟨#[], #[.slice none 0 0], []⟩).memory Tryd.f3.params.toList Rows.fnNumbersSpec.vars false #[Value.slice none 0 0].toList 8 = some ([.nil], [], places) :=
  ⟨[], by kernel_rfl⟩

set_option maxRecDepth 100000 in
theorem lifted (os : Os) (started : os.Started) (H : Type) (enc : TypeId × Value → H) (F : Stop.Interp) :
    ReturnsInHanded {} Tryd.checked os 3 .any ((OpenSpec.ofChange Rows.fnNumbersSpec).preRow enc Tryd.prog Tryd.f3 Rows.fnNumbersRow.domain false Rows.fnNumbersRow.laid) (((OpenSpec.ofChange Rows.fnNumbersSpec).at F).post enc Tryd.prog Tryd.f3 false true false false) := by
  obtain ⟨places, hx⟩ := reads os enc
  refine returnsInHanded_of_row (C := Tryd.checked) (s := OpenSpec.ofChange Rows.fnNumbersSpec) own started (by kernel_rfl) Tryd.func3
    (witness_row_atRef (enc := enc) (C := Tryd.checked) false (start os) #[.slice none 0 0] rfl (by kernel_rfl) (by kernel_rfl) (by kernel_rfl)
      (OpenSpec.preRow_of_cond 8 hx (by kernel_rfl) (fun k hk => by cases hk) (by kernel_rfl) (laid_met os))) ?_
  intro W base args ds gs before hval hW _ _ _ hL _ _
  exact contract H enc W base args ds gs before hval hW hL

theorem said : Rows.FnNumbersSaid :=
  OpenClaim.holds_of_cond 3 Tryd.f3 rfl rfl rfl rfl rfl rfl rfl ⟨rfl, rfl, rfl, rfl, rfl⟩ rfl rfl rfl rfl rfl (by kernel_rfl) Tryd.func3 (by kernel_rfl)
    (of_decide_eq_true (by kernel_rfl)) (by unfold Func.isWrapper; first | (rw [if_pos (by decide +kernel)]; kernel_rfl) | (rw [if_neg (by decide +kernel)]; exact ⟨rfl, rfl⟩))
    (fun os started H enc _ F => by rw [OpenClaim.pre_eq_preRow]; exact lifted os started H enc F)

theorem plain (f : FuncId) (fn : Func) (hf : Tryd.pinned.checked.prog.funcNamed "loop.example/g00590/laws.FnNumbers" = some f) (hfn : Tryd.pinned.checked.prog.funcs[f]? = some fn) :
    true = Tryd.pinned.checked.prog.looks [] ∧ ∀ (j : Nat) t, fn.params[j]? = some t → Tryd.pinned.checked.prog.wantsStandIn t = false := by
  obtain rfl : f = 3 := Option.some.inj ((show Tryd.prog.funcNamed "loop.example/g00590/laws.FnNumbers" = some 3 by kernel_rfl).symm.trans hf) |>.symm
  obtain rfl : fn = Tryd.f3 := (Option.some.inj (Tryd.func3.symm.trans hfn)).symm
  refine ⟨by kernel_rfl, fun j t ht => ?_⟩
  rw [Tryd.params3] at ht
  have hm : t ∈ [22] := by simpa using Array.mem_of_getElem? ht
  have hall : ([22].all fun u => !Tryd.prog.wantsStandIn u) = true := by kernel_rfl
  exact (show Tryd.prog.wantsStandIn t = false by simpa using List.all_eq_true.1 hall t hm)

/-- The card. -/
theorem card : Rows.FnNumbersCardSaid :=
  Claim7.holds_tied_plain_at .later [] _ _ _ _ said (fun _ h => by cases h) (by kernel_rfl) (fun _ h => by cases h) fnNumbers_row_tie rfl ⟨rfl, rfl⟩ (by kernel_rfl) rfl plain (by kernel_rfl)
#print axioms card
end Go.Proofs.YtkjejlgdhaihfaaDoor.numbers
