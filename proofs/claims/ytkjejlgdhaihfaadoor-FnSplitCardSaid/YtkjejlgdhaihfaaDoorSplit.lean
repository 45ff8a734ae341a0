/-
  Proved: for every list of bytes the law FnSplit returns true and leaves its argument as it was, where the listed tables of Go's library read as the program's text lays them (the card ties them).
-/
import Derived.Test.YtkjejlgdhaihfaaDoorImplSplit
import Derived.Test.YtkjejlgdhaihfaaDoorImplJoin
import Derived.Test.YtkjejlgdhaihfaaDoorCutJoin
import Derived.Test.YtkjejlgdhaihfaaDoorDraw1
import Derived.Test.YtkjejlgdhaihfaaDoorCards
import Derived.Test.YtkjejlgdhaihfaaDoorTie
import Derived.LaidMore
import Derived.LaidLaws
import Derived.Deep.DeepWitnessRowRef
namespace Go.Proofs.YtkjejlgdhaihfaaDoor.split
open Go Go.RowKit Go.ChangeShapes Go.WideShapes Go.ChangeAt

/-- The law said true, and nothing old has turned. -/
def TrueEnd (w : World) (e : Ending) (w' : World) : Prop := e = .returned (.bool true) ∧ Below w.heap.size w w'

def OneEnd (w : World) (e : Ending) (w' : World) : Prop := ∃ a cap, e = .returned (.slice a 1 cap) ∧ Below w.heap.size w w'
theorem oneSplit (s p : ByteArray) (c : UInt8) (w : World) (hp : p ∈ pieces c s) (hs : s.size ≤ 2000000000) (hsw : Switch w) : Calls Tryd.prog 18 #[.string p, .int .u8 (c.toNat : Int)] w (OneEnd w) := by
  have h1 := pieces_whole c s p hp
  have h2 := piece_size c s p hp
  refine (implSplit p c w (by omega) hsw).mono ?_
  rintro e w' ⟨a, cap, he, _, _, hb⟩
  rw [h1] at he
  exact ⟨a, cap, he, hb⟩
def BackEnd (s : ByteArray) (w : World) (e : Ending) (w' : World) : Prop := e = .returned (.string s) ∧ Below w.heap.size w w'
theorem backJoin (s : ByteArray) (c : UInt8) (a : Option Addr) (cap : Nat) (w : World) (hs : s.size ≤ 1000000) (hcap : (pieces c s).length ≤ cap) (hrow : Row w w.heap.size a (strVals (pieces c s))) :
    Calls Tryd.prog 19 #[.slice a (pieces c s).length cap, .string ⟨#[c]⟩] w (BackEnd s w) := by
  have h1 := pieces_length c s
  have h2 := total_pieces c s
  have h3 : (⟨#[c]⟩ : ByteArray).size = 1 := rfl
  refine (implJoin a cap (pieces c s) ⟨#[c]⟩ w hcap (by omega) (by rw [h3]; omega) hrow).mono ?_
  rintro e w' ⟨he, hb⟩
  rw [joined_back] at he
  exact ⟨he, hb⟩

set_option maxRecDepth 100000 in
set_option maxHeartbeats 2000000 in
theorem walk (a : Option Addr) (n cap : Nat) (w : World) (hn : n ≤ maxLen) (hcode : Code8 w w.heap.size n a) (hsw : Switch w) :
    Calls Tryd.prog 4 #[.slice a n cap] w (TrueEnd w) := by
  by_cases hbig : 1048576 < n
  · go_enter Tryd.func4, Tryd.ntmps4
    go_wp2_with fail
    refine (bigYes a n cap _ hn hbig).mono ?_
    rintro e w1 ⟨rfl, rfl⟩
    go_wp2
    go_ret
    exact ⟨rfl, Below.refl _ _⟩
  · go_enter Tryd.func4, Tryd.ntmps4
    go_wp2_with fail
    refine (bigNo a n cap _ (by omega)).mono ?_
    rintro e w1 ⟨rfl, rfl⟩
    go_wp2_with fail
    refine (drawSplitByte a n cap _ (by omega) hcode).mono ?_
    rintro e w1 ⟨s, c, hs, rfl, hb1⟩
    have hpl := pieces_length c s
    have kc : ∀ W : World, (convert 22 9 (.slice (some ⟨W.heap.size, 0, none⟩) 1 1)).run Tryd.prog (W.alloc (.cells #[.int .u8 (c.toNat : Int)] 5)) = .ok (.string ⟨#[c]⟩) (W.alloc (.cells #[.int .u8 (c.toNat : Int)] 5)) := fun W => by
      have h := conv_byte (P := Tryd.prog) Tryd.underlying22 Tryd.underlying5 Tryd.underlying9 W c.toNat c.toNat_lt
      rw [UInt8.ofNat_toNat] at h
      exact h
    go_wp2_with fail
    refine (implSplit s c _ (by omega) (hsw.keeps hb1)).mono ?_
    rintro e w2 ⟨ap, capp, rfl, hcapp, ho2, hb12⟩
    have hr2 : Row w2 w2.heap.size ap (strVals (pieces c s)) := Row.owned ho2
    have hb2 : Below w.heap.size w w2 := hb1.trans (hb12.mono hb1.size)
    clear ho2 hb12 hb1
    go_wp2_with fail
    have hba : Below w2.heap.size w2 (w2.alloc (.cells #[.int .u8 (c.toNat : Int)] 5)) := (Below.refl _ _).alloc (Nat.le_refl _) _
    refine (backJoin s c ap capp _ (by omega) hcapp ((hr2.below hba).grow hba.size)).mono ?_
    rintro e w3 ⟨rfl, hb3⟩
    have hb23 : Below w2.heap.size w2 w3 := hba.trans (hb3.mono hba.size)
    clear hba hb3
    go_wp2_with fail
    refine (specSplit s c _ (by omega)).mono ?_
    rintro e w4 ⟨aq, capq, rfl, _, _, hb34⟩
    have hb24 : Below w2.heap.size w2 w4 := hb23.trans (hb34.mono hb23.size)
    clear hb34 hb23
    go_wp2
    go_loopw [6] (fun i wr => ∃ (k : Nat), k ≤ (pieces c s).length ∧ i = .int .i64 (k : Int) ∧ Below w2.heap.size w2 wr) (fun i _ => (pieces c s).length - (intOf i).toNat)
    case atStart => exact ⟨0, Nat.zero_le _, rfl, hb24⟩
    case round =>
      obtain ⟨k, hk, rfl, hbr⟩ := hrel
      have hbw : Below w.heap.size w wr := hb2.trans (hbr.mono hb2.size)
      by_cases hlt : k < (pieces c s).length
      · obtain ⟨b, o, rfl, hbW, hc⟩ := hr2 k (.string (pieces c s)[k]) (by simp [strVals, hlt])
        have hc1 : wr.cell? ⟨b, o + k, none⟩ = some (.string (pieces c s)[k]) := (hbr.cell (p := ⟨b, o + k, none⟩) hbW).trans hc
        have hmem : (pieces c s)[k] ∈ pieces c s := List.getElem_mem hlt
        clear hc
        go_wp2_with fail
        refine (oneSplit s _ c _ hmem (by omega) (hsw.keeps hbw)).mono ?_
        rintro e w5 ⟨ax, capx, rfl, hb5⟩
        go_wp2
        go_roundw
        case rel => exact ⟨k + 1, by omega, by go_num, hbr.trans (hb5.mono hbr.size)⟩
        case measure => simp [intOf]; omega
      · go_wp2
        go_ret
        exact ⟨rfl, hbw⟩

theorem own : ownKnob Tryd.prog.godebug = none := by kernel_rfl
theorem cellsByte : Tryd.prog.cellsOf 5 = 1 := by kernel_rfl
theorem laidOut : laidOutB Tryd.prog = true := by kernel_rfl

set_option maxRecDepth 100000 in
theorem contract (H : Type) (enc : TypeId × Value → H) (W : World) (base : Nat) (args : Array Value) (ds gs : List (DataW H)) (before : List MemPlace)
    (hval : ∀ (j : Nat) t v, Tryd.f4.params[j]? = some t → args[j]? = some v → Value.okWide Tryd.prog W .any base t v)
    (hW : DataW.Whole enc Tryd.prog Tryd.f4.params.toList Rows.fnSplitSpec.vars false W args.toList ds gs before)
    (hSh : W.ShapedOpen Tryd.prog) :
    Calls Tryd.prog 4 args W fun e W' => ∃ v, e = .returned v ∧ Rows.fnSplitSpec.post enc Tryd.prog Tryd.f4 false true false false W args v W' := by
  have hW' := hW
  have hlt : ∀ x ∈ before, x.block < W.heap.size := fun x hx => hW'.lt x hx
  obtain ⟨p, q, hA0, hV, rfl, _, _⟩ := hW
  have hA : DataW.TrodAll enc Tryd.prog W 0 (fun _ => true) true Tryd.f4.params.toList args.toList ds p := hA0
  rw [Tryd.params4] at hA hval
  obtain ⟨v0, d0, rfl, rfl, t0⟩ := trodAll_one hA
  obtain ⟨a, n, cap, rfl, _, hn, hcode⟩ := open_codes Tryd.underlying22 Tryd.underlying5 cellsByte (fun x hx => hlt x (by simp [hx])) (base := base) (hval 0 22 v0 rfl rfl) t0
  refine (walk a n cap W hn hcode (switch_of hSh)).mono fun e W' ⟨he, hb⟩ => ?_
  subst he
  exact ⟨_, rfl, law_post laidOut rfl (by kernel_rfl) (by kernel_rfl) Tryd.underlying4 hW' rfl hb⟩

/-- A world for the witness: the listed variables as the program's own text lays them. -/
noncomputable def start (os : Os) : World :=
  { World.doorLaid Tryd.prog 4000 os with heap := (World.doorLaid Tryd.prog 4000 os).heap.modify 4 fun
      | .cells _ t frozen => .cells (Go.Pinned.utf8FirstZ.map fun (n : Nat) => Value.int .u8 (n : Int)).toArray t frozen
      | o => o }
theorem laid_met (os : Os) : laidMet Tryd.prog Rows.fnSplitRow.laid ((start os).forCall (fun _ _ => 0) ⟨#[], #[.slice none 0 0], []⟩).memory :=
  laidMet_of_run' 8 (by kernel_rfl) (by kernel_rfl)
theorem reads (os : Os) {H : Type} (enc : TypeId × Value → H) : ∃ places, DataW.whole enc Tryd.prog ((start os).forCall (fun _ _ => 0) ⟨#[], #[.slice none 0 0], []⟩).memory Tryd.f4.params.toList Rows.fnSplitSpec.vars false #[Value.slice none 0 0].toList 8 = some ([.nil], [], places) :=
  ⟨[], by kernel_rfl⟩

set_option maxRecDepth 100000 in
theorem lifted (os : Os) (started : os.Started) (H : Type) (enc : TypeId × Value → H) (F : Stop.Interp) :
    ReturnsInHanded {} Tryd.checked os 4 .any ((OpenSpec.ofChange Rows.fnSplitSpec).preRow enc Tryd.prog Tryd.f4 Rows.fnSplitRow.domain false Rows.fnSplitRow.laid) (((OpenSpec.ofChange Rows.fnSplitSpec).at F).post enc Tryd.prog Tryd.f4 false true false false) := by
  obtain ⟨places, hx⟩ := reads os enc
  refine returnsInHanded_of_row (C := Tryd.checked) (s := OpenSpec.ofChange Rows.fnSplitSpec) own started (by kernel_rfl) Tryd.func4
    (witness_row_atRef (enc := enc) (C := Tryd.checked) false (start os) #[.slice none 0 0] rfl (by kernel_rfl) (by kernel_rfl) (by kernel_rfl)
      (OpenSpec.preRow_of_cond 8 hx (by kernel_rfl) (fun k hk => by cases hk) (by kernel_rfl) (laid_met os))) ?_
  intro W base args ds gs before hval hW _ _ _ _ hSh _
  exact contract H enc W base args ds gs before hval hW hSh

theorem said : Rows.FnSplitSaid :=
  OpenClaim.holds_of_cond 4 Tryd.f4 rfl rfl rfl rfl rfl rfl rfl ⟨rfl, rfl, rfl, rfl, rfl⟩ rfl rfl rfl rfl rfl (by kernel_rfl) Tryd.func4 (by kernel_rfl)
    (of_decide_eq_true (by kernel_rfl)) (by unfold Func.isWrapper; first | (rw [if_pos (by decide +kernel)]; kernel_rfl) | (rw [if_neg (by decide +kernel)]; exact ⟨rfl, rfl⟩))
    (fun os started H enc _ F => by rw [OpenClaim.pre_eq_preRow]; exact lifted os started H enc F)

theorem plain (f : FuncId) (fn : Func) (hf : Tryd.pinned.checked.prog.funcNamed "loop.example/g00590/laws.FnSplit" = some f) (hfn : Tryd.pinned.checked.prog.funcs[f]? = some fn) :
    true = Tryd.pinned.checked.prog.looks [] ∧ ∀ (j : Nat) t, fn.params[j]? = some t → Tryd.pinned.checked.prog.wantsStandIn t = false := by
  obtain rfl : f = 4 := Option.some.inj ((show Tryd.prog.funcNamed "loop.example/g00590/laws.FnSplit" = some 4 by kernel_rfl).symm.trans hf) |>.symm
  obtain rfl : fn = Tryd.f4 := (Option.some.inj (Tryd.func4.symm.trans hfn)).symm
  refine ⟨by kernel_rfl, fun j t ht => ?_⟩
  rw [Tryd.params4] at ht
  have hm : t ∈ [22] := by simpa using Array.mem_of_getElem? ht
  have hall : ([22].all fun u => !Tryd.prog.wantsStandIn u) = true := by kernel_rfl
  exact (show Tryd.prog.wantsStandIn t = false by simpa using List.all_eq_true.1 hall t hm)

/-- The card. -/
theorem card : Rows.FnSplitCardSaid :=
  Claim7.holds_tied_plain_at .later [] _ _ _ _ said (fun _ h => by cases h) (by kernel_rfl) (fun _ h => by cases h) fnSplit_row_tie rfl ⟨rfl, rfl⟩ (by kernel_rfl) rfl plain (by kernel_rfl)
#print axioms card
end Go.Proofs.YtkjejlgdhaihfaaDoor.split
