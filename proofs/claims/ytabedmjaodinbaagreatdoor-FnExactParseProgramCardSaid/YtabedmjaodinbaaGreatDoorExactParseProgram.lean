/-
  Proved: for every string the law FnExactParseProgram returns true and leaves its argument as it was, where the listed tables of the program read as its text lays them (the card ties them).
-/
import Derived.Test.YtabedmjaodinbaaGreatDoorGotProg
import Derived.Test.YtabedmjaodinbaaGreatDoorHeldEdges
import Derived.Test.YtabedmjaodinbaaGreatDoorEqEdges
import Derived.Test.YtabedmjaodinbaaGreatDoorCards
import Derived.Test.YtabedmjaodinbaaGreatDoorTie
import Derived.ChangeMaps5
import Derived.Deep.DeepWitnessRowRef
import Derived.LaidMore
namespace Go.Proofs.YtabedmjaodinbaaGreatDoor.exactParseProgram
open Go Go.RowKit Go.ChangeShapes Go.WideShapes Go.ChangeAt

/-- The law said true, and nothing old has turned. -/
def TrueEnd (w : World) (e : Ending) (w' : World) : Prop := e = .returned (.bool true) ∧ Below w.heap.size w w'

/-- What is known while the law goes on: the two answers' boxes, the model's rows (below S), the program's rows (from S on and below X1). -/
structure Now (w W : World) (X0 X1 S M : Nat) (n m : Nat) (p : Int) (a1 b1 a2 b2 : Option Addr) (c1 d1 c2 d2 : Nat) (xs ys gs hs : List Value) : Prop where
  below : Below w.heap.size w W
  p0 : Box3 W X0 (.slice a1 n c1) (.int .i64 p) (.slice b1 m d1)
  p1 : Box3 W X1 (.slice a2 n c2) (.int .i64 p) (.slice b2 m d2)
  r1 : Row W S a1 xs
  r2 : Row W S b1 ys
  g1 : W.ownsRow S 9 1 (.slice a2 n c2) n gs
  g2 : W.ownsRow M 44 5 (.slice b2 m d2) m hs
  l1 : ∀ j, (Value.slice a2 n c2).ownBlock = some j → j < M
  l2 : ∀ j, (Value.slice b2 m d2).ownBlock = some j → j < X1
  o0 : w.heap.size ≤ X0
  o1 : X0 < S
  o2 : S ≤ M
  o3 : M ≤ X1
  o4 : X1 < W.heap.size
section
variable {w W W' : World} {X0 X1 S M n m : Nat} {p : Int} {a1 b1 a2 b2 : Option Addr} {c1 d1 c2 d2 : Nat} {xs ys gs hs : List Value}
theorem Now.call (h : Now w W X0 X1 S M n m p a1 b1 a2 b2 c1 d1 c2 d2 xs ys gs hs) (hb : Below W.heap.size W W') : Now w W' X0 X1 S M n m p a1 b1 a2 b2 c1 d1 c2 d2 xs ys gs hs :=
  have h0 := h.o0
  have h1 := h.o1
  have h2 := h.o2
  have h3 := h.o3
  have h4 := h.o4
  ⟨h.below.trans (hb.mono (by omega)), h.p0.keep (by omega) hb, h.p1.keep h4 hb, h.r1.keeps fun _ hp => hb.cell (by omega), h.r2.keeps fun _ hp => hb.cell (by omega), own_keeps h.g1 hb, own_keeps h.g2 hb, h.l1, h.l2, h0, h1, h2, h3, Nat.lt_of_lt_of_le h4 hb.size⟩
theorem Now.mark {k : Nat} {e : Ending} (h : Now w W X0 X1 S M n m p a1 b1 a2 b2 c1 d1 c2 d2 xs ys gs hs) (hm : MarkedProg S M k n m a2 b2 c2 d2 W e W') :
    Now w W' X0 X1 S M n m p a1 b1 a2 b2 c1 d1 c2 d2 xs ys (strVals (marksFrom k n)) (edVals (marksE (k + n) m)) := by
  obtain ⟨_, q1, q2, hsz, hos, htape, hout, hk⟩ := hm
  have h0 := h.o0
  have h1 := h.o1
  have h2 := h.o2
  have h3 := h.o3
  have h4 := h.o4
  have old : ∀ j, (j < S ∨ j = X1) → W'.heap[j]? = W.heap[j]? := fun j hj => hk j (by omega) (fun e => by have := (h.g1.lt j e).1; have := h.l1 j e; omega) (fun e => by have := (h.g2.lt j e).1; have := h.l2 j e; omega)
  have kc : ∀ g o, (g < S ∨ g = X1) → W'.cell? ⟨g, o, none⟩ = W.cell? ⟨g, o, none⟩ := fun g o hg => World.cell?_of_block (old g hg)
  exact ⟨⟨hos.trans h.below.os, htape.trans h.below.tape, hout.trans h.below.output, Nat.le_trans h.below.size hsz, fun j hj => (old j (.inl (by omega))).trans (h.below.block j hj)⟩,
    ⟨(kc _ 0 (.inl h1)).trans h.p0.1, (kc _ 1 (.inl h1)).trans h.p0.2.1, (kc _ 2 (.inl h1)).trans h.p0.2.2⟩, ⟨(kc _ 0 (.inr rfl)).trans h.p1.1, (kc _ 1 (.inr rfl)).trans h.p1.2.1, (kc _ 2 (.inr rfl)).trans h.p1.2.2⟩,
    h.r1.keeps fun p hp => World.cell?_of_block (old _ (.inl hp)), h.r2.keeps fun p hp => World.cell?_of_block (old _ (.inl hp)), q1, q2, h.l1, h.l2, h0, h1, h2, h3, Nat.lt_of_lt_of_le h4 hsz⟩
end

set_option maxHeartbeats 3200000 in
theorem walk (s : ByteArray) (w : World) (hs : s.size ≤ maxLen) (hT : Tabs w) : Calls Tryz.prog 4 #[.string s] w (TrueEnd w) := by
  unfold maxLen at hs
  by_cases hbig : 1048576 < s.size
  · go_enter Tryz.func4, Tryz.ntmps4
    go_wp2
    go_ret
    exact ⟨rfl, Below.refl _ _⟩
  obtain ⟨q, ss, p, es, hP, hgot⟩ := parsed s
  have hl := hP.len
  have he := hP.edges
  go_enter Tryz.func4, Tryz.ntmps4
  go_wp2_with fail
  refine (specParseProg s _ (by omega)).mono fun e w1 h => ?_
  obtain ⟨a1, c1, b1, d1, M1, rfl, hc1, hd1, hM1, hM1', ho1, hr1, hp1, hb1⟩ := hgot _ _ _ h
  clear h
  go_wp2_with fail
  obtain ⟨W2, hW2, hb2, hs2, hX2⟩ := one_box w1 (.slice a1 ss.length c1) (.int .i64 p) (.slice b1 es.length d1) 27
  rw [hW2]
  clear hW2
  have hB2 := hb1.trans (hb2.mono hb1.size)
  refine (implParseProg s _ (by omega) (hT.keeps hB2)).mono fun e w3 h => ?_
  obtain ⟨a2, c2, b2, d2, M, rfl, hc2, hd2, hM, hM', ho3, hr3, hp3, hb3⟩ := hgot _ _ _ h
  clear h
  obtain ⟨e0, e1, e2⟩ := hX2.keep hs2 hb3
  have hX3 : w1.heap.size < w3.heap.size := Nat.lt_of_lt_of_le hs2 hb3.size
  have hX3' : ¬ w1.heap.size = w3.heap.size := by omega
  go_wp2_with fail
  obtain ⟨W4, hW4, hb4, hs4, hX4⟩ := one_box w3 (.slice a2 ss.length c2) (.int .i64 p) (.slice b2 es.length d2) 27
  rw [hW4]
  clear hW4
  have hb24 := hb3.trans (hb4.mono hb3.size)
  have hN : Now w W4 w1.heap.size w3.heap.size W2.heap.size M ss.length es.length p a1 b1 a2 b2 c1 d1 c2 d2 (strVals ss) (edVals es) (strVals ss) (edVals es) :=
    ⟨hB2.trans (hb24.mono hB2.size), hX2.keep hs2 hb24, hX4, ((Row.owned ho1).below (hb2.trans (hb24.mono hb2.size))).grow (by omega), ((Row.ownedN hp1).below (hb2.trans (hb24.mono hb2.size))).grow (by omega), own_keeps ho3 hb4, own_keeps hp3 hb4,
      hr3, fun j hj => (hp3.lt j hj).2, hb1.size, hs2, hM, hM', hs4⟩
  clear ho1 hr1 hp1 hb1 hb2 hX2 hB2 ho3 hr3 hp3 hb3 hb4 hX4 hb24 e0 e1 e2 hX3 hX3' hs2 hs4 hM hM' hM1 hM1'
  generalize w1.heap.size = X0 at *
  generalize w3.heap.size = X1 at *
  generalize W2.heap.size = S at *
  have hlm : ss.length ≤ maxLen := by unfold maxLen; omega
  have hem : es.length ≤ maxLen := by unfold maxLen; omega
  refine (eqProgramSame a2 b2 a1 b1 c2 d2 c1 d1 ss p es _ hlm hem (Row.owned hN.g1) (Row.ownedN hN.g2) (hN.r1.grow (by have := hN.o1; have := hN.o2; have := hN.o3; have := hN.o4; omega)) (hN.r2.grow (by have := hN.o1; have := hN.o2; have := hN.o3; have := hN.o4; omega))).mono ?_
  rintro e w5 ⟨rfl, hb5⟩
  have hN5 := hN.call hb5
  clear hN hb5
  obtain ⟨e0, e1, e2⟩ := hN5.p1
  go_wp2_with fail
  refine (markProgram S M 1 ss.length es.length a2 b2 c2 d2 _ _ p _ (by omega) (by omega) (by omega) hN5.g1 hN5.g2 (fun j h1 h2 => by have := hN5.l1 j h1; have := (hN5.g2.lt j h2).1; omega)).mono ?_
  rintro e w6 hm6
  have hN6 := hN5.mark hm6
  obtain ⟨rfl, _⟩ := hm6
  clear hN5 e0 e1 e2
  obtain ⟨e0, e1, e2⟩ := hN6.p1
  have E1 : ((1 + ss.length + es.length * 5 : Nat) : Int) = ((1 + ss.length + es.length * 5 : Nat) : Int) := rfl
  go_wp2_with fail
  refine (heldProgram 1 ss.length es.length a2 b2 c2 d2 p _ (by omega) (by omega) (by omega) (Row.owned hN6.g1) (Row.ownedN hN6.g2)).mono ?_
  rintro e w7 ⟨rfl, hb7⟩
  have hN7 := hN6.call hb7
  clear hN6 hb7 e0 e1 e2
  have hq7 : ¬ (((1 + ss.length + es.length * 5 : Nat) : Int) < 0) := by omega
  go_wp2_with fail
  refine (implParseProg s _ (by omega) (hT.keeps hN7.below)).mono fun e w8 h => ?_
  obtain ⟨a3, c3, b3, d3, M3, rfl, hc3, hd3, hM3, hM3', ho8, hr8, hp8, hb8⟩ := hgot _ _ _ h
  clear h
  have hN8 := hN7.call hb8
  clear hN7
  have hsz8 := hN8.o4
  have hX8 : X0 < w8.heap.size := by have := hN8.o1; have := hN8.o2; have := hN8.o3; omega
  have hX8' : ¬ X0 = w8.heap.size := by omega
  obtain ⟨e0, e1, e2⟩ := hN8.p0
  go_wp2_with fail
  obtain ⟨W9, hW9, hb9, hs9, hX9⟩ := one_box w8 (.slice a3 ss.length c3) (.int .i64 p) (.slice b3 es.length d3) 27
  rw [hW9]
  clear hW9 e0 e1 e2
  have hN9 := hN8.call hb9
  have ho9 := own_keeps ho8 hb9
  have hp9 := own_keeps hp8 hb9
  clear hN8 ho8 hp8 hb8 hb9 hX9 hX8 hX8' hsz8 hr8
  refine (eqProgramSame a3 b3 a1 b1 c3 d3 c1 d1 ss p es _ hlm hem (Row.owned ho9) (Row.ownedN hp9) (hN9.r1.grow (by have := hN9.o1; have := hN9.o2; have := hN9.o3; have := hN9.o4; omega)) (hN9.r2.grow (by have := hN9.o1; have := hN9.o2; have := hN9.o3; have := hN9.o4; omega))).mono ?_
  rintro e w10 ⟨rfl, hb10⟩
  have hN10 := hN9.call hb10
  clear hN9 ho9 hp9 hb10
  obtain ⟨e0, e1, e2⟩ := hN10.p1
  go_wp2_with fail
  refine (heldProgram 1 ss.length es.length a2 b2 c2 d2 p _ (by omega) (by omega) (by omega) (Row.owned hN10.g1) (Row.ownedN hN10.g2)).mono ?_
  rintro e w11 ⟨rfl, hb11⟩
  have hN11 := hN10.call hb11
  clear hN10 hb11 e0 e1 e2
  go_wp2
  go_ret
  exact ⟨rfl, hN11.below⟩

theorem own : ownKnob Tryz.prog.godebug = none := by kernel_rfl
theorem laidOut : laidOutB Tryz.prog = true := by kernel_rfl
set_option maxRecDepth 100000 in
theorem contract (H : Type) (enc : TypeId × Value → H) (W : World) (base : Nat) (args : Array Value) (ds gs : List (DataW H)) (before : List MemPlace)
    (hval : ∀ (j : Nat) t v, Tryz.f4.params[j]? = some t → args[j]? = some v → Value.okWide Tryz.prog W .any base t v)
    (hW : DataW.Whole enc Tryz.prog Tryz.f4.params.toList Rows.fnExactParseProgramSpec.vars false W args.toList ds gs before)
    (hL : laidMetH Tryz.prog Rows.fnExactParseProgramRow.laid W) (hSh : W.ShapedOpen Tryz.prog) :
    Calls Tryz.prog 4 args W fun e W' => ∃ v, e = .returned v ∧ Rows.fnExactParseProgramSpec.post enc Tryz.prog Tryz.f4 false true false false W args v W' := by
  have hW' := hW
  have hpows : Pows W := pows_of hL
  have hsents : Sents W := sents_of4 hL
  have hswitch : Switch W := switch_of hSh
  have hnamesTable : HasNamesTable W := namesTable_of 6 hL rfl
  have hstmtSigns : HasSigns W := stmtSigns_of 7 hL rfl
  obtain ⟨p, q, hA0, hV, rfl, _, _⟩ := hW
  have hA : DataW.TrodAll enc Tryz.prog W 0 (fun _ => true) true Tryz.f4.params.toList args.toList ds p := hA0
  rw [Tryz.params4] at hA hval
  obtain ⟨v0, d0, rfl, rfl, t0⟩ := trodAll_one hA
  obtain ⟨g1, gs1, q1, rfl, hV1⟩ := gs_cons hV
  obtain ⟨g2, gs2, q2, rfl, hV2⟩ := gs_cons hV1
  obtain ⟨rfl, _⟩ := trodVars_none hV2
  obtain ⟨s0, rfl, _, _, hs0⟩ := Go.ChangeMaps.open_string Tryz.underlying9 (hval 0 9 v0 rfl rfl) t0
  refine (walk s0 W hs0 ⟨hswitch, hstmtSigns, hnamesTable, hpows, hsents⟩).mono fun e W' ⟨he, hb⟩ => ?_
  subst he
  exact ⟨_, rfl, law_post_vars laidOut (by kernel_rfl) (by kernel_rfl) (by kernel_rfl) Tryz.underlying4 hW' rfl hb⟩

/-- A world for the witness. -/
noncomputable def start (os : Os) : World :=
  { World.doorLaid Tryz.prog 4000 os with heap := (World.doorLaid Tryz.prog 4000 os).heap.modify 6 fun
      | .cells _ t frozen => .cells (Go.Pinned.utf8FirstZ.map fun (n : Nat) => Value.int .u8 (n : Int)).toArray t frozen
      | o => o }
theorem laid_met (os : Os) : laidMet Tryz.prog Rows.fnExactParseProgramRow.laid ((start os).forCall (fun _ _ => 0) ⟨#[], #[.string ⟨#[]⟩], []⟩).memory :=
  laidMet_of_run' 8 (by kernel_rfl) (by kernel_rfl)
theorem reads (os : Os) {H : Type} (enc : TypeId × Value → H) : ∃ places, DataW.whole enc Tryz.prog ((start os).forCall (fun _ _ => 0) ⟨#[], #[.string ⟨#[]⟩], []⟩).memory Tryz.f4.params.toList Rows.fnExactParseProgramSpec.vars false #[Value.string ⟨#[]⟩].toList 8 = some ([.lit (.string [])], [Rows.laid_loop_example_g00590_impl_stmtSigns, Rows.laid_loop_example_g00590_impl_namesTable], places) :=
  ⟨[.cell 2 0, .cell 2 1, .cell 2 2, .cell 0 0, .cell 0 1, .cell 0 2, .cell 0 3, .cell 0 4, .cell 0 5, .cell 0 6, .cell 0 7, .cell 0 8, .cell 0 9, .cell 0 10, .cell 0 11, .cell 0 12], by kernel_rfl⟩

set_option maxRecDepth 100000 in
theorem lifted (os : Os) (started : os.Started) (H : Type) (enc : TypeId × Value → H) (F : Stop.Interp) :
    ReturnsInHanded {} Tryz.checked os 4 .any ((OpenSpec.ofChange Rows.fnExactParseProgramSpec).preRow enc Tryz.prog Tryz.f4 Rows.fnExactParseProgramRow.domain false Rows.fnExactParseProgramRow.laid) (((OpenSpec.ofChange Rows.fnExactParseProgramSpec).at F).post enc Tryz.prog Tryz.f4 false true false false) := by
  obtain ⟨places, hx⟩ := reads os enc
  refine returnsInHanded_of_row (C := Tryz.checked) (s := OpenSpec.ofChange Rows.fnExactParseProgramSpec) own started (by kernel_rfl) Tryz.func4
    (witness_row_atRef (enc := enc) (C := Tryz.checked) false (start os) #[.string ⟨#[]⟩] rfl (by kernel_rfl) (by kernel_rfl) (by kernel_rfl)
      (OpenSpec.preRow_of_cond 8 hx (by kernel_rfl) (fun k hk => by cases hk) (by kernel_rfl) (laid_met os))) ?_
  intro W base args ds gs before hval hW _ _ _ hL hSh _
  exact contract H enc W base args ds gs before hval hW hL hSh

theorem said : Rows.FnExactParseProgramSaid :=
  OpenClaim.holds_of_cond 4 Tryz.f4 rfl rfl rfl rfl rfl rfl rfl ⟨rfl, rfl, rfl, rfl, rfl⟩ rfl rfl rfl rfl rfl (by kernel_rfl) Tryz.func4 (by kernel_rfl)
    (of_decide_eq_true (by kernel_rfl)) (by unfold Func.isWrapper; first | (rw [if_pos (by decide +kernel)]; kernel_rfl) | (rw [if_neg (by decide +kernel)]; exact ⟨rfl, rfl⟩))
    (fun os started H enc _ F => by rw [OpenClaim.pre_eq_preRow]; exact lifted os started H enc F)

theorem plain (f : FuncId) (fn : Func) (hf : Tryz.pinned.checked.prog.funcNamed "loop.example/g00590/laws.FnExactParseProgram" = some f) (hfn : Tryz.pinned.checked.prog.funcs[f]? = some fn) :
    Rows.fnExactParseProgramCard.stood.looks = Tryz.pinned.checked.prog.looks [] ∧ ∀ (j : Nat) t, fn.params[j]? = some t → Tryz.pinned.checked.prog.wantsStandIn t = false := by
  obtain rfl : f = 4 := Option.some.inj ((show Tryz.prog.funcNamed "loop.example/g00590/laws.FnExactParseProgram" = some 4 by kernel_rfl).symm.trans hf) |>.symm
  obtain rfl : fn = Tryz.f4 := (Option.some.inj (Tryz.func4.symm.trans hfn)).symm
  refine ⟨by kernel_rfl, fun j t ht => ?_⟩
  rw [Tryz.params4] at ht
  have hm : t ∈ [9] := by simpa using Array.mem_of_getElem? ht
  have hall : ([9].all fun u => !Tryz.prog.wantsStandIn u) = true := by kernel_rfl
  exact (show Tryz.prog.wantsStandIn t = false by simpa using List.all_eq_true.1 hall t hm)

/-- The card. -/
theorem card : Rows.FnExactParseProgramCardSaid :=
  Claim7.holds_tied_plain_at .later [] _ _ _ _ said (fun _ h => by cases h) (by kernel_rfl) (fun _ h => by cases h) fnExactParseProgram_row_tie rfl ⟨rfl, rfl⟩ (by kernel_rfl) rfl plain (by kernel_rfl)
#print axioms card
end Go.Proofs.YtabedmjaodinbaaGreatDoor.exactParseProgram
