/-
  Proved: for every list of bytes the law FnStmtText returns true and leaves its argument as it was, where the listed tables of the program read as its text lays them (the card ties them).
-/
import Derived.Test.YtnakpbagaopelaaDoorDrawStmtText
import Derived.Test.YtnakpbagaopelaaDoorSpecParseStmt
import Derived.Test.YtnakpbagaopelaaDoorCards
import Derived.Test.YtnakpbagaopelaaDoorTie
import Derived.ChangeMaps5
import Derived.Deep.DeepWitnessRowRef
import Derived.LaidMore
namespace Go.Proofs.YtnakpbagaopelaaDoor.stmtText
open Go Go.RowKit Go.ChangeShapes Go.WideShapes Go.ChangeAt

/-- The law said true, and nothing old has turned. -/
def TrueEnd (w : World) (e : Ending) (w' : World) : Prop := e = .returned (.bool true) ∧ Below w.heap.size w w'

/-- A statement lies in a block. -/
def At3 (w : World) (g : Nat) (k : Int) (a b : ByteArray) : Prop :=
  g < w.heap.size ∧ w.cell? ⟨g, 0, none⟩ = some (.int .i64 k) ∧ w.cell? ⟨g, 1, none⟩ = some (.string a) ∧ w.cell? ⟨g, 2, none⟩ = some (.string b)
theorem At3.keeps {w w' : World} {g : Nat} {k : Int} {a b : ByteArray} (h : At3 w g k a b) (hb : Below w.heap.size w w') : At3 w' g k a b :=
  ⟨Nat.lt_of_lt_of_le h.1 hb.size, (hb.cell (p := ⟨g, 0, none⟩) h.1).trans h.2.1, (hb.cell (p := ⟨g, 1, none⟩) h.1).trans h.2.2.1, (hb.cell (p := ⟨g, 2, none⟩) h.1).trans h.2.2.2⟩
theorem At3.new (w : World) (k : Int) (a b : ByteArray) (t : TypeId) : At3 (w.alloc (.cells #[.int .i64 k, .string a, .string b] t)) w.heap.size k a b := by
  refine ⟨by simp, ?_, ?_, ?_⟩ <;> rw [World.cell?_alloc_at _ _ _ _ rfl] <;> rfl
theorem alloc_below (w : World) (o : Obj) : Below w.heap.size w (w.alloc o) := (Below.refl _ _).alloc (Nat.le_refl _) _

theorem parse_text (k : Int) (a b : ByteArray) : (textS k a b = ⟨#[]⟩ ∧ parseV (textS k a b) = .tuple #[stV 0 ⟨#[]⟩ ⟨#[]⟩, .bool false]) ∨ ((textS k a b).toList.isEmpty = false ∧ parseV (textS k a b) = .tuple #[stV k a b, .bool true]) := by
  by_cases h : textS k a b = ⟨#[]⟩
  · exact .inl ⟨h, by rw [h]; rfl⟩
  · refine .inr ?_
    obtain ⟨h1, h2, h3, h4⟩ := parsesS_of rfl h
    refine ⟨?_, by rw [parseV, if_pos h1, h2, h3, h4]⟩
    cases hh : (textS k a b).toList.isEmpty with
    | false => rfl
    | true => exact absurd (size_zero hh) h
theorem parse_cases (t : ByteArray) : parseV t = .tuple #[stV 0 ⟨#[]⟩ ⟨#[]⟩, .bool false] ∨ ∃ k a b, parseV t = .tuple #[stV k a b, .bool true] ∧ textS k a b = t ∧ a.size ≤ t.size ∧ b.size ≤ t.size := by
  cases h : parsesS t with
  | false => exact .inl (by rw [parseV, h]; rfl)
  | true => exact .inr ⟨guessK t, guessA t, guessB t, by rw [parseV, h]; rfl, (parsesS_text h).2, (guess_sizes t).1, (guess_sizes t).2⟩

set_option maxRecDepth 100000 in
set_option maxHeartbeats 3200000 in
theorem walk (a : Option Addr) (n cap : Nat) (w : World) (hn : n ≤ maxLen) (hcode : Code8 w w.heap.size n a) (hT : HasNamesTable w) (hS : HasSigns w) (hsw : Switch w) : Calls Tryd.prog 3 #[.slice a n cap] w (TrueEnd w) := by
  by_cases hbig : 1048576 < n
  · go_enter Tryd.func3, Tryd.ntmps3
    go_wp2_with fail
    refine (bigYes a n cap _ hn hbig).mono ?_
    rintro e w1 ⟨rfl, rfl⟩
    go_wp2
    go_ret
    exact ⟨rfl, Below.refl _ _⟩
  · go_enter Tryd.func3, Tryd.ntmps3
    go_wp2_with fail
    refine (bigNo a n cap _ (by omega)).mono ?_
    rintro e w1 ⟨rfl, rfl⟩
    go_wp2_with fail
    refine (drawStmtText a n cap _ (by omega) hcode).mono ?_
    rintro e w1 ⟨k, sa, sb, hk0, hk1, hsa, hsb, rfl, hB1⟩
    have hza : sa.size ≤ maxLen := by unfold maxLen; omega
    have hzb : sb.size ≤ maxLen := by unfold maxLen; omega
    have hpt := parse_text k sa sb
    have hzt := textS_size k sa sb
    generalize htx : textS k sa sb = tx at *
    have HX := Lib.hid htx
    have HPT := Lib.hid hpt
    clear htx hpt
    have As := At3.new w1 k sa sb 25
    have hB1' : Below w.heap.size w (w1.alloc (.cells #[.int .i64 k, .string sa, .string sb] 25)) := hB1.trans ((alloc_below _ _).mono hB1.size)
    go_wp2_with fail
    refine (implStmtText k sa sb _ hza hzb (hT.keeps hB1')).mono ?_
    rw [HX.out]
    rintro e w2 ⟨rfl, hb2⟩
    replace As := As.keeps hb2
    have hB2 : Below w.heap.size w w2 := hB1'.trans (hb2.mono hB1'.size)
    clear hb2
    rcases HPT.out with ⟨rfl, hpv⟩ | ⟨hne, hpv⟩
    · have HPV := Lib.hid hpv
      clear hpv HPT
      go_wp2_with fail
      refine (implParse _ _ (by decide) (hsw.keeps hB2) (hS.keeps hB2) (hT.keeps hB2)).mono ?_
      rw [HPV.out]
      rintro e w3 ⟨rfl, hb3⟩
      replace As := (As.keeps hb3).keeps (alloc_below w3 (.cells #[.int .i64 0, .string ⟨#[]⟩, .string ⟨#[]⟩] 25))
      have hB3 : Below w.heap.size w (w3.alloc (.cells #[.int .i64 0, .string ⟨#[]⟩, .string ⟨#[]⟩] 25)) := (hB2.trans (hb3.mono hB2.size)).trans ((alloc_below _ _).mono (hB2.trans (hb3.mono hB2.size)).size)
      clear hb3
      obtain ⟨ls, s0, s1, s2⟩ := As
      go_wp2_with fail
      refine (specStmtText k sa sb _ hza hzb).mono ?_
      rw [HX.out]
      rintro e w4 ⟨rfl, hb4⟩
      have hB4 := hB3.trans (hb4.mono hB3.size)
      clear hb4
      have hcode4 : Code8 w4 w4.heap.size n a := (hcode.keeps fun p hp => hB4.cell hp).grow hB4.size
      go_wp2_with fail
      refine (drawParseStmt a n cap _ (by omega) hcode4).mono ?_
      rintro e w5 ⟨u, hu, rfl, hb5⟩
      have hB5 := hB4.trans (hb5.mono hB4.size)
      clear hb5 hcode4
      rcases parse_cases u with hpu | ⟨k5, a5, b5, hpu, htu, ha5, hb5⟩
      · have HPU := Lib.hid hpu
        clear hpu
        go_wp2_with fail
        refine (implParse u _ (by omega) (hsw.keeps hB5) (hS.keeps hB5) (hT.keeps hB5)).mono ?_
        rw [HPU.out]
        rintro e w6 ⟨rfl, hb6⟩
        have hB6 : Below w.heap.size w (w6.alloc (.cells #[.int .i64 0, .string ⟨#[]⟩, .string ⟨#[]⟩] 25)) := (hB5.trans (hb6.mono hB5.size)).trans ((alloc_below _ _).mono (hB5.trans (hb6.mono hB5.size)).size)
        clear hb6
        go_wp2_with fail
        refine (specParse u _ (by omega)).mono ?_
        rw [HPU.out]
        rintro e w7 ⟨rfl, hb7⟩
        have hB7 : Below w.heap.size w (w7.alloc (.cells #[.int .i64 0, .string ⟨#[]⟩, .string ⟨#[]⟩] 25)) := (hB6.trans (hb7.mono hB6.size)).trans ((alloc_below _ _).mono (hB6.trans (hb7.mono hB6.size)).size)
        clear hb7
        go_wp2
        go_ret
        exact ⟨rfl, hB7⟩
      · have HPU := Lib.hid hpu
        have HTU := Lib.hid htu
        clear hpu htu
        go_wp2_with fail
        refine (implParse u _ (by omega) (hsw.keeps hB5) (hS.keeps hB5) (hT.keeps hB5)).mono ?_
        rw [HPU.out]
        rintro e w6 ⟨rfl, hb6⟩
        have Ay := At3.new w6 k5 a5 b5 25
        have hB6 : Below w.heap.size w (w6.alloc (.cells #[.int .i64 k5, .string a5, .string b5] 25)) := (hB5.trans (hb6.mono hB5.size)).trans ((alloc_below _ _).mono (hB5.trans (hb6.mono hB5.size)).size)
        clear hb6
        go_wp2_with fail
        refine (specParse u _ (by omega)).mono ?_
        rw [HPU.out]
        rintro e w7 ⟨rfl, hb7⟩
        have hB7 : Below w.heap.size w (w7.alloc (.cells #[.int .i64 k5, .string a5, .string b5] 25)) := (hB6.trans (hb7.mono hB6.size)).trans ((alloc_below _ _).mono (hB6.trans (hb7.mono hB6.size)).size)
        obtain ⟨ly, y0, y1, y2⟩ := (Ay.keeps hb7).keeps (alloc_below w7 (.cells #[.int .i64 k5, .string a5, .string b5] 25))
        clear hb7 Ay
        go_wp2_with fail
        refine (implStmtText k5 a5 b5 _ (by unfold maxLen; omega) (by unfold maxLen; omega) (hT.keeps hB7)).mono ?_
        rw [HTU.out]
        rintro e w8 ⟨rfl, hb8⟩
        have hB8 := hB7.trans (hb8.mono hB7.size)
        go_wp2
        go_ret
        exact ⟨rfl, hB8⟩
    · have hne2 : (!tx.toList.isEmpty) = true := by rw [hne]; rfl
      have HPV := Lib.hid hpv
      clear hpv HPT
      go_wp2_with fail
      refine (implParse _ _ (by omega) (hsw.keeps hB2) (hS.keeps hB2) (hT.keeps hB2)).mono ?_
      rw [HPV.out]
      rintro e w3 ⟨rfl, hb3⟩
      have Ax := At3.new w3 k sa sb 25
      replace As := (As.keeps hb3).keeps (alloc_below w3 (.cells #[.int .i64 k, .string sa, .string sb] 25))
      have hB3 : Below w.heap.size w (w3.alloc (.cells #[.int .i64 k, .string sa, .string sb] 25)) := (hB2.trans (hb3.mono hB2.size)).trans ((alloc_below _ _).mono (hB2.trans (hb3.mono hB2.size)).size)
      clear hb3
      have As0 := As
      have Ax0 := Ax
      obtain ⟨ls, s0, s1, s2⟩ := As
      go_wp2_with fail
      refine (specStmtText k sa sb _ hza hzb).mono ?_
      rw [HX.out]
      rintro e w4 ⟨rfl, hb4⟩
      obtain ⟨ls4, s04, s14, s24⟩ := As0.keeps hb4
      obtain ⟨lx4, x04, x14, x24⟩ := Ax0.keeps hb4
      have hB4 := hB3.trans (hb4.mono hB3.size)
      clear hb4 ls s0 s1 s2
      have hcode4 : Code8 w4 w4.heap.size n a := (hcode.keeps fun p hp => hB4.cell hp).grow hB4.size
      go_wp2_with fail
      refine (drawParseStmt a n cap _ (by omega) hcode4).mono ?_
      rintro e w5 ⟨u, hu, rfl, hb5⟩
      have hB5 := hB4.trans (hb5.mono hB4.size)
      clear hb5 hcode4
      rcases parse_cases u with hpu | ⟨k5, a5, b5, hpu, htu, ha5, hb5⟩
      · have HPU := Lib.hid hpu
        clear hpu
        go_wp2_with fail
        refine (implParse u _ (by omega) (hsw.keeps hB5) (hS.keeps hB5) (hT.keeps hB5)).mono ?_
        rw [HPU.out]
        rintro e w6 ⟨rfl, hb6⟩
        have hB6 : Below w.heap.size w (w6.alloc (.cells #[.int .i64 0, .string ⟨#[]⟩, .string ⟨#[]⟩] 25)) := (hB5.trans (hb6.mono hB5.size)).trans ((alloc_below _ _).mono (hB5.trans (hb6.mono hB5.size)).size)
        clear hb6
        go_wp2_with fail
        refine (specParse u _ (by omega)).mono ?_
        rw [HPU.out]
        rintro e w7 ⟨rfl, hb7⟩
        have hB7 : Below w.heap.size w (w7.alloc (.cells #[.int .i64 0, .string ⟨#[]⟩, .string ⟨#[]⟩] 25)) := (hB6.trans (hb7.mono hB6.size)).trans ((alloc_below _ _).mono (hB6.trans (hb7.mono hB6.size)).size)
        clear hb7
        go_wp2
        go_ret
        exact ⟨rfl, hB7⟩
      · have HPU := Lib.hid hpu
        have HTU := Lib.hid htu
        clear hpu htu
        go_wp2_with fail
        refine (implParse u _ (by omega) (hsw.keeps hB5) (hS.keeps hB5) (hT.keeps hB5)).mono ?_
        rw [HPU.out]
        rintro e w6 ⟨rfl, hb6⟩
        have Ay := At3.new w6 k5 a5 b5 25
        have hB6 : Below w.heap.size w (w6.alloc (.cells #[.int .i64 k5, .string a5, .string b5] 25)) := (hB5.trans (hb6.mono hB5.size)).trans ((alloc_below _ _).mono (hB5.trans (hb6.mono hB5.size)).size)
        clear hb6
        go_wp2_with fail
        refine (specParse u _ (by omega)).mono ?_
        rw [HPU.out]
        rintro e w7 ⟨rfl, hb7⟩
        have hB7 : Below w.heap.size w (w7.alloc (.cells #[.int .i64 k5, .string a5, .string b5] 25)) := (hB6.trans (hb7.mono hB6.size)).trans ((alloc_below _ _).mono (hB6.trans (hb7.mono hB6.size)).size)
        obtain ⟨ly, y0, y1, y2⟩ := (Ay.keeps hb7).keeps (alloc_below w7 (.cells #[.int .i64 k5, .string a5, .string b5] 25))
        clear hb7 Ay
        go_wp2_with fail
        refine (implStmtText k5 a5 b5 _ (by unfold maxLen; omega) (by unfold maxLen; omega) (hT.keeps hB7)).mono ?_
        rw [HTU.out]
        rintro e w8 ⟨rfl, hb8⟩
        have hB8 := hB7.trans (hb8.mono hB7.size)
        go_wp2
        go_ret
        exact ⟨rfl, hB8⟩

theorem own : ownKnob Tryd.prog.godebug = none := by kernel_rfl
theorem laidOut : laidOutB Tryd.prog = true := by kernel_rfl
theorem cellsByte : Tryd.prog.cellsOf 5 = 1 := by kernel_rfl
set_option maxRecDepth 100000 in
theorem contract (H : Type) (enc : TypeId × Value → H) (W : World) (base : Nat) (args : Array Value) (ds gs : List (DataW H)) (before : List MemPlace)
    (hval : ∀ (j : Nat) t v, Tryd.f3.params[j]? = some t → args[j]? = some v → Value.okWide Tryd.prog W .any base t v)
    (hW : DataW.Whole enc Tryd.prog Tryd.f3.params.toList Rows.fnStmtTextSpec.vars false W args.toList ds gs before)
    (hL : laidMetH Tryd.prog Rows.fnStmtTextRow.laid W) (hSh : W.ShapedOpen Tryd.prog) :
    Calls Tryd.prog 3 args W fun e W' => ∃ v, e = .returned v ∧ Rows.fnStmtTextSpec.post enc Tryd.prog Tryd.f3 false true false false W args v W' := by
  have hW' := hW
  have hlt : ∀ x ∈ before, x.block < W.heap.size := fun x hx => hW'.lt x hx
  have hnamesTable : HasNamesTable W := namesTable_of 0 hL rfl
  have hstmtSigns : HasSigns W := stmtSigns_of 1 hL rfl
  have hswitch : Switch W := switch_of hSh
  obtain ⟨p, q, hA0, hV, rfl, _, _⟩ := hW
  have hA : DataW.TrodAll enc Tryd.prog W 0 (fun _ => true) true Tryd.f3.params.toList args.toList ds p := hA0
  rw [Tryd.params3] at hA hval
  obtain ⟨v0, d0, rfl, rfl, t0⟩ := trodAll_one hA
  obtain ⟨g1, gs1, q1, rfl, hV1⟩ := gs_cons hV
  obtain ⟨g2, gs2, q2, rfl, hV2⟩ := gs_cons hV1
  obtain ⟨rfl, _⟩ := trodVars_none hV2
  obtain ⟨a0, n0, cap0, rfl, _, hn0, hcode0⟩ := open_codes Tryd.underlying22 Tryd.underlying5 cellsByte (fun x hx => hlt x (by simp [hx])) (base := base) (hval 0 22 v0 rfl rfl) t0
  refine (walk a0 n0 cap0 W hn0 hcode0 hnamesTable hstmtSigns hswitch).mono fun e W' ⟨he, hb⟩ => ?_
  subst he
  exact ⟨_, rfl, law_post_vars laidOut (by kernel_rfl) (by kernel_rfl) (by kernel_rfl) Tryd.underlying4 hW' rfl hb⟩

/-- A world for the witness. -/
noncomputable def start (os : Os) : World := World.doorLaid Tryd.prog 4000 os
theorem laid_met (os : Os) : laidMet Tryd.prog Rows.fnStmtTextRow.laid ((start os).forCall (fun _ _ => 0) ⟨#[], #[.slice none 0 0], []⟩).memory :=
  laidMet_of_run' 8 (by kernel_rfl) (by kernel_rfl)
theorem reads (os : Os) {H : Type} (enc : TypeId × Value → H) : ∃ places, DataW.whole enc Tryd.prog ((start os).forCall (fun _ _ => 0) ⟨#[], #[.slice none 0 0], []⟩).memory Tryd.f3.params.toList Rows.fnStmtTextSpec.vars false #[Value.slice none 0 0].toList 8 = some ([.nil], [Rows.laid_loop_example_g00590_impl_namesTable, Rows.laid_loop_example_g00590_impl_stmtSigns], places) :=
  ⟨[.cell 0 0, .cell 0 1, .cell 0 2, .cell 0 3, .cell 0 4, .cell 0 5, .cell 0 6, .cell 0 7, .cell 0 8, .cell 0 9, .cell 0 10, .cell 0 11, .cell 0 12, .cell 1 0, .cell 1 1, .cell 1 2], by kernel_rfl⟩

set_option maxRecDepth 100000 in
theorem lifted (os : Os) (started : os.Started) (H : Type) (enc : TypeId × Value → H) (F : Stop.Interp) :
    ReturnsInHanded {} Tryd.checked os 3 .any ((OpenSpec.ofChange Rows.fnStmtTextSpec).preRow enc Tryd.prog Tryd.f3 Rows.fnStmtTextRow.domain false Rows.fnStmtTextRow.laid) (((OpenSpec.ofChange Rows.fnStmtTextSpec).at F).post enc Tryd.prog Tryd.f3 false true false false) := by
  obtain ⟨places, hx⟩ := reads os enc
  refine returnsInHanded_of_row (C := Tryd.checked) (s := OpenSpec.ofChange Rows.fnStmtTextSpec) own started (by kernel_rfl) Tryd.func3
    (witness_row_atRef (enc := enc) (C := Tryd.checked) false (start os) #[.slice none 0 0] rfl (by kernel_rfl) (by kernel_rfl) (by kernel_rfl)
      (OpenSpec.preRow_of_cond 8 hx (by kernel_rfl) (fun k hk => by cases hk) (by kernel_rfl) (laid_met os))) ?_
  intro W base args ds gs before hval hW _ _ _ hL hSh _
  exact contract H enc W base args ds gs before hval hW hL hSh

theorem said : Rows.FnStmtTextSaid :=
  OpenClaim.holds_of_cond 3 Tryd.f3 rfl rfl rfl rfl rfl rfl rfl ⟨rfl, rfl, rfl, rfl, rfl⟩ rfl rfl rfl rfl rfl (by kernel_rfl) Tryd.func3 (by kernel_rfl)
    (of_decide_eq_true (by kernel_rfl)) (by unfold Func.isWrapper; first | (rw [if_pos (by decide +kernel)]; kernel_rfl) | (rw [if_neg (by decide +kernel)]; exact ⟨rfl, rfl⟩))
    (fun os started H enc _ F => by rw [OpenClaim.pre_eq_preRow]; exact lifted os started H enc F)

theorem plain (f : FuncId) (fn : Func) (hf : Tryd.pinned.checked.prog.funcNamed "loop.example/g00590/laws.FnStmtText" = some f) (hfn : Tryd.pinned.checked.prog.funcs[f]? = some fn) :
    Rows.fnStmtTextCard.stood.looks = Tryd.pinned.checked.prog.looks [] ∧ ∀ (j : Nat) t, fn.params[j]? = some t → Tryd.pinned.checked.prog.wantsStandIn t = false := by
  obtain rfl : f = 3 := Option.some.inj ((show Tryd.prog.funcNamed "loop.example/g00590/laws.FnStmtText" = some 3 by kernel_rfl).symm.trans hf) |>.symm
  obtain rfl : fn = Tryd.f3 := (Option.some.inj (Tryd.func3.symm.trans hfn)).symm
  refine ⟨by kernel_rfl, fun j t ht => ?_⟩
  rw [Tryd.params3] at ht
  have hm : t ∈ [22] := by simpa using Array.mem_of_getElem? ht
  have hall : ([22].all fun u => !Tryd.prog.wantsStandIn u) = true := by kernel_rfl
  exact (show Tryd.prog.wantsStandIn t = false by simpa using List.all_eq_true.1 hall t hm)

/-- The card. -/
theorem card : Rows.FnStmtTextCardSaid :=
  Claim7.holds_tied_plain_at .later [] _ _ _ _ said (fun _ h => by cases h) (by kernel_rfl) (fun _ h => by cases h) fnStmtText_row_tie rfl ⟨rfl, rfl⟩ (by kernel_rfl) rfl plain (by kernel_rfl)
#print axioms card
end Go.Proofs.YtnakpbagaopelaaDoor.stmtText
