/-
  What the program guesses a text to be: the walks of its functions, the library's cuts by their contracts, and its ParseStmt.
-/
import Derived.Test.YtabedmjaodinbaaGreatDoorShelf
import Derived.Test.YtabedmjaodinbaaGreatDoorStmtText
import Derived.Laws.Rows
import Derived.WalkSpells
namespace Go.Proofs.YtabedmjaodinbaaGreatDoor
open Go Go.RowKit

/-- The library's own switch holds some int. -/
def Switch (w : World) : Prop := ∃ m : Int, w.cell? ⟨1, 0, none⟩ = some (.int .i64 m)
theorem switch_of {w : World} (h : w.ShapedOpen Tryz.prog) : Switch w := Tryz.laysM145.s1_3 w h
theorem Switch.keeps {w w' : World} (h : Switch w) (hb : Below w.heap.size w w') : Switch w' := by
  obtain ⟨m, hm⟩ := h
  refine ⟨m, (hb.cell ?_).trans hm⟩
  exact World.block_lt_of_cell? w _ hm

/-- The signs, in their order. -/
def HasSigns (w : World) : Prop := w.var? Tryz.prog "loop.example/g00590/impl.stmtSigns" = some #[Value.string ⟨#[61, 61]⟩, .string ⟨#[33, 61]⟩, .string ⟨#[61]⟩]
theorem HasSigns.keeps {w w' : World} (h : HasSigns w) (hb : Below w.heap.size w w') : HasSigns w' := var_stays h hb
theorem gSigns : Tryz.prog.globalNamed "loop.example/g00590/impl.stmtSigns" = some 2 := by kernel_rfl
theorem stmtSigns_of {W : World} (i : Nat) {l : List (String × DataW Unit)} (h : laidMet Tryz.prog l W) (hi : l[i]? = some ("loop.example/g00590/impl.stmtSigns", Rows.laid_loop_example_g00590_impl_stmtSigns)) : HasSigns W :=
  (laid_at (t := 134) i h hi gSigns (by kernel_rfl) (by kernel_rfl)).trans (congrArg some (show (flat Rows.laid_loop_example_g00590_impl_stmtSigns).toArray = _ by kernel_rfl))
theorem HasSigns.cell {w : World} (h : HasSigns w) (i : Nat) : w.cell? ⟨2, i, none⟩ = (#[Value.string ⟨#[61, 61]⟩, .string ⟨#[33, 61]⟩, .string ⟨#[61]⟩])[i]? := World.var?_cell gSigns h i

def gV (g : Int × List UInt8 × List UInt8) : Value := stV g.1 ⟨g.2.1.toArray⟩ ⟨g.2.2.toArray⟩

theorem spell_eq {s : ByteArray} {l : List UInt8} (h : s.data.toList = l) : (s.toList == l) = true := by rw [ByteArray.toList_eq, h]; simp
theorem spell_ne {s : ByteArray} {l : List UInt8} (h : ¬ s.data.toList = l) : (s.toList == l) = false := by rw [ByteArray.toList_eq]; simpa using h

set_option maxHeartbeats 800000 in
theorem implNullOr (x y : Int) (l r : ByteArray) (w : World) : Calls Tryz.prog 108 #[.int .i64 x, .int .i64 y, .string l, .string r] w (GaveB (gV (nullOr x y l.data.toList r.data.toList)) w) := by
  by_cases h : r.data.toList = [110, 117, 108, 108]
  · rw [show gV (nullOr x y l.data.toList r.data.toList) = stV x l ⟨#[]⟩ from by simp [gV, nullOr, h]]
    have hs := spell_eq h
    clear h
    go_enter Tryz.func108, Tryz.ntmps108
    go_wp2
    refine bodyPost_ret (v := stV x l ⟨#[]⟩) (by simp [results, Tryz.results108, go_sem]) rfl ⟨rfl, ?_⟩
    repeat (first | exact Below.refl _ _ | refine Below.alloc ?_ (by simp <;> omega) _ | refine Below.setCell ?_ (by simp <;> omega) _)
  · rw [show gV (nullOr x y l.data.toList r.data.toList) = stV y l r from by simp [gV, nullOr, h]]
    have hs := spell_ne h
    clear h
    go_enter Tryz.func108, Tryz.ntmps108
    go_wp2
    refine bodyPost_ret (v := stV y l r) (by simp [results, Tryz.results108, go_sem]) rfl ⟨rfl, ?_⟩
    repeat (first | exact Below.refl _ _ | refine Below.alloc ?_ (by simp <;> omega) _ | refine Below.setCell ?_ (by simp <;> omega) _)

set_option maxHeartbeats 800000 in
theorem implCommand (t : ByteArray) (w : World) : Calls Tryz.prog 109 #[.string t] w (GaveB (gV (commandL t.data.toList)) w) := by
  cases hp : Lib.hasPrefix t.data.toList [102, 114, 101, 101, 32] with
  | true =>
    rw [show gV (commandL t.data.toList) = stV 8 ⟨(Lib.trimPrefix t.data.toList [102, 114, 101, 101, 32]).toArray⟩ ⟨#[]⟩ from by simp [gV, commandL, hp]]
    generalize hg : (⟨(Lib.trimPrefix t.data.toList [102, 114, 101, 101, 32]).toArray⟩ : ByteArray) = p
    have HP := Lib.hid hp
    have HG := Lib.hid hg
    clear hp hg
    go_enter Tryz.func109, Tryz.ntmps109
    go_wp2_with fail
    refine (Tryz.strings_CutPrefix t ⟨#[102, 114, 101, 101, 32]⟩ _).mono ?_
    rw [show (⟨#[102, 114, 101, 101, 32]⟩ : ByteArray).data.toList = [102, 114, 101, 101, 32] from rfl, HP.out, HG.out]
    rintro e w1 ⟨rfl, hw⟩
    subst hw
    go_wp2
    refine bodyPost_ret (v := stV 8 p ⟨#[]⟩) (by simp [results, Tryz.results109, go_sem]) rfl ⟨rfl, ?_⟩
    repeat (first | exact Below.refl _ _ | refine Below.alloc ?_ (by simp <;> omega) _ | refine Below.setCell ?_ (by simp <;> omega) _)
  | false =>
    by_cases h : t.data.toList = [115, 107, 105, 112]
    · rw [show gV (commandL t.data.toList) = stV 1 ⟨#[]⟩ ⟨#[]⟩ from by rw [h]; rfl]
      have HP := Lib.hid hp
      have hs := spell_eq h
      clear hp h
      go_enter Tryz.func109, Tryz.ntmps109
      go_wp2_with fail
      refine (Tryz.strings_CutPrefix t ⟨#[102, 114, 101, 101, 32]⟩ _).mono ?_
      rw [show (⟨#[102, 114, 101, 101, 32]⟩ : ByteArray).data.toList = [102, 114, 101, 101, 32] from rfl, HP.out]
      generalize (⟨(Lib.trimPrefix t.data.toList [102, 114, 101, 101, 32]).toArray⟩ : ByteArray) = p
      rintro e w1 ⟨rfl, hw⟩
      subst hw
      go_wp2
      refine bodyPost_ret (v := stV 1 ⟨#[]⟩ ⟨#[]⟩) (by simp [results, Tryz.results109, go_sem]) rfl ⟨rfl, ?_⟩
      repeat (first | exact Below.refl _ _ | refine Below.alloc ?_ (by simp <;> omega) _ | refine Below.setCell ?_ (by simp <;> omega) _)
    · rw [show gV (commandL t.data.toList) = stV 0 ⟨#[]⟩ ⟨#[]⟩ from by simp [gV, commandL, hp, h]]
      have HP := Lib.hid hp
      have hs := spell_ne h
      clear hp h
      go_enter Tryz.func109, Tryz.ntmps109
      go_wp2_with fail
      refine (Tryz.strings_CutPrefix t ⟨#[102, 114, 101, 101, 32]⟩ _).mono ?_
      rw [show (⟨#[102, 114, 101, 101, 32]⟩ : ByteArray).data.toList = [102, 114, 101, 101, 32] from rfl, HP.out]
      generalize (⟨(Lib.trimPrefix t.data.toList [102, 114, 101, 101, 32]).toArray⟩ : ByteArray) = p
      rintro e w1 ⟨rfl, hw⟩
      subst hw
      go_wp2
      refine bodyPost_ret (v := stV 0 ⟨#[]⟩ ⟨#[]⟩) (by simp [results, Tryz.results109, go_sem]) rfl ⟨rfl, ?_⟩
      repeat (first | exact Below.refl _ _ | refine Below.alloc ?_ (by simp <;> omega) _ | refine Below.setCell ?_ (by simp <;> omega) _)

set_option maxHeartbeats 1600000 in
theorem implAssign (l r : ByteArray) (w : World) (hl : l.size ≤ maxLen) (hr : r.size ≤ maxLen) : Calls Tryz.prog 107 #[.string l, .string r] w (GaveB (gV (assignL l.data.toList r.data.toList)) w) := by
  unfold maxLen at hl hr
  cases h1 : Lib.hasSuffix l.data.toList [46, 110] with
  | true =>
    rw [show assignL l.data.toList r.data.toList = nullOr 6 7 (Lib.trimSuffix l.data.toList [46, 110]) r.data.toList from by simp [assignL, h1]]
    generalize hg : (⟨(Lib.trimSuffix l.data.toList [46, 110]).toArray⟩ : ByteArray) = p
    rw [show Lib.trimSuffix l.data.toList [46, 110] = p.data.toList from by rw [← hg]]
    generalize hv : gV (nullOr 6 7 p.data.toList r.data.toList) = v
    have hv3 : ∃ k a b, v = stV k a b := ⟨_, _, _, hv.symm⟩
    obtain ⟨k3, a3, b3, rfl⟩ := hv3
    have H1 := Lib.hid h1
    have HG := Lib.hid hg
    have HV := Lib.hid hv
    clear h1 hg hv
    go_enter Tryz.func107, Tryz.ntmps107
    go_wp2_with fail
    refine (Tryz.strings_CutSuffix l ⟨#[46, 110]⟩ _ (by omega)).mono ?_
    rw [show (⟨#[46, 110]⟩ : ByteArray).data.toList = [46, 110] from rfl, H1.out, HG.out]
    rintro e w1 ⟨rfl, hw⟩
    subst hw
    go_wp2_with fail
    refine (implNullOr 6 7 p r _).mono ?_
    rw [HV.out]
    rintro e w2 ⟨rfl, hb2⟩
    obtain ⟨hc2, hf2⟩ := bcell hb2
    have hz2 := hb2.size
    simp at hz2
    go_wp2
    refine bodyPost_ret (v := stV k3 a3 b3) (by simp [results, Tryz.results107, go_sem, hc2]) rfl ⟨rfl, ?_⟩
    repeat (first | exact Below.trans (Below.alloc (Below.refl _ _) (by simp) _) (Below.mono hb2 (by simp)) | refine Below.setCell ?_ (by simp <;> omega) _)
  | false =>
    cases h2 : Lib.hasSuffix r.data.toList [46, 110] with
    | true =>
      rw [show gV (assignL l.data.toList r.data.toList) = stV 5 l ⟨(Lib.trimSuffix r.data.toList [46, 110]).toArray⟩ from by simp [gV, assignL, h1, h2]]
      generalize hg : (⟨(Lib.trimSuffix r.data.toList [46, 110]).toArray⟩ : ByteArray) = p
      have H1 := Lib.hid h1
      have H2 := Lib.hid h2
      have HG := Lib.hid hg
      clear h1 h2 hg
      go_enter Tryz.func107, Tryz.ntmps107
      go_wp2_with fail
      refine (Tryz.strings_CutSuffix l ⟨#[46, 110]⟩ _ (by omega)).mono ?_
      rw [show (⟨#[46, 110]⟩ : ByteArray).data.toList = [46, 110] from rfl, H1.out]
      rintro e w1 ⟨rfl, hw⟩
      subst hw
      go_wp2_with fail
      refine (Tryz.strings_CutSuffix r ⟨#[46, 110]⟩ _ (by omega)).mono ?_
      rw [show (⟨#[46, 110]⟩ : ByteArray).data.toList = [46, 110] from rfl, H2.out, HG.out]
      rintro e w1 ⟨rfl, hw⟩
      subst hw
      go_wp2
      refine bodyPost_ret (v := stV 5 l p) (by simp [results, Tryz.results107, go_sem]) rfl ⟨rfl, ?_⟩
      repeat (first | exact Below.refl _ _ | refine Below.alloc ?_ (by simp <;> omega) _ | refine Below.setCell ?_ (by simp <;> omega) _)
    | false =>
      by_cases h3 : r.data.toList = [110, 101, 119]
      · rw [show gV (assignL l.data.toList r.data.toList) = stV 3 l ⟨#[]⟩ from by simp [gV, assignL, h1, h3, show Lib.hasSuffix [110, 101, 119] [46, 110] = false from rfl]]
        have hs := spell_eq h3
        have H1 := Lib.hid h1
        have H2 := Lib.hid h2
        clear h1 h2 h3
        go_enter Tryz.func107, Tryz.ntmps107
        go_wp2_with fail
        refine (Tryz.strings_CutSuffix l ⟨#[46, 110]⟩ _ (by omega)).mono ?_
        rw [show (⟨#[46, 110]⟩ : ByteArray).data.toList = [46, 110] from rfl, H1.out]
        rintro e w1 ⟨rfl, hw⟩
        subst hw
        go_wp2_with fail
        refine (Tryz.strings_CutSuffix r ⟨#[46, 110]⟩ _ (by omega)).mono ?_
        rw [show (⟨#[46, 110]⟩ : ByteArray).data.toList = [46, 110] from rfl, H2.out]
        rintro e w1 ⟨rfl, hw⟩
        subst hw
        go_wp2
        refine bodyPost_ret (v := stV 3 l ⟨#[]⟩) (by simp [results, Tryz.results107, go_sem]) rfl ⟨rfl, ?_⟩
        repeat (first | exact Below.refl _ _ | refine Below.alloc ?_ (by simp <;> omega) _ | refine Below.setCell ?_ (by simp <;> omega) _)
      · rw [show assignL l.data.toList r.data.toList = nullOr 2 4 l.data.toList r.data.toList from by simp [assignL, h1, h2, h3]]
        generalize hv : gV (nullOr 2 4 l.data.toList r.data.toList) = v
        have hv3 : ∃ k a b, v = stV k a b := ⟨_, _, _, hv.symm⟩
        obtain ⟨k3, a3, b3, rfl⟩ := hv3
        have hs := spell_ne h3
        have H1 := Lib.hid h1
        have H2 := Lib.hid h2
        have HV := Lib.hid hv
        clear h1 h2 h3 hv
        go_enter Tryz.func107, Tryz.ntmps107
        go_wp2_with fail
        refine (Tryz.strings_CutSuffix l ⟨#[46, 110]⟩ _ (by omega)).mono ?_
        rw [show (⟨#[46, 110]⟩ : ByteArray).data.toList = [46, 110] from rfl, H1.out]
        rintro e w1 ⟨rfl, hw⟩
        subst hw
        go_wp2_with fail
        refine (Tryz.strings_CutSuffix r ⟨#[46, 110]⟩ _ (by omega)).mono ?_
        rw [show (⟨#[46, 110]⟩ : ByteArray).data.toList = [46, 110] from rfl, H2.out]
        rintro e w1 ⟨rfl, hw⟩
        subst hw
        go_wp2_with fail
        refine (implNullOr 2 4 l r _).mono ?_
        rw [HV.out]
        rintro e w2 ⟨rfl, hb2⟩
        obtain ⟨hc2, hf2⟩ := bcell hb2
        have hz2 := hb2.size
        simp at hz2
        go_wp2
        refine bodyPost_ret (v := stV k3 a3 b3) (by simp [results, Tryz.results107, go_sem, hc2]) rfl ⟨rfl, ?_⟩
        repeat (first | exact Below.trans (Below.alloc (Below.refl _ _) (by simp) _) (Below.mono hb2 (by simp)) | refine Below.setCell ?_ (by simp <;> omega) _)

theorem below_drewN (w : World) (n : Nat) : Below w.heap.size w (w.drewN n) := below_draws (Below.refl _ _) n
theorem cell_drewN (w : World) (n : Nat) (p : Addr) : (w.drewN n).cell? p = w.cell? p := (below_draws (Below.refl (p.block + 1) w) n).cell (Nat.lt_succ_self _)
theorem Switch.drewN {w : World} (h : Switch w) (n : Nat) : Switch (w.drewN n) := h.keeps (below_drewN w n)
abbrev cutV (l s r : ByteArray) : Value := .tuple #[.string l, .string s, .string r]
def GaveD (x : Value) (w : World) (e : Ending) (w' : World) : Prop := e = .returned x ∧ ∃ n, w' = w.drewN n
/-- strings.Cut at a sign. -/
def cutOf (t s : ByteArray) : List UInt8 × List UInt8 × Bool := Lib.cut t.data.toList s.data.toList
def cutL (t s : ByteArray) : ByteArray := ⟨(cutOf t s).1.toArray⟩
def cutR (t s : ByteArray) : ByteArray := ⟨(cutOf t s).2.1.toArray⟩
def cutF (t s : ByteArray) : Bool := (cutOf t s).2.2
theorem libCut (t s : ByteArray) (w : World) (ht : t.size ≤ 2147483648) (hsw : Switch w) : Calls Tryz.prog 63 #[.string t, .string s] w (GaveD (.tuple #[.string (cutL t s), .string (cutR t s), .bool (cutF t s)]) w) := by
  obtain ⟨m, hm⟩ := hsw
  exact (Tryz.strings_Cut t s m w (by omega) hm).mono fun _ _ h => h
def signA : ByteArray := ⟨#[61, 61]⟩
def signB : ByteArray := ⟨#[33, 61]⟩
def signC : ByteArray := ⟨#[61]⟩
def atSign (t : ByteArray) : Value := if cutF t signA then cutV (cutL t signA) signA (cutR t signA) else if cutF t signB then cutV (cutL t signB) signB (cutR t signB) else if cutF t signC then cutV (cutL t signC) signC (cutR t signC) else cutV ⟨#[]⟩ ⟨#[]⟩ ⟨#[]⟩

set_option maxHeartbeats 1600000 in
theorem implCutAtSign (t : ByteArray) (w : World) (ht : t.size ≤ 2147483648) (hsw : Switch w) (hS : HasSigns w) : Calls Tryz.prog 106 #[.string t] w (GaveD (atSign t) w) := by
  have c0 : w.cell? ⟨2, 0, none⟩ = some (.string ⟨#[61, 61]⟩) := hS.cell 0
  have c1 : w.cell? ⟨2, 1, none⟩ = some (.string ⟨#[33, 61]⟩) := hS.cell 1
  have c2 : w.cell? ⟨2, 2, none⟩ = some (.string ⟨#[61]⟩) := hS.cell 2
  have i0 : ∀ w, (Instr.index 134 (.agg #[.string ⟨#[61, 61]⟩, .string ⟨#[33, 61]⟩, .string ⟨#[61]⟩]) (.int .i64 0)).run Tryz.prog w = .ok (.string signA) w := fun _ => by kernel_rfl
  have i1 : ∀ w, (Instr.index 134 (.agg #[.string ⟨#[61, 61]⟩, .string ⟨#[33, 61]⟩, .string ⟨#[61]⟩]) (.int .i64 1)).run Tryz.prog w = .ok (.string signB) w := fun _ => by kernel_rfl
  have i2 : ∀ w, (Instr.index 134 (.agg #[.string ⟨#[61, 61]⟩, .string ⟨#[33, 61]⟩, .string ⟨#[61]⟩]) (.int .i64 2)).run Tryz.prog w = .ok (.string signC) w := fun _ => by kernel_rfl
  go_enter Tryz.func106, Tryz.ntmps106
  go_wp2
  go_loopw [6, 7, 8, 9, 11] (fun _ _ _ _ i wr => ∃ k n : Nat, k ≤ 3 ∧ i = .int .i64 k ∧ wr = w.drewN n ∧ (1 ≤ k → cutF t signA = false) ∧ (2 ≤ k → cutF t signB = false) ∧ (3 ≤ k → cutF t signC = false)) (fun _ _ _ _ i _ => 3 - (intOf i).toNat)
  case atStart => exact ⟨0, 0, by omega, rfl, rfl, fun h => by omega, fun h => by omega, fun h => by omega⟩
  case round =>
    obtain ⟨k, n, hk, rfl, rfl, h1, h2, h3⟩ := hrel
    have hsw1 := hsw.drewN n
    rcases (show k = 0 ∨ k = 1 ∨ k = 2 ∨ k = 3 by omega) with rfl | rfl | rfl | rfl
    · have hidx := i0
      cases hf : cutF t signA with
      | true =>
        have HF := Lib.hid hf
        have HE := Lib.hid (show atSign t = cutV (cutL t signA) signA (cutR t signA) from by simp [atSign, hf])
        clear hf h1 h2 h3
        rw [HE.out]
        go_wp2_with fail
        refine (libCut t signA _ ht hsw1).mono ?_
        rw [HF.out]
        rintro e w1 ⟨rfl, m, rfl⟩
        go_wp2
        go_ret3
        exact ⟨rfl, _, rfl⟩
      | false =>
        have HF := Lib.hid hf
        have HH1 := Lib.hid h1
        have HH2 := Lib.hid h2
        clear hf h1 h2 h3
        go_wp2_with fail
        refine (libCut t signA _ ht hsw1).mono ?_
        rw [HF.out]
        rintro e w1 ⟨rfl, m, rfl⟩
        go_wp2
        go_roundw
        case rel => exact ⟨1, _, by omega, rfl, rfl, fun _ => by first | exact HF.out | trivial, fun h => by omega, fun h => by omega⟩
        case measure => simp [intOf]
    · have hidx := i1
      cases hf : cutF t signB with
      | true =>
        have HF := Lib.hid hf
        have HE := Lib.hid (show atSign t = cutV (cutL t signB) signB (cutR t signB) from by simp [atSign, hf, h1 (by omega)])
        clear hf h1 h2 h3
        rw [HE.out]
        go_wp2_with fail
        refine (libCut t signB _ ht hsw1).mono ?_
        rw [HF.out]
        rintro e w1 ⟨rfl, m, rfl⟩
        go_wp2
        go_ret3
        exact ⟨rfl, _, rfl⟩
      | false =>
        have HF := Lib.hid hf
        have HH1 := Lib.hid h1
        have HH2 := Lib.hid h2
        clear hf h1 h2 h3
        go_wp2_with fail
        refine (libCut t signB _ ht hsw1).mono ?_
        rw [HF.out]
        rintro e w1 ⟨rfl, m, rfl⟩
        go_wp2
        go_roundw
        case rel => exact ⟨2, _, by omega, rfl, rfl, fun _ => HH1.out (by omega), fun _ => by first | exact HF.out | trivial, fun h => by omega⟩
        case measure => simp [intOf]
    · have hidx := i2
      cases hf : cutF t signC with
      | true =>
        have HF := Lib.hid hf
        have HE := Lib.hid (show atSign t = cutV (cutL t signC) signC (cutR t signC) from by simp [atSign, hf, h1 (by omega), h2 (by omega)])
        clear hf h1 h2 h3
        rw [HE.out]
        go_wp2_with fail
        refine (libCut t signC _ ht hsw1).mono ?_
        rw [HF.out]
        rintro e w1 ⟨rfl, m, rfl⟩
        go_wp2
        go_ret3
        exact ⟨rfl, _, rfl⟩
      | false =>
        have HF := Lib.hid hf
        have HH1 := Lib.hid h1
        have HH2 := Lib.hid h2
        clear hf h1 h2 h3
        go_wp2_with fail
        refine (libCut t signC _ ht hsw1).mono ?_
        rw [HF.out]
        rintro e w1 ⟨rfl, m, rfl⟩
        go_wp2
        go_roundw
        case rel => exact ⟨3, _, by omega, rfl, rfl, fun _ => HH1.out (by omega), fun _ => HH2.out (by omega), fun _ => by first | exact HF.out | trivial⟩
        case measure => simp [intOf]
    · have HE := Lib.hid (show atSign t = cutV ⟨#[]⟩ ⟨#[]⟩ ⟨#[]⟩ from by simp [atSign, h1 (by omega), h2 (by omega), h3 (by omega)])
      clear h1 h2 h3
      go_wp2
      go_ret3
      exact ⟨by rw [HE.out]; rfl, _, rfl⟩

theorem Below.drewN_ {B : Nat} {w v : World} (h : Below B w v) (n : Nat) : Below B w (v.drewN n) := below_draws h n
theorem guess_at (t : ByteArray) : guessL t.data.toList = if cutF t signA then nullOr 9 11 (cutL t signA).data.toList (cutR t signA).data.toList else if cutF t signB then nullOr 10 12 (cutL t signB).data.toList (cutR t signB).data.toList else if cutF t signC then assignL (cutL t signC).data.toList (cutR t signC).data.toList else commandL t.data.toList := rfl
theorem cut_size (t s : ByteArray) : (cutL t s).size ≤ t.size ∧ (cutR t s).size ≤ t.size := by
  have h1 : (cutL t s).size = (cutOf t s).1.length := rfl
  have h2 : (cutR t s).size = (cutOf t s).2.1.length := rfl
  have h3 : t.size = t.data.toList.length := by simp
  rw [h1, h2, h3, cutOf, Lib.cut]
  split
  · simp only [List.length_take, List.length_drop]
    omega
  · simp

set_option maxHeartbeats 1600000 in
theorem implGuess (t : ByteArray) (w : World) (ht : t.size ≤ 2147483648) (hsw : Switch w) (hS : HasSigns w) : Calls Tryz.prog 96 #[.string t] w (GaveB (gV (guessL t.data.toList)) w) := by
  have hb0 : Below w.heap.size w (w.alloc (.cells #[.int .i64 0, .string ⟨#[]⟩, .string ⟨#[]⟩] 42)) := (Below.refl _ _).alloc (Nat.le_refl _) _
  cases hA : cutF t signA with
  | true =>
    have HA := Lib.hid (show atSign t = cutV (cutL t signA) ⟨#[61, 61]⟩ (cutR t signA) from (show atSign t = cutV (cutL t signA) signA (cutR t signA) from by simp [atSign, hA]))
    have hv : ∃ k a b, gV (guessL t.data.toList) = stV k a b := ⟨_, _, _, rfl⟩
    obtain ⟨k3, a3, b3, hv⟩ := hv
    have HV := Lib.hid (show gV (nullOr 9 11 (cutL t signA).data.toList (cutR t signA).data.toList) = stV k3 a3 b3 from by rw [← hv, guess_at, if_pos hA])
    rw [hv]
    clear hv hA
    go_enter Tryz.func96, Tryz.ntmps96
    go_wp2_with fail
    refine (implCutAtSign t _ ht (hsw.keeps hb0) (hS.keeps hb0)).mono ?_
    rw [HA.out]
    rintro e w1 ⟨rfl, n, rfl⟩
    go_wp2_with fail
    refine (implNullOr 9 11 _ _ _).mono ?_
    rw [HV.out]
    rintro e w2 ⟨rfl, hb2⟩
    obtain ⟨hc2, hf2⟩ := bcell hb2
    have hz2 := hb2.size
    simp at hz2
    go_wp2
    refine bodyPost_ret (v := stV k3 a3 b3) (by simp [results, Tryz.results96, go_sem, hc2]) rfl ⟨rfl, ?_⟩
    repeat (first | exact Below.trans (Below.drewN_ (Below.alloc (Below.refl _ _) (by simp) _) _) (Below.mono hb2 (by simp)) | refine Below.setCell ?_ (by simp <;> omega) _)
  | false =>
    cases hB : cutF t signB with
    | true =>
      have HA := Lib.hid (show atSign t = cutV (cutL t signB) ⟨#[33, 61]⟩ (cutR t signB) from (show atSign t = cutV (cutL t signB) signB (cutR t signB) from by simp [atSign, hA, hB]))
      have hv : ∃ k a b, gV (guessL t.data.toList) = stV k a b := ⟨_, _, _, rfl⟩
      obtain ⟨k3, a3, b3, hv⟩ := hv
      have HV := Lib.hid (show gV (nullOr 10 12 (cutL t signB).data.toList (cutR t signB).data.toList) = stV k3 a3 b3 from by rw [← hv, guess_at, if_neg (by rw [hA]; decide), if_pos hB])
      rw [hv]
      clear hv hA hB
      go_enter Tryz.func96, Tryz.ntmps96
      go_wp2_with fail
      refine (implCutAtSign t _ ht (hsw.keeps hb0) (hS.keeps hb0)).mono ?_
      rw [HA.out]
      rintro e w1 ⟨rfl, n, rfl⟩
      go_wp2_with fail
      refine (implNullOr 10 12 _ _ _).mono ?_
      rw [HV.out]
      rintro e w2 ⟨rfl, hb2⟩
      obtain ⟨hc2, hf2⟩ := bcell hb2
      have hz2 := hb2.size
      simp at hz2
      go_wp2
      refine bodyPost_ret (v := stV k3 a3 b3) (by simp [results, Tryz.results96, go_sem, hc2]) rfl ⟨rfl, ?_⟩
      repeat (first | exact Below.trans (Below.drewN_ (Below.alloc (Below.refl _ _) (by simp) _) _) (Below.mono hb2 (by simp)) | refine Below.setCell ?_ (by simp <;> omega) _)
    | false =>
      cases hC : cutF t signC with
      | true =>
        have HA := Lib.hid (show atSign t = cutV (cutL t signC) ⟨#[61]⟩ (cutR t signC) from (show atSign t = cutV (cutL t signC) signC (cutR t signC) from by simp [atSign, hA, hB, hC]))
        have hv : ∃ k a b, gV (guessL t.data.toList) = stV k a b := ⟨_, _, _, rfl⟩
        obtain ⟨k3, a3, b3, hv⟩ := hv
        have HV := Lib.hid (show gV (assignL (cutL t signC).data.toList (cutR t signC).data.toList) = stV k3 a3 b3 from by rw [← hv, guess_at, if_neg (by rw [hA]; decide), if_neg (by rw [hB]; decide), if_pos hC])
        rw [hv]
        clear hv hA hB hC
        go_enter Tryz.func96, Tryz.ntmps96
        go_wp2_with fail
        refine (implCutAtSign t _ ht (hsw.keeps hb0) (hS.keeps hb0)).mono ?_
        rw [HA.out]
        rintro e w1 ⟨rfl, n, rfl⟩
        go_wp2_with fail
        refine (implAssign (cutL t signC) (cutR t signC) _ (by have := (cut_size t signC).1; unfold maxLen; omega) (by have := (cut_size t signC).2; unfold maxLen; omega)).mono ?_
        rw [HV.out]
        rintro e w2 ⟨rfl, hb2⟩
        obtain ⟨hc2, hf2⟩ := bcell hb2
        have hz2 := hb2.size
        simp at hz2
        go_wp2
        refine bodyPost_ret (v := stV k3 a3 b3) (by simp [results, Tryz.results96, go_sem, hc2]) rfl ⟨rfl, ?_⟩
        repeat (first | exact Below.trans (Below.drewN_ (Below.alloc (Below.refl _ _) (by simp) _) _) (Below.mono hb2 (by simp)) | refine Below.setCell ?_ (by simp <;> omega) _)
      | false =>
        have HA := Lib.hid (show atSign t = cutV ⟨#[]⟩ ⟨#[]⟩ ⟨#[]⟩ from by simp [atSign, hA, hB, hC])
        have hv : ∃ k a b, gV (guessL t.data.toList) = stV k a b := ⟨_, _, _, rfl⟩
        obtain ⟨k3, a3, b3, hv⟩ := hv
        have HV := Lib.hid (show gV (commandL t.data.toList) = stV k3 a3 b3 from by rw [← hv, guess_at, if_neg (by rw [hA]; decide), if_neg (by rw [hB]; decide), if_neg (by rw [hC]; decide)])
        rw [hv]
        clear hv hA hB hC
        go_enter Tryz.func96, Tryz.ntmps96
        go_wp2_with fail
        refine (implCutAtSign t _ ht (hsw.keeps hb0) (hS.keeps hb0)).mono ?_
        rw [HA.out]
        rintro e w1 ⟨rfl, n, rfl⟩
        go_wp2_with fail
        refine (implCommand t _).mono ?_
        rw [HV.out]
        rintro e w2 ⟨rfl, hb2⟩
        obtain ⟨hc2, hf2⟩ := bcell hb2
        have hz2 := hb2.size
        simp at hz2
        go_wp2
        refine bodyPost_ret (v := stV k3 a3 b3) (by simp [results, Tryz.results96, go_sem, hc2]) rfl ⟨rfl, ?_⟩
        repeat (first | exact Below.trans (Below.drewN_ (Below.alloc (Below.refl _ _) (by simp) _) _) (Below.mono hb2 (by simp)) | refine Below.setCell ?_ (by simp <;> omega) _)

theorem gV_of (t : ByteArray) : gV (guessL t.data.toList) = stV (guessK t) (guessA t) (guessB t) := rfl
def parseV (t : ByteArray) : Value := if parsesS t then .tuple #[stV (guessK t) (guessA t) (guessB t), .bool true] else .tuple #[stV 0 ⟨#[]⟩ ⟨#[]⟩, .bool false]
theorem isSuffix_size (s : ByteArray) (l : List UInt8) : (Lib.trimSuffix s.data.toList l).length ≤ s.size := by
  have h3 : s.size = s.data.toList.length := by simp
  rw [h3, Lib.trimSuffix]
  split
  · simp only [List.length_take]; omega
  · omega
theorem isPrefix_size (s : ByteArray) (l : List UInt8) : (Lib.trimPrefix s.data.toList l).length ≤ s.size := by
  have h3 : s.size = s.data.toList.length := by simp
  rw [h3, Lib.trimPrefix]
  split
  · simp only [List.length_drop]; omega
  · omega
theorem nullOr_sizes {x y : Int} {l r : List UInt8} {n : Nat} (hl : l.length ≤ n) (hr : r.length ≤ n) : (nullOr x y l r).2.1.length ≤ n ∧ (nullOr x y l r).2.2.length ≤ n := by
  unfold nullOr
  split
  · exact ⟨hl, by simp⟩
  · exact ⟨hl, hr⟩
theorem guess_sizes (t : ByteArray) : (guessA t).size ≤ t.size ∧ (guessB t).size ≤ t.size := by
  have hA := cut_size t signA
  have hB := cut_size t signB
  have hC := cut_size t signC
  have e : ∀ s : ByteArray, s.data.toList.length = s.size := fun s => by simp
  show (guessL t.data.toList).2.1.length ≤ t.size ∧ (guessL t.data.toList).2.2.length ≤ t.size
  rw [guess_at]
  split
  · exact nullOr_sizes (by rw [e]; exact hA.1) (by rw [e]; exact hA.2)
  · split
    · exact nullOr_sizes (by rw [e]; exact hB.1) (by rw [e]; exact hB.2)
    · split
      · unfold assignL
        split
        · exact nullOr_sizes (Nat.le_trans (isSuffix_size _ _) hC.1) (by rw [e]; exact hC.2)
        · split
          · exact ⟨by rw [e]; exact hC.1, Nat.le_trans (isSuffix_size _ _) hC.2⟩
          · split
            · exact ⟨by rw [e]; exact hC.1, by simp⟩
            · exact nullOr_sizes (by rw [e]; exact hC.1) (by rw [e]; exact hC.2)
      · unfold commandL
        split
        · exact ⟨isPrefix_size _ _, by simp⟩
        · split
          · exact ⟨by simp, by simp⟩
          · exact ⟨by simp, by simp⟩

theorem size_zero {s : ByteArray} (h : s.toList.isEmpty = true) : s = ⟨#[]⟩ := bytes_ext (by simpa [ByteArray.toList_eq] using h)
theorem size_some {s : ByteArray} (h : s.toList.isEmpty = false) : s ≠ ⟨#[]⟩ := fun e => by rw [e, ByteArray.toList_eq] at h; simp at h
theorem parse_no {t : ByteArray} (h : parsesS t = false) (hne : t.toList.isEmpty = false) (k : Int) (a b : ByteArray) : ((textS k a b).toList == t.toList) = false := by
  rw [ByteArray.toList_eq, ByteArray.toList_eq]
  have := parsesS_no h (size_some hne) k a b
  simpa using fun e => this (bytes_ext (by simpa using e))
theorem parse_yes {t : ByteArray} (h : parsesS t = true) : ((textS (guessK t) (guessA t) (guessB t)).toList == t.toList) = true ∧ t.toList.isEmpty = false := by
  have g := parsesS_text h
  refine ⟨by rw [g.2]; simp, ?_⟩
  cases hh : t.toList.isEmpty with
  | false => rfl
  | true => exact absurd (size_zero hh) g.1

set_option maxHeartbeats 1600000 in
theorem implParse (t : ByteArray) (w : World) (ht : t.size ≤ 2147483648) (hsw : Switch w) (hS : HasSigns w) (hT : HasNamesTable w) : Calls Tryz.prog 67 #[.string t] w (GaveB (parseV t) w) := by
  have hb0 : Below w.heap.size w (w.alloc (.cells #[.int .i64 0, .string ⟨#[]⟩, .string ⟨#[]⟩] 42)) := (Below.refl _ _).alloc (Nat.le_refl _) _
  have hg := guess_sizes t
  have hgv := gV_of t
  have hpv : parseV t = if parsesS t then .tuple #[stV (guessK t) (guessA t) (guessB t), .bool true] else .tuple #[stV 0 ⟨#[]⟩ ⟨#[]⟩, .bool false] := rfl
  cases hp : parsesS t with
  | true =>
    obtain ⟨h1, h2⟩ := parse_yes hp
    have h3 : (!(textS (guessK t) (guessA t) (guessB t)).toList == t.toList) = false := by rw [h1]; rfl
    rw [hp, if_pos rfl] at hpv
    rw [hpv]
    have HG := Lib.hid hgv
    clear hgv hpv hp
    generalize guessK t = k at *
    generalize guessA t = a at *
    generalize guessB t = b at *
    generalize htx : textS k a b = tx at *
    have HX := Lib.hid htx
    clear htx
    go_enter Tryz.func67, Tryz.ntmps67
    go_wp2_with fail
    refine (implGuess t _ ht (hsw.keeps hb0) (hS.keeps hb0)).mono ?_
    rw [HG.out]
    rintro e w1 ⟨rfl, hb1⟩
    obtain ⟨hc1, hf1⟩ := bcell hb1
    have hz1 : w.heap.size < w1.heap.size := by have h := hb1.size; simp at h; omega
    have hz1' : w.heap.size < w1.heap.size + 1 := by omega
    have hB1 : Below w.heap.size w (w1.alloc (.cells #[.int .i64 k, .string a, .string b] 42)) := (hb0.trans (hb1.mono (by simp))).alloc (by omega) _
    go_wp2_with fail
    refine (implStmtText k a b _ (by unfold maxLen; omega) (by unfold maxLen; omega) (hT.keeps hB1)).mono ?_
    rw [HX.out]
    rintro e w2 ⟨rfl, hb2⟩
    obtain ⟨hc2, hf2⟩ := bcell hb2
    have hz2 : w1.heap.size < w2.heap.size := by have h := hb2.size; simp at h; omega
    have hz2' : w.heap.size < w2.heap.size := by omega
    have hn : ¬ w.heap.size = w1.heap.size := by omega
    have hB2 := hB1.trans (hb2.mono hB1.size)
    go_wp2
    refine bodyPost_ret (v := .tuple #[stV k a b, .bool true]) (by simp [results, Tryz.results67, go_sem, hc2, hc1, hz1, hz1']) rfl ⟨rfl, ?_⟩
    repeat (first | exact hB2 | refine Below.setCell ?_ (by simp <;> omega) _)
  | false =>
    rw [hp, if_neg (by decide)] at hpv
    rw [hpv]
    cases he : t.toList.isEmpty with
    | true =>
      have HG := Lib.hid hgv
      clear hgv hpv hp
      generalize guessK t = k at *
      generalize guessA t = a at *
      generalize guessB t = b at *
      go_enter Tryz.func67, Tryz.ntmps67
      go_wp2_with fail
      refine (implGuess t _ ht (hsw.keeps hb0) (hS.keeps hb0)).mono ?_
      rw [HG.out]
      rintro e w1 ⟨rfl, hb1⟩
      obtain ⟨hc1, hf1⟩ := bcell hb1
      have hz1 : w.heap.size < w1.heap.size := by have h := hb1.size; simp at h; omega
      have hz1' : w.heap.size < w1.heap.size + 1 := by omega
      have hB1 : Below w.heap.size w (w1.alloc (.cells #[.int .i64 k, .string a, .string b] 42)) := (hb0.trans (hb1.mono (by simp))).alloc (by omega) _
      have hn : ¬ w.heap.size = w1.heap.size := by omega
      go_wp2
      refine bodyPost_ret (v := .tuple #[stV 0 ⟨#[]⟩ ⟨#[]⟩, .bool false]) (by simp [results, Tryz.results67, go_sem, hc1, hz1]) rfl ⟨rfl, ?_⟩
      have hB01 : Below w.heap.size w w1 := hb0.trans (hb1.mono (by simp))
      repeat (first | exact hB01 | refine Below.setCell ?_ (by simp <;> omega) _ | refine Below.alloc ?_ (by simp <;> omega) _)
    | false =>
      have h1 := parse_no hp he (guessK t) (guessA t) (guessB t)
      have h3 : (!(textS (guessK t) (guessA t) (guessB t)).toList == t.toList) = true := by rw [h1]; rfl
      have HG := Lib.hid hgv
      clear hgv hpv hp
      generalize guessK t = k at *
      generalize guessA t = a at *
      generalize guessB t = b at *
      generalize htx : textS k a b = tx at *
      have HX := Lib.hid htx
      clear htx
      go_enter Tryz.func67, Tryz.ntmps67
      go_wp2_with fail
      refine (implGuess t _ ht (hsw.keeps hb0) (hS.keeps hb0)).mono ?_
      rw [HG.out]
      rintro e w1 ⟨rfl, hb1⟩
      obtain ⟨hc1, hf1⟩ := bcell hb1
      have hz1 : w.heap.size < w1.heap.size := by have h := hb1.size; simp at h; omega
      have hz1' : w.heap.size < w1.heap.size + 1 := by omega
      have hB1 : Below w.heap.size w (w1.alloc (.cells #[.int .i64 k, .string a, .string b] 42)) := (hb0.trans (hb1.mono (by simp))).alloc (by omega) _
      go_wp2_with fail
      refine (implStmtText k a b _ (by unfold maxLen; omega) (by unfold maxLen; omega) (hT.keeps hB1)).mono ?_
      rw [HX.out]
      rintro e w2 ⟨rfl, hb2⟩
      obtain ⟨hc2, hf2⟩ := bcell hb2
      have hz2 : w1.heap.size < w2.heap.size := by have h := hb2.size; simp at h; omega
      have hz2' : w.heap.size < w2.heap.size := by omega
      have hn : ¬ w.heap.size = w1.heap.size := by omega
      have hB2 := hB1.trans (hb2.mono hB1.size)
      go_wp2
      refine bodyPost_ret (v := .tuple #[stV 0 ⟨#[]⟩ ⟨#[]⟩, .bool false]) (by simp [results, Tryz.results67, go_sem, hc2, hc1, hz1, hz1']) rfl ⟨rfl, ?_⟩
      repeat (first | exact hB2 | refine Below.setCell ?_ (by simp <;> omega) _)
end Go.Proofs.YtabedmjaodinbaaGreatDoor
