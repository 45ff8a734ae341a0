/-
  Proved: for every list of bytes the law FnStmts returns true and leaves its argument as it was, where the listed table of the program reads as its text lays it (the card ties it).
-/
import Derived.Test.YtiocpaoelahcaaaDoorDrawStmt
import Derived.Test.YtiocpaoelahcaaaDoorCards
import Derived.Test.YtiocpaoelahcaaaDoorTie
import Derived.ChangeMaps5
import Derived.Deep.DeepWitnessRowRef
import Derived.LaidMore
import Derived.Lib.QuietBelow
namespace Go.Proofs.YtiocpaoelahcaaaDoor.stmts
open Go Go.RowKit Go.ChangeShapes Go.WideShapes Go.ChangeAt Go.Sort

/-- The law said true, and nothing old has turned. -/
def TrueEnd (w : World) (e : Ending) (w' : World) : Prop := e = .returned (.bool true) ∧ Below w.heap.size w w'

/-- A statement lies in a block. -/
def At3 (w : World) (g : Nat) (k : Int) (a b : ByteArray) : Prop :=
  g < w.heap.size ∧ w.cell? ⟨g, 0, none⟩ = some (.int .i64 k) ∧ w.cell? ⟨g, 1, none⟩ = some (.string a) ∧ w.cell? ⟨g, 2, none⟩ = some (.string b)
theorem At3.keeps {w w' : World} {g : Nat} {k : Int} {a b : ByteArray} (h : At3 w g k a b) (hb : Below w.heap.size w w') : At3 w' g k a b :=
  ⟨Nat.lt_of_lt_of_le h.1 hb.size, (hb.cell (p := ⟨g, 0, none⟩) h.1).trans h.2.1, (hb.cell (p := ⟨g, 1, none⟩) h.1).trans h.2.2.1, (hb.cell (p := ⟨g, 2, none⟩) h.1).trans h.2.2.2⟩
theorem At3.new (w : World) (k : Int) (a b : ByteArray) (t : TypeId) : At3 (w.alloc (.cells #[.int .i64 k, .string a, .string b] t)) w.heap.size k a b := by
  refine ⟨by simp, ?_, ?_, ?_⟩ <;> rw [World.cell?_alloc_at _ _ _ _ rfl] <;> rfl
theorem At3.cells {w : World} {g : Nat} {k : Int} {a b : ByteArray} (h : At3 w g k a b) : g < w.heap.size ∧ w.cell? ⟨g, 0, none⟩ = some (.int .i64 k) ∧ w.cell? ⟨g, 1, none⟩ = some (.string a) ∧ w.cell? ⟨g, 2, none⟩ = some (.string b) := h
/-- .. in every world of a quiet walk's class. -/
theorem At3.grown {w : World} {g : Nat} {k : Int} {a b : ByteArray} (h : At3 w g k a b) :
    (∀ d os, (grow (redrawn w d) os).cell? ⟨g, 0, none⟩ = some (.int .i64 k)) ∧ (∀ d os, (grow (redrawn w d) os).cell? ⟨g, 1, none⟩ = some (.string a)) ∧ (∀ d os, (grow (redrawn w d) os).cell? ⟨g, 2, none⟩ = some (.string b)) :=
  ⟨fun d os => cell_regrown h.2.1 d os, fun d os => cell_regrown h.2.2.1 d os, fun d os => cell_regrown h.2.2.2 d os⟩
theorem alloc_below (w : World) (o : Obj) : Below w.heap.size w (w.alloc o) := (Below.refl _ _).alloc (Nat.le_refl _) _
theorem at_regrown {P : Program} {f : FuncId} {args : Array Value} {w : World} {d : Nat} {os : Array Obj} {v : Value} (h : Calls P f args (grow (redrawn w d) os) (GaveB v (grow (redrawn w d) os))) :
    Calls P f args (grow (redrawn w d) os) fun e w'' => e = .returned v ∧ ∃ p : Regrown, w'' = grow (redrawn w p.d) p.os := Calls.regrown_of h
theorem same_regrown {P : Program} {f : FuncId} {args : Array Value} {w : World} {d : Nat} {os : Array Obj} {v : Value} (h : Calls P f args (grow (redrawn w d) os) (GaveW v (grow (redrawn w d) os))) :
    Calls P f args (grow (redrawn w d) os) fun e w'' => e = .returned v ∧ ∃ p : Regrown, w'' = grow (redrawn w p.d) p.os :=
  Calls.regrown_of (h.mono fun _ _ ⟨he, hw⟩ => ⟨he, hw ▸ Below.refl _ _⟩)
theorem row_regrown {w : World} {a : Option Addr} {xs : List Value} (h : Row w w.heap.size a xs) (d : Nat) (os : Array Obj) : Row (grow (redrawn w d) os) (grow (redrawn w d) os).heap.size a xs :=
  (h.below (below_regrown w d os)).grow (below_regrown w d os).size
theorem tab_regrown {w : World} (h : HasNamesTable w) (d : Nat) (os : Array Obj) : HasNamesTable (grow (redrawn w d) os) := h.keeps (below_regrown w d os)

set_option maxRecDepth 100000 in
set_option maxHeartbeats 8000000 in
theorem walk (a : Option Addr) (n cap : Nat) (w : World) (hn : n ≤ maxLen) (hcode : Code8 w w.heap.size n a) (hT : HasNamesTable w) : Calls Tryd.prog 3 #[.slice a n cap] w (TrueEnd w) := by
  by_cases hbig : 1048576 < n
  · go_enter Tryd.func3, Tryd.ntmps3
    go_wp2_with fail
    refine (bigYes a n cap _ hn hbig).mono ?_
    rintro e w1 ⟨rfl, rfl⟩
    go_wp2
    go_ret
    exact ⟨rfl, Below.refl _ _⟩
  · go_enter Tryd.func3, Tryd.ntmps3
    go_wp2_with fail
    refine (bigNo a n cap _ (by omega)).mono ?_
    rintro e w1 ⟨rfl, rfl⟩
    go_wp2_with fail
    refine (drawOppositeOf a n cap _ (by omega) hcode).mono ?_
    rintro e w1 ⟨k, sa, sb, hk0, hk1, hsa, hsb, rfl, hB1⟩
    have hk : isTestS k = true ∨ isTestS k = false := by cases isTestS k <;> simp
    have Hk := Lib.hid hk
    clear hk
    rcases Hk.out with ht | ht
    · have HT := Lib.hid ht
      have hne : (oppS k == k) = false := by rcases isTestS_four ht with rfl | rfl | rfl | rfl <;> decide
      have HT' := Lib.hid (show isTestS (oppS k) = true from by rcases isTestS_four ht with rfl | rfl | rfl | rfl <;> decide)
      have HO := Lib.hid (show oppS (oppS k) = k from by rcases isTestS_four ht with rfl | rfl | rfl | rfl <;> decide)
      clear ht Hk
      generalize hq : oppS k = q at *
      have HQ := Lib.hid hq
      clear hq
      go_wp2_with fail
      refine (implOppositeYes k sa sb _ HT.out).mono ?_
      rw [HQ.out]
      rintro e w2 ⟨rfl, hb2⟩
      have As := (At3.new w1 k sa sb _).keeps hb2
      have hB2 : Below w.heap.size w w2 := hB1.trans (((alloc_below _ _).trans (hb2.mono (alloc_below _ _).size)).mono hB1.size)
      clear hb2
      obtain ⟨ls, s0, s1, s2⟩ := As.cells
      go_wp2_with fail
      refine (specOppositeYes k sa sb _ HT.out).mono ?_
      rw [HQ.out]
      rintro e w3 ⟨rfl, hb3⟩
      have Ax := (At3.new w2 q sa sb _).keeps hb3
      have hB3 : Below w.heap.size w w3 := hB2.trans (((alloc_below _ _).trans (hb3.mono (alloc_below _ _).size)).mono hB2.size)
      replace As := (As.keeps (alloc_below _ _)).keeps hb3
      clear hb3
      clear ls s0 s1 s2
      obtain ⟨ls, s0, s1, s2⟩ := As.cells
      obtain ⟨lx, x0, x1, x2⟩ := Ax.cells
      go_wp2_with fail
      refine (implOppositeYes q sa sb _ HT'.out).mono ?_
      rw [HO.out]
      rintro e w4 ⟨rfl, hb4⟩
      have Au := (At3.new w3 q sa sb _).keeps hb4
      have hB4 : Below w.heap.size w w4 := hB3.trans (((alloc_below _ _).trans (hb4.mono (alloc_below _ _).size)).mono hB3.size)
      replace As := (As.keeps (alloc_below _ _)).keeps hb4
      replace Ax := (Ax.keeps (alloc_below _ _)).keeps hb4
      clear hb4
      clear ls s0 s1 s2
      clear lx x0 x1 x2
      obtain ⟨ls, s0, s1, s2⟩ := As.cells
      obtain ⟨lx, x0, x1, x2⟩ := Ax.cells
      obtain ⟨lu, u0, u1, u2⟩ := Au.cells
      have hcode4 : Code8 (w4.alloc (.cells #[.int .i64 k, .string sa, .string sb] 25)) (w4.alloc (.cells #[.int .i64 k, .string sa, .string sb] 25)).heap.size n a := (hcode.keeps fun p hp => (hB4.trans ((alloc_below w4 _).mono hB4.size)).cell hp).grow (Nat.le_trans hB4.size (alloc_below w4 _).size)
      go_wp2_with fail
      refine (drawIsStmt a n cap _ (by omega) hcode4).mono ?_
      rintro e w5 ⟨a5, cap5, ss, kt, ta, tb, hl, hss, hkt0, hkt1, hta, htb, rfl, hr5, hb5⟩
      have Ay := (At3.new w4 k sa sb _).keeps hb5
      have hB5 : Below w.heap.size w w5 := hB4.trans (((alloc_below _ _).trans (hb5.mono (alloc_below _ _).size)).mono hB4.size)
      replace As := (As.keeps (alloc_below _ _)).keeps hb5
      replace Ax := (Ax.keeps (alloc_below _ _)).keeps hb5
      replace Au := (Au.keeps (alloc_below _ _)).keeps hb5
      clear hb5 hcode4
      clear ls s0 s1 s2
      clear lx x0 x1 x2
      clear lu u0 u1 u2
      have hcode5 : ∀ o, Code8 (w5.alloc o) (w5.alloc o).heap.size n a := fun o => (hcode.keeps fun p hp => (hB5.trans ((alloc_below w5 _).mono hB5.size)).cell hp).grow (Nat.le_trans hB5.size (alloc_below w5 _).size)
      go_wp2_with fail
      refine (drawNamesOf a n cap _ (by omega) (hcode5 _)).mono ?_
      rintro e w6 ⟨kn, hkn0, hkn1, rfl, hb6⟩
      have At := (At3.new w5 kt ta tb _).keeps hb6
      have hB6 : Below w.heap.size w w6 := hB5.trans (((alloc_below _ _).trans (hb6.mono (alloc_below _ _).size)).mono hB5.size)
      have hr6 : Row w6 w6.heap.size a5 (strVals ss) := (hr5.below ((alloc_below _ _).trans (hb6.mono (alloc_below _ _).size))).grow (Nat.le_trans (alloc_below _ _).size hb6.size)
      replace As := (As.keeps (alloc_below _ _)).keeps hb6
      replace Ax := (Ax.keeps (alloc_below _ _)).keeps hb6
      replace Au := (Au.keeps (alloc_below _ _)).keeps hb6
      replace Ay := (Ay.keeps (alloc_below _ _)).keeps hb6
      clear hb6 hcode5 hr5
      have hT6 := hT.keeps hB6
      obtain ⟨s0, s1, s2⟩ := As.grown
      obtain ⟨x0, x1, x2⟩ := Ax.grown
      obtain ⟨u0, u1, u2⟩ := Au.grown
      obtain ⟨y0, y1, y2⟩ := Ay.grown
      obtain ⟨t0, t1, t2⟩ := At.grown
      have hlm : ss.length ≤ maxLen := by unfold maxLen; omega
      have hwm : ∀ s ∈ ss, s.size ≤ maxLen := fun s h => by have := hss s h; unfold maxLen; omega
      have HH := Lib.hid hlm; have HW := Lib.hid hwm; have HR := Lib.hid hr6; have HT6 := Lib.hid hT6
      clear hlm hwm hr6 hT6 hss hcode hT
      generalize hst : stmtB ss kt ta tb = bst at *
      have HST := Lib.hid hst
      generalize hit : isTestS kt = bit at *
      have HIT := Lib.hid hit
      clear hst hit
      generalize hnn : namesN kn = nn at *
      have HNN := Lib.hid hnn
      clear hnn
      have HC1 := Lib.hid (show ∀ d os, Calls Tryd.prog 12 #[stV k sa sb] (grow (redrawn w6 d) os) (GaveB (.bool true) (grow (redrawn w6 d) os)) from fun d os => HT.out ▸ implIsTest k sa sb _)
      have HC2 := Lib.hid (show ∀ d os, Calls Tryd.prog 12 #[stV kt ta tb] (grow (redrawn w6 d) os) (GaveB (.bool bit) (grow (redrawn w6 d) os)) from fun d os => HIT.out ▸ implIsTest kt ta tb _)
      have HC3 := Lib.hid (show ∀ d os, Calls Tryd.prog 17 #[stV kt ta tb] (grow (redrawn w6 d) os) (GaveB (.bool bit) (grow (redrawn w6 d) os)) from fun d os => HIT.out ▸ specIsTest kt ta tb _)
      have HC4 := Lib.hid (show ∀ d os, Calls Tryd.prog 13 #[.slice a5 ss.length cap5, stV kt ta tb] (grow (redrawn w6 d) os) (GaveB (.bool bst) (grow (redrawn w6 d) os)) from fun d os => HST.out ▸ implIsStmt a5 cap5 ss kt ta tb _ HH.out HW.out (row_regrown HR.out _ _) (tab_regrown HT6.out _ _))
      have HC5 := Lib.hid (show ∀ d os, Calls Tryd.prog 14 #[.slice a5 ss.length cap5, stV kt ta tb] (grow (redrawn w6 d) os) (GaveB (.bool bst) (grow (redrawn w6 d) os)) from fun d os => HST.out ▸ specIsStmt a5 cap5 ss kt ta tb _ HH.out HW.out (row_regrown HR.out _ _))
      have HC6 := Lib.hid (show ∀ d os, Calls Tryd.prog 15 #[.int .i64 kn] (grow (redrawn w6 d) os) (GaveW (.int .i64 nn) (grow (redrawn w6 d) os)) from fun d os => HNN.out ▸ implNamesOf kn _ (tab_regrown HT6.out _ _))
      have HC7 := Lib.hid (show ∀ d os, Calls Tryd.prog 16 #[.int .i64 kn] (grow (redrawn w6 d) os) (GaveW (.int .i64 nn) (grow (redrawn w6 d) os)) from fun d os => HNN.out ▸ specNamesOf kn _)
      go_wp2
      refine wp_region_quiet_below (by kernel_rfl) (by kernel_rfl) ?_
      repeat (go_big_quiet_step (first | (go_at_call 12; with_reducible exact at_regrown (HC1.out _ _)) | (go_at_call 12; with_reducible exact at_regrown (HC2.out _ _)) | (go_at_call 17; with_reducible exact at_regrown (HC3.out _ _)) | (go_at_call 13; with_reducible exact at_regrown (HC4.out _ _)) | (go_at_call 14; with_reducible exact at_regrown (HC5.out _ _)) | (go_at_call 15; with_reducible exact same_regrown (HC6.out _ _)) | (go_at_call 16; with_reducible exact same_regrown (HC7.out _ _))))
      refine wpQuiet_nil ?_
      intro _ hw'
      obtain ⟨⟨dq, osq⟩, hw''⟩ := hw'
      subst hw''
      go_wp2
      go_ret
      exact ⟨rfl, hB6.trans ((below_regrown w6 dq osq).mono hB6.size)⟩
    · have HT := Lib.hid ht
      clear ht Hk
      have HT' := Lib.hid (show isTestS 0 = false from by decide)
      go_wp2_with fail
      refine (implOppositeNo k sa sb _ HT.out).mono ?_
      rintro e w2 ⟨rfl, hb2⟩
      have As := (At3.new w1 k sa sb _).keeps hb2
      have hB2 : Below w.heap.size w w2 := hB1.trans (((alloc_below _ _).trans (hb2.mono (alloc_below _ _).size)).mono hB1.size)
      clear hb2
      obtain ⟨ls, s0, s1, s2⟩ := As.cells
      go_wp2_with fail
      refine (specOppositeNo k sa sb _ HT.out).mono ?_
      rintro e w3 ⟨rfl, hb3⟩
      have Ax := (At3.new w2 0 ⟨#[]⟩ ⟨#[]⟩ _).keeps hb3
      have hB3 : Below w.heap.size w w3 := hB2.trans (((alloc_below _ _).trans (hb3.mono (alloc_below _ _).size)).mono hB2.size)
      replace As := (As.keeps (alloc_below _ _)).keeps hb3
      clear hb3
      clear ls s0 s1 s2
      obtain ⟨ls, s0, s1, s2⟩ := As.cells
      obtain ⟨lx, x0, x1, x2⟩ := Ax.cells
      go_wp2_with fail
      refine (implOppositeNo 0 ⟨#[]⟩ ⟨#[]⟩ _ HT'.out).mono ?_
      rintro e w4 ⟨rfl, hb4⟩
      have Au := (At3.new w3 0 ⟨#[]⟩ ⟨#[]⟩ _).keeps hb4
      have hB4 : Below w.heap.size w w4 := hB3.trans (((alloc_below _ _).trans (hb4.mono (alloc_below _ _).size)).mono hB3.size)
      replace As := (As.keeps (alloc_below _ _)).keeps hb4
      replace Ax := (Ax.keeps (alloc_below _ _)).keeps hb4
      clear hb4
      clear ls s0 s1 s2
      clear lx x0 x1 x2
      obtain ⟨ls, s0, s1, s2⟩ := As.cells
      obtain ⟨lx, x0, x1, x2⟩ := Ax.cells
      obtain ⟨lu, u0, u1, u2⟩ := Au.cells
      have hcode4 : Code8 (w4.alloc (.cells #[.int .i64 0, .string ⟨#[]⟩, .string ⟨#[]⟩] 25)) (w4.alloc (.cells #[.int .i64 0, .string ⟨#[]⟩, .string ⟨#[]⟩] 25)).heap.size n a := (hcode.keeps fun p hp => (hB4.trans ((alloc_below w4 _).mono hB4.size)).cell hp).grow (Nat.le_trans hB4.size (alloc_below w4 _).size)
      go_wp2_with fail
      refine (drawIsStmt a n cap _ (by omega) hcode4).mono ?_
      rintro e w5 ⟨a5, cap5, ss, kt, ta, tb, hl, hss, hkt0, hkt1, hta, htb, rfl, hr5, hb5⟩
      have Ay := (At3.new w4 0 ⟨#[]⟩ ⟨#[]⟩ _).keeps hb5
      have hB5 : Below w.heap.size w w5 := hB4.trans (((alloc_below _ _).trans (hb5.mono (alloc_below _ _).size)).mono hB4.size)
      replace As := (As.keeps (alloc_below _ _)).keeps hb5
      replace Ax := (Ax.keeps (alloc_below _ _)).keeps hb5
      replace Au := (Au.keeps (alloc_below _ _)).keeps hb5
      clear hb5 hcode4
      clear ls s0 s1 s2
      clear lx x0 x1 x2
      clear lu u0 u1 u2
      have hcode5 : ∀ o, Code8 (w5.alloc o) (w5.alloc o).heap.size n a := fun o => (hcode.keeps fun p hp => (hB5.trans ((alloc_below w5 _).mono hB5.size)).cell hp).grow (Nat.le_trans hB5.size (alloc_below w5 _).size)
      go_wp2_with fail
      refine (drawNamesOf a n cap _ (by omega) (hcode5 _)).mono ?_
      rintro e w6 ⟨kn, hkn0, hkn1, rfl, hb6⟩
      have At := (At3.new w5 kt ta tb _).keeps hb6
      have hB6 : Below w.heap.size w w6 := hB5.trans (((alloc_below _ _).trans (hb6.mono (alloc_below _ _).size)).mono hB5.size)
      have hr6 : Row w6 w6.heap.size a5 (strVals ss) := (hr5.below ((alloc_below _ _).trans (hb6.mono (alloc_below _ _).size))).grow (Nat.le_trans (alloc_below _ _).size hb6.size)
      replace As := (As.keeps (alloc_below _ _)).keeps hb6
      replace Ax := (Ax.keeps (alloc_below _ _)).keeps hb6
      replace Au := (Au.keeps (alloc_below _ _)).keeps hb6
      replace Ay := (Ay.keeps (alloc_below _ _)).keeps hb6
      clear hb6 hcode5 hr5
      have hT6 := hT.keeps hB6
      obtain ⟨s0, s1, s2⟩ := As.grown
      obtain ⟨x0, x1, x2⟩ := Ax.grown
      obtain ⟨u0, u1, u2⟩ := Au.grown
      obtain ⟨y0, y1, y2⟩ := Ay.grown
      obtain ⟨t0, t1, t2⟩ := At.grown
      have hlm : ss.length ≤ maxLen := by unfold maxLen; omega
      have hwm : ∀ s ∈ ss, s.size ≤ maxLen := fun s h => by have := hss s h; unfold maxLen; omega
      have HH := Lib.hid hlm; have HW := Lib.hid hwm; have HR := Lib.hid hr6; have HT6 := Lib.hid hT6
      clear hlm hwm hr6 hT6 hss hcode hT
      generalize hst : stmtB ss kt ta tb = bst at *
      have HST := Lib.hid hst
      generalize hit : isTestS kt = bit at *
      have HIT := Lib.hid hit
      clear hst hit
      generalize hnn : namesN kn = nn at *
      have HNN := Lib.hid hnn
      clear hnn
      have HC1 := Lib.hid (show ∀ d os, Calls Tryd.prog 12 #[stV k sa sb] (grow (redrawn w6 d) os) (GaveB (.bool false) (grow (redrawn w6 d) os)) from fun d os => HT.out ▸ implIsTest k sa sb _)
      have HC2 := Lib.hid (show ∀ d os, Calls Tryd.prog 12 #[stV kt ta tb] (grow (redrawn w6 d) os) (GaveB (.bool bit) (grow (redrawn w6 d) os)) from fun d os => HIT.out ▸ implIsTest kt ta tb _)
      have HC3 := Lib.hid (show ∀ d os, Calls Tryd.prog 17 #[stV kt ta tb] (grow (redrawn w6 d) os) (GaveB (.bool bit) (grow (redrawn w6 d) os)) from fun d os => HIT.out ▸ specIsTest kt ta tb _)
      have HC4 := Lib.hid (show ∀ d os, Calls Tryd.prog 13 #[.slice a5 ss.length cap5, stV kt ta tb] (grow (redrawn w6 d) os) (GaveB (.bool bst) (grow (redrawn w6 d) os)) from fun d os => HST.out ▸ implIsStmt a5 cap5 ss kt ta tb _ HH.out HW.out (row_regrown HR.out _ _) (tab_regrown HT6.out _ _))
      have HC5 := Lib.hid (show ∀ d os, Calls Tryd.prog 14 #[.slice a5 ss.length cap5, stV kt ta tb] (grow (redrawn w6 d) os) (GaveB (.bool bst) (grow (redrawn w6 d) os)) from fun d os => HST.out ▸ specIsStmt a5 cap5 ss kt ta tb _ HH.out HW.out (row_regrown HR.out _ _))
      have HC6 := Lib.hid (show ∀ d os, Calls Tryd.prog 15 #[.int .i64 kn] (grow (redrawn w6 d) os) (GaveW (.int .i64 nn) (grow (redrawn w6 d) os)) from fun d os => HNN.out ▸ implNamesOf kn _ (tab_regrown HT6.out _ _))
      have HC7 := Lib.hid (show ∀ d os, Calls Tryd.prog 16 #[.int .i64 kn] (grow (redrawn w6 d) os) (GaveW (.int .i64 nn) (grow (redrawn w6 d) os)) from fun d os => HNN.out ▸ specNamesOf kn _)
      go_wp2
      refine wp_region_quiet_below (by kernel_rfl) (by kernel_rfl) ?_
      repeat (go_big_quiet_step (first | (go_at_call 12; with_reducible exact at_regrown (HC1.out _ _)) | (go_at_call 12; with_reducible exact at_regrown (HC2.out _ _)) | (go_at_call 17; with_reducible exact at_regrown (HC3.out _ _)) | (go_at_call 13; with_reducible exact at_regrown (HC4.out _ _)) | (go_at_call 14; with_reducible exact at_regrown (HC5.out _ _)) | (go_at_call 15; with_reducible exact same_regrown (HC6.out _ _)) | (go_at_call 16; with_reducible exact same_regrown (HC7.out _ _))))
      refine wpQuiet_nil ?_
      intro _ hw'
      obtain ⟨⟨dq, osq⟩, hw''⟩ := hw'
      subst hw''
      go_wp2
      go_ret
      exact ⟨rfl, hB6.trans ((below_regrown w6 dq osq).mono hB6.size)⟩

theorem own : ownKnob Tryd.prog.godebug = none := by kernel_rfl
theorem laidOut : laidOutB Tryd.prog = true := by kernel_rfl
theorem cellsByte : Tryd.prog.cellsOf 5 = 1 := by kernel_rfl
set_option maxRecDepth 100000 in
theorem contract (H : Type) (enc : TypeId × Value → H) (W : World) (base : Nat) (args : Array Value) (ds gs : List (DataW H)) (before : List MemPlace)
    (hval : ∀ (j : Nat) t v, Tryd.f3.params[j]? = some t → args[j]? = some v → Value.okWide Tryd.prog W .any base t v)
    (hW : DataW.Whole enc Tryd.prog Tryd.f3.params.toList Rows.fnStmtsSpec.vars false W args.toList ds gs before)
    (hL : laidMetH Tryd.prog Rows.fnStmtsRow.laid W) (_hSh : W.ShapedOpen Tryd.prog) :
    Calls Tryd.prog 3 args W fun e W' => ∃ v, e = .returned v ∧ Rows.fnStmtsSpec.post enc Tryd.prog Tryd.f3 false true false false W args v W' := by
  have hW' := hW
  have hlt : ∀ x ∈ before, x.block < W.heap.size := fun x hx => hW'.lt x hx
  have hnamesTable : HasNamesTable W := namesTable_of 0 hL rfl
  obtain ⟨p, q, hA0, hV, rfl, _, _⟩ := hW
  have hA : DataW.TrodAll enc Tryd.prog W 0 (fun _ => true) true Tryd.f3.params.toList args.toList ds p := hA0
  rw [Tryd.params3] at hA hval
  obtain ⟨v0, d0, rfl, rfl, t0⟩ := trodAll_one hA
  obtain ⟨g1, gs1, q1, rfl, hV1⟩ := gs_cons hV
  obtain ⟨rfl, _⟩ := trodVars_none hV1
  obtain ⟨a0, n0, cap0, rfl, _, hn0, hcode0⟩ := open_codes Tryd.underlying22 Tryd.underlying5 cellsByte (fun x hx => hlt x (by simp [hx])) (base := base) (hval 0 22 v0 rfl rfl) t0
  refine (walk a0 n0 cap0 W hn0 hcode0 hnamesTable).mono fun e W' ⟨he, hb⟩ => ?_
  subst he
  exact ⟨_, rfl, law_post_vars laidOut (by kernel_rfl) (by kernel_rfl) (by kernel_rfl) Tryd.underlying4 hW' rfl hb⟩

/-- A world for the witness. -/
noncomputable def start (os : Os) : World := World.doorLaid Tryd.prog 4000 os
theorem laid_met (os : Os) : laidMet Tryd.prog Rows.fnStmtsRow.laid ((start os).forCall (fun _ _ => 0) ⟨#[], #[.slice none 0 0], []⟩).memory :=
  laidMet_of_run' 8 (by kernel_rfl) (by kernel_rfl)
theorem reads (os : Os) {H : Type} (enc : TypeId × Value → H) : ∃ places, DataW.whole enc Tryd.prog ((start os).forCall (fun _ _ => 0) ⟨#[], #[.slice none 0 0], []⟩).memory Tryd.f3.params.toList Rows.fnStmtsSpec.vars false #[Value.slice none 0 0].toList 8 = some ([.nil], [Rows.laid_loop_example_g00590_impl_namesTable], places) :=
  ⟨[.cell 0 0, .cell 0 1, .cell 0 2, .cell 0 3, .cell 0 4, .cell 0 5, .cell 0 6, .cell 0 7, .cell 0 8, .cell 0 9, .cell 0 10, .cell 0 11, .cell 0 12], by kernel_rfl⟩

set_option maxRecDepth 100000 in
theorem lifted (os : Os) (started : os.Started) (H : Type) (enc : TypeId × Value → H) (F : Stop.Interp) :
    ReturnsInHanded {} Tryd.checked os 3 .any ((OpenSpec.ofChange Rows.fnStmtsSpec).preRow enc Tryd.prog Tryd.f3 Rows.fnStmtsRow.domain false Rows.fnStmtsRow.laid) (((OpenSpec.ofChange Rows.fnStmtsSpec).at F).post enc Tryd.prog Tryd.f3 false true false false) := by
  obtain ⟨places, hx⟩ := reads os enc
  refine returnsInHanded_of_row (C := Tryd.checked) (s := OpenSpec.ofChange Rows.fnStmtsSpec) own started (by kernel_rfl) Tryd.func3
    (witness_row_atRef (enc := enc) (C := Tryd.checked) false (start os) #[.slice none 0 0] rfl (by kernel_rfl) (by kernel_rfl) (by kernel_rfl)
      (OpenSpec.preRow_of_cond 8 hx (by kernel_rfl) (fun k hk => by cases hk) (by kernel_rfl) (laid_met os))) ?_
  intro W base args ds gs before hval hW _ _ _ hL hSh _
  exact contract H enc W base args ds gs before hval hW hL hSh

theorem said : Rows.FnStmtsSaid :=
  OpenClaim.holds_of_cond 3 Tryd.f3 rfl rfl rfl rfl rfl rfl rfl ⟨rfl, rfl, rfl, rfl, rfl⟩ rfl rfl rfl rfl rfl (by kernel_rfl) Tryd.func3 (by kernel_rfl)
    (of_decide_eq_true (by kernel_rfl)) (by unfold Func.isWrapper; first | (rw [if_pos (by decide +kernel)]; kernel_rfl) | (rw [if_neg (by decide +kernel)]; exact ⟨rfl, rfl⟩))
    (fun os started H enc _ F => by rw [OpenClaim.pre_eq_preRow]; exact lifted os started H enc F)

theorem plain (f : FuncId) (fn : Func) (hf : Tryd.pinned.checked.prog.funcNamed "loop.example/g00590/laws.FnStmts" = some f) (hfn : Tryd.pinned.checked.prog.funcs[f]? = some fn) :
    Rows.fnStmtsCard.stood.looks = Tryd.pinned.checked.prog.looks [] ∧ ∀ (j : Nat) t, fn.params[j]? = some t → Tryd.pinned.checked.prog.wantsStandIn t = false := by
  obtain rfl : f = 3 := Option.some.inj ((show Tryd.prog.funcNamed "loop.example/g00590/laws.FnStmts" = some 3 by kernel_rfl).symm.trans hf) |>.symm
  obtain rfl : fn = Tryd.f3 := (Option.some.inj (Tryd.func3.symm.trans hfn)).symm
  refine ⟨by kernel_rfl, fun j t ht => ?_⟩
  rw [Tryd.params3] at ht
  have hm : t ∈ [22] := by simpa using Array.mem_of_getElem? ht
  have hall : ([22].all fun u => !Tryd.prog.wantsStandIn u) = true := by kernel_rfl
  exact (show Tryd.prog.wantsStandIn t = false by simpa using List.all_eq_true.1 hall t hm)

/-- The card. -/
theorem card : Rows.FnStmtsCardSaid :=
  Claim7.holds_tied_plain_at .later [] _ _ _ _ said (fun _ h => by cases h) (by kernel_rfl) (fun _ h => by cases h) fnStmts_row_tie rfl ⟨rfl, rfl⟩ (by kernel_rfl) rfl plain (by kernel_rfl)
#print axioms card
end Go.Proofs.YtiocpaoelahcaaaDoor.stmts
