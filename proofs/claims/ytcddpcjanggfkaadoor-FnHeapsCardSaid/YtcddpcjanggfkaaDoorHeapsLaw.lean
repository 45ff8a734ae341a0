/-
  Proved: for every list of bytes the law FnHeaps returns true and leaves its argument as it was, where the listed tables of the program read as its text lays them (the card ties them).
-/
import Derived.Test.YtcddpcjanggfkaaDoorDrawTwoHeaps
import Derived.Test.YtcddpcjanggfkaaDoorImplCanon
import Derived.Test.YtcddpcjanggfkaaDoorSpecCanonH
import Derived.Test.YtcddpcjanggfkaaDoorImplLeak
import Derived.Test.YtcddpcjanggfkaaDoorSpecForm
import Derived.Test.YtcddpcjanggfkaaDoorImplIsHeap
import Derived.Test.YtcddpcjanggfkaaDoorSpecIsHeap
import Derived.Test.YtcddpcjanggfkaaDoorImplHeap
import Derived.Test.YtcddpcjanggfkaaDoorSpecHeap
import Derived.Test.YtcddpcjanggfkaaDoorImplHeapText
import Derived.Test.YtcddpcjanggfkaaDoorSpecHeapText
import Derived.Test.YtcddpcjanggfkaaDoorEqualHeap
import Derived.Test.YtcddpcjanggfkaaDoorSameInts
import Derived.Test.YtcddpcjanggfkaaDoorCards
import Derived.Test.YtcddpcjanggfkaaDoorTie
import Derived.ChangeMaps5
import Derived.Deep.RegionHeld3
import Derived.Deep.DeepWitnessRowRef
import Derived.LaidMore
import Derived.Lib.QuietBelow
namespace Go.Proofs.YtcddpcjanggfkaaDoor.heaps
open Go Go.RowKit Go.ChangeShapes Go.WideShapes Go.ChangeAt Go.Sort

/-- The law said true, and nothing old has turned. -/
def TrueEnd (w : World) (e : Ending) (w' : World) : Prop := e = .returned (.bool true) ∧ Below w.heap.size w w'

theorem canon_lens (vs zs : List Int) : (canonVs vs zs).length ≤ vs.length ∧ (canonNs vs zs).length ≤ zs.length := by
  unfold canonVs canonNs
  split
  · exact ⟨by simp [canonV], by simp only [canonN, List.length_map]; exact (order_end vs zs).len⟩
  · simp
theorem same_selfH (vs zs : List Int) : sameH vs zs vs zs = true := by simp [sameH]

/-- A heap in a box, with its rows. -/
structure HB (W : World) (X : Nat) (a : Option Addr) (ca : Nat) (b : Option Addr) (cb : Nat) (vs zs : List Int) : Prop where
  box : Box2 W X (.slice a vs.length ca) (.slice b zs.length cb)
  r : HeapAt W a b vs zs
  lt : X < W.heap.size
section
variable {W W' w : World} {X : Nat} {a b : Option Addr} {ca cb : Nat} {vs zs : List Int}
theorem HB.keeps (h : HB W X a ca b cb vs zs) (hb : Below W.heap.size W W') : HB W' X a ca b cb vs zs := ⟨h.box.keep h.lt hb, h.r.below hb (Nat.le_refl _), Nat.lt_of_lt_of_le h.lt hb.size⟩
theorem alloc_below (w : World) (o : Obj) : Below w.heap.size w (w.alloc o) := (Below.refl _ _).alloc (Nat.le_refl _) _
theorem HB.new {t : TypeId} (r : HeapAt w a b vs zs) : HB (w.alloc (.cells #[.slice a vs.length ca, .slice b zs.length cb] t)) w.heap.size a ca b cb vs zs := by
  obtain ⟨W0, hW0, hb0, hs0, hA0⟩ := one_box2 w (.slice a vs.length ca) (.slice b zs.length cb) t
  rw [hW0]
  exact ⟨hA0, r.below hb0 (Nat.le_refl _), hs0⟩
end

/-- A call gave this row. -/
def RowGiven (ps : List Int) (w : World) (e : Ending) (w' : World) : Prop := ∃ a c, e = .returned (.slice a ps.length c) ∧ Row w' w'.heap.size a (intVals ps) ∧ Below w.heap.size w w'
theorem given_row {ps : List Int} {w : World} {e : Ending} {w' : World} (h : Built w.heap.size 3 (intVals ps) w e w') : RowGiven ps w e w' := by
  obtain ⟨a, c, rfl, _, ho, hb⟩ := h
  rw [intVals_length] at ho ⊢
  exact ⟨a, c, rfl, Row.owned ho, hb⟩
theorem implFollowed' (a b : Option Addr) (ca cb : Nat) (vs zs : List Int) (c : Int) (w : World) (hz : zs.length ≤ 1048576) (h : HeapAt w a b vs zs) : Calls Tryd.prog 19 #[heV a vs.length ca b zs.length cb, .int .i64 c] w (RowGiven (followed zs c) w) :=
  (implFollowed a b vs.length ca cb zs c w hz h.z).mono fun _ _ h => given_row h
theorem specFollowed' (a b : Option Addr) (ca cb : Nat) (vs zs : List Int) (c : Int) (w : World) (hz : zs.length ≤ 1048576) (h : HeapAt w a b vs zs) : Calls Tryd.prog 20 #[heV a vs.length ca b zs.length cb, .int .i64 c] w (RowGiven (followed zs c) w) :=
  (specFollowed a b vs.length ca cb zs c w hz h.z).mono fun _ _ h => given_row h
theorem sameInts' (a b : Option Addr) (ca cb : Nat) (ns : List Int) (w : World) (hn : ns.length ≤ maxLen) (ha : Row w w.heap.size a (intVals ns)) (hb : Row w w.heap.size b (intVals ns)) :
    Calls Tryd.prog 18 #[.slice a ns.length ca, .slice b ns.length cb] w (GaveX (.bool true) w) :=
  (sameInts a b ca cb ns w hn ha hb).mono fun _ _ ⟨n, he, hw⟩ => ⟨he, hw ▸ below_draws (Below.refl _ _) n⟩

set_option maxRecDepth 100000 in
set_option maxHeartbeats 8000000 in
theorem walk (a : Option Addr) (n cap : Nat) (w : World) (hn : n ≤ maxLen) (hcode : Code8 w w.heap.size n a) (hP : Pows w) : Calls Tryd.prog 3 #[.slice a n cap] w (TrueEnd w) := by
  by_cases hbig : 1048576 < n
  · go_enter Tryd.func3, Tryd.ntmps3
    go_wp2_with fail
    refine (bigYes a n cap _ hn hbig).mono ?_
    rintro e w1 ⟨rfl, rfl⟩
    go_wp2
    go_ret
    exact ⟨rfl, Below.refl _ _⟩
  have hCode : ∀ W, Below w.heap.size w W → Code8 W W.heap.size n a := fun W h => (hcode.keeps fun p hp => h.cell hp).grow h.size
  have HCD := Lib.hid hCode
  have HPW := Lib.hid hP
  go_enter Tryd.func3, Tryd.ntmps3
  go_wp2_with fail
  refine (bigNo a n cap _ (by omega)).mono ?_
  rintro e w1 ⟨rfl, rfl⟩
  go_wp2_with fail
  refine (drawCanonHeap a n cap _ (by omega) hcode).mono ?_
  rintro e w1 ⟨ha, hca, hb, hcb, hv, hz, rfl, hv3, hz6, hr, hB1⟩
  have hvl : hv.length ≤ 1048576 := by omega
  have hzl : hz.length ≤ 1048576 := by omega
  obtain ⟨cv, cn, hcv, hcn, hst, hcl, hdl⟩ : ∃ cv cn, canonVs hv hz = cv ∧ canonNs hv hz = cn ∧ (canonVs cv cn = cv ∧ canonNs cv cn = cn ∧ leakB cv cn = false) ∧ (cv.length ≤ 1048576 ∧ cn.length ≤ 1048576) :=
    ⟨_, _, rfl, rfl, canon_stays hv hz, Nat.le_trans (canon_lens hv hz).1 hvl, Nat.le_trans (canon_lens hv hz).2 hzl⟩
  have HCV := Lib.hid hcv
  have HCN := Lib.hid hcn
  have HST := Lib.hid hst
  have h3 : HB (w1.alloc (.cells #[.slice ha hv.length hca, .slice hb hz.length hcb] 26)) w1.heap.size ha hca hb hcb hv hz := HB.new hr.at_
  have hB2 := hB1.trans ((alloc_below w1 (.cells #[.slice ha hv.length hca, .slice hb hz.length hcb] 26)).mono hB1.size)
  clear hcv hcn hst hr hCode hcode hP hv3 hz6
  obtain ⟨b0, b1⟩ := h3.box
  go_wp2_with fail
  refine (implCanonHeap ha hb hca hcb hv hz _ hvl hzl h3.r).mono ?_
  rw [HCV.out, HCN.out]
  rintro e w3 ⟨xa, xca, xb, xcb, rfl, hin3, hb3⟩
  have hB3 := hB2.trans (hb3.mono hB2.size)
  have h4 : HB (w3.alloc (.cells #[.slice xa cv.length xca, .slice xb cn.length xcb] 26)) w3.heap.size xa xca xb xcb cv cn := HB.new hin3.rows
  replace h3 := (h3.keeps hb3).keeps (alloc_below w3 (.cells #[.slice xa cv.length xca, .slice xb cn.length xcb] 26))
  have hB4 := hB3.trans ((alloc_below w3 (.cells #[.slice xa cv.length xca, .slice xb cn.length xcb] 26)).mono hB3.size)
  clear b0 b1 hin3 hb3 hB2 hB1 hB3
  go_wp2_with fail
  refine (drawIsHeap a n cap _ (by omega) (HCD.out _ hB4)).mono ?_
  rintro e w5 ⟨nv, ga, gca, gb, gcb, gv, gz, rfl, hnv, hgv3, hgz6, hr5, hb5⟩
  have hgl : gv.length ≤ 1048576 := by omega
  have hgzl : gz.length ≤ 1048576 := by omega
  have hB5 := hB4.trans (hb5.mono hB4.size)
  have h6 : HB (w5.alloc (.cells #[.slice ga gv.length gca, .slice gb gz.length gcb] 26)) w5.heap.size ga gca gb gcb gv gz := HB.new hr5.at_
  replace h3 := (h3.keeps hb5).keeps (alloc_below w5 (.cells #[.slice ga gv.length gca, .slice gb gz.length gcb] 26))
  replace h4 := (h4.keeps hb5).keeps (alloc_below w5 (.cells #[.slice ga gv.length gca, .slice gb gz.length gcb] 26))
  have hB6 := hB5.trans ((alloc_below w5 (.cells #[.slice ga gv.length gca, .slice gb gz.length gcb] 26)).mono hB5.size)
  clear hb5 hB5 hB4 hr5 hnv hgv3 hgz6
  go_wp2
  generalize (w5.alloc (.cells #[.slice ga gv.length gca, .slice gb gz.length gcb] 26)) = W6 at *
  generalize w1.heap.size = X3 at *
  generalize w3.heap.size = X4 at *
  generalize w5.heap.size = X6 at *
  have key : ∀ W, Below W6.heap.size W6 W → (HB W X3 ha hca hb hcb hv hz ∧ HB W X4 xa xca xb xcb cv cn ∧ HB W X6 ga gca gb gcb gv gz) ∧ Below w.heap.size w W := fun W h => ⟨⟨h3.keeps h, h4.keeps h, h6.keeps h⟩, hB6.trans (h.mono hB6.size)⟩
  have hAll : ∀ W, Below W6.heap.size W6 W → (W.cell? ⟨X3, 0, none⟩ = some (.slice ha hv.length hca) ∧ W.cell? ⟨X3, 1, none⟩ = some (.slice hb hz.length hcb)) ∧ (W.cell? ⟨X4, 0, none⟩ = some (.slice xa cv.length xca) ∧ W.cell? ⟨X4, 1, none⟩ = some (.slice xb cn.length xcb)) ∧ (W.cell? ⟨X6, 0, none⟩ = some (.slice ga gv.length gca) ∧ W.cell? ⟨X6, 1, none⟩ = some (.slice gb gz.length gcb)) := fun W h => ⟨(key W h).1.1.box, (key W h).1.2.1.box, (key W h).1.2.2.box⟩
  have KEY := Lib.hid key
  have ALL := Lib.hid hAll
  have hD : Below W6.heap.size W6 W6.drew := Below.drew (Below.refl _ _)
  clear key hAll h3 h4 h6 hB6
  have hvm : hv.length ≤ maxLen := by unfold maxLen; omega
  have hcm : cv.length ≤ maxLen ∧ cn.length ≤ maxLen := by unfold maxLen; omega
  have hgm : gv.length ≤ maxLen ∧ gz.length ≤ maxLen := by unfold maxLen; omega
  obtain ⟨lk, hlk⟩ : ∃ lk, leakB hv hz = lk := ⟨_, rfl⟩
  obtain ⟨hq, hhq, hqs⟩ : ∃ hq, heapB nv gv gz = hq ∧ (hq = true → canonVs gv gz = gv ∧ canonNs gv gz = gz ∧ leakB gv gz = false) := ⟨_, rfl, heap_stays⟩
  have HLK := Lib.hid hlk
  have HHQ := Lib.hid hhq
  have HQS := Lib.hid hqs
  clear hlk hhq hqs
  go_region_held3 (fun W => (W.cell? ⟨X3, 0, none⟩ = some (.slice ha hv.length hca) ∧ W.cell? ⟨X3, 1, none⟩ = some (.slice hb hz.length hcb)) ∧ (W.cell? ⟨X4, 0, none⟩ = some (.slice xa cv.length xca) ∧ W.cell? ⟨X4, 1, none⟩ = some (.slice xb cn.length xcb)) ∧ (W.cell? ⟨X6, 0, none⟩ = some (.slice ga gv.length gca) ∧ W.cell? ⟨X6, 1, none⟩ = some (.slice gb gz.length gcb)))
    (first | with_reducible exact ALL.out _ hD | with_reducible exact ALL.out _ H1 | with_reducible exact ALL.out _ H2 | with_reducible exact ALL.out _ H3 | with_reducible exact ALL.out _ H4 | with_reducible exact ALL.out _ H5 | with_reducible exact ALL.out _ H6 | with_reducible exact ALL.out _ H7 | with_reducible exact ALL.out _ H8 | with_reducible exact ALL.out _ H9)
    (first
      | (go_at_call 10; (with_reducible refine (specCanonHeap ha hb hca hcb hv hz _ hvl hzl (KEY.out _ hD).1.1.r).mono ?_); rw [HCV.out, HCN.out]; rintro e v1 ⟨ya, yca, yb, ycb, rfl, hy1, hb1⟩; have H1 := hD.trans (hb1.mono hD.size))
      | (go_at_call 9; (with_reducible refine (implEqualHeap xa xb ya yb xca xcb yca ycb cv cn cv cn _ hcm.1 hcm.2 (KEY.out _ H1).1.2.1.r hy1.rows).mono ?_); rw [same_selfH]; rintro e v2 ⟨rfl, hb2⟩; have H2 := H1.trans (hb2.mono H1.size))
      | (go_at_call 7; (with_reducible refine (implCanonHeap xa xb xca xcb cv cn _ hcl hdl (KEY.out _ H2).1.2.1.r).mono ?_); rw [HST.out.1, HST.out.2.1]; rintro e v3 ⟨za, zca, zb, zcb, rfl, hz3, hb3⟩; have H3 := H2.trans (hb3.mono H2.size))
      | (go_at_call 9; (with_reducible refine (implEqualHeap za zb xa xb zca zcb xca xcb cv cn cv cn _ hcm.1 hcm.2 hz3.rows (KEY.out _ H3).1.2.1.r).mono ?_); rw [same_selfH]; rintro e v4 ⟨rfl, hb4⟩; have H4 := H3.trans (hb4.mono H3.size))
      | (go_at_call 11; (with_reducible refine (implHasLeak xa xb xca xcb cv cn _ hcl hdl (KEY.out _ H4).1.2.1.r).mono ?_); rw [HST.out.2.2]; rintro e v5 ⟨rfl, hb5⟩; have H5 := H4.trans (hb5.mono H4.size))
      | (go_at_call 11; (with_reducible refine (implHasLeak ha hb hca hcb hv hz _ hvl hzl (KEY.out _ H5).1.1.r).mono ?_); rw [HLK.out]; rintro e v6 ⟨rfl, hb6⟩; have H6 := H5.trans (hb6.mono H5.size))
      | (go_at_call 12; (with_reducible refine (specHasLeak ha hb hca hcb hv hz _ hvl hzl (KEY.out _ H6).1.1.r).mono ?_); rw [HLK.out]; rintro e v7 ⟨rfl, hb7⟩; have H7 := H6.trans (hb7.mono H6.size))
      | (go_at_call 13; (with_reducible refine (implIsHeap nv ga gb gca gcb gv gz _ hgm.1 hgm.2 (KEY.out _ H7).1.2.2.r).mono ?_); rw [HHQ.out]; rintro e v8 ⟨rfl, hb8⟩; have H8 := H7.trans (hb8.mono H7.size))
      | (go_at_call 14; (with_reducible refine (specIsHeap nv ga gb gca gcb gv gz _ hgm.1 hgm.2 (KEY.out _ H8).1.2.2.r).mono ?_); rw [HHQ.out]; rintro e v9 ⟨rfl, hb9⟩; have H9 := H8.trans (hb9.mono H8.size)))
  have hE : Below W6.heap.size W6 v9.drew := H9.drew
  clear H1 H2 H3 H4 H5 H6 H7 H8 hb1 hb2 hb3 hb4 hb5 hb6 hb7 hb8 hb9 hy1 hz3 hD
  go_wp2
  cases hq
  case' false =>
    have hc := (ALL.out _ H9).2.2
    have c0 := fun d os => cell_regrown hc.1 d os
    have c1 := fun d os => cell_regrown hc.2 d os
    have HC := Lib.hid (show ∀ d os, Calls Tryd.prog 13 #[.int .i64 nv, heV ga gv.length gca gb gz.length gcb] (grow (redrawn v9 d) os) (GaveX (.bool false) (grow (redrawn v9 d) os)) from fun d os => HHQ.out ▸ implIsHeap nv ga gb gca gcb gv gz _ hgm.1 hgm.2 ((KEY.out _ H9).1.2.2.r.again d os))
    clear hc hE
    refine wp_region_quiet_below (by kernel_rfl) (by kernel_rfl) ?_
    repeat (go_big_quiet_step (first | (go_at_call 13; with_reducible exact at_again (HC.out _ _))))
    refine wpQuiet_nil ?_
    rintro u1 ⟨⟨d, os⟩, rfl⟩
    have G1 := H9.trans ((below_regrown v9 d os).mono H9.size)
    have hZ0 := (KEY.out _ G1).2
    clear G1 H9 KEY ALL HC c0 c1
    generalize grow (redrawn v9 d) os = z0 at *
  case' true =>
    obtain ⟨q1, q2, q3⟩ := HQS.out rfl
    have HQ1 := Lib.hid q1
    have HQ2 := Lib.hid q2
    have HQ3 := Lib.hid q3
    clear q1 q2 q3
    go_region_held3 (fun W => W.cell? ⟨X6, 0, none⟩ = some (.slice ga gv.length gca) ∧ W.cell? ⟨X6, 1, none⟩ = some (.slice gb gz.length gcb))
      (first | with_reducible exact (ALL.out _ hE).2.2 | with_reducible exact (ALL.out _ G1).2.2 | with_reducible exact (ALL.out _ G2).2.2 | with_reducible exact (ALL.out _ G3).2.2 | with_reducible exact (ALL.out _ G4).2.2)
      (first
        | (go_at_call 13; (with_reducible refine (implIsHeap nv ga gb gca gcb gv gz _ hgm.1 hgm.2 (KEY.out _ hE).1.2.2.r).mono ?_); rw [HHQ.out]; rintro e u1 ⟨rfl, hb1⟩; have G1 := hE.trans (hb1.mono hE.size))
        | (go_at_call 7; (with_reducible refine (implCanonHeap ga gb gca gcb gv gz _ hgl hgzl (KEY.out _ G1).1.2.2.r).mono ?_); rw [HQ1.out, HQ2.out]; rintro e u2 ⟨ya, yca, yb, ycb, rfl, hy2, hb2⟩; have G2 := G1.trans (hb2.mono G1.size))
        | (go_at_call 9; (with_reducible refine (implEqualHeap ya yb ga gb yca ycb gca gcb gv gz gv gz _ hgm.1 hgm.2 hy2.rows (KEY.out _ G2).1.2.2.r).mono ?_); rw [same_selfH]; rintro e u3 ⟨rfl, hb3⟩; have G3 := G2.trans (hb3.mono G2.size))
        | (go_at_call 11; (with_reducible refine (implHasLeak ga gb gca gcb gv gz _ hgl hgzl (KEY.out _ G3).1.2.2.r).mono ?_); rw [HQ3.out]; rintro e u4 ⟨rfl, hb4⟩; have G4 := G3.trans (hb4.mono G3.size)))
    have hZ0 := (KEY.out _ G4).2
    clear G1 G2 G3 G4 hb1 hb2 hb3 hb4 hy2 hE H9 KEY ALL HQ1 HQ2 HQ3
    generalize u4 = z0 at *
  all_goals
    clear HHQ HQS HLK HST HCV HCN hcm hgm hvm hgl hgzl hcl hdl hvl hzl
    go_wp2_with fail
    refine (drawFollowed a n cap _ (by omega) (HCD.out _ hZ0)).mono ?_
    rintro e z1 ⟨fa, fca, fb, fcb, fv, fz, x, rfl, hx, hfv3, hfz6, hr1, hb1⟩
    have hfzl : fz.length ≤ 1048576 := by omega
    have hZ1 := hZ0.trans (hb1.mono hZ0.size)
    have F2 : HB (z1.alloc (.cells #[.slice fa fv.length fca, .slice fb fz.length fcb] 26)) z1.heap.size fa fca fb fcb fv fz := HB.new hr1.at_
    have hZ2 := hZ1.trans ((alloc_below z1 (.cells #[.slice fa fv.length fca, .slice fb fz.length fcb] 26)).mono hZ1.size)
    clear hZ0 hb1 hZ1 hr1 hfv3 hfz6
    go_wp2_with fail
    refine (drawHeapText a n cap _ (by omega) (HCD.out _ hZ2)).mono ?_
    rintro e z3 ⟨ss, sa, ta, tca, tb, tcb, tv, tz, rfl, hss, htv3, htz6, hrs, hrt, hb3⟩
    have htv : tv.length ≤ maxLen ∧ tz.length ≤ maxLen := by unfold maxLen; omega
    have hsl : ss.length ≤ maxLen := by have := hss.1; unfold maxLen; omega
    have HSZ := Lib.hid (show ∀ s ∈ ss, s.size ≤ maxLen from fun s hs => by have := hss.2 s hs; unfold maxLen; omega)
    have hZ3 := hZ2.trans (hb3.mono hZ2.size)
    have T4 : HB (z3.alloc (.cells #[.slice ta tv.length tca, .slice tb tz.length tcb] 26)) z3.heap.size ta tca tb tcb tv tz := HB.new hrt.at_
    have hal := alloc_below z3 (.cells #[.slice ta tv.length tca, .slice tb tz.length tcb] 26)
    have F4 := (F2.keeps hb3).keeps hal
    have S4 := (hrs.below hal).row
    have hZ4 := hZ3.trans (hal.mono hZ3.size)
    clear hZ2 hb3 hZ3 hrs hrt htv3 htz6 hss F2 hal
    go_wp2_with fail
    refine (drawEqualHeap a n cap _ (by omega) (HCD.out _ hZ4)).mono ?_
    rintro e z5 ⟨ea, eca, eb, ecb, ev, ez, ka, kca, kb, kcb, kv, kz, rfl, hlen, hrows, hb5⟩
    have hem : ev.length ≤ maxLen ∧ ez.length ≤ maxLen := by unfold maxLen; omega
    have hZ5 := hZ4.trans (hb5.mono hZ4.size)
    have F5 := F4.keeps hb5
    have T5 := T4.keeps hb5
    have S5 := (S4.below hb5).grow hb5.size
    clear hZ4 hb5 F4 T4 S4 hlen
    go_wp2
    obtain ⟨Z6, hZ6, hb6, hs6, hE6, hK6⟩ := two_box2 z5 (.slice ea ev.length eca) (.slice eb ez.length ecb) (.slice ka kv.length kca) (.slice kb kz.length kcb) 26 26
    rw [hZ6]
    clear hZ6
    have F6 := F5.keeps hb6
    have T6 := T5.keeps hb6
    have S6 := (S5.below hb6).grow hb6.size
    have E6 : HB Z6 z5.heap.size ea eca eb ecb ev ez := ⟨hE6, hrows.1.below hb6 (Nat.le_refl _), by omega⟩
    have K6 : HB Z6 (z5.heap.size + 1) ka kca kb kcb kv kz := ⟨hK6, hrows.2.below hb6 (Nat.le_refl _), hs6⟩
    have hB6 := hZ5.trans (hb6.mono hZ5.size)
    clear F5 T5 S5 hE6 hK6 hrows hZ5 hb6 hs6
    generalize z1.heap.size = Y1 at *
    generalize z3.heap.size = Y3 at *
    generalize z5.heap.size = Y5 at *
    have key : ∀ W, Below Z6.heap.size Z6 W → (HB W Y1 fa fca fb fcb fv fz ∧ HB W Y3 ta tca tb tcb tv tz ∧ HB W Y5 ea eca eb ecb ev ez ∧ HB W (Y5 + 1) ka kca kb kcb kv kz) ∧ Row W W.heap.size sa (strVals ss) ∧ Below w.heap.size w W := fun W h => ⟨⟨F6.keeps h, T6.keeps h, E6.keeps h, K6.keeps h⟩, (S6.below h).grow h.size, hB6.trans (h.mono hB6.size)⟩
    have hAll : ∀ W, Below Z6.heap.size Z6 W → (W.cell? ⟨Y1, 0, none⟩ = some (.slice fa fv.length fca) ∧ W.cell? ⟨Y1, 1, none⟩ = some (.slice fb fz.length fcb)) ∧ (W.cell? ⟨Y3, 0, none⟩ = some (.slice ta tv.length tca) ∧ W.cell? ⟨Y3, 1, none⟩ = some (.slice tb tz.length tcb)) ∧ (W.cell? ⟨Y5, 0, none⟩ = some (.slice ea ev.length eca) ∧ W.cell? ⟨Y5, 1, none⟩ = some (.slice eb ez.length ecb)) ∧ (W.cell? ⟨Y5 + 1, 0, none⟩ = some (.slice ka kv.length kca) ∧ W.cell? ⟨Y5 + 1, 1, none⟩ = some (.slice kb kz.length kcb)) := fun W h => ⟨(key W h).1.1.box, (key W h).1.2.1.box, (key W h).1.2.2.1.box, (key W h).1.2.2.2.box⟩
    have KEY := Lib.hid key
    have ALL := Lib.hid hAll
    have hD : Below Z6.heap.size Z6 Z6.drew := Below.drew (Below.refl _ _)
    clear key hAll F6 T6 E6 K6 S6 hB6
    obtain ⟨sb, hsb⟩ : ∃ sb, sameH ev ez kv kz = sb := ⟨_, rfl⟩
    obtain ⟨tx, htx⟩ : ∃ tx, heapT ss tv tz = tx := ⟨_, rfl⟩
    obtain ⟨ps, hps, hpl⟩ : ∃ ps, followed fz x = ps ∧ ps.length ≤ maxLen := ⟨_, rfl, by have := (followed_ok fz x).len; unfold maxLen; omega⟩
    have HSB := Lib.hid hsb
    have HTX := Lib.hid htx
    have HPS := Lib.hid hps
    clear hsb htx hps
    go_region_held3 (fun W => (W.cell? ⟨Y1, 0, none⟩ = some (.slice fa fv.length fca) ∧ W.cell? ⟨Y1, 1, none⟩ = some (.slice fb fz.length fcb)) ∧ (W.cell? ⟨Y3, 0, none⟩ = some (.slice ta tv.length tca) ∧ W.cell? ⟨Y3, 1, none⟩ = some (.slice tb tz.length tcb)) ∧ (W.cell? ⟨Y5, 0, none⟩ = some (.slice ea ev.length eca) ∧ W.cell? ⟨Y5, 1, none⟩ = some (.slice eb ez.length ecb)) ∧ (W.cell? ⟨Y5 + 1, 0, none⟩ = some (.slice ka kv.length kca) ∧ W.cell? ⟨Y5 + 1, 1, none⟩ = some (.slice kb kz.length kcb)))
      (first | with_reducible exact ALL.out _ hD | with_reducible exact ALL.out _ H1 | with_reducible exact ALL.out _ H2 | with_reducible exact ALL.out _ H3 | with_reducible exact ALL.out _ H4 | with_reducible exact ALL.out _ H5 | with_reducible exact ALL.out _ H6 | with_reducible exact ALL.out _ H7)
      (first
        | (go_at_call 19; (with_reducible refine (implFollowed' fa fb fca fcb fv fz x _ hfzl (KEY.out _ hD).1.1.r).mono ?_); rw [HPS.out]; rintro e v1 ⟨pa, pc, rfl, hp1, hb1⟩; have H1 := hD.trans (hb1.mono hD.size))
        | (go_at_call 20; (with_reducible refine (specFollowed' fa fb fca fcb fv fz x _ hfzl (KEY.out _ H1).1.1.r).mono ?_); rw [HPS.out]; rintro e v2 ⟨qa, qc, rfl, hq2, hb2⟩; have H2 := H1.trans (hb2.mono H1.size); have hp2 := (hp1.below hb2).grow hb2.size)
        | (go_at_call 18; (with_reducible refine (sameInts' pa qa pc qc ps _ hpl hp2 hq2).mono ?_); rintro e v3 ⟨rfl, hb3⟩; have H3 := H2.trans (hb3.mono H2.size))
        | (go_at_call 21; (with_reducible refine (implHeapText sa 3 ss ta tb tca tcb tv tz _ hsl HSZ.out (KEY.out _ H3).2.1 htv.1 htv.2 (KEY.out _ H3).1.2.1.r (HPW.out.keeps (KEY.out _ H3).2.2)).mono ?_); rw [HTX.out]; rintro e v4 ⟨rfl, hb4⟩; have H4 := H3.trans (hb4.mono H3.size))
        | (go_at_call 22; (with_reducible refine (specHeapText sa 3 ss ta tb tca tcb tv tz _ hsl HSZ.out (KEY.out _ H4).2.1 htv.1 htv.2 (KEY.out _ H4).1.2.1.r).mono ?_); rw [HTX.out]; rintro e v5 ⟨rfl, hb5⟩; have H5 := H4.trans (hb5.mono H4.size))
        | (go_at_call 9; (with_reducible refine (implEqualHeap ea eb ka kb eca ecb kca kcb ev ez kv kz _ hem.1 hem.2 (KEY.out _ H5).1.2.2.1.r (KEY.out _ H5).1.2.2.2.r).mono ?_); rw [HSB.out]; rintro e v6 ⟨rfl, hb6⟩; have H6 := H5.trans (hb6.mono H5.size))
        | (go_at_call 23; (with_reducible refine (specEqualHeap ea eb ka kb eca ecb kca kcb ev ez kv kz _ hem.1 hem.2 (KEY.out _ H6).1.2.2.1.r (KEY.out _ H6).1.2.2.2.r).mono ?_); rw [HSB.out]; rintro e v7 ⟨rfl, hb7⟩; have H7 := H6.trans (hb7.mono H6.size)))
    have hfin := (KEY.out _ H7).2.2
    go_wp2
    go_ret
    exact ⟨by simp, hfin⟩

theorem own : ownKnob Tryd.prog.godebug = none := by kernel_rfl
theorem laidOut : laidOutB Tryd.prog = true := by kernel_rfl
theorem cellsByte : Tryd.prog.cellsOf 5 = 1 := by kernel_rfl
set_option maxRecDepth 100000 in
theorem contract (H : Type) (enc : TypeId × Value → H) (W : World) (base : Nat) (args : Array Value) (ds gs : List (DataW H)) (before : List MemPlace)
    (hval : ∀ (j : Nat) t v, Tryd.f3.params[j]? = some t → args[j]? = some v → Value.okWide Tryd.prog W .any base t v)
    (hW : DataW.Whole enc Tryd.prog Tryd.f3.params.toList Rows.fnHeapsSpec.vars false W args.toList ds gs before)
    (hL : laidMetH Tryd.prog Rows.fnHeapsRow.laid W) (_hSh : W.ShapedOpen Tryd.prog) :
    Calls Tryd.prog 3 args W fun e W' => ∃ v, e = .returned v ∧ Rows.fnHeapsSpec.post enc Tryd.prog Tryd.f3 false true false false W args v W' := by
  have hW' := hW
  have hlt : ∀ x ∈ before, x.block < W.heap.size := fun x hx => hW'.lt x hx
  have hpows : Pows W := pows_of hL
  obtain ⟨p, q, hA0, hV, rfl, _, _⟩ := hW
  have hA : DataW.TrodAll enc Tryd.prog W 0 (fun _ => true) true Tryd.f3.params.toList args.toList ds p := hA0
  rw [Tryd.params3] at hA hval
  obtain ⟨v0, d0, rfl, rfl, t0⟩ := trodAll_one hA
  obtain ⟨a0, n0, cap0, rfl, _, hn0, hcode0⟩ := open_codes Tryd.underlying22 Tryd.underlying5 cellsByte (fun x hx => hlt x (by simp [hx])) (base := base) (hval 0 22 v0 rfl rfl) t0
  refine (walk a0 n0 cap0 W hn0 hcode0 hpows).mono fun e W' ⟨he, hb⟩ => ?_
  subst he
  exact ⟨_, rfl, law_post laidOut rfl (by kernel_rfl) (by kernel_rfl) Tryd.underlying4 hW' rfl hb⟩

/-- A world for the witness. -/
noncomputable def start (os : Os) : World := World.doorLaid Tryd.prog 4000 os
theorem laid_met (os : Os) : laidMet Tryd.prog Rows.fnHeapsRow.laid ((start os).forCall (fun _ _ => 0) ⟨#[], #[.slice none 0 0], []⟩).memory :=
  laidMet_of_run' 8 (by kernel_rfl) (by kernel_rfl)
theorem reads (os : Os) {H : Type} (enc : TypeId × Value → H) : ∃ places, DataW.whole enc Tryd.prog ((start os).forCall (fun _ _ => 0) ⟨#[], #[.slice none 0 0], []⟩).memory Tryd.f3.params.toList Rows.fnHeapsSpec.vars false #[Value.slice none 0 0].toList 8 = some ([.nil], [], places) :=
  ⟨[], by kernel_rfl⟩

set_option maxRecDepth 100000 in
theorem lifted (os : Os) (started : os.Started) (H : Type) (enc : TypeId × Value → H) (F : Stop.Interp) :
    ReturnsInHanded {} Tryd.checked os 3 .any ((OpenSpec.ofChange Rows.fnHeapsSpec).preRow enc Tryd.prog Tryd.f3 Rows.fnHeapsRow.domain false Rows.fnHeapsRow.laid) (((OpenSpec.ofChange Rows.fnHeapsSpec).at F).post enc Tryd.prog Tryd.f3 false true false false) := by
  obtain ⟨places, hx⟩ := reads os enc
  refine returnsInHanded_of_row (C := Tryd.checked) (s := OpenSpec.ofChange Rows.fnHeapsSpec) own started (by kernel_rfl) Tryd.func3
    (witness_row_atRef (enc := enc) (C := Tryd.checked) false (start os) #[.slice none 0 0] rfl (by kernel_rfl) (by kernel_rfl) (by kernel_rfl)
      (OpenSpec.preRow_of_cond 8 hx (by kernel_rfl) (fun k hk => by cases hk) (by kernel_rfl) (laid_met os))) ?_
  intro W base args ds gs before hval hW _ _ _ hL hSh _
  exact contract H enc W base args ds gs before hval hW hL hSh

theorem said : Rows.FnHeapsSaid :=
  OpenClaim.holds_of_cond 3 Tryd.f3 rfl rfl rfl rfl rfl rfl rfl ⟨rfl, rfl, rfl, rfl, rfl⟩ rfl rfl rfl rfl rfl (by kernel_rfl) Tryd.func3 (by kernel_rfl)
    (of_decide_eq_true (by kernel_rfl)) (by unfold Func.isWrapper; first | (rw [if_pos (by decide +kernel)]; kernel_rfl) | (rw [if_neg (by decide +kernel)]; exact ⟨rfl, rfl⟩))
    (fun os started H enc _ F => by rw [OpenClaim.pre_eq_preRow]; exact lifted os started H enc F)

theorem plain (f : FuncId) (fn : Func) (hf : Tryd.pinned.checked.prog.funcNamed "loop.example/g00590/laws.FnHeaps" = some f) (hfn : Tryd.pinned.checked.prog.funcs[f]? = some fn) :
    Rows.fnHeapsCard.stood.looks = Tryd.pinned.checked.prog.looks [] ∧ ∀ (j : Nat) t, fn.params[j]? = some t → Tryd.pinned.checked.prog.wantsStandIn t = false := by
  obtain rfl : f = 3 := Option.some.inj ((show Tryd.prog.funcNamed "loop.example/g00590/laws.FnHeaps" = some 3 by kernel_rfl).symm.trans hf) |>.symm
  obtain rfl : fn = Tryd.f3 := (Option.some.inj (Tryd.func3.symm.trans hfn)).symm
  refine ⟨by kernel_rfl, fun j t ht => ?_⟩
  rw [Tryd.params3] at ht
  have hm : t ∈ [22] := by simpa using Array.mem_of_getElem? ht
  have hall : ([22].all fun u => !Tryd.prog.wantsStandIn u) = true := by kernel_rfl
  exact (show Tryd.prog.wantsStandIn t = false by simpa using List.all_eq_true.1 hall t hm)

/-- The card. -/
theorem card : Rows.FnHeapsCardSaid :=
  Claim7.holds_tied_plain_at .later [] _ _ _ _ said (fun _ h => by cases h) (by kernel_rfl) (fun _ h => by cases h) fnHeaps_row_tie rfl ⟨rfl, rfl⟩ (by kernel_rfl) rfl plain (by kernel_rfl)
#print axioms card
end Go.Proofs.YtcddpcjanggfkaaDoor.heaps
