/-
  Proved: for every list of bytes the law FnStructures returns true and leaves its argument as it was, where the listed tables of the program read as its text lays them (the card ties them).
-/
import Derived.Test.YtglcailcdcpadaaGreatDoorCards
import Derived.Test.YtglcailcdcpadaaGreatDoorTie
import Derived.ChangeMaps5
import Derived.Deep.RegionHeld3
import Derived.Deep.DeepWitnessRowRef
import Derived.LaidMore
import Derived.Lib.QuietBelow
import Derived.Test.YtglcailcdcpadaaGreatDoorZ45
import Derived.Test.YtglcailcdcpadaaGreatDoorZ31
import Derived.Test.YtglcailcdcpadaaGreatDoorZ35
import Derived.Test.YtglcailcdcpadaaGreatDoorZ18
import Derived.Test.YtglcailcdcpadaaGreatDoorZ08
import Derived.Test.YtglcailcdcpadaaGreatDoorZ14
namespace Go.Proofs.YtglcailcdcpadaaGreatDoor.structures
open Go Go.RowKit Go.ChangeShapes Go.WideShapes Go.ChangeAt Go.Sort

/-- The law said true, and nothing old has turned. -/
def TrueEnd (w : World) (e : Ending) (w' : World) : Prop := e = .returned (.bool true) ∧ Below w.heap.size w w'

/-- A structure in a box, with its rows. -/
structure SB (W : World) (X : Nat) (x : St) : Prop where
  box : Box2 W X (.slice x.a x.ns.length x.ca) (.slice x.b x.zs.length x.cb)
  at_ : x.At W
  lt : X < W.heap.size
section
variable {W W' w : World} {X : Nat} {x : St}
theorem SB.keeps (h : SB W X x) (hb : Below W.heap.size W W') : SB W' X x := ⟨h.box.keep h.lt hb, h.at_.below hb, Nat.lt_of_lt_of_le h.lt hb.size⟩
theorem alloc_below (w : World) (o : Obj) : Below w.heap.size w (w.alloc o) := (Below.refl _ _).alloc (Nat.le_refl _) _
theorem SB.new {t : TypeId} (r : x.At w) : SB (w.alloc (.cells #[.slice x.a x.ns.length x.ca, .slice x.b x.zs.length x.cb] t)) w.heap.size x := by
  obtain ⟨W0, hW0, hb0, hs0, hA0⟩ := one_box2 w (.slice x.a x.ns.length x.ca) (.slice x.b x.zs.length x.cb) t
  rw [hW0]
  exact ⟨hA0, r.below hb0, hs0⟩
end

set_option maxRecDepth 100000 in
set_option maxHeartbeats 8000000 in
theorem walk (a : Option Addr) (n cap : Nat) (w : World) (hn : n ≤ maxLen) (hcode : Code8 w w.heap.size n a) (hP : Pows w) : Calls Tryz.prog 3 #[.slice a n cap] w (TrueEnd w) := by
  by_cases hbig : 1048576 < n
  · go_enter Tryz.func3, Tryz.ntmps3
    go_wp2_with fail
    refine (bigYes a n cap _ hn hbig).mono ?_
    rintro e w1 ⟨rfl, rfl⟩
    go_wp2
    go_ret
    exact ⟨rfl, Below.refl _ _⟩
  have hCode : ∀ W, Below w.heap.size w W → Code8 W W.heap.size n a := fun W h => (hcode.keeps fun p hp => h.cell hp).grow h.size
  have HCD := Lib.hid hCode
  have HPW := Lib.hid hP
  go_enter Tryz.func3, Tryz.ntmps3
  go_wp2_with fail
  refine (bigNo a n cap _ (by omega)).mono ?_
  rintro e w1 ⟨rfl, rfl⟩
  go_wp2_with fail
  refine (drawIsSt a n cap _ (by omega) hcode).mono ?_
  rintro e w1 ⟨v, s, rfl, ⟨hbs, hrs⟩, hB1⟩
  have h2 : SB (w1.alloc (.cells #[.slice s.a s.ns.length s.ca, .slice s.b s.zs.length s.cb] 27)) w1.heap.size s := SB.new hrs.at_
  have SS := Lib.hid (And.intro hbs.small hrs.cap)
  have hB2 := hB1.trans ((alloc_below w1 (.cells #[.slice s.a s.ns.length s.ca, .slice s.b s.zs.length s.cb] 27)).mono hB1.size)
  clear hbs hrs hB1 hCode hcode hP
  go_wp2_with fail
  refine (drawNextSt a n cap _ (by omega) (HCD.out _ hB2)).mono ?_
  rintro e w3 ⟨x, i, j, rfl, ⟨hbx, hrx⟩, hb3⟩
  have h4 : SB (w3.alloc (.cells #[.slice x.a x.ns.length x.ca, .slice x.b x.zs.length x.cb] 27)) w3.heap.size x := SB.new hrx.at_
  have SX := Lib.hid (And.intro hbx.small hrx.cap)
  have hB3 := hB2.trans (hb3.mono hB2.size)
  have ha4 := alloc_below w3 (.cells #[.slice x.a x.ns.length x.ca, .slice x.b x.zs.length x.cb] 27)
  replace h2 := (h2.keeps hb3).keeps ha4
  have hB4 := hB3.trans (ha4.mono hB3.size)
  clear hbx hrx hb3 hB2 hB3 ha4
  go_wp2_with fail
  refine (drawDefinite a n cap _ (by omega) (HCD.out _ hB4)).mono ?_
  rintro e w5 ⟨d, rfl, ⟨hbd, hrd⟩, hb5⟩
  have h6 : SB (w5.alloc (.cells #[.slice d.a d.ns.length d.ca, .slice d.b d.zs.length d.cb] 27)) w5.heap.size d := SB.new hrd.at_
  have SD := Lib.hid (And.intro hbd.small hrd.cap)
  have hB5 := hB4.trans (hb5.mono hB4.size)
  have ha6 := alloc_below w5 (.cells #[.slice d.a d.ns.length d.ca, .slice d.b d.zs.length d.cb] 27)
  replace h2 := (h2.keeps hb5).keeps ha6
  replace h4 := (h4.keeps hb5).keeps ha6
  have hB6 := hB5.trans (ha6.mono hB5.size)
  clear hbd hrd hb5 hB4 hB5 ha6
  go_wp2_with fail
  refine (drawTextSt a n cap _ (by omega) (HCD.out _ hB6)).mono ?_
  rintro e w7 ⟨ss, sa, t, rfl, hss, hrss, ⟨hbt, hrt⟩, hb7⟩
  have hsl : ss.length ≤ maxLen := by have := hss.1; unfold maxLen; omega
  have HSZ := Lib.hid (show ∀ s ∈ ss, s.size ≤ maxLen from fun s hs => by have := hss.2 s hs; unfold maxLen; omega)
  have h8 : SB (w7.alloc (.cells #[.slice t.a t.ns.length t.ca, .slice t.b t.zs.length t.cb] 27)) w7.heap.size t := SB.new hrt.at_
  have ST := Lib.hid (And.intro hbt.small hrt.cap)
  have hB7 := hB6.trans (hb7.mono hB6.size)
  have ha8 := alloc_below w7 (.cells #[.slice t.a t.ns.length t.ca, .slice t.b t.zs.length t.cb] 27)
  have S8 := (hrss.below ha8).row
  replace h2 := (h2.keeps hb7).keeps ha8
  replace h4 := (h4.keeps hb7).keeps ha8
  replace h6 := (h6.keeps hb7).keeps ha8
  have hB8 := hB7.trans (ha8.mono hB7.size)
  clear hbt hrt hb7 hB6 hB7 ha8 hrss hss
  go_wp2_with fail
  refine (drawEqSt a n cap _ (by omega) (HCD.out _ hB8)).mono ?_
  rintro e w9 ⟨p, q, rfl, ⟨hbp, hbq⟩, ⟨hrp, hrq⟩, ⟨hcp, hcq⟩, hb9⟩
  have SP := Lib.hid (And.intro hbp.small hcp)
  have SQ := Lib.hid (And.intro hbq.small hcq)
  have hB9 := hB8.trans (hb9.mono hB8.size)
  replace h2 := h2.keeps hb9
  replace h4 := h4.keeps hb9
  replace h6 := h6.keeps hb9
  replace h8 := h8.keeps hb9
  replace S8 := (S8.below hb9).grow hb9.size
  clear hbp hbq hcp hcq hb9 hB8
  go_wp2_with fail
  obtain ⟨Z, hZ, hbZ, hsZ, hPZ, hQZ⟩ := two_box2 w9 (.slice p.a p.ns.length p.ca) (.slice p.b p.zs.length p.cb) (.slice q.a q.ns.length q.ca) (.slice q.b q.zs.length q.cb) 27 27
  rw [hZ]
  clear hZ
  have hlt2 := h2.lt
  have hlt4 := h4.lt
  have hlt6 := h6.lt
  have hlt8 := h8.lt
  replace h2 := h2.keeps hbZ
  replace h4 := h4.keeps hbZ
  replace h6 := h6.keeps hbZ
  replace h8 := h8.keeps hbZ
  replace S8 := (S8.below hbZ).grow hbZ.size
  have hp : SB Z w9.heap.size p := ⟨hPZ, hrp.below hbZ, by omega⟩
  have hq : SB Z (w9.heap.size + 1) q := ⟨hQZ, hrq.below hbZ, hsZ⟩
  have hBZ := hB9.trans (hbZ.mono hB9.size)
  clear hPZ hQZ hrp hrq hB9 hbZ hsZ hlt2 hlt4 hlt6 hlt8
  obtain ⟨sm, hsm, hst⟩ : ∃ sm, decide (p.body = q.body) = sm ∧ (sm = true → stT ss q.body = stT ss p.body) := ⟨_, rfl, fun h => by rw [of_decide_eq_true h]⟩
  have HSM := Lib.hid hsm
  have HST := Lib.hid hst
  clear hsm hst
  refine (implEqualSt p q _ SP.out.1 hp.at_ hq.at_).mono ?_
  rw [HSM.out]
  rintro e w10 ⟨rfl, hb10⟩
  generalize w1.heap.size = X2 at *
  generalize w3.heap.size = X4 at *
  generalize w5.heap.size = X6 at *
  generalize w7.heap.size = X8 at *
  generalize w9.heap.size = X9 at *
  have key : ∀ W, Below Z.heap.size Z W → (SB W X2 s ∧ SB W X4 x ∧ SB W X6 d ∧ SB W X8 t ∧ SB W X9 p ∧ SB W (X9 + 1) q) ∧ Row W W.heap.size sa (strVals ss) ∧ Below w.heap.size w W := fun W h => ⟨⟨h2.keeps h, h4.keeps h, h6.keeps h, h8.keeps h, hp.keeps h, hq.keeps h⟩, (S8.below h).grow h.size, hBZ.trans (h.mono hBZ.size)⟩
  have hAll : ∀ W, Below Z.heap.size Z W → (W.cell? ⟨X2, 0, none⟩ = some (.slice s.a s.ns.length s.ca) ∧ W.cell? ⟨X2, 1, none⟩ = some (.slice s.b s.zs.length s.cb)) ∧ (W.cell? ⟨X4, 0, none⟩ = some (.slice x.a x.ns.length x.ca) ∧ W.cell? ⟨X4, 1, none⟩ = some (.slice x.b x.zs.length x.cb)) ∧ (W.cell? ⟨X6, 0, none⟩ = some (.slice d.a d.ns.length d.ca) ∧ W.cell? ⟨X6, 1, none⟩ = some (.slice d.b d.zs.length d.cb)) ∧ (W.cell? ⟨X8, 0, none⟩ = some (.slice t.a t.ns.length t.ca) ∧ W.cell? ⟨X8, 1, none⟩ = some (.slice t.b t.zs.length t.cb)) ∧ (W.cell? ⟨X9, 0, none⟩ = some (.slice p.a p.ns.length p.ca) ∧ W.cell? ⟨X9, 1, none⟩ = some (.slice p.b p.zs.length p.cb)) ∧ (W.cell? ⟨X9 + 1, 0, none⟩ = some (.slice q.a q.ns.length q.ca) ∧ W.cell? ⟨X9 + 1, 1, none⟩ = some (.slice q.b q.zs.length q.cb)) := fun W h => ⟨(key W h).1.1.box, (key W h).1.2.1.box, (key W h).1.2.2.1.box, (key W h).1.2.2.2.1.box, (key W h).1.2.2.2.2.1.box, (key W h).1.2.2.2.2.2.box⟩
  have KEY := Lib.hid key
  have ALL := Lib.hid hAll
  have hD : Below Z.heap.size Z w10.drew := Below.drew hb10
  clear key hAll h2 h4 h6 h8 hp hq hBZ S8
  obtain ⟨sb, hsb⟩ : ∃ sb, stB v s.body = sb := ⟨_, rfl⟩
  obtain ⟨nb, hnb⟩ : ∃ nb, nextB x.body i j = nb := ⟨_, rfl⟩
  obtain ⟨db, hdb⟩ : ∃ db, definB d.body = db := ⟨_, rfl⟩
  obtain ⟨tx, htx⟩ : ∃ tx, stT ss t.body = tx := ⟨_, rfl⟩
  obtain ⟨px, hpx⟩ : ∃ px, stT ss p.body = px := ⟨_, rfl⟩
  have HSB := Lib.hid hsb
  have HNB := Lib.hid hnb
  have HDB := Lib.hid hdb
  have HTX := Lib.hid htx
  have HPX := Lib.hid hpx
  clear hsb hnb hdb htx hpx
  go_wp2
  go_region_held3 (fun W => (W.cell? ⟨X2, 0, none⟩ = some (.slice s.a s.ns.length s.ca) ∧ W.cell? ⟨X2, 1, none⟩ = some (.slice s.b s.zs.length s.cb)) ∧ (W.cell? ⟨X4, 0, none⟩ = some (.slice x.a x.ns.length x.ca) ∧ W.cell? ⟨X4, 1, none⟩ = some (.slice x.b x.zs.length x.cb)) ∧ (W.cell? ⟨X6, 0, none⟩ = some (.slice d.a d.ns.length d.ca) ∧ W.cell? ⟨X6, 1, none⟩ = some (.slice d.b d.zs.length d.cb)) ∧ (W.cell? ⟨X8, 0, none⟩ = some (.slice t.a t.ns.length t.ca) ∧ W.cell? ⟨X8, 1, none⟩ = some (.slice t.b t.zs.length t.cb)) ∧ (W.cell? ⟨X9, 0, none⟩ = some (.slice p.a p.ns.length p.ca) ∧ W.cell? ⟨X9, 1, none⟩ = some (.slice p.b p.zs.length p.cb)) ∧ (W.cell? ⟨X9 + 1, 0, none⟩ = some (.slice q.a q.ns.length q.ca) ∧ W.cell? ⟨X9 + 1, 1, none⟩ = some (.slice q.b q.zs.length q.cb)))
    (first | with_reducible exact ALL.out _ hD | with_reducible exact ALL.out _ H1 | with_reducible exact ALL.out _ H2 | with_reducible exact ALL.out _ H3 | with_reducible exact ALL.out _ H4 | with_reducible exact ALL.out _ H5 | with_reducible exact ALL.out _ H6 | with_reducible exact ALL.out _ H7 | with_reducible exact ALL.out _ H8 | with_reducible exact ALL.out _ H9)
    (first
      | (go_at_call 12; (with_reducible refine (implIsStructure v s _ SS.out.1 SS.out.2 (KEY.out _ hD).1.1.at_).mono ?_); rw [HSB.out]; rintro e v1 ⟨rfl, hb1⟩; have H1 := hD.trans (hb1.mono hD.size))
      | (go_at_call 13; (with_reducible refine (specIsStructure v s _ SS.out.1 (KEY.out _ H1).1.1.at_).mono ?_); rw [HSB.out]; rintro e v2 ⟨rfl, hb2⟩; have H2 := H1.trans (hb2.mono H1.size))
      | (go_at_call 14; (with_reducible refine (implNext x i j _ SX.out.1 SX.out.2 (KEY.out _ H2).1.2.1.at_).mono ?_); rw [HNB.out]; rintro e v3 ⟨rfl, hb3⟩; have H3 := H2.trans (hb3.mono H2.size))
      | (go_at_call 15; (with_reducible refine (specNext x i j _ SX.out.1 (KEY.out _ H3).1.2.1.at_).mono ?_); rw [HNB.out]; rintro e v4 ⟨rfl, hb4⟩; have H4 := H3.trans (hb4.mono H3.size))
      | (go_at_call 16; (with_reducible refine (implDefinite d _ SD.out.1 SD.out.2 (KEY.out _ H4).1.2.2.1.at_).mono ?_); rw [HDB.out]; rintro e v5 ⟨rfl, hb5⟩; have H5 := H4.trans (hb5.mono H4.size))
      | (go_at_call 17; (with_reducible refine (specDefinite d _ SD.out.1 (KEY.out _ H5).1.2.2.1.at_).mono ?_); rw [HDB.out]; rintro e v6 ⟨rfl, hb6⟩; have H6 := H5.trans (hb6.mono H5.size))
      | (go_at_call 18; (with_reducible refine (implStText sa 3 ss t _ hsl HSZ.out (KEY.out _ H6).2.1 ST.out.1 ST.out.2 (KEY.out _ H6).1.2.2.2.1.at_ (HPW.out.keeps (KEY.out _ H6).2.2)).mono ?_); rw [HTX.out]; rintro e v7 ⟨rfl, hb7⟩; have H7 := H6.trans (hb7.mono H6.size))
      | (go_at_call 19; (with_reducible refine (specStText sa 3 ss t _ hsl HSZ.out (KEY.out _ H7).2.1 ST.out.1 (KEY.out _ H7).1.2.2.2.1.at_).mono ?_); rw [HTX.out]; rintro e v8 ⟨rfl, hb8⟩; have H8 := H7.trans (hb8.mono H7.size))
      | (go_at_call 20; (with_reducible refine (specEqualSt p q _ SP.out.1 (KEY.out _ H8).1.2.2.2.2.1.at_ (KEY.out _ H8).1.2.2.2.2.2.at_).mono ?_); rw [HSM.out]; rintro e v9 ⟨rfl, hb9⟩; have H9 := H8.trans (hb9.mono H8.size)))
  have hE : Below Z.heap.size Z v9.drew := H9.drew
  clear H1 H2 H3 H4 H5 H6 H7 H8 hb1 hb2 hb3 hb4 hb5 hb6 hb7 hb8 hb9 hD hb10
  clear HSB HNB HDB HTX HSM SS SX SD ST
  go_wp2
  cases sm
  case' false =>
    have hkey := KEY.out
    have KEYF := Lib.hid (fun W h => (hkey W h).2.2)
    clear hkey hE KEY ALL HST HPX HCD HPW SP SQ HSZ
    refine wp_region_quiet_below (by kernel_rfl) (by kernel_rfl) ?_
    repeat (go_big_quiet_step (fail))
    refine wpQuiet_nil ?_
    rintro u1 ⟨⟨dd, os⟩, rfl⟩
    have G1 := H9.trans ((below_regrown v9 dd os).mono H9.size)
    have hfin := KEYF.out _ G1
    go_wp2
    go_ret
    exact ⟨by simp, hfin⟩
  case' true =>
    have hqp := HST.out rfl
    have HQP := Lib.hid hqp
    clear hqp HST
    have hAll2 : ∀ W, Below Z.heap.size Z W → (W.cell? ⟨X9, 0, none⟩ = some (.slice p.a p.ns.length p.ca) ∧ W.cell? ⟨X9, 1, none⟩ = some (.slice p.b p.zs.length p.cb)) ∧ (W.cell? ⟨X9 + 1, 0, none⟩ = some (.slice q.a q.ns.length q.ca) ∧ W.cell? ⟨X9 + 1, 1, none⟩ = some (.slice q.b q.zs.length q.cb)) := fun W h => (ALL.out W h).2.2.2.2
    have ALLT := Lib.hid hAll2
    clear hAll2 ALL H9
    go_region_held3 (fun W => (W.cell? ⟨X9, 0, none⟩ = some (.slice p.a p.ns.length p.ca) ∧ W.cell? ⟨X9, 1, none⟩ = some (.slice p.b p.zs.length p.cb)) ∧ (W.cell? ⟨X9 + 1, 0, none⟩ = some (.slice q.a q.ns.length q.ca) ∧ W.cell? ⟨X9 + 1, 1, none⟩ = some (.slice q.b q.zs.length q.cb)))
      (first | with_reducible exact ALLT.out _ hE | with_reducible exact ALLT.out _ G1 | with_reducible exact ALLT.out _ G2)
      (first
        | (go_at_call 18; (with_reducible refine (implStText sa 3 ss p _ hsl HSZ.out (KEY.out _ hE).2.1 SP.out.1 SP.out.2 (KEY.out _ hE).1.2.2.2.2.1.at_ (HPW.out.keeps (KEY.out _ hE).2.2)).mono ?_); rw [HPX.out]; rintro e u1 ⟨rfl, hb1⟩; have G1 := hE.trans (hb1.mono hE.size))
        | (go_at_call 18; (with_reducible refine (implStText sa 3 ss q _ hsl HSZ.out (KEY.out _ G1).2.1 SQ.out.1 SQ.out.2 (KEY.out _ G1).1.2.2.2.2.2.at_ (HPW.out.keeps (KEY.out _ G1).2.2)).mono ?_); rw [HQP.out, HPX.out]; rintro e u2 ⟨rfl, hb2⟩; have G2 := G1.trans (hb2.mono G1.size)))
    have hfin := (KEY.out _ G2).2.2
    go_wp2
    go_ret
    exact ⟨by simp, hfin⟩

theorem own : ownKnob Tryz.prog.godebug = none := by kernel_rfl
theorem laidOut : laidOutB Tryz.prog = true := by kernel_rfl
theorem cellsByte : Tryz.prog.cellsOf 5 = 1 := by kernel_rfl
set_option maxRecDepth 100000 in
theorem contract (H : Type) (enc : TypeId × Value → H) (W : World) (base : Nat) (args : Array Value) (ds gs : List (DataW H)) (before : List MemPlace)
    (hval : ∀ (j : Nat) t v, Tryz.f3.params[j]? = some t → args[j]? = some v → Value.okWide Tryz.prog W .any base t v)
    (hW : DataW.Whole enc Tryz.prog Tryz.f3.params.toList Rows.fnStructuresSpec.vars false W args.toList ds gs before)
    (hL : laidMetH Tryz.prog Rows.fnStructuresRow.laid W) (_hSh : W.ShapedOpen Tryz.prog) :
    Calls Tryz.prog 3 args W fun e W' => ∃ v, e = .returned v ∧ Rows.fnStructuresSpec.post enc Tryz.prog Tryz.f3 false true false false W args v W' := by
  have hW' := hW
  have hlt : ∀ x ∈ before, x.block < W.heap.size := fun x hx => hW'.lt x hx
  have hpows : Pows W := pows_of hL
  obtain ⟨p, q, hA0, hV, rfl, _, _⟩ := hW
  have hA : DataW.TrodAll enc Tryz.prog W 0 (fun _ => true) true Tryz.f3.params.toList args.toList ds p := hA0
  rw [Tryz.params3] at hA hval
  obtain ⟨v0, d0, rfl, rfl, t0⟩ := trodAll_one hA
  obtain ⟨a0, n0, cap0, rfl, _, hn0, hcode0⟩ := open_codes Tryz.underlying22 Tryz.underlying5 cellsByte (fun x hx => hlt x (by simp [hx])) (base := base) (hval 0 22 v0 rfl rfl) t0
  refine (walk a0 n0 cap0 W hn0 hcode0 hpows).mono fun e W' ⟨he, hb⟩ => ?_
  subst he
  exact ⟨_, rfl, law_post laidOut rfl (by kernel_rfl) (by kernel_rfl) Tryz.underlying4 hW' rfl hb⟩

/-- A world for the witness. -/
noncomputable def start (os : Os) : World := World.doorLaid Tryz.prog 4000 os
theorem laid_met (os : Os) : laidMet Tryz.prog Rows.fnStructuresRow.laid ((start os).forCall (fun _ _ => 0) ⟨#[], #[.slice none 0 0], []⟩).memory :=
  laidMet_of_run' 8 (by kernel_rfl) (by kernel_rfl)
theorem reads (os : Os) {H : Type} (enc : TypeId × Value → H) : ∃ places, DataW.whole enc Tryz.prog ((start os).forCall (fun _ _ => 0) ⟨#[], #[.slice none 0 0], []⟩).memory Tryz.f3.params.toList Rows.fnStructuresSpec.vars false #[Value.slice none 0 0].toList 8 = some ([.nil], [], places) :=
  ⟨[], by kernel_rfl⟩

set_option maxRecDepth 100000 in
theorem lifted (os : Os) (started : os.Started) (H : Type) (enc : TypeId × Value → H) (F : Stop.Interp) :
    ReturnsInHanded {} Tryz.checked os 3 .any ((OpenSpec.ofChange Rows.fnStructuresSpec).preRow enc Tryz.prog Tryz.f3 Rows.fnStructuresRow.domain false Rows.fnStructuresRow.laid) (((OpenSpec.ofChange Rows.fnStructuresSpec).at F).post enc Tryz.prog Tryz.f3 false true false false) := by
  obtain ⟨places, hx⟩ := reads os enc
  refine returnsInHanded_of_row (C := Tryz.checked) (s := OpenSpec.ofChange Rows.fnStructuresSpec) own started (by kernel_rfl) Tryz.func3
    (witness_row_atRef (enc := enc) (C := Tryz.checked) false (start os) #[.slice none 0 0] rfl (by kernel_rfl) (by kernel_rfl) (by kernel_rfl)
      (OpenSpec.preRow_of_cond 8 hx (by kernel_rfl) (fun k hk => by cases hk) (by kernel_rfl) (laid_met os))) ?_
  intro W base args ds gs before hval hW _ _ _ hL hSh _
  exact contract H enc W base args ds gs before hval hW hL hSh

theorem said : Rows.FnStructuresSaid :=
  OpenClaim.holds_of_cond 3 Tryz.f3 rfl rfl rfl rfl rfl rfl rfl ⟨rfl, rfl, rfl, rfl, rfl⟩ rfl rfl rfl rfl rfl (by kernel_rfl) Tryz.func3 (by kernel_rfl)
    (of_decide_eq_true (by kernel_rfl)) (by unfold Func.isWrapper; first | (rw [if_pos (by decide +kernel)]; kernel_rfl) | (rw [if_neg (by decide +kernel)]; exact ⟨rfl, rfl⟩))
    (fun os started H enc _ F => by rw [OpenClaim.pre_eq_preRow]; exact lifted os started H enc F)

theorem plain (f : FuncId) (fn : Func) (hf : Tryz.pinned.checked.prog.funcNamed "loop.example/g00590/laws.FnStructures" = some f) (hfn : Tryz.pinned.checked.prog.funcs[f]? = some fn) :
    Rows.fnStructuresCard.stood.looks = Tryz.pinned.checked.prog.looks [] ∧ ∀ (j : Nat) t, fn.params[j]? = some t → Tryz.pinned.checked.prog.wantsStandIn t = false := by
  obtain rfl : f = 3 := Option.some.inj ((show Tryz.prog.funcNamed "loop.example/g00590/laws.FnStructures" = some 3 by kernel_rfl).symm.trans hf) |>.symm
  obtain rfl : fn = Tryz.f3 := (Option.some.inj (Tryz.func3.symm.trans hfn)).symm
  refine ⟨by kernel_rfl, fun j t ht => ?_⟩
  rw [Tryz.params3] at ht
  have hm : t ∈ [22] := by simpa using Array.mem_of_getElem? ht
  have hall : ([22].all fun u => !Tryz.prog.wantsStandIn u) = true := by kernel_rfl
  exact (show Tryz.prog.wantsStandIn t = false by simpa using List.all_eq_true.1 hall t hm)

/-- The card. -/
theorem card : Rows.FnStructuresCardSaid :=
  Claim7.holds_tied_plain_at .later [] _ _ _ _ said (fun _ h => by cases h) (by kernel_rfl) (fun _ h => by cases h) fnStructures_row_tie rfl ⟨rfl, rfl⟩ (by kernel_rfl) rfl plain (by kernel_rfl)
#print axioms card
end Go.Proofs.YtglcailcdcpadaaGreatDoor.structures
