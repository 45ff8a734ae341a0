/-
  A program that is drawn and bent; the draws of the law on programs.
  The draws of the law on programs: a program; a text; a program and a point; two programs.
  Proved: for every list of bytes the law FnPrograms returns true and leaves its argument as it was, where the listed tables of the program read as its text lays them (the card ties them).
-/
import Derived.Test.YtabedmjaodinbaaGreatDoorDrawProg
import Derived.Test.YtabedmjaodinbaaGreatDoorEqualProg
import Derived.Test.YtabedmjaodinbaaGreatDoorEdgesFrom
import Derived.Test.YtabedmjaodinbaaGreatDoorSameInts
import Derived.Test.YtabedmjaodinbaaGreatDoorCards
import Derived.Test.YtabedmjaodinbaaGreatDoorTie
import Derived.ChangeMaps5
import Derived.Deep.DeepWitnessRowRef
import Derived.LaidMore
import Derived.Lib.QuietBelow
namespace Go.Proofs.YtabedmjaodinbaaGreatDoor
open Go Go.RowKit Go.ChangeShapes Go.WideShapes Go.ChangeAt

theorem own_cap {w : World} {base e size n : Nat} {a : Option Addr} {c : Nat} {xs : List Value} (h : w.ownsRow base e size (.slice a n c) n xs) : n ≤ c := by
  obtain ⟨a', c', e, hc⟩ := own_form' h
  injection e with _ _ e
  omega
/-- The end of such a draw: the program so far is the answer. -/
theorem bent_end {w wr : World} {g P B : Nat} {va vb : Option Addr} {vc vd : Nat} {vs : List ByteArray} {p : Int} {es : List Ed} (D : Dn w g P (.slice va vs.length vc) (.int .i64 p) (.slice vb es.length vd) wr)
    (o1 : wr.ownsRow B 9 1 (.slice va vs.length vc) vs.length (strVals vs)) (o2 : wr.ownsRow B 44 5 (.slice vb es.length vd) es.length (edVals es)) (hB : w.heap.size < B) (hS : Small vs p es) :
    ProgBent g w (.returned (progV va vs.length vc p vb es.length vd)) (set3 wr w.heap.size (.slice va vs.length vc) (.int .i64 p) (.slice vb es.length vd)) := by
  have hs := set3_size wr w.heap.size (.slice va vs.length vc) (.int .i64 p) (.slice vb es.length vd)
  refine ⟨va, vc, vb, vd, vs, p, es, hS, own_cap o1, rfl, own_none o1, own_none o2, ?_, ?_, cur_set3 D.cur D.hg _ _ _, only_set3 D.grown (Nat.le_refl _) _ _ _⟩
  · rw [hs]
    exact ((Rw.own o1).set3 hB _ _ _).widen (by omega) (Nat.le_refl _)
  · rw [hs]
    exact ((Rw.own o2).set3 hB _ _ _).widen (by omega) (Nat.le_refl _)
def pickPts : List Int := [0, 1, 12, 13]
theorem pickPts_in {v : Value} (h : v ∈ intVals pickPts) : ∃ n : Int, v = .int .i64 n ∧ 0 ≤ n ∧ n ≤ 13 := by
  obtain ⟨n, hn, rfl⟩ := List.mem_map.1 h
  refine ⟨n, rfl, ?_⟩
  simp [pickPts] at hn
  omega

set_option maxHeartbeats 3200000 in
set_option maxRecDepth 100000 in
theorem drawBentProg (g : Nat) (w : World) (hcur : Cur w g) : Calls Tryz.prog 24 #[.pointer (some ⟨g, 0, none⟩)] w (ProgBent g w) := by
  have hg0 := hcur.lt
  obtain ⟨i0, hi, hz0, hz1, hz2⟩ := info_parts edgeInfo
  obtain ⟨j0, hj, hy0, hy1, hy2⟩ := info_parts strInfoP
  go_enter Tryz.func24, Tryz.ntmps24
  go_wp2_with fail
  obtain ⟨W0, hW0, hb0, hs0, hA0⟩ := one_box w (.slice none 0 0) (.int .i64 0) (.slice none 0 0) 27
  have hf0 : ∀ o, W0.frozen? ⟨w.heap.size, o, none⟩ = false := fun o => by rw [← hW0]; simp [go_sem]
  rw [hW0]
  clear hW0
  have hG0 : w.grownBy W0 (some g) := only_below (only_same _ _) hb0
  refine (drawProg g _ (hcur.keeps hb0)).mono ?_
  rintro e w1 ⟨ra, rc, rb, rd, vs, p, es, hS, hl, he, hp, rfl, hna, hnb, h1, h2, hc1, hw1⟩
  obtain ⟨k1, f1⟩ := gcell hw1
  have hn1 : ¬ w.heap.size = g := by omega
  have hs1 : w.heap.size < w1.heap.size := Nat.lt_of_lt_of_le hs0 hw1.size
  have a0 := (k1 w.heap.size 0 hs0 hn1).trans hA0.1
  have a1 := (k1 w.heap.size 1 hs0 hn1).trans hA0.2.1
  have a2 := (k1 w.heap.size 2 hs0 hn1).trans hA0.2.2
  have g1 : ∀ o, w1.frozen? ⟨w.heap.size, o, none⟩ = false := fun o => (f1 w.heap.size o hs0 hn1).trans (hf0 o)
  have hG1 := only_then hG0 hw1
  clear k1 f1 hA0 hf0
  go_wp2_with fail
  refine (drawCopy ra rb rc rd vs p es _ hna hnb (h1.row (Nat.le_refl _)) (h2.row (Nat.le_refl _)) (by omega) (by omega)).mono ?_
  rintro e w2 ⟨va, vc, vb, vd, rfl, o1, o2, hd, hb2⟩
  clear h1 h2 hna hnb
  go_wp2_with fail
  obtain ⟨W3, hW3, hb3, hs3, hP3⟩ := one_box w2 (.slice va vs.length vc) (.int .i64 p) (.slice vb es.length vd) 27
  have pf3 : ∀ o, W3.frozen? ⟨w2.heap.size, o, none⟩ = false := fun o => by rw [← hW3]; simp [go_sem]
  rw [hW3]
  clear hW3
  have hb13 := hb2.trans (hb3.mono hb2.size)
  have D3 : Dn w g w2.heap.size (.slice va vs.length vc) (.int .i64 p) (.slice vb es.length vd) W3 :=
    ⟨hc1.keeps hb13, only_below hG1 hb13, hP3, pf3, ⟨(hb13.cell (p := ⟨w.heap.size, 0, none⟩) hs1).trans a0, (hb13.cell (p := ⟨w.heap.size, 1, none⟩) hs1).trans a1, (hb13.cell (p := ⟨w.heap.size, 2, none⟩) hs1).trans a2⟩, fun o => (hb13.frozen (p := ⟨w.heap.size, o, none⟩) hs1).trans (g1 o), hg0, Nat.lt_of_lt_of_le hs1 hb2.size, hs3⟩
  have l1 : ∀ j, (Value.slice va vs.length vc).ownBlock = some j → j < w2.heap.size := fun j hj => (o1.lt j hj).2
  have l2 : ∀ j, (Value.slice vb es.length vd).ownBlock = some j → j < w2.heap.size := fun j hj => (o2.lt j hj).2
  refine (drawBelow g 8 _ (by omega) (by omega) D3.cur).mono ?_
  rintro e w4 ⟨x, hx, rfl, hc4, hw4⟩
  have D4 := D3.only hc4 hw4
  have p1 : W3.ownsRow w1.heap.size 9 1 _ _ _ := own_keeps o1 hb3
  have p2 : W3.ownsRow w1.heap.size 44 5 _ _ _ := own_keeps o2 hb3
  have q1 := own_other p1 hw4 (fun j hj e => by have := (p1.lt j hj).1; injection e with e; omega)
  have q2 := own_other p2 hw4 (fun j hj e => by have := (p2.lt j hj).1; injection e with e; omega)
  have hB2 := hb2.size
  clear p1 p2 o1 o2 D3 hP3 pf3 hb3 hb13 hw4 hc4 a0 a1 a2 g1 hb2 hs3
  generalize w2.heap.size = P at *
  have hNP := D4.hP
  have hNP' : ¬ w.heap.size = P := by omega
  have hBN : w.heap.size < w1.heap.size := hs1
  generalize w1.heap.size = B at *
  clear hb0 hs0 hG0 hw1 hG1 hc1 hcur hs1
  by_cases x0 : x = 0
  · subst x0
    go_wp2_with fail
    refine (drawPickInt g 4 (some (⟨w4.heap.size, 0, none⟩ : Addr)) pickPts _ (by decide) (by decide) (D4.cur.alloc _) (beside_at (intVals pickPts).toArray (by simp) (by have := D4.cur.lt; first | omega | (simp; omega)))).mono ?_
    rintro e w5 ⟨v5, hv5, rfl, hc5, hw5⟩
    obtain ⟨n5, rfl, hn0, hn13⟩ := pickPts_in hv5
    have D4a := D4.call ((Below.refl _ _).alloc (Nat.le_refl _) (.cells (intVals pickPts).toArray 3))
    have D5 := D4a.only hc5 hw5
    have q1a : (w4.alloc (.cells (intVals pickPts).toArray 3)).ownsRow B 9 1 _ _ _ := q1.alloc _
    have q2a : (w4.alloc (.cells (intVals pickPts).toArray 3)).ownsRow B 44 5 _ _ _ := q2.alloc _
    have r1 := own_other q1a hw5 (fun j hj e => by have := (q1a.lt j hj).1; injection e with e; omega)
    have r2 := own_other q2a hw5 (fun j hj e => by have := (q2a.lt j hj).1; injection e with e; omega)
    have c1 := D5.p.2.1
    have cf := D5.pf
    have DE : Dn w g P (.slice va vs.length vc) (.int .i64 n5) (.slice vb es.length vd) (w5.setCell ⟨P, 1, none⟩ (.int .i64 n5)) := D5.setP 1 (.int .i64 n5)
    have s1 := own_other r1 (grown_cell (grown_self w5 (some P)) (i := 1) (u := .int .i64 n5)) (fun j hj e => by have := l1 j hj; injection e with e; omega)
    have s2 := own_other r2 (grown_cell (grown_self w5 (some P)) (i := 1) (u := .int .i64 n5)) (fun j hj e => by have := l2 j hj; injection e with e; omega)
    have hend := Lib.hid (bent_end DE s1 s2 hBN ⟨hS.len, hS.size, ⟨hn0, hn13⟩, hS.edges, hS.ok⟩)
    obtain ⟨m0, m1, m2⟩ := D5.p
    obtain ⟨n0, n1, n2⟩ := D5.n
    have nf := D5.nf
    have hwz := Nat.lt_trans D5.hP D5.hW
    clear q1 q2 q1a q2a r1 r2 s1 s2 D4 D4a DE hc5 hw5 hv5
    go_wp2
    exact bodyPost_ret (v := progV va vs.length vc n5 vb es.length vd) (by simp [results, Tryz.results24, go_sem, n0, n1, n2]) rfl hend.out
  by_cases x1 : x = 1
  · subst x1
    obtain ⟨m0, m1, m2⟩ := D4.p
    have mf := D4.pf
    have hPW := D4.hW
    have hPW' : ¬ P = w4.heap.size := by omega
    have hq1 : vs.length + 1 ≤ maxLen := by unfold maxLen; omega
    have hq2 : (vs.length + 1) * 16 ≤ 140737488355328 := by omega
    have hBW : B ≤ w4.heap.size := by omega
    go_wp2_with (at_builtin; refine wpList_append_lies _ rfl (.tmp 18) (.tmp 19) 24 rfl B 9 j0 (.string ⟨#[]⟩) 1 16 Tryz.underlying24 hj hy0 hy1 hy2 rfl (by decide) _ vs.length (strVals vs) rfl (q1.alloc _) ⟨w4.heap.size, 0, none⟩ 1 1 [.string ⟨#[120]⟩] rfl rfl (one_cell _) (one_oneCell _) (by omega) hq1 hq2 (Nat.le_trans hBW (by simp)) _ rfl ?_; intro g9 cap9 w9 hown9 hg9 hat9 _; have D9 := (D4.call ((Below.refl _ _).alloc (Nat.le_refl _) _)).growR hg9 (fun j hj => ⟨Nat.lt_of_lt_of_le hBN (q1.lt j hj).1, Nat.ne_of_lt (l1 j hj)⟩); have p9 := D9.p.1; have p91 := D9.p.2.1; have p92 := D9.p.2.2; have pf9 := D9.pf; have n0 := D9.n.1; have n1 := D9.n.2.1; have n2 := D9.n.2.2; have nf := D9.nf; have hwz := Nat.lt_trans D9.hP D9.hW)
    have DE : Dn w g P (.slice (some ⟨g9, 0, none⟩) (vs.length + 1) cap9) (.int .i64 p) (.slice vb es.length vd) (w9.setCell ⟨P, 0, none⟩ (.slice (some ⟨g9, 0, none⟩) (vs.length + 1) cap9)) := D9.setP 0 _
    have r2 := own_other (q2.alloc _) hg9 (fun j hj e => hd j e.symm hj)
    have hg9P : g9 ≠ P := by
      rcases hat9 with h | h
      · exact Nat.ne_of_lt (l1 g9 h)
      · simp at h
        omega
    have s1 := own_other hown9 (grown_cell (grown_self w9 (some P)) (i := 0) (u := .slice (some ⟨g9, 0, none⟩) (vs.length + 1) cap9)) (fun j hj e => by injection hj with hj; injection e with e; simp only at hj; omega)
    have s2 := own_other r2 (grown_cell (grown_self w9 (some P)) (i := 0) (u := .slice (some ⟨g9, 0, none⟩) (vs.length + 1) cap9)) (fun j hj e => by have := l2 j hj; injection e with e; omega)
    have el : (vs ++ [(⟨#[120]⟩ : ByteArray)]).length = vs.length + 1 := by simp
    have DE' : Dn w g P (.slice (some ⟨g9, 0, none⟩) (vs ++ [(⟨#[120]⟩ : ByteArray)]).length cap9) (.int .i64 p) (.slice vb es.length vd) (w9.setCell ⟨P, 0, none⟩ (.slice (some ⟨g9, 0, none⟩) (vs.length + 1) cap9)) := by rw [el]; exact DE
    have hend := bent_end DE' (by rw [el, strVals_snoc]; exact s1) s2 hBN ⟨by rw [el]; omega, all_snoc hS.size (by decide), hS.pts, hS.edges, hS.ok⟩
    rw [el] at hend
    have hend := Lib.hid hend
    refine bodyPost_ret (v := progV (some ⟨g9, 0, none⟩) (vs.length + 1) cap9 p vb es.length vd) (by simp [results, Tryz.results24, go_sem, n0, n1, n2]) rfl ?_
    exact hend.out
  by_cases x2 : x = 2
  · subst x2
    have mf := D4.pf
    have m2 := D4.p.2.2
    have Dd := D4.call (Below.drew (Below.refl _ _))
    have O0 := own_keeps q2 (Below.drew (Below.refl _ _))
    have R0 := own_keeps q1 (Below.drew (Below.refl _ _))
    have HD := Lib.hid Dd
    have HO0 := Lib.hid O0
    have HR0 := Lib.hid R0
    have HS := Lib.hid hS
    have HL1 := Lib.hid l1
    have HL2 := Lib.hid l2
    have HDD := Lib.hid hd
    clear Dd O0 R0 hS l1 l2 hd
    go_wp2
    go_region_law (first
      | (go_simp; go_at_call 46; refine (drawBelow g 3 _ (by omega) (by omega) HD.out.cur).mono ?_; rintro e w5 ⟨y, hy, rfl, hc5, hw5⟩; have D5 := HD.out.only hc5 hw5; have O5 := own_other HO0.out hw5 (fun j hj e => by have := (HO0.out.lt j hj).1; injection e with e; omega); have R5 := own_other HR0.out hw5 (fun j hj e => by have := (HR0.out.lt j hj).1; injection e with e; omega); have d5 := D5.p.2.2)
      | (go_simp; go_at_call 57; (with_reducible refine (drawBent g _ D5.cur).mono ?_); rintro e w6 ⟨kk, sa, sb, hk1, hk2, hsa, hsb, rfl, hc6, hw6⟩; have D6 := D5.only hc6 hw6; have O6 := own_other O5 hw6 (fun j hj e => by have := (O5.lt j hj).1; injection e with e; omega); have R6 := own_other R5 hw6 (fun j hj e => by have := (R5.lt j hj).1; injection e with e; omega); have d6 := D6.p.2.2; have z6 := D6.hW; have z6' : ¬ P = w6.heap.size := (by omega))
      | (refine step_append_lies _ rfl (.tmp 25) (.tmp 31) 25 rfl B 44 i0 (.agg #[.int .i64 0, .int .i64 0, .int .i64 0, .string ⟨#[]⟩, .string ⟨#[]⟩]) 5 56 Tryz.underlying25 hi hz0 hz1 hz2 rfl (by decide) (.slice vb es.length vd) es.length (edVals es) ?_ (O6.alloc _) ⟨w6.heap.size, 0, none⟩ 1 1 (edCells ⟨0, (y : Int), kk, sa, sb⟩) ?_ rfl ?_ ?_ (by omega) ?_ ?_ ?_ _ rfl ?_
         · simp [Act.eval, Act.put]
         · simp [Act.eval, Act.put]
         · exact news_edge w6 ⟨0, (y : Int), kk, sa, sb⟩
         · exact edCells_one _
         · unfold maxLen; omega
         · omega
         · exact Nat.le_trans (Nat.le_of_lt (Nat.lt_of_le_of_lt hB2 D6.hW)) (by simp)
         intro g9 cap9 w9 hown9 hg9 hat9 hlt9
         have D9 := (D6.call ((Below.refl _ _).alloc (Nat.le_refl _) _)).growR hg9 (fun j hj => ⟨Nat.lt_of_lt_of_le hBN (O6.lt j hj).1, Nat.ne_of_lt (HL2.out j hj)⟩)
         have d9 := D9.p.2.2
         have pf9 := D9.pf))
    all_goals
      have DE : Dn w g P (.slice va vs.length vc) (.int .i64 p) (.slice (some ⟨g9, 0, none⟩) (es.length + 1) cap9) (w9.setCell ⟨P, 2, none⟩ (.slice (some ⟨g9, 0, none⟩) (es.length + 1) cap9)) := D9.setP 2 _
      have r1 := own_other (R6.alloc _) hg9 (fun j hj e => HDD.out j hj e.symm)
      have hg9P : g9 ≠ P := by
        rcases hat9 with h | h
        · exact Nat.ne_of_lt (HL2.out g9 h)
        · simp at h
          omega
      have s2 := own_other hown9 (grown_cell (grown_self w9 (some P)) (i := 2) (u := .slice (some ⟨g9, 0, none⟩) (es.length + 1) cap9)) (fun j hj e => by injection hj with hj; injection e with e; simp only at hj; omega)
      have s1 := own_other r1 (grown_cell (grown_self w9 (some P)) (i := 2) (u := .slice (some ⟨g9, 0, none⟩) (es.length + 1) cap9)) (fun j hj e => by have := HL1.out j hj; injection e with e; omega)
      have el : (es ++ [(⟨0, (y : Int), kk, sa, sb⟩ : Ed)]).length = es.length + 1 := by simp
      have DE' : Dn w g P (.slice va vs.length vc) (.int .i64 p) (.slice (some ⟨g9, 0, none⟩) (es ++ [(⟨0, (y : Int), kk, sa, sb⟩ : Ed)]).length cap9) (w9.setCell ⟨P, 2, none⟩ (.slice (some ⟨g9, 0, none⟩) (es.length + 1) cap9)) := by rw [el]; exact DE
      have hend := bent_end DE' s1 (by rw [el, edVals_snoc]; exact s2) hBN ⟨HS.out.len, HS.out.size, HS.out.pts, by rw [el]; omega, all_snoc HS.out.ok ⟨⟨by simp only; omega, by simp only; omega⟩, ⟨by simp only; omega, by simp only; omega⟩, ⟨by simp only; omega, by simp only; omega⟩, by unfold maxLen; simp only; omega, by unfold maxLen; simp only; omega⟩⟩
      rw [el] at hend
      have hend := Lib.hid hend
      obtain ⟨m0', m1', m2'⟩ := D9.p
      obtain ⟨n0, n1, n2⟩ := D9.n
      have nf := D9.nf
      have hwz := Nat.lt_trans D9.hP D9.hW
      clear q1 q2 r1 s1 s2 DE DE' hown9 hg9 D5 D6 O5 O6 R5 R6
      go_wp2
      exact bodyPost_ret (v := progV va vs.length vc p (some ⟨g9, 0, none⟩) (es.length + 1) cap9) (by simp [results, Tryz.results24, go_sem, n0, n1, n2]) rfl hend.out
  obtain ⟨m0, m1, m2⟩ := D4.p
  obtain ⟨n0, n1, n2⟩ := D4.n
  have nf := D4.nf
  have hwz := Nat.lt_trans D4.hP D4.hW
  have hend := Lib.hid (bent_end D4 q1 q2 hBN hS)
  clear q1 q2 D4
  go_wp2
  exact bodyPost_ret (v := progV va vs.length vc p vb es.length vd) (by simp [results, Tryz.results24, go_sem, n0, n1, n2]) rfl hend.out
end Go.Proofs.YtabedmjaodinbaaGreatDoor

namespace Go.Proofs.YtabedmjaodinbaaGreatDoor
open Go Go.RowKit Go.ChangeShapes Go.WideShapes Go.ChangeAt

/-- A program, drawn from a law's bytes. -/
def SomeProg (w : World) (e : Ending) (w' : World) : Prop :=
  ∃ a ca b cb ss p es, Small ss p es ∧ ss.length ≤ ca ∧ e = .returned (progV a ss.length ca p b es.length cb) ∧ Rw w.heap.size w'.heap.size w' a (strVals ss) ∧ Rw w.heap.size w'.heap.size w' b (edVals es) ∧ Below w.heap.size w w'
theorem below_set3 {B N : Nat} {w W : World} (h : Below B w W) (hN : B ≤ N) (u0 u1 u2 : Value) : Below B w (set3 W N u0 u1 u2) := ((h.setCell hN _).setCell hN _).setCell hN _

set_option maxHeartbeats 800000 in
theorem drawProgramText (a : Option Addr) (n cap : Nat) (w : World) (hn : n ≤ 1099511627776) (hcode : Code8 w w.heap.size n a) : Calls Tryz.prog 6 #[.slice a n cap] w (SomeProg w) := by
  go_enter Tryz.func6, Tryz.ntmps6
  go_wp2_with fail
  obtain ⟨W0, hW0, hb0, hs0, hA0⟩ := one_box w (.slice none 0 0) (.int .i64 0) (.slice none 0 0) 27
  have hf0 : ∀ o, W0.frozen? ⟨w.heap.size, o, none⟩ = false := fun o => by rw [← hW0]; simp [go_sem]
  rw [hW0]
  clear hW0
  refine (drawNew a n cap _ hn ((hcode.keeps fun p hp => hb0.cell hp).grow hb0.size)).mono ?_
  rintro e w1 ⟨g, rfl, hg, hc1, hb1⟩
  have hA1 := hA0.keep hs0 hb1
  have hf1 : ∀ o, w1.frozen? ⟨w.heap.size, o, none⟩ = false := fun o => (hb1.frozen (p := ⟨w.heap.size, o, none⟩) hs0).trans (hf0 o)
  have hs1 : w.heap.size < w1.heap.size := Nat.lt_of_lt_of_le hs0 hb1.size
  have hn1 : ¬ w.heap.size = g := by omega
  have hB1 := hb0.trans (hb1.mono hb0.size)
  clear hA0 hf0
  go_wp2_with fail
  refine (drawBentProg g _ hc1).mono ?_
  rintro e w2 ⟨ra, rc, rb, rd, vs, p, es, hS, hcap, rfl, hna, hnb, h1, h2, hc2, hw2⟩
  obtain ⟨k2, f2⟩ := gcell hw2
  have b0 := (k2 w.heap.size 0 hs1 hn1).trans hA1.1
  have b1 := (k2 w.heap.size 1 hs1 hn1).trans hA1.2.1
  have b2 := (k2 w.heap.size 2 hs1 hn1).trans hA1.2.2
  have g2 : ∀ o, w2.frozen? ⟨w.heap.size, o, none⟩ = false := fun o => (f2 w.heap.size o hs1 hn1).trans (hf1 o)
  have hs2 : w.heap.size < w2.heap.size := Nat.lt_of_lt_of_le hs1 hw2.size
  have hB2 := below_only hB1 hw2 hB1.size (by omega)
  clear k2 f2 hA1 hf1
  have hz := set3_size w2 w.heap.size (.slice ra vs.length rc) (.int .i64 p) (.slice rb es.length rd)
  have e1 : Rw w.heap.size (set3 w2 w.heap.size (.slice ra vs.length rc) (.int .i64 p) (.slice rb es.length rd)).heap.size (set3 w2 w.heap.size (.slice ra vs.length rc) (.int .i64 p) (.slice rb es.length rd)) ra (strVals vs) := by
    rw [hz]
    exact (h1.set3 hs1 _ _ _).widen (by omega) (Nat.le_refl _)
  have e2 : Rw w.heap.size (set3 w2 w.heap.size (.slice ra vs.length rc) (.int .i64 p) (.slice rb es.length rd)).heap.size (set3 w2 w.heap.size (.slice ra vs.length rc) (.int .i64 p) (.slice rb es.length rd)) rb (edVals es) := by
    rw [hz]
    exact (h2.set3 hs1 _ _ _).widen (by omega) (Nat.le_refl _)
  have hend := Lib.hid (show SomeProg w _ _ from ⟨ra, rc, rb, rd, vs, p, es, hS, hcap, rfl, e1, e2, below_set3 hB2 (Nat.le_refl _) _ _ _⟩)
  clear e1 e2 h1 h2
  go_wp2
  exact bodyPost_ret (v := progV ra vs.length rc p rb es.length rd) (by simp [results, Tryz.results6, go_sem, b0, b1, b2]) rfl hend.out

theorem progT_small (ss : List ByteArray) (p : Int) (es : List Ed) (hp : -9223372036854775808 ≤ p ∧ p ≤ 9223372036854775807) : (progT ss p es).size ≤ 4000 := by
  cases h : progB ss p es with
  | false =>
    rw [progT_no h]
    decide
  | true =>
    rw [progT_yes h, mk_size]
    have hg := prog_parts h
    have := progL_length ss p es hg.1 hp (progB_ok h)
    have := hg.2.2.1
    omega
/-- A text, drawn from a law's bytes. -/
def SomeTextP (w : World) (e : Ending) (w' : World) : Prop := ∃ s : ByteArray, s.size ≤ 1048576 ∧ e = .returned (.string s) ∧ Below w.heap.size w w'
def bitsP : List ByteArray := [⟨#[59]⟩, ⟨#[32]⟩, ⟨#[120]⟩, ⟨#[48]⟩, ⟨#[61]⟩, ⟨#[115, 107, 105, 112]⟩]
theorem bitsP_size : ∀ s ∈ bitsP, s.size ≤ 21 := by decide
set_option maxHeartbeats 800000 in
theorem drawParseProgram (a : Option Addr) (n cap : Nat) (w : World) (hn : n ≤ 1099511627776) (hcode : Code8 w w.heap.size n a) : Calls Tryz.prog 13 #[.slice a n cap] w (SomeTextP w) := by
  go_enter Tryz.func13, Tryz.ntmps13
  go_wp2_with fail
  refine (drawNew a n cap _ hn hcode).mono ?_
  rintro e w1 ⟨g, rfl, hg, hc1, hb1⟩
  go_wp2_with fail
  refine (drawProg g _ hc1).mono ?_
  rintro e w2 ⟨ra, rc, rb, rd, vs, p, es, hS, hl, he, hp, rfl, hna, hnb, h1, h2, hc2, hw2⟩
  have hB2 : Below w.heap.size w w2 := below_only hb1 hw2 hb1.size hg
  have hpb : -9223372036854775808 ≤ p ∧ p ≤ 9223372036854775807 := by have := hS.pts; omega
  have hz := progT_small vs p es hpb
  generalize hx : progT vs p es = x at *
  have HX := Lib.hid hx
  clear hx
  go_wp2_with fail
  refine (specProgText ra rb rc rd vs p es _ ⟨by unfold maxLen; omega, fun s hs => by have := hS.size s hs; unfold maxLen; omega, h1.row (Nat.le_refl _)⟩ hpb ⟨by unfold maxLen; omega, hS.ok, h2.row (Nat.le_refl _)⟩).mono ?_
  rw [HX.out]
  rintro e w3 ⟨rfl, hb3⟩
  have hc3 := hc2.keeps hb3
  have hg3 := hc3.lt
  have hB3 : Below w.heap.size w w3 := hB2.trans (hb3.mono hB2.size)
  go_wp2_with fail
  refine (drawTurned g 6 4000 (some (⟨w3.heap.size, 0, none⟩ : Addr)) bitsP x _ hz (by omega) (by decide) (by decide) bitsP_size (hc3.alloc _) (beside_at (strVals bitsP).toArray (by simp) (by first | omega | (simp; omega)))).mono ?_
  rintro e w4 ⟨s, hs, rfl, hc4, hw4⟩
  have hB4 : Below w.heap.size w w4 := below_only (hB3.alloc hB3.size _) hw4 (by have := hB3.size; simp; omega) hg
  go_wp2
  go_ret
  exact ⟨s, by omega, rfl, hB4⟩

/-- A program and a point, drawn. -/
def SomeProgPoint (w : World) (e : Ending) (w' : World) : Prop :=
  ∃ a ca b cb ss p es, ∃ x : Int, Small ss p es ∧ -1 ≤ x ∧ x ≤ 5 ∧ e = .returned (.tuple #[progV a ss.length ca p b es.length cb, .int .i64 x]) ∧ Rw w.heap.size w'.heap.size w' a (strVals ss) ∧ Rw w.heap.size w'.heap.size w' b (edVals es) ∧ Below w.heap.size w w'
set_option maxHeartbeats 1600000 in
theorem drawEdgesFrom (a : Option Addr) (n cap : Nat) (w : World) (hn : n ≤ 1099511627776) (hcode : Code8 w w.heap.size n a) : Calls Tryz.prog 15 #[.slice a n cap] w (SomeProgPoint w) := by
  go_enter Tryz.func15, Tryz.ntmps15
  go_wp2_with fail
  obtain ⟨W0, hW0, hb0, hs0, hA0⟩ := one_box w (.slice none 0 0) (.int .i64 0) (.slice none 0 0) 27
  have hf0 : ∀ o, W0.frozen? ⟨w.heap.size, o, none⟩ = false := fun o => by rw [← hW0]; simp [go_sem]
  rw [hW0]
  clear hW0
  refine (drawNew a n cap _ hn ((hcode.keeps fun p hp => hb0.cell hp).grow hb0.size)).mono ?_
  rintro e w1 ⟨g, rfl, hg, hc1, hb1⟩
  have hA1 := hA0.keep hs0 hb1
  have hf1 : ∀ o, w1.frozen? ⟨w.heap.size, o, none⟩ = false := fun o => (hb1.frozen (p := ⟨w.heap.size, o, none⟩) hs0).trans (hf0 o)
  have hs1 : w.heap.size < w1.heap.size := Nat.lt_of_lt_of_le hs0 hb1.size
  have hn1 : ¬ w.heap.size = g := by omega
  have hB1 := hb0.trans (hb1.mono hb0.size)
  have hg1 := hc1.lt
  clear hA0 hf0
  go_wp2_with fail
  refine (drawBentProg g _ hc1).mono ?_
  rintro e w2 ⟨ra, rc, rb, rd, vs, p, es, hS, hcap, rfl, hna, hnb, h1, h2, hc2, hw2⟩
  obtain ⟨k2, f2⟩ := gcell hw2
  have b0 := (k2 w.heap.size 0 hs1 hn1).trans hA1.1
  have b1 := (k2 w.heap.size 1 hs1 hn1).trans hA1.2.1
  have b2 := (k2 w.heap.size 2 hs1 hn1).trans hA1.2.2
  have g2 : ∀ o, w2.frozen? ⟨w.heap.size, o, none⟩ = false := fun o => (f2 w.heap.size o hs1 hn1).trans (hf1 o)
  have hs2 : w.heap.size < w2.heap.size := Nat.lt_of_lt_of_le hs1 hw2.size
  have hB2 := below_only hB1 hw2 hB1.size (by omega)
  have hg2 := hc2.lt
  have h12 := hw2.size
  clear k2 f2 hA1 hf1
  go_wp2
  obtain ⟨W3, hW3, hb3, hs3, hP3⟩ := one_box w2 (.slice ra vs.length rc) (.int .i64 p) (.slice rb es.length rd) 27
  rw [hW3]
  clear hW3
  have hN3 : Box3 W3 w.heap.size _ _ _ := Box3.keep ⟨b0, b1, b2⟩ hs2 hb3
  have hf3 : ∀ o, W3.frozen? ⟨w.heap.size, o, none⟩ = false := fun o => (hb3.frozen (p := ⟨w.heap.size, o, none⟩) hs2).trans (g2 o)
  have hcd : Cur W3.drew g := (hc2.keeps hb3).keeps (Below.drew (Below.refl _ _))
  have r1 := h1.below hb3
  have r2 := h2.below hb3
  have hB3 := hB2.trans (hb3.mono hB2.size)
  obtain ⟨n0, n1, n2⟩ := hN3
  obtain ⟨m0, m1, m2⟩ := hP3
  have hn2 : ¬ w2.heap.size = g := by omega
  have hn3 : w.heap.size < W3.heap.size := by omega
  have hn4 : ¬ w2.heap.size = w.heap.size := by omega
  clear b0 b1 b2 g2 h1 h2
  have S0 : W3.drew.cell? ⟨w2.heap.size, 0, none⟩ = some (.slice ra vs.length rc) ∧ W3.drew.cell? ⟨w2.heap.size, 1, none⟩ = some (.int .i64 p) ∧ W3.drew.cell? ⟨w2.heap.size, 2, none⟩ = some (.slice rb es.length rd) := ⟨m0, m1, m2⟩
  have key : ∀ W, W3.drew.grownBy W (some g) → ∀ b o, b < W3.heap.size → ¬ b = g → W.cell? ⟨b, o, none⟩ = W3.cell? ⟨b, o, none⟩ := fun W h b o q1 q2 => (gcell h).1 b o q1 q2
  go_region_held3 (fun w' => w'.cell? ⟨w2.heap.size, 0, none⟩ = some (.slice ra vs.length rc) ∧ w'.cell? ⟨w2.heap.size, 1, none⟩ = some (.int .i64 p) ∧ w'.cell? ⟨w2.heap.size, 2, none⟩ = some (.slice rb es.length rd))
    (first | exact S0 | exact S4 | exact ⟨(World.cell?_of_block (set3_heap _ _ _ _ _ _ hn4)).trans S4.1, (World.cell?_of_block (set3_heap _ _ _ _ _ _ hn4)).trans S4.2.1, (World.cell?_of_block (set3_heap _ _ _ _ _ _ hn4)).trans S4.2.2⟩)
    (first
      | (go_at_call 46; refine (drawBelow g 5 _ (by omega) (by omega) hcd).mono ?_; rintro e w4 ⟨x, hx, rfl, hc4, hw4⟩; have S4 := And.intro ((key _ hw4 w2.heap.size 0 hs3 hn2).trans m0) (And.intro ((key _ hw4 w2.heap.size 1 hs3 hn2).trans m1) ((key _ hw4 w2.heap.size 2 hs3 hn2).trans m2)); have n0' := (key _ hw4 w.heap.size 0 hn3 hn1).trans n0; have n1' := (key _ hw4 w.heap.size 1 hn3 hn1).trans n1; have n2' := (key _ hw4 w.heap.size 2 hn3 hn1).trans n2; have nf' : (∀ o, w4.frozen? ⟨w.heap.size, o, none⟩ = false) := (fun o => ((gcell hw4).2 w.heap.size o hn3 hn1).trans (hf3 o))))
  have hwx : IntKind.i64.wrap ((x : Int) - 1) = (x : Int) - 1 := by
    simp [IntKind.wrap, IntKind.bits, IntKind.signed]
    omega
  have hz := set3_size w4 w.heap.size (.slice ra vs.length rc) (.int .i64 p) (.slice rb es.length rd)
  have hs34 : W3.heap.size ≤ w4.heap.size := hw4.size
  have t1 : Rw w1.heap.size w2.heap.size w4 ra (strVals vs) := r1.keeps (fun b q1 q2 => hw4.block b (by show b < W3.heap.size; omega) (fun e => by injection e with e; omega))
  have t2 : Rw w1.heap.size w2.heap.size w4 rb (edVals es) := r2.keeps (fun b q1 q2 => hw4.block b (by show b < W3.heap.size; omega) (fun e => by injection e with e; omega))
  have e1 : Rw w.heap.size (set3 w4 w.heap.size (.slice ra vs.length rc) (.int .i64 p) (.slice rb es.length rd)).heap.size (set3 w4 w.heap.size (.slice ra vs.length rc) (.int .i64 p) (.slice rb es.length rd)) ra (strVals vs) := by
    rw [hz]
    exact (t1.set3 hs1 _ _ _).widen (by omega) (by omega)
  have e2 : Rw w.heap.size (set3 w4 w.heap.size (.slice ra vs.length rc) (.int .i64 p) (.slice rb es.length rd)).heap.size (set3 w4 w.heap.size (.slice ra vs.length rc) (.int .i64 p) (.slice rb es.length rd)) rb (edVals es) := by
    rw [hz]
    exact (t2.set3 hs1 _ _ _).widen (by omega) (by omega)
  have hB4 : Below w.heap.size w w4 := below_only hB3.drew hw4 hB3.size (by omega)
  have hend := Lib.hid (show SomeProgPoint w _ _ from ⟨ra, rc, rb, rd, vs, p, es, (x : Int) - 1, hS, by omega, by omega, rfl, e1, e2, below_set3 hB4 (Nat.le_refl _) _ _ _⟩)
  clear t1 t2 e1 e2 r1 r2 key S0 S4
  rw [hwx]
  go_wp2
  exact bodyPost_ret (v := .tuple #[progV ra vs.length rc p rb es.length rd, .int .i64 ((x : Int) - 1)]) (by simp [results, Tryz.results15, go_sem, n0', n1', n2']) rfl hend.out

theorem set3_cell {W : World} {N P o : Nat} {u0 u1 u2 : Value} (h : P ≠ N) : (set3 W N u0 u1 u2).cell? ⟨P, o, none⟩ = W.cell? ⟨P, o, none⟩ := World.cell?_of_block (w := W) (set3_heap W N u0 u1 u2 P h)
/-- Two programs, drawn. -/
def SomeProgs (w : World) (e : Ending) (w' : World) : Prop :=
  ∃ a ca b cb ss p es, ∃ a2 ca2 b2 cb2 ss2 p2 es2, Small ss p es ∧ Small ss2 p2 es2 ∧ e = .returned (.tuple #[progV a ss.length ca p b es.length cb, progV a2 ss2.length ca2 p2 b2 es2.length cb2]) ∧ Rw w.heap.size w'.heap.size w' a (strVals ss) ∧ Rw w.heap.size w'.heap.size w' b (edVals es) ∧
    Rw w.heap.size w'.heap.size w' a2 (strVals ss2) ∧ Rw w.heap.size w'.heap.size w' b2 (edVals es2) ∧ Below w.heap.size w w'
set_option maxHeartbeats 1600000 in
theorem drawEqualProgram (a : Option Addr) (n cap : Nat) (w : World) (hn : n ≤ 1099511627776) (hcode : Code8 w w.heap.size n a) : Calls Tryz.prog 17 #[.slice a n cap] w (SomeProgs w) := by
  go_enter Tryz.func17, Tryz.ntmps17
  go_wp2_with fail
  obtain ⟨W0, hW0, hb0, hs0, hA0, hA1⟩ := two_box w (.slice none 0 0) (.int .i64 0) (.slice none 0 0) (.slice none 0 0) (.int .i64 0) (.slice none 0 0) 27
  have hf0 : ∀ o, W0.frozen? ⟨w.heap.size, o, none⟩ = false ∧ W0.frozen? ⟨w.heap.size + 1, o, none⟩ = false := fun o => by rw [← hW0]; simp [go_sem]
  rw [hW0]
  clear hW0
  refine (drawNew a n cap _ hn ((hcode.keeps fun p hp => hb0.cell hp).grow hb0.size)).mono ?_
  rintro e w1 ⟨g, rfl, hg, hc1, hb1⟩
  have hs0' : w.heap.size < W0.heap.size := by omega
  have hA01 := hA0.keep hs0' hb1
  have hA11 := hA1.keep hs0 hb1
  have hf1 : ∀ o, w1.frozen? ⟨w.heap.size, o, none⟩ = false ∧ w1.frozen? ⟨w.heap.size + 1, o, none⟩ = false := fun o => ⟨(hb1.frozen (p := ⟨w.heap.size, o, none⟩) hs0').trans (hf0 o).1, (hb1.frozen (p := ⟨w.heap.size + 1, o, none⟩) hs0).trans (hf0 o).2⟩
  have hs1 : w.heap.size + 1 < w1.heap.size := Nat.lt_of_lt_of_le hs0 hb1.size
  have hn1 : ¬ w.heap.size = g := by omega
  have hn1' : ¬ w.heap.size + 1 = g := by omega
  have hB1 := hb0.trans (hb1.mono hb0.size)
  have hg1 := hc1.lt
  clear hA0 hA1 hf0
  go_wp2_with fail
  refine (drawBentProg g _ hc1).mono ?_
  rintro e w2 ⟨ra, rc, rb, rd, vs, p, es, hS, hcap, rfl, hna, hnb, h1, h2, hc2, hw2⟩
  obtain ⟨k2, f2⟩ := gcell hw2
  have hs1' : w.heap.size < w1.heap.size := by omega
  have b0 := (k2 w.heap.size 0 hs1' hn1).trans hA01.1
  have b1 := (k2 w.heap.size 1 hs1' hn1).trans hA01.2.1
  have b2 := (k2 w.heap.size 2 hs1' hn1).trans hA01.2.2
  have b0' := (k2 (w.heap.size + 1) 0 hs1 hn1').trans hA11.1
  have b1' := (k2 (w.heap.size + 1) 1 hs1 hn1').trans hA11.2.1
  have b2' := (k2 (w.heap.size + 1) 2 hs1 hn1').trans hA11.2.2
  have g2 : ∀ o, w2.frozen? ⟨w.heap.size, o, none⟩ = false ∧ w2.frozen? ⟨w.heap.size + 1, o, none⟩ = false := fun o => ⟨(f2 w.heap.size o hs1' hn1).trans (hf1 o).1, (f2 (w.heap.size + 1) o hs1 hn1').trans (hf1 o).2⟩
  have h12 := hw2.size
  have hs2 : w.heap.size + 1 < w2.heap.size := by omega
  have hs2' : w.heap.size < w2.heap.size := by omega
  have hB2 := below_only hB1 hw2 hB1.size (by omega)
  have hg2 := hc2.lt
  clear k2 f2 hA01 hA11 hf1
  go_wp2_with fail
  obtain ⟨W3, hW3, hb3, hs3, hP3⟩ := one_box w2 (.slice ra vs.length rc) (.int .i64 p) (.slice rb es.length rd) 27
  rw [hW3]
  clear hW3
  refine (drawOnce g 2 _ (by omega) (by omega) (hc2.keeps hb3)).mono ?_
  rintro e w4 ⟨y, rfl, hc4, hw4⟩
  have h24 := hw4.size
  obtain ⟨k4, f4⟩ := gcell hw4
  have hn2 : ¬ w2.heap.size = g := by omega
  have kN : ∀ b o, b < w2.heap.size → ¬ b = g → w4.cell? ⟨b, o, none⟩ = w2.cell? ⟨b, o, none⟩ := fun b o q1 q2 => (k4 b o (by omega) q2).trans (hb3.cell (p := ⟨b, o, none⟩) q1)
  have c0 := (kN w.heap.size 0 hs2' hn1).trans b0
  have c1 := (kN w.heap.size 1 hs2' hn1).trans b1
  have c2 := (kN w.heap.size 2 hs2' hn1).trans b2
  have c0' := (kN (w.heap.size + 1) 0 hs2 hn1').trans b0'
  have c1' := (kN (w.heap.size + 1) 1 hs2 hn1').trans b1'
  have c2' := (kN (w.heap.size + 1) 2 hs2 hn1').trans b2'
  have g4 : ∀ o, w4.frozen? ⟨w.heap.size, o, none⟩ = false ∧ w4.frozen? ⟨w.heap.size + 1, o, none⟩ = false := fun o => ⟨((f4 w.heap.size o (by omega) hn1).trans (hb3.frozen (p := ⟨w.heap.size, o, none⟩) hs2')).trans (g2 o).1, ((f4 (w.heap.size + 1) o (by omega) hn1').trans (hb3.frozen (p := ⟨w.heap.size + 1, o, none⟩) hs2)).trans (g2 o).2⟩
  have m0 := (k4 w2.heap.size 0 hs3 hn2).trans hP3.1
  have m1 := (k4 w2.heap.size 1 hs3 hn2).trans hP3.2.1
  have m2 := (k4 w2.heap.size 2 hs3 hn2).trans hP3.2.2
  have r1 : Rw w1.heap.size w2.heap.size w4 ra (strVals vs) := (h1.below hb3).keeps (fun b q1 q2 => hw4.block b (by omega) (fun e => by injection e with e; omega))
  have r2 : Rw w1.heap.size w2.heap.size w4 rb (edVals es) := (h2.below hb3).keeps (fun b q1 q2 => hw4.block b (by omega) (fun e => by injection e with e; omega))
  have hB4 : Below w.heap.size w w4 := below_only (hB2.trans (hb3.mono hB2.size)) hw4 (Nat.le_trans hB2.size hb3.size) (by omega)
  have hP4 : w2.heap.size < w4.heap.size := by omega
  have hNP : w2.heap.size ≠ w.heap.size := by omega
  have hNP' : w2.heap.size ≠ w.heap.size + 1 := by omega
  clear kN k4 f4 hP3 b0 b1 b2 b0' b1' b2' g2 h1 h2 hw2 hc2 hb3 hs3 hw4 h24
  have kd : ∀ b o, w4.drew.cell? ⟨b, o, none⟩ = w4.cell? ⟨b, o, none⟩ := fun b o => (Below.drew (Below.refl (b + 1) w4)).cell (p := ⟨b, o, none⟩) (Nat.lt_succ_self b)
  have kfd : ∀ b o, w4.drew.frozen? ⟨b, o, none⟩ = w4.frozen? ⟨b, o, none⟩ := fun b o => (Below.drew (Below.refl (b + 1) w4)).frozen (p := ⟨b, o, none⟩) (Nat.lt_succ_self b)
  have hN4 : w.heap.size < w4.drew.heap.size := by show w.heap.size < w4.heap.size; omega
  have hN4' : w.heap.size + 1 < w4.drew.heap.size := by show w.heap.size + 1 < w4.heap.size; omega
  have hP4' : w2.heap.size < w4.drew.heap.size := hP4
  have KS : ∀ W, Below w4.drew.heap.size w4.drew W → (W.cell? ⟨w2.heap.size, 0, none⟩ = some (.slice ra vs.length rc) ∧ W.cell? ⟨w2.heap.size, 1, none⟩ = some (.int .i64 p) ∧ W.cell? ⟨w2.heap.size, 2, none⟩ = some (.slice rb es.length rd)) := fun W h =>
    ⟨((h.cell (p := ⟨w2.heap.size, 0, none⟩) hP4').trans (kd _ _)).trans m0, ((h.cell (p := ⟨w2.heap.size, 1, none⟩) hP4').trans (kd _ _)).trans m1, ((h.cell (p := ⟨w2.heap.size, 2, none⟩) hP4').trans (kd _ _)).trans m2⟩
  have KN : ∀ W, Below w4.drew.heap.size w4.drew W → (Box3 W w.heap.size (.slice none 0 0) (.int .i64 0) (.slice none 0 0) ∧ ∀ o, W.frozen? ⟨w.heap.size, o, none⟩ = false) := fun W h =>
    ⟨⟨((h.cell (p := ⟨w.heap.size, 0, none⟩) hN4).trans (kd _ _)).trans c0, ((h.cell (p := ⟨w.heap.size, 1, none⟩) hN4).trans (kd _ _)).trans c1, ((h.cell (p := ⟨w.heap.size, 2, none⟩) hN4).trans (kd _ _)).trans c2⟩, fun o => ((h.frozen (p := ⟨w.heap.size, o, none⟩) hN4).trans (kfd _ _)).trans (g4 o).1⟩
  have KM : ∀ W, Below w4.drew.heap.size w4.drew W → (Box3 W (w.heap.size + 1) (.slice none 0 0) (.int .i64 0) (.slice none 0 0) ∧ ∀ o, W.frozen? ⟨w.heap.size + 1, o, none⟩ = false) := fun W h =>
    ⟨⟨((h.cell (p := ⟨w.heap.size + 1, 0, none⟩) hN4').trans (kd _ _)).trans c0', ((h.cell (p := ⟨w.heap.size + 1, 1, none⟩) hN4').trans (kd _ _)).trans c1', ((h.cell (p := ⟨w.heap.size + 1, 2, none⟩) hN4').trans (kd _ _)).trans c2'⟩, fun o => ((h.frozen (p := ⟨w.heap.size + 1, o, none⟩) hN4').trans (kfd _ _)).trans (g4 o).2⟩
  have S0 := KS _ (Below.refl _ _)
  have h14 : w1.heap.size ≤ w4.heap.size := by omega
  cases y with
  | true =>
    have HKS := Lib.hid KS
    have HKN := Lib.hid KN
    have HKM := Lib.hid KM
    clear KS KN KM kd kfd c0 c1 c2 c0' c1' c2' g4
    have Q1 : Row w4.drew w4.drew.heap.size ra (strVals vs) := (r1.row (Nat.le_of_lt hP4)).below (Below.drew (Below.refl _ w4))
    have Q2 : Row w4.drew w4.drew.heap.size rb (edVals es) := (r2.row (Nat.le_of_lt hP4)).below (Below.drew (Below.refl _ w4))
    go_wp2
    go_region_held3 (fun w' => w'.cell? ⟨w2.heap.size, 0, none⟩ = some (.slice ra vs.length rc) ∧ w'.cell? ⟨w2.heap.size, 1, none⟩ = some (.int .i64 p) ∧ w'.cell? ⟨w2.heap.size, 2, none⟩ = some (.slice rb es.length rd))
      (first | with_reducible exact S0 | with_reducible exact S5 | with_reducible exact ⟨(set3_cell hNP).trans S5.1, (set3_cell hNP).trans S5.2.1, (set3_cell hNP).trans S5.2.2⟩ | with_reducible exact ⟨((set3_cell hNP').trans (set3_cell hNP)).trans S5.1, ((set3_cell hNP').trans (set3_cell hNP)).trans S5.2.1, ((set3_cell hNP').trans (set3_cell hNP)).trans S5.2.2⟩)
      (first
        | (go_at_call 49; refine (drawCopy ra rb rc rd vs p es _ hna hnb Q1 Q2 (by have := hS.len; omega) (by have := hS.edges; omega)).mono ?_; rintro e w5 ⟨va, vc, vb, vd, rfl, o1, o2, hd, hb5⟩; have S5 := HKS.out _ hb5; obtain ⟨⟨d0, d1, d2⟩, g5⟩ := HKN.out _ hb5; obtain ⟨⟨d0', d1', d2'⟩, g5'⟩ := HKM.out _ hb5))
    have h45 : w4.heap.size ≤ w5.heap.size := hb5.size
    have u1 : Rw w1.heap.size w2.heap.size w5 ra (strVals vs) := r1.keeps (fun b q1 q2 => hb5.block b (by show b < w4.heap.size; omega))
    have u2 : Rw w1.heap.size w2.heap.size w5 rb (edVals es) := r2.keeps (fun b q1 q2 => hb5.block b (by show b < w4.heap.size; omega))
    have t1 : Rw w4.heap.size w5.heap.size w5 va (strVals vs) := Rw.own o1
    have t2 : Rw w4.heap.size w5.heap.size w5 vb (edVals es) := Rw.own o2
    have hB5 : Below w.heap.size w w5 := hB4.drew.trans (hb5.mono (by show w.heap.size ≤ w4.heap.size; omega))
    clear o1 o2 hb5
    have hz1 := set3_size w5 w.heap.size (.slice ra vs.length rc) (.int .i64 p) (.slice rb es.length rd)
    have hz := (set3_size (set3 w5 w.heap.size (.slice ra vs.length rc) (.int .i64 p) (.slice rb es.length rd)) (w.heap.size + 1) (.slice va vs.length vc) (.int .i64 p) (.slice vb es.length vd)).trans hz1
    have two : ∀ lo hi ao xs, w.heap.size + 1 < lo → hi ≤ w5.heap.size → Rw lo hi w5 ao xs → Rw w.heap.size (set3 (set3 w5 w.heap.size (.slice ra vs.length rc) (.int .i64 p) (.slice rb es.length rd)) (w.heap.size + 1) (.slice va vs.length vc) (.int .i64 p) (.slice vb es.length vd)).heap.size (set3 (set3 w5 w.heap.size (.slice ra vs.length rc) (.int .i64 p) (.slice rb es.length rd)) (w.heap.size + 1) (.slice va vs.length vc) (.int .i64 p) (.slice vb es.length vd)) ao xs := fun lo hi ao xs q1 q2 h => by
      rw [hz]
      exact ((h.set3 (by omega) _ _ _).set3 q1 _ _ _).widen (by omega) q2
    have hend := Lib.hid (show SomeProgs w _ _ from ⟨ra, rc, rb, rd, vs, p, es, va, vc, vb, vd, vs, p, es, hS, hS, rfl, two _ _ _ _ hs1 (by omega) u1, two _ _ _ _ hs1 (by omega) u2, two _ _ _ _ (by omega) (Nat.le_refl _) t1, two _ _ _ _ (by omega) (Nat.le_refl _) t2, below_set3 (below_set3 hB5 (Nat.le_refl _) _ _ _) (Nat.le_succ _) _ _ _⟩)
    clear two u1 u2 t1 t2 r1 r2 S0 S5
    go_wp
    exact bodyPost_ret (v := .tuple #[progV ra vs.length rc p rb es.length rd, progV va vs.length vc p vb es.length vd]) (by simp [results, Tryz.results17, go_sem, d0, d1, d2, d0', d1', d2']) rfl hend.out
  | false =>
    have hcd : Cur w4.drew g := hc4.keeps (Below.drew (Below.refl _ _))
    have KG : ∀ W, w4.drew.grownBy W (some g) → (W.cell? ⟨w2.heap.size, 0, none⟩ = some (.slice ra vs.length rc) ∧ W.cell? ⟨w2.heap.size, 1, none⟩ = some (.int .i64 p) ∧ W.cell? ⟨w2.heap.size, 2, none⟩ = some (.slice rb es.length rd)) ∧ (Box3 W w.heap.size (.slice none 0 0) (.int .i64 0) (.slice none 0 0) ∧ ∀ o, W.frozen? ⟨w.heap.size, o, none⟩ = false) ∧ (Box3 W (w.heap.size + 1) (.slice none 0 0) (.int .i64 0) (.slice none 0 0) ∧ ∀ o, W.frozen? ⟨w.heap.size + 1, o, none⟩ = false) := fun W h => by
      obtain ⟨k, f⟩ := gcell h
      exact ⟨⟨((k _ 0 hP4' hn2).trans (kd _ _)).trans m0, ((k _ 1 hP4' hn2).trans (kd _ _)).trans m1, ((k _ 2 hP4' hn2).trans (kd _ _)).trans m2⟩, ⟨⟨((k _ 0 hN4 hn1).trans (kd _ _)).trans c0, ((k _ 1 hN4 hn1).trans (kd _ _)).trans c1, ((k _ 2 hN4 hn1).trans (kd _ _)).trans c2⟩, fun o => ((f _ o hN4 hn1).trans (kfd _ _)).trans (g4 o).1⟩, ⟨⟨((k _ 0 hN4' hn1').trans (kd _ _)).trans c0', ((k _ 1 hN4' hn1').trans (kd _ _)).trans c1', ((k _ 2 hN4' hn1').trans (kd _ _)).trans c2'⟩, fun o => ((f _ o hN4' hn1').trans (kfd _ _)).trans (g4 o).2⟩⟩
    have HKG := Lib.hid KG
    clear KS KN KM KG kd kfd c0 c1 c2 c0' c1' c2' g4
    go_wp2
    go_region_held3 (fun w' => w'.cell? ⟨w2.heap.size, 0, none⟩ = some (.slice ra vs.length rc) ∧ w'.cell? ⟨w2.heap.size, 1, none⟩ = some (.int .i64 p) ∧ w'.cell? ⟨w2.heap.size, 2, none⟩ = some (.slice rb es.length rd))
      (first | with_reducible exact S0 | with_reducible exact S5 | with_reducible exact ⟨(set3_cell hNP).trans S5.1, (set3_cell hNP).trans S5.2.1, (set3_cell hNP).trans S5.2.2⟩ | with_reducible exact ⟨((set3_cell hNP').trans (set3_cell hNP)).trans S5.1, ((set3_cell hNP').trans (set3_cell hNP)).trans S5.2.1, ((set3_cell hNP').trans (set3_cell hNP)).trans S5.2.2⟩)
      (first
        | (go_at_call 24; refine (drawBentProg g _ hcd).mono ?_; rintro e w5 ⟨va, vc, vb, vd, vs2, p2, es2, hS2, hcap2, rfl, hna2, hnb2, t1', t2', hc5, hw5⟩; obtain ⟨S5, ⟨⟨d0, d1, d2⟩, g5⟩, ⟨⟨d0', d1', d2'⟩, g5'⟩⟩ := HKG.out _ hw5))
    have h45 : w4.heap.size ≤ w5.heap.size := hw5.size
    have u1 : Rw w1.heap.size w2.heap.size w5 ra (strVals vs) := r1.keeps (fun b q1 q2 => hw5.block b (by show b < w4.heap.size; omega) (fun e => by injection e with e; omega))
    have u2 : Rw w1.heap.size w2.heap.size w5 rb (edVals es) := r2.keeps (fun b q1 q2 => hw5.block b (by show b < w4.heap.size; omega) (fun e => by injection e with e; omega))
    have t1 : Rw w4.heap.size w5.heap.size w5 va (strVals vs2) := t1'
    have t2 : Rw w4.heap.size w5.heap.size w5 vb (edVals es2) := t2'
    have hB5 : Below w.heap.size w w5 := below_only hB4.drew hw5 (by show w.heap.size ≤ w4.heap.size; omega) (by omega)
    clear t1' t2' hw5
    have hz1 := set3_size w5 w.heap.size (.slice ra vs.length rc) (.int .i64 p) (.slice rb es.length rd)
    have hz := (set3_size (set3 w5 w.heap.size (.slice ra vs.length rc) (.int .i64 p) (.slice rb es.length rd)) (w.heap.size + 1) (.slice va vs2.length vc) (.int .i64 p2) (.slice vb es2.length vd)).trans hz1
    have two : ∀ lo hi ao xs, w.heap.size + 1 < lo → hi ≤ w5.heap.size → Rw lo hi w5 ao xs → Rw w.heap.size (set3 (set3 w5 w.heap.size (.slice ra vs.length rc) (.int .i64 p) (.slice rb es.length rd)) (w.heap.size + 1) (.slice va vs2.length vc) (.int .i64 p2) (.slice vb es2.length vd)).heap.size (set3 (set3 w5 w.heap.size (.slice ra vs.length rc) (.int .i64 p) (.slice rb es.length rd)) (w.heap.size + 1) (.slice va vs2.length vc) (.int .i64 p2) (.slice vb es2.length vd)) ao xs := fun lo hi ao xs q1 q2 h => by
      rw [hz]
      exact ((h.set3 (by omega) _ _ _).set3 q1 _ _ _).widen (by omega) q2
    have hend := Lib.hid (show SomeProgs w _ _ from ⟨ra, rc, rb, rd, vs, p, es, va, vc, vb, vd, vs2, p2, es2, hS, hS2, rfl, two _ _ _ _ hs1 (by omega) u1, two _ _ _ _ hs1 (by omega) u2, two _ _ _ _ (by omega) (Nat.le_refl _) t1, two _ _ _ _ (by omega) (Nat.le_refl _) t2, below_set3 (below_set3 hB5 (Nat.le_refl _) _ _ _) (Nat.le_succ _) _ _ _⟩)
    clear two u1 u2 t1 t2 r1 r2 S0 S5
    go_wp2
    exact bodyPost_ret (v := .tuple #[progV ra vs.length rc p rb es.length rd, progV va vs2.length vc p2 vb es2.length vd]) (by simp [results, Tryz.results17, go_sem, d0, d1, d2, d0', d1', d2']) rfl hend.out
end Go.Proofs.YtabedmjaodinbaaGreatDoor

namespace Go.Proofs.YtabedmjaodinbaaGreatDoor.programs
open Go Go.RowKit Go.ChangeShapes Go.WideShapes Go.ChangeAt Go.Sort

/-- The law said true, and nothing old has turned. -/
def TrueEnd (w : World) (e : Ending) (w' : World) : Prop := e = .returned (.bool true) ∧ Below w.heap.size w w'

/-- A program in a box, with its rows. -/
structure PB (W : World) (X : Nat) (a : Option Addr) (ca : Nat) (b : Option Addr) (cb : Nat) (ss : List ByteArray) (p : Int) (es : List Ed) : Prop where
  box : Box3 W X (.slice a ss.length ca) (.int .i64 p) (.slice b es.length cb)
  ra : Row W W.heap.size a (strVals ss)
  rb : Row W W.heap.size b (edVals es)
  lt : X < W.heap.size
theorem PB.keeps {W W' : World} {X : Nat} {a : Option Addr} {ca : Nat} {b : Option Addr} {cb : Nat} {ss : List ByteArray} {p : Int} {es : List Ed} (h : PB W X a ca b cb ss p es) (hb : Below W.heap.size W W') : PB W' X a ca b cb ss p es :=
  ⟨h.box.keep h.lt hb, (h.ra.below hb).grow hb.size, (h.rb.below hb).grow hb.size, Nat.lt_of_lt_of_le h.lt hb.size⟩
theorem PB.new {w : World} {a : Option Addr} {ca : Nat} {b : Option Addr} {cb : Nat} {ss : List ByteArray} {p : Int} {es : List Ed} {t : TypeId} (ra : Row w w.heap.size a (strVals ss)) (rb : Row w w.heap.size b (edVals es)) :
    PB (w.alloc (.cells #[.slice a ss.length ca, .int .i64 p, .slice b es.length cb] t)) w.heap.size a ca b cb ss p es := by
  obtain ⟨W0, hW0, hb0, hs0, hA0⟩ := one_box w (.slice a ss.length ca) (.int .i64 p) (.slice b es.length cb) t
  rw [hW0]
  exact ⟨hA0, (ra.below hb0).grow hb0.size, (rb.below hb0).grow hb0.size, hs0⟩
theorem alloc_below (w : World) (o : Obj) : Below w.heap.size w (w.alloc o) := (Below.refl _ _).alloc (Nat.le_refl _) _

theorem at_regrown {P : Program} {f : FuncId} {args : Array Value} {w : World} {d : Nat} {os : Array Obj} {v : Value} (h : Calls P f args (grow (redrawn w d) os) (GaveB v (grow (redrawn w d) os))) :
    Calls P f args (grow (redrawn w d) os) fun e w'' => e = .returned v ∧ ∃ p : Regrown, w'' = grow (redrawn w p.d) p.os := Calls.regrown_of h
theorem row_regrown {w : World} {a : Option Addr} {xs : List Value} (h : Row w w.heap.size a xs) (d : Nat) (os : Array Obj) : Row (grow (redrawn w d) os) (grow (redrawn w d) os).heap.size a xs :=
  (h.below (below_regrown w d os)).grow (below_regrown w d os).size

/-- What a program's own text is parsed to. -/
theorem parsed_text (ss : List ByteArray) (p : Int) (es : List Ed) (h : progB ss p es = true) : ∀ w e w', ParsedProg (progT ss p es) w e w' → Got true ss p es w e w' := by
  have hV : ValidT (progT ss p es).data.toList ss p es := ⟨h, by rw [progT_yes h]⟩
  obtain ⟨q, ss', p', es', hP, hg⟩ := parsed (progT ss p es)
  intro w e w' hh
  have hq : q = true := by
    cases q with
    | true => rfl
    | false =>
      obtain ⟨a, ca, b, cb, M, he, _⟩ := hg w e w' hh
      rcases hh with ⟨a2, ca2, b2, cb2, ss2, p2, es2, M2, _, he2, _⟩ | ⟨hno, _⟩
      · rw [he] at he2
        injection he2 with he2
        injection he2 with he2
        have := congrArg (fun x : Array Value => x[1]?) he2
        simp at this
      · exact absurd hV (hno ss p es)
  subst hq
  have hV' : ValidT (progT ss p es).data.toList ss' p' es' := ⟨hP.is.symm, hP.yes rfl⟩
  obtain ⟨rfl, rfl, rfl⟩ := valid_one hV hV'
  exact hg w e w' hh
theorem parsed_none (ss : List ByteArray) (p : Int) (es : List Ed) (h : progB ss p es = false) : ∀ w e w', ParsedProg (progT ss p es) w e w' → Got false [] 0 [] w e w' := by
  intro w e w' hh
  rw [progT_no h] at hh
  rcases hh with ⟨a, ca, b, cb, ss', p', es', M, hV, _⟩ | ⟨_, he, hb⟩
  · have := congrArg List.length hV.2
    simp [progL] at this
  · exact ⟨none, 0, none, 0, w.heap.size, he, Nat.zero_le _, Nat.zero_le _, Nat.le_refl _, hb.size, World.ownsRow_nil _ _ _ _, (fun j hj => by simp [Value.ownBlock] at hj), World.ownsRow_nil _ _ _ _, hb⟩
theorem same_self (ss : List ByteArray) (p : Int) (es : List Ed) : sameProg ss ss p p es es = true := by simp [sameProg]

set_option maxRecDepth 100000 in
set_option maxHeartbeats 8000000 in
theorem walk (a : Option Addr) (n cap : Nat) (w : World) (hn : n ≤ maxLen) (hcode : Code8 w w.heap.size n a) (hT : Tabs w) : Calls Tryz.prog 3 #[.slice a n cap] w (TrueEnd w) := by
  by_cases hbig : 1048576 < n
  · go_enter Tryz.func3, Tryz.ntmps3
    go_wp2_with fail
    refine (bigYes a n cap _ hn hbig).mono ?_
    rintro e w1 ⟨rfl, rfl⟩
    go_wp2
    go_ret
    exact ⟨rfl, Below.refl _ _⟩
  have hCode : ∀ W, Below w.heap.size w W → Code8 W W.heap.size n a := fun W h => (hcode.keeps fun p hp => h.cell hp).grow h.size
  have HCD := Lib.hid hCode
  have HTB := Lib.hid hT
  go_enter Tryz.func3, Tryz.ntmps3
  go_wp2_with fail
  refine (bigNo a n cap _ (by omega)).mono ?_
  rintro e w1 ⟨rfl, rfl⟩
  go_wp2_with fail
  refine (drawProgramText a n cap _ (by omega) hcode).mono ?_
  rintro e w1 ⟨pa, pca, pb, pcb, ss, p, es, hS, hcap, rfl, r1, r2, hB1⟩
  have P3 : PB (w1.alloc (.cells #[.slice pa ss.length pca, .int .i64 p, .slice pb es.length pcb] 27)) w1.heap.size pa pca pb pcb ss p es := PB.new (r1.row (Nat.le_refl _)) (r2.row (Nat.le_refl _))
  have hB2 := hB1.trans ((alloc_below w1 (.cells #[.slice pa ss.length pca, .int .i64 p, .slice pb es.length pcb] 27)).mono hB1.size)
  have hsl : ss.length ≤ maxLen := by have := hS.len; unfold maxLen; omega
  have hsz : ∀ s ∈ ss, s.size ≤ maxLen := fun s hs => by have := hS.size s hs; unfold maxLen; omega
  have hel : es.length ≤ maxLen := by have := hS.edges; unfold maxLen; omega
  have hpb : -9223372036854775808 ≤ p ∧ p ≤ 9223372036854775807 := by have := hS.pts; omega
  have hsmall := progT_small ss p es hpb
  obtain ⟨q, xs, xp, xe, hq, hGot, hx1, hx2⟩ : ∃ q xs xp xe, progB ss p es = q ∧ (∀ w e w', ParsedProg (progT ss p es) w e w' → Got q xs xp xe w e w') ∧ (q = true → xs = ss ∧ xp = p ∧ xe = es) ∧ (xs.length ≤ maxLen ∧ xe.length ≤ maxLen) := by
    cases h : progB ss p es with
    | true => exact ⟨true, ss, p, es, rfl, parsed_text ss p es h, fun _ => ⟨rfl, rfl, rfl⟩, hsl, hel⟩
    | false => exact ⟨false, [], 0, [], rfl, parsed_none ss p es h, fun e => (by cases e), Nat.zero_le _, Nat.zero_le _⟩
  clear r1 r2
  generalize htx : progT ss p es = tx at *
  have HTX := Lib.hid htx
  have HQ := Lib.hid hq
  have HGOT := Lib.hid hGot
  have HX1 := Lib.hid hx1
  have HX2 := Lib.hid hx2
  have HS := Lib.hid hS
  have HSZ := Lib.hid hsz
  clear htx hq hGot hx1 hx2 hS hsz hCode hcode hT
  obtain ⟨b0, b1, b2⟩ := P3.box
  go_wp2_with fail
  refine (implProgText pa pb pca pcb ss p es _ ⟨hsl, HSZ.out, P3.ra⟩ hcap hpb ⟨hel, HS.out.ok, P3.rb⟩ (HTB.out.names.keeps hB2) (HTB.out.pows.keeps hB2)).mono ?_
  rw [HTX.out]
  rintro e w3 ⟨rfl, hb3⟩
  replace P3 := P3.keeps hb3
  have hB3 := hB2.trans (hb3.mono hB2.size)
  clear hB2 hb3 b0 b1 b2 hB1
  go_wp2_with fail
  refine (implParseProg tx _ (by omega) (HTB.out.keeps hB3)).mono fun e w4 h => ?_
  obtain ⟨ya, yca, yb, ycb, M, rfl, hyc, hyd, hM, hM', ho4, _, hp4, hb4⟩ := HGOT.out _ _ _ h
  clear h
  have hB4 := hB3.trans (hb4.mono hB3.size)
  have P5 : PB (w4.alloc (.cells #[.slice ya xs.length yca, .int .i64 xp, .slice yb xe.length ycb] 27)) w4.heap.size ya yca yb ycb xs xp xe := PB.new (Row.owned ho4) (Row.ownedN hp4)
  replace P3 := (P3.keeps hb4).keeps (alloc_below w4 (.cells #[.slice ya xs.length yca, .int .i64 xp, .slice yb xe.length ycb] 27))
  have hB5 := hB4.trans ((alloc_below w4 (.cells #[.slice ya xs.length yca, .int .i64 xp, .slice yb xe.length ycb] 27)).mono hB4.size)
  clear ho4 hp4 hb4 hB4 hB3
  go_wp2
  generalize (w4.alloc (.cells #[.slice ya xs.length yca, .int .i64 xp, .slice yb xe.length ycb] 27)) = W5 at *
  generalize w1.heap.size = X3 at *
  generalize w4.heap.size = X5 at *
  have key : ∀ W, Below W5.heap.size W5 W → (PB W X3 pa pca pb pcb ss p es ∧ PB W X5 ya yca yb ycb xs xp xe) ∧ Below w.heap.size w W := fun W h => ⟨⟨P3.keeps h, P5.keeps h⟩, hB5.trans (h.mono hB5.size)⟩
  have hAll : ∀ W, Below W5.heap.size W5 W → (W.cell? ⟨X3, 0, none⟩ = some (.slice pa ss.length pca) ∧ W.cell? ⟨X3, 1, none⟩ = some (.int .i64 p) ∧ W.cell? ⟨X3, 2, none⟩ = some (.slice pb es.length pcb)) ∧ (W.cell? ⟨X5, 0, none⟩ = some (.slice ya xs.length yca) ∧ W.cell? ⟨X5, 1, none⟩ = some (.int .i64 xp) ∧ W.cell? ⟨X5, 2, none⟩ = some (.slice yb xe.length ycb)) := fun W h => ⟨(key W h).1.1.box, (key W h).1.2.box⟩
  have KEY := Lib.hid key
  have ALL := Lib.hid hAll
  have hD : Below W5.heap.size W5 W5.drew := Below.drew (Below.refl _ _)
  clear key hAll P3 P5 hB5 hM hM' hyc hyd
  cases q with
  | true =>
    obtain ⟨e1, e2, e3⟩ := HX1.out rfl
    replace e1 := e1.symm
    replace e2 := e2.symm
    replace e3 := e3.symm
    subst e1 e2 e3
    go_region_held3 (fun w' => (w'.cell? ⟨X3, 0, none⟩ = some (.slice pa ss.length pca) ∧ w'.cell? ⟨X3, 1, none⟩ = some (.int .i64 p) ∧ w'.cell? ⟨X3, 2, none⟩ = some (.slice pb es.length pcb)) ∧ (w'.cell? ⟨X5, 0, none⟩ = some (.slice ya ss.length yca) ∧ w'.cell? ⟨X5, 1, none⟩ = some (.int .i64 p) ∧ w'.cell? ⟨X5, 2, none⟩ = some (.slice yb es.length ycb)))
      (first | with_reducible exact ALL.out _ hD | with_reducible exact ALL.out _ H1 | with_reducible exact ALL.out _ H2 | with_reducible exact ALL.out _ H3 | with_reducible exact ALL.out _ H4 | with_reducible exact ALL.out _ H5)
      (first
        | (go_at_call 9; (with_reducible refine (specProgText pa pb pca pcb ss p es _ ⟨hsl, HSZ.out, (KEY.out _ hD).1.1.ra⟩ hpb ⟨hel, HS.out.ok, (KEY.out _ hD).1.1.rb⟩).mono ?_); rw [HTX.out]; rintro e v1 ⟨rfl, hb1⟩; have H1 := hD.trans (hb1.mono hD.size))
        | (go_at_call 10; (with_reducible refine (implIsProgram pa pb pca pcb ss p es _ ⟨hsl, HSZ.out, (KEY.out _ H1).1.1.ra⟩ ⟨hel, (KEY.out _ H1).1.1.rb⟩ (HTB.out.names.keeps (KEY.out _ H1).2)).mono ?_); rw [HQ.out]; rintro e v2 ⟨rfl, hb2⟩; have H2 := H1.trans (hb2.mono H1.size))
        | (go_at_call 10; (with_reducible refine (implIsProgram pa pb pca pcb ss p es _ ⟨hsl, HSZ.out, (KEY.out _ H2).1.1.ra⟩ ⟨hel, (KEY.out _ H2).1.1.rb⟩ (HTB.out.names.keeps (KEY.out _ H2).2)).mono ?_); rw [HQ.out]; rintro e v3 ⟨rfl, hb3⟩; have H3 := H2.trans (hb3.mono H2.size))
        | (go_at_call 11; (with_reducible refine (specIsProgram pa pb pca pcb ss p es _ ⟨hsl, HSZ.out, (KEY.out _ H3).1.1.ra⟩ hpb ⟨hel, (KEY.out _ H3).1.1.rb⟩).mono ?_); rw [HQ.out]; rintro e v4 ⟨rfl, hb4⟩; have H4 := H3.trans (hb4.mono H3.size))
        | (go_at_call 12; (with_reducible refine (implEqual ya yb pa pb yca ycb pca pcb ss ss p p es es _ hsl hsl hel hel (KEY.out _ H4).1.2.ra (KEY.out _ H4).1.2.rb (KEY.out _ H4).1.1.ra (KEY.out _ H4).1.1.rb).mono ?_); rw [same_self]; rintro e v5 ⟨rfl, hb5⟩; have H5 := H4.trans (hb5.mono H4.size)))
    clear hD
    have hB6 := (KEY.out _ H5).2
    clear KEY ALL HX1 HX2 HGOT HTX HQ hsmall
    generalize v5 = z0 at *
    have hcode0 := HCD.out _ hB6
    go_wp2_with fail
    refine (drawParseProgram a n cap _ (by omega) hcode0).mono ?_
    rintro e z1 ⟨u, hu, rfl, hz1⟩
    have hZ1 := hB6.trans (hz1.mono hB6.size)
    obtain ⟨q2, ys, yp, ye, hP2, hg2⟩ := parsed u
    have HP2 := Lib.hid hP2
    have HG2 := Lib.hid hg2
    clear hP2 hg2 hz1 hB6 hcode0
    go_wp2_with fail
    refine (implParseProg u _ (by omega) (HTB.out.keeps hZ1)).mono fun e z2 h => ?_
    obtain ⟨a8, c8, b8, d8, M8, rfl, hc8, hd8, hM8, hM8', o8, _, p8, hb8⟩ := HG2.out _ _ _ h
    clear h
    have P8 : PB (z2.alloc (.cells #[.slice a8 ys.length c8, .int .i64 yp, .slice b8 ye.length d8] 27)) z2.heap.size a8 c8 b8 d8 ys yp ye := PB.new (Row.owned o8) (Row.ownedN p8)
    have hZ2 := (hZ1.trans (hb8.mono hZ1.size)).trans ((alloc_below z2 (.cells #[.slice a8 ys.length c8, .int .i64 yp, .slice b8 ye.length d8] 27)).mono (hZ1.trans (hb8.mono hZ1.size)).size)
    clear o8 p8 hb8 hM8 hM8' hd8 hZ1
    go_wp2_with fail
    refine (specParseProg u _ (by omega)).mono fun e z3 h => ?_
    obtain ⟨a9, c9, b9, d9, M9, rfl, hc9, hd9, hM9, hM9', o9, _, p9, hb9⟩ := HG2.out _ _ _ h
    clear h
    replace P8 := (P8.keeps hb9).keeps (alloc_below z3 (.cells #[.slice a9 ys.length c9, .int .i64 yp, .slice b9 ye.length d9] 27))
    have hZ3 := (hZ2.trans (hb9.mono hZ2.size)).trans ((alloc_below z3 (.cells #[.slice a9 ys.length c9, .int .i64 yp, .slice b9 ye.length d9] 27)).mono (hZ2.trans (hb9.mono hZ2.size)).size)
    clear o9 p9 hb9 hM9 hM9' hd9 hZ2 hc9
    have e8 := P8.box.1
    have e8' := P8.box.2.1
    have e8'' := P8.box.2.2
    cases q2 with
    | true =>
      have htu : progT ys yp ye = u := by
        rw [progT_yes HP2.out.is.symm]
        exact bytes_of_list (HP2.out.yes rfl).symm
      have HTU := Lib.hid htu
      have hyb : -9223372036854775808 ≤ yp ∧ yp ≤ 9223372036854775807 := by have := HP2.out.pts; omega
      have hyl : ys.length ≤ maxLen := by have := HP2.out.len; unfold maxLen; omega
      have hyel : ye.length ≤ maxLen := by have := HP2.out.edges; unfold maxLen; omega
      clear htu
      go_wp2_with fail
      refine (implProgText a8 b8 c8 d8 ys yp ye _ ⟨hyl, fun s hs => by have := HP2.out.size s hs; unfold maxLen; omega, P8.ra⟩ hc8 hyb ⟨hyel, HP2.out.ok, P8.rb⟩ (HTB.out.names.keeps hZ3) (HTB.out.pows.keeps hZ3)).mono ?_
      rw [HTU.out]
      rintro e z4 ⟨rfl, hb4⟩
      have hZ4 := hZ3.trans (hb4.mono hZ3.size)
      clear hb4 P8 e8 e8' e8'' hZ3 HTU HP2 HG2
      have hcodeE := HCD.out _ hZ4
      go_wp2_with fail
      refine (drawEdgesFrom a n cap _ (by omega) hcodeE).mono ?_
      rintro e z5 ⟨ea, eca, eb, ecb, qs, qp, qe, pt, hS5, hpt0, hpt5, rfl, re1, re2, hb5⟩
      have hZ5 := (hZ4.trans (hb5.mono hZ4.size)).trans ((alloc_below z5 (.cells #[.slice ea qs.length eca, .int .i64 qp, .slice eb qe.length ecb] 27)).mono (hZ4.trans (hb5.mono hZ4.size)).size)
      have P12 : PB (z5.alloc (.cells #[.slice ea qs.length eca, .int .i64 qp, .slice eb qe.length ecb] 27)) z5.heap.size ea eca eb ecb qs qp qe := PB.new (re1.row (Nat.le_refl _)) (re2.row (Nat.le_refl _))
      obtain ⟨f0, f1, f2⟩ := P12.box
      have hqe : qe.length ≤ 1048576 := by have := hS5.edges; omega
      have HS5 := Lib.hid hS5
      clear re1 re2 hb5 hS5 hcodeE hZ4
      go_wp2_with fail
      refine (implEdgesFrom ea eb qs.length eca ecb qe qp pt _ hqe P12.rb).mono ?_
      clear f0 f1 f2
      have hmem : ∀ z ∈ posFrom pt 0 (fromsOf qe), ∃ j : Nat, z = (j : Int) ∧ ∃ h : j < qe.length, qe[j].f = pt := fun z hz => by
        obtain ⟨j, hj, hjl, hjf⟩ := posFrom_mem pt (fromsOf qe) 0 z hz
        have hjl' : j < qe.length := by rw [fromsOf_length] at hjl; exact hjl
        refine ⟨j, by rw [hj, Nat.zero_add], hjl', ?_⟩
        rw [← hjf, fromsOf_at qe j hjl' hjl]
      have hpl : (posFrom pt 0 (fromsOf qe)).length ≤ 1048576 := by have := posFrom_length pt (fromsOf qe) 0; rw [fromsOf_length] at this; omega
      generalize hps : posFrom pt 0 (fromsOf qe) = ps at *
      have HPS := Lib.hid hps
      have HMEM := Lib.hid hmem
      clear hps hmem
      rintro e z6 ⟨la, lc, rfl, hlc, hl6, hb6⟩
      rw [intVals_length] at *
      have hZ6 := hZ5.trans (hb6.mono hZ5.size)
      replace P12 := P12.keeps hb6
      have LI : Row z6 z6.heap.size la (intVals ps) := Row.owned hl6
      have hcode6 := HCD.out _ hZ6
      clear hb6 hl6 hZ5 hlc
      go_wp2_with fail
      refine (drawEqualProgram a n cap _ (by omega) hcode6).mono ?_
      rintro e z7 ⟨ga, gca, gb, gcb, gs, gp, ge, ka, kca, kb, kcb, ks, kp, ke, hG, hK, rfl, u1, u2, u3, u4, hb7⟩
      have hZ7 := hZ6.trans (hb7.mono hZ6.size)
      replace P12 := P12.keeps hb7
      replace LI : Row z7 z7.heap.size la (intVals ps) := (LI.below hb7).grow hb7.size
      go_wp2
      obtain ⟨z8, hz8, hb8, hs8, hA8, hB8⟩ := two_box z7 (.slice ga gs.length gca) (.int .i64 gp) (.slice gb ge.length gcb) (.slice ka ks.length kca) (.int .i64 kp) (.slice kb ke.length kcb) 27
      rw [hz8]
      clear hz8
      have hZ8 := hZ7.trans (hb8.mono hZ7.size)
      replace P12 := P12.keeps hb8
      replace LI : Row z8 z8.heap.size la (intVals ps) := (LI.below hb8).grow hb8.size
      have P15 : PB z8 z7.heap.size ga gca gb gcb gs gp ge := ⟨hA8, ((u1.row (Nat.le_refl _)).below hb8).grow hb8.size, ((u2.row (Nat.le_refl _)).below hb8).grow hb8.size, by omega⟩
      have P16 : PB z8 (z7.heap.size + 1) ka kca kb kcb ks kp ke := ⟨hB8, ((u3.row (Nat.le_refl _)).below hb8).grow hb8.size, ((u4.row (Nat.le_refl _)).below hb8).grow hb8.size, hs8⟩
      have hgl : gs.length ≤ maxLen ∧ ks.length ≤ maxLen ∧ ge.length ≤ maxLen ∧ ke.length ≤ maxLen := ⟨by have := hG.len; unfold maxLen; omega, by have := hK.len; unfold maxLen; omega, by have := hG.edges; unfold maxLen; omega, by have := hK.edges; unfold maxLen; omega⟩
      have key8 : ∀ W, Below z8.heap.size z8 W → (PB W z5.heap.size ea eca eb ecb qs qp qe ∧ PB W z7.heap.size ga gca gb gcb gs gp ge ∧ PB W (z7.heap.size + 1) ka kca kb kcb ks kp ke) ∧ Row W W.heap.size la (intVals ps) ∧ Below w.heap.size w W := fun W h => ⟨⟨P12.keeps h, P15.keeps h, P16.keeps h⟩, (LI.below h).grow h.size, hZ8.trans (h.mono hZ8.size)⟩
      have all8 : ∀ W, Below z8.heap.size z8 W → Box3 W z5.heap.size (.slice ea qs.length eca) (.int .i64 qp) (.slice eb qe.length ecb) ∧ Box3 W z7.heap.size (.slice ga gs.length gca) (.int .i64 gp) (.slice gb ge.length gcb) ∧ Box3 W (z7.heap.size + 1) (.slice ka ks.length kca) (.int .i64 kp) (.slice kb ke.length kcb) := fun W h => ⟨(key8 W h).1.1.box, (key8 W h).1.2.1.box, (key8 W h).1.2.2.box⟩
      have KEY8 := Lib.hid key8
      have ALL8 := Lib.hid all8
      have HGL := Lib.hid hgl
      clear key8 all8 hgl P12 P15 P16 LI hZ8 hZ7 hZ6 hb8 hs8 hA8 hB8 u1 u2 u3 u4 hb7 hcode6 hG hK
      generalize z5.heap.size = X12 at *
      generalize z7.heap.size = X15 at *
      generalize hsm : sameProg gs ks gp kp ge ke = sb
      have HSM := Lib.hid hsm
      clear hsm
      go_loopw [17] (fun i wr => ∃ k : Nat, k ≤ ps.length ∧ i = .int .i64 (k : Int) ∧ Below z8.heap.size z8 wr) (fun i _ => ps.length - (intOf i).toNat)
      case atStart => exact ⟨0, Nat.zero_le _, rfl, Below.refl _ _⟩
      case round =>
        obtain ⟨k, hk, rfl, hbr⟩ := hrel
        by_cases hlt : k < ps.length
        · obtain ⟨lb, lo, rfl, _, hcl⟩ := (KEY8.out _ hbr).2.1 k _ (intVals_at ps k hlt)
          obtain ⟨j, hzj, hj, hjf⟩ := HMEM.out ps[k] (List.getElem_mem hlt)
          rw [hzj] at hcl
          obtain ⟨xb, xo, rfl, _, hE⟩ := (KEY8.out _ hbr).1.1.rb.edge j hj
          have hef := hE.f
          rw [hjf] at hef
          have hp2 := (KEY8.out _ hbr).1.1.box.2.2
          have i0 : (0 : Int) ≤ (j : Int) := by omega
          have i1 : (j : Int) < (qe.length : Int) := by omega
          have i2 : (0 : Int) ≤ (k : Int) := by omega
          have i3 : (k : Int) < (ps.length : Int) := by omega
          clear hE hjf hzj
          go_wp2
          go_quiet (fail)
          go_wp2
          go_roundw
          case rel => first | exact ⟨k + 1, by omega, by go_num, hbr.drew⟩ | exact ⟨k + 1, by omega, by go_num, below_draws hbr _⟩
          case measure => simp [intOf]; omega
        · have hkn : k = ps.length := by omega
          subst hkn
          go_wp2
          have hD8 : Below z8.heap.size z8 wr.drew := hbr.drew
          go_region_held3 (fun w' => (w'.cell? ⟨X12, 0, none⟩ = some (.slice ea qs.length eca) ∧ w'.cell? ⟨X12, 1, none⟩ = some (.int .i64 qp) ∧ w'.cell? ⟨X12, 2, none⟩ = some (.slice eb qe.length ecb)) ∧ (w'.cell? ⟨X15, 0, none⟩ = some (.slice ga gs.length gca) ∧ w'.cell? ⟨X15, 1, none⟩ = some (.int .i64 gp) ∧ w'.cell? ⟨X15, 2, none⟩ = some (.slice gb ge.length gcb)) ∧ (w'.cell? ⟨X15 + 1, 0, none⟩ = some (.slice ka ks.length kca) ∧ w'.cell? ⟨X15 + 1, 1, none⟩ = some (.int .i64 kp) ∧ w'.cell? ⟨X15 + 1, 2, none⟩ = some (.slice kb ke.length kcb)))
            (first | with_reducible exact ALL8.out _ hD8 | with_reducible exact ALL8.out _ G1 | with_reducible exact ALL8.out _ G2 | with_reducible exact ALL8.out _ G3 | with_reducible exact ALL8.out _ G4)
            (first
              | (go_at_call 19; (with_reducible refine (specEdgesFrom ea eb qs.length eca ecb qe qp pt _ hqe (KEY8.out _ hD8).1.1.rb).mono ?_); rw [HPS.out]; rintro e x1 ⟨ma, mc, rfl, hmc, hm1, hx1⟩; rw [intVals_length] at hm1 ⊢; have G1 := hD8.trans (hx1.mono hD8.size))
              | (go_at_call 18; (with_reducible refine (sameInts la ma lc mc ps _ (by unfold maxLen; omega) (KEY8.out _ G1).2.1 (Row.owned hm1)).mono ?_); rintro e x2 ⟨d1, rfl, rfl⟩; have G2 := below_draws G1 d1)
              | (go_at_call 12; (with_reducible refine (implEqual ga gb ka kb gca gcb kca kcb gs ks gp kp ge ke _ HGL.out.1 HGL.out.2.1 HGL.out.2.2.1 HGL.out.2.2.2 (KEY8.out _ G2).1.2.1.ra (KEY8.out _ G2).1.2.1.rb (KEY8.out _ G2).1.2.2.ra (KEY8.out _ G2).1.2.2.rb).mono ?_); rw [HSM.out]; rintro e x3 ⟨rfl, hx3⟩; have G3 := G2.trans (hx3.mono G2.size))
              | (go_at_call 20; (with_reducible refine (specEqual ga gb ka kb gca gcb kca kcb gs ks gp kp ge ke _ HGL.out.1 HGL.out.2.1 HGL.out.2.2.1 HGL.out.2.2.2 (KEY8.out _ G3).1.2.1.ra (KEY8.out _ G3).1.2.1.rb (KEY8.out _ G3).1.2.2.ra (KEY8.out _ G3).1.2.2.rb).mono ?_); rw [HSM.out]; rintro e x4 ⟨rfl, hx4⟩; have G4 := G3.trans (hx4.mono G3.size)))
          go_wp2
          go_ret
          exact ⟨rfl, (KEY8.out _ G4).2.2⟩
    | false =>
      have hZ4 := hZ3
      clear P8 e8 e8' e8'' hZ3 HP2 HG2
      have hcodeE := HCD.out _ hZ4
      go_wp2_with fail
      refine (drawEdgesFrom a n cap _ (by omega) hcodeE).mono ?_
      rintro e z5 ⟨ea, eca, eb, ecb, qs, qp, qe, pt, hS5, hpt0, hpt5, rfl, re1, re2, hb5⟩
      have hZ5 := (hZ4.trans (hb5.mono hZ4.size)).trans ((alloc_below z5 (.cells #[.slice ea qs.length eca, .int .i64 qp, .slice eb qe.length ecb] 27)).mono (hZ4.trans (hb5.mono hZ4.size)).size)
      have P12 : PB (z5.alloc (.cells #[.slice ea qs.length eca, .int .i64 qp, .slice eb qe.length ecb] 27)) z5.heap.size ea eca eb ecb qs qp qe := PB.new (re1.row (Nat.le_refl _)) (re2.row (Nat.le_refl _))
      obtain ⟨f0, f1, f2⟩ := P12.box
      have hqe : qe.length ≤ 1048576 := by have := hS5.edges; omega
      have HS5 := Lib.hid hS5
      clear re1 re2 hb5 hS5 hcodeE hZ4
      go_wp2_with fail
      refine (implEdgesFrom ea eb qs.length eca ecb qe qp pt _ hqe P12.rb).mono ?_
      clear f0 f1 f2
      have hmem : ∀ z ∈ posFrom pt 0 (fromsOf qe), ∃ j : Nat, z = (j : Int) ∧ ∃ h : j < qe.length, qe[j].f = pt := fun z hz => by
        obtain ⟨j, hj, hjl, hjf⟩ := posFrom_mem pt (fromsOf qe) 0 z hz
        have hjl' : j < qe.length := by rw [fromsOf_length] at hjl; exact hjl
        refine ⟨j, by rw [hj, Nat.zero_add], hjl', ?_⟩
        rw [← hjf, fromsOf_at qe j hjl' hjl]
      have hpl : (posFrom pt 0 (fromsOf qe)).length ≤ 1048576 := by have := posFrom_length pt (fromsOf qe) 0; rw [fromsOf_length] at this; omega
      generalize hps : posFrom pt 0 (fromsOf qe) = ps at *
      have HPS := Lib.hid hps
      have HMEM := Lib.hid hmem
      clear hps hmem
      rintro e z6 ⟨la, lc, rfl, hlc, hl6, hb6⟩
      rw [intVals_length] at *
      have hZ6 := hZ5.trans (hb6.mono hZ5.size)
      replace P12 := P12.keeps hb6
      have LI : Row z6 z6.heap.size la (intVals ps) := Row.owned hl6
      have hcode6 := HCD.out _ hZ6
      clear hb6 hl6 hZ5 hlc
      go_wp2_with fail
      refine (drawEqualProgram a n cap _ (by omega) hcode6).mono ?_
      rintro e z7 ⟨ga, gca, gb, gcb, gs, gp, ge, ka, kca, kb, kcb, ks, kp, ke, hG, hK, rfl, u1, u2, u3, u4, hb7⟩
      have hZ7 := hZ6.trans (hb7.mono hZ6.size)
      replace P12 := P12.keeps hb7
      replace LI : Row z7 z7.heap.size la (intVals ps) := (LI.below hb7).grow hb7.size
      go_wp2
      obtain ⟨z8, hz8, hb8, hs8, hA8, hB8⟩ := two_box z7 (.slice ga gs.length gca) (.int .i64 gp) (.slice gb ge.length gcb) (.slice ka ks.length kca) (.int .i64 kp) (.slice kb ke.length kcb) 27
      rw [hz8]
      clear hz8
      have hZ8 := hZ7.trans (hb8.mono hZ7.size)
      replace P12 := P12.keeps hb8
      replace LI : Row z8 z8.heap.size la (intVals ps) := (LI.below hb8).grow hb8.size
      have P15 : PB z8 z7.heap.size ga gca gb gcb gs gp ge := ⟨hA8, ((u1.row (Nat.le_refl _)).below hb8).grow hb8.size, ((u2.row (Nat.le_refl _)).below hb8).grow hb8.size, by omega⟩
      have P16 : PB z8 (z7.heap.size + 1) ka kca kb kcb ks kp ke := ⟨hB8, ((u3.row (Nat.le_refl _)).below hb8).grow hb8.size, ((u4.row (Nat.le_refl _)).below hb8).grow hb8.size, hs8⟩
      have hgl : gs.length ≤ maxLen ∧ ks.length ≤ maxLen ∧ ge.length ≤ maxLen ∧ ke.length ≤ maxLen := ⟨by have := hG.len; unfold maxLen; omega, by have := hK.len; unfold maxLen; omega, by have := hG.edges; unfold maxLen; omega, by have := hK.edges; unfold maxLen; omega⟩
      have key8 : ∀ W, Below z8.heap.size z8 W → (PB W z5.heap.size ea eca eb ecb qs qp qe ∧ PB W z7.heap.size ga gca gb gcb gs gp ge ∧ PB W (z7.heap.size + 1) ka kca kb kcb ks kp ke) ∧ Row W W.heap.size la (intVals ps) ∧ Below w.heap.size w W := fun W h => ⟨⟨P12.keeps h, P15.keeps h, P16.keeps h⟩, (LI.below h).grow h.size, hZ8.trans (h.mono hZ8.size)⟩
      have all8 : ∀ W, Below z8.heap.size z8 W → Box3 W z5.heap.size (.slice ea qs.length eca) (.int .i64 qp) (.slice eb qe.length ecb) ∧ Box3 W z7.heap.size (.slice ga gs.length gca) (.int .i64 gp) (.slice gb ge.length gcb) ∧ Box3 W (z7.heap.size + 1) (.slice ka ks.length kca) (.int .i64 kp) (.slice kb ke.length kcb) := fun W h => ⟨(key8 W h).1.1.box, (key8 W h).1.2.1.box, (key8 W h).1.2.2.box⟩
      have KEY8 := Lib.hid key8
      have ALL8 := Lib.hid all8
      have HGL := Lib.hid hgl
      clear key8 all8 hgl P12 P15 P16 LI hZ8 hZ7 hZ6 hb8 hs8 hA8 hB8 u1 u2 u3 u4 hb7 hcode6 hG hK
      generalize z5.heap.size = X12 at *
      generalize z7.heap.size = X15 at *
      generalize hsm : sameProg gs ks gp kp ge ke = sb
      have HSM := Lib.hid hsm
      clear hsm
      go_loopw [17] (fun i wr => ∃ k : Nat, k ≤ ps.length ∧ i = .int .i64 (k : Int) ∧ Below z8.heap.size z8 wr) (fun i _ => ps.length - (intOf i).toNat)
      case atStart => exact ⟨0, Nat.zero_le _, rfl, Below.refl _ _⟩
      case round =>
        obtain ⟨k, hk, rfl, hbr⟩ := hrel
        by_cases hlt : k < ps.length
        · obtain ⟨lb, lo, rfl, _, hcl⟩ := (KEY8.out _ hbr).2.1 k _ (intVals_at ps k hlt)
          obtain ⟨j, hzj, hj, hjf⟩ := HMEM.out ps[k] (List.getElem_mem hlt)
          rw [hzj] at hcl
          obtain ⟨xb, xo, rfl, _, hE⟩ := (KEY8.out _ hbr).1.1.rb.edge j hj
          have hef := hE.f
          rw [hjf] at hef
          have hp2 := (KEY8.out _ hbr).1.1.box.2.2
          have i0 : (0 : Int) ≤ (j : Int) := by omega
          have i1 : (j : Int) < (qe.length : Int) := by omega
          have i2 : (0 : Int) ≤ (k : Int) := by omega
          have i3 : (k : Int) < (ps.length : Int) := by omega
          clear hE hjf hzj
          go_wp2
          go_quiet (fail)
          go_wp2
          go_roundw
          case rel => first | exact ⟨k + 1, by omega, by go_num, hbr.drew⟩ | exact ⟨k + 1, by omega, by go_num, below_draws hbr _⟩
          case measure => simp [intOf]; omega
        · have hkn : k = ps.length := by omega
          subst hkn
          go_wp2
          have hD8 : Below z8.heap.size z8 wr.drew := hbr.drew
          go_region_held3 (fun w' => (w'.cell? ⟨X12, 0, none⟩ = some (.slice ea qs.length eca) ∧ w'.cell? ⟨X12, 1, none⟩ = some (.int .i64 qp) ∧ w'.cell? ⟨X12, 2, none⟩ = some (.slice eb qe.length ecb)) ∧ (w'.cell? ⟨X15, 0, none⟩ = some (.slice ga gs.length gca) ∧ w'.cell? ⟨X15, 1, none⟩ = some (.int .i64 gp) ∧ w'.cell? ⟨X15, 2, none⟩ = some (.slice gb ge.length gcb)) ∧ (w'.cell? ⟨X15 + 1, 0, none⟩ = some (.slice ka ks.length kca) ∧ w'.cell? ⟨X15 + 1, 1, none⟩ = some (.int .i64 kp) ∧ w'.cell? ⟨X15 + 1, 2, none⟩ = some (.slice kb ke.length kcb)))
            (first | with_reducible exact ALL8.out _ hD8 | with_reducible exact ALL8.out _ G1 | with_reducible exact ALL8.out _ G2 | with_reducible exact ALL8.out _ G3 | with_reducible exact ALL8.out _ G4)
            (first
              | (go_at_call 19; (with_reducible refine (specEdgesFrom ea eb qs.length eca ecb qe qp pt _ hqe (KEY8.out _ hD8).1.1.rb).mono ?_); rw [HPS.out]; rintro e x1 ⟨ma, mc, rfl, hmc, hm1, hx1⟩; rw [intVals_length] at hm1 ⊢; have G1 := hD8.trans (hx1.mono hD8.size))
              | (go_at_call 18; (with_reducible refine (sameInts la ma lc mc ps _ (by unfold maxLen; omega) (KEY8.out _ G1).2.1 (Row.owned hm1)).mono ?_); rintro e x2 ⟨d1, rfl, rfl⟩; have G2 := below_draws G1 d1)
              | (go_at_call 12; (with_reducible refine (implEqual ga gb ka kb gca gcb kca kcb gs ks gp kp ge ke _ HGL.out.1 HGL.out.2.1 HGL.out.2.2.1 HGL.out.2.2.2 (KEY8.out _ G2).1.2.1.ra (KEY8.out _ G2).1.2.1.rb (KEY8.out _ G2).1.2.2.ra (KEY8.out _ G2).1.2.2.rb).mono ?_); rw [HSM.out]; rintro e x3 ⟨rfl, hx3⟩; have G3 := G2.trans (hx3.mono G2.size))
              | (go_at_call 20; (with_reducible refine (specEqual ga gb ka kb gca gcb kca kcb gs ks gp kp ge ke _ HGL.out.1 HGL.out.2.1 HGL.out.2.2.1 HGL.out.2.2.2 (KEY8.out _ G3).1.2.1.ra (KEY8.out _ G3).1.2.1.rb (KEY8.out _ G3).1.2.2.ra (KEY8.out _ G3).1.2.2.rb).mono ?_); rw [HSM.out]; rintro e x4 ⟨rfl, hx4⟩; have G4 := G3.trans (hx4.mono G3.size)))
          go_wp2
          go_ret
          exact ⟨rfl, (KEY8.out _ G4).2.2⟩
  | false =>
    have HR := Lib.hid (KEY.out W5 (Below.refl _ _)).1.1.ra
    have HR2 := Lib.hid (KEY.out W5 (Below.refl _ _)).1.1.rb
    obtain ⟨t0, t1, t2⟩ := (KEY.out W5 (Below.refl _ _)).1.1.box
    obtain ⟨s0, s1, s2⟩ := (KEY.out W5 (Below.refl _ _)).1.2.box
    replace t0 := fun d os => cell_regrown t0 d os
    replace t1 := fun d os => cell_regrown t1 d os
    replace t2 := fun d os => cell_regrown t2 d os
    replace s0 := fun d os => cell_regrown s0 d os
    replace s1 := fun d os => cell_regrown s1 d os
    replace s2 := fun d os => cell_regrown s2 d os
    have HNT := Lib.hid (HTB.out.names.keeps (KEY.out W5 (Below.refl _ _)).2)
    have HC1 := Lib.hid (show ∀ d os, Calls Tryz.prog 9 #[.agg #[.slice pa ss.length pca, .int .i64 p, .slice pb es.length pcb]] (grow (redrawn W5 d) os) (GaveB (.string tx) (grow (redrawn W5 d) os)) from fun d os => HTX.out ▸ specProgText pa pb pca pcb ss p es _ ⟨hsl, HSZ.out, row_regrown HR.out _ _⟩ hpb ⟨hel, HS.out.ok, row_regrown HR2.out _ _⟩)
    have HC2 := Lib.hid (show ∀ d os, Calls Tryz.prog 10 #[.agg #[.slice pa ss.length pca, .int .i64 p, .slice pb es.length pcb]] (grow (redrawn W5 d) os) (GaveB (.bool false) (grow (redrawn W5 d) os)) from fun d os => HQ.out ▸ implIsProgram pa pb pca pcb ss p es _ ⟨hsl, HSZ.out, row_regrown HR.out _ _⟩ ⟨hel, row_regrown HR2.out _ _⟩ (HNT.out.keeps (below_regrown W5 d os)))
    have HC3 := Lib.hid (show ∀ d os, Calls Tryz.prog 11 #[.agg #[.slice pa ss.length pca, .int .i64 p, .slice pb es.length pcb]] (grow (redrawn W5 d) os) (GaveB (.bool false) (grow (redrawn W5 d) os)) from fun d os => HQ.out ▸ specIsProgram pa pb pca pcb ss p es _ ⟨hsl, HSZ.out, row_regrown HR.out _ _⟩ hpb ⟨hel, row_regrown HR2.out _ _⟩)
    refine wp_region_quiet_below (by kernel_rfl) (by kernel_rfl) ?_
    repeat (go_big_quiet_step (first | (go_at_call 9; with_reducible exact at_regrown (HC1.out _ _)) | (go_at_call 10; with_reducible exact at_regrown (HC2.out _ _)) | (go_at_call 11; with_reducible exact at_regrown (HC3.out _ _))))
    refine wpQuiet_nil ?_
    intro _ hw'
    obtain ⟨⟨dq, osq⟩, hw''⟩ := hw'
    subst hw''
    have H4 := below_regrown W5 dq osq
    generalize hv4 : grow (redrawn W5 dq) osq = v4 at *
    clear hv4 t0 t1 t2 s0 s1 s2 HC1 HC2 HC3 HNT HR HR2
    clear hD
    have hB6 := (KEY.out _ H4).2
    clear KEY ALL HX1 HX2 HGOT HTX HQ hsmall
    generalize v4 = z0 at *
    have hcode0 := HCD.out _ hB6
    go_wp2_with fail
    refine (drawParseProgram a n cap _ (by omega) hcode0).mono ?_
    rintro e z1 ⟨u, hu, rfl, hz1⟩
    have hZ1 := hB6.trans (hz1.mono hB6.size)
    obtain ⟨q2, ys, yp, ye, hP2, hg2⟩ := parsed u
    have HP2 := Lib.hid hP2
    have HG2 := Lib.hid hg2
    clear hP2 hg2 hz1 hB6 hcode0
    go_wp2_with fail
    refine (implParseProg u _ (by omega) (HTB.out.keeps hZ1)).mono fun e z2 h => ?_
    obtain ⟨a8, c8, b8, d8, M8, rfl, hc8, hd8, hM8, hM8', o8, _, p8, hb8⟩ := HG2.out _ _ _ h
    clear h
    have P8 : PB (z2.alloc (.cells #[.slice a8 ys.length c8, .int .i64 yp, .slice b8 ye.length d8] 27)) z2.heap.size a8 c8 b8 d8 ys yp ye := PB.new (Row.owned o8) (Row.ownedN p8)
    have hZ2 := (hZ1.trans (hb8.mono hZ1.size)).trans ((alloc_below z2 (.cells #[.slice a8 ys.length c8, .int .i64 yp, .slice b8 ye.length d8] 27)).mono (hZ1.trans (hb8.mono hZ1.size)).size)
    clear o8 p8 hb8 hM8 hM8' hd8 hZ1
    go_wp2_with fail
    refine (specParseProg u _ (by omega)).mono fun e z3 h => ?_
    obtain ⟨a9, c9, b9, d9, M9, rfl, hc9, hd9, hM9, hM9', o9, _, p9, hb9⟩ := HG2.out _ _ _ h
    clear h
    replace P8 := (P8.keeps hb9).keeps (alloc_below z3 (.cells #[.slice a9 ys.length c9, .int .i64 yp, .slice b9 ye.length d9] 27))
    have hZ3 := (hZ2.trans (hb9.mono hZ2.size)).trans ((alloc_below z3 (.cells #[.slice a9 ys.length c9, .int .i64 yp, .slice b9 ye.length d9] 27)).mono (hZ2.trans (hb9.mono hZ2.size)).size)
    clear o9 p9 hb9 hM9 hM9' hd9 hZ2 hc9
    have e8 := P8.box.1
    have e8' := P8.box.2.1
    have e8'' := P8.box.2.2
    cases q2 with
    | true =>
      have htu : progT ys yp ye = u := by
        rw [progT_yes HP2.out.is.symm]
        exact bytes_of_list (HP2.out.yes rfl).symm
      have HTU := Lib.hid htu
      have hyb : -9223372036854775808 ≤ yp ∧ yp ≤ 9223372036854775807 := by have := HP2.out.pts; omega
      have hyl : ys.length ≤ maxLen := by have := HP2.out.len; unfold maxLen; omega
      have hyel : ye.length ≤ maxLen := by have := HP2.out.edges; unfold maxLen; omega
      clear htu
      go_wp2_with fail
      refine (implProgText a8 b8 c8 d8 ys yp ye _ ⟨hyl, fun s hs => by have := HP2.out.size s hs; unfold maxLen; omega, P8.ra⟩ hc8 hyb ⟨hyel, HP2.out.ok, P8.rb⟩ (HTB.out.names.keeps hZ3) (HTB.out.pows.keeps hZ3)).mono ?_
      rw [HTU.out]
      rintro e z4 ⟨rfl, hb4⟩
      have hZ4 := hZ3.trans (hb4.mono hZ3.size)
      clear hb4 P8 e8 e8' e8'' hZ3 HTU HP2 HG2
      have hcodeE := HCD.out _ hZ4
      go_wp2_with fail
      refine (drawEdgesFrom a n cap _ (by omega) hcodeE).mono ?_
      rintro e z5 ⟨ea, eca, eb, ecb, qs, qp, qe, pt, hS5, hpt0, hpt5, rfl, re1, re2, hb5⟩
      have hZ5 := (hZ4.trans (hb5.mono hZ4.size)).trans ((alloc_below z5 (.cells #[.slice ea qs.length eca, .int .i64 qp, .slice eb qe.length ecb] 27)).mono (hZ4.trans (hb5.mono hZ4.size)).size)
      have P12 : PB (z5.alloc (.cells #[.slice ea qs.length eca, .int .i64 qp, .slice eb qe.length ecb] 27)) z5.heap.size ea eca eb ecb qs qp qe := PB.new (re1.row (Nat.le_refl _)) (re2.row (Nat.le_refl _))
      obtain ⟨f0, f1, f2⟩ := P12.box
      have hqe : qe.length ≤ 1048576 := by have := hS5.edges; omega
      have HS5 := Lib.hid hS5
      clear re1 re2 hb5 hS5 hcodeE hZ4
      go_wp2_with fail
      refine (implEdgesFrom ea eb qs.length eca ecb qe qp pt _ hqe P12.rb).mono ?_
      clear f0 f1 f2
      have hmem : ∀ z ∈ posFrom pt 0 (fromsOf qe), ∃ j : Nat, z = (j : Int) ∧ ∃ h : j < qe.length, qe[j].f = pt := fun z hz => by
        obtain ⟨j, hj, hjl, hjf⟩ := posFrom_mem pt (fromsOf qe) 0 z hz
        have hjl' : j < qe.length := by rw [fromsOf_length] at hjl; exact hjl
        refine ⟨j, by rw [hj, Nat.zero_add], hjl', ?_⟩
        rw [← hjf, fromsOf_at qe j hjl' hjl]
      have hpl : (posFrom pt 0 (fromsOf qe)).length ≤ 1048576 := by have := posFrom_length pt (fromsOf qe) 0; rw [fromsOf_length] at this; omega
      generalize hps : posFrom pt 0 (fromsOf qe) = ps at *
      have HPS := Lib.hid hps
      have HMEM := Lib.hid hmem
      clear hps hmem
      rintro e z6 ⟨la, lc, rfl, hlc, hl6, hb6⟩
      rw [intVals_length] at *
      have hZ6 := hZ5.trans (hb6.mono hZ5.size)
      replace P12 := P12.keeps hb6
      have LI : Row z6 z6.heap.size la (intVals ps) := Row.owned hl6
      have hcode6 := HCD.out _ hZ6
      clear hb6 hl6 hZ5 hlc
      go_wp2_with fail
      refine (drawEqualProgram a n cap _ (by omega) hcode6).mono ?_
      rintro e z7 ⟨ga, gca, gb, gcb, gs, gp, ge, ka, kca, kb, kcb, ks, kp, ke, hG, hK, rfl, u1, u2, u3, u4, hb7⟩
      have hZ7 := hZ6.trans (hb7.mono hZ6.size)
      replace P12 := P12.keeps hb7
      replace LI : Row z7 z7.heap.size la (intVals ps) := (LI.below hb7).grow hb7.size
      go_wp2
      obtain ⟨z8, hz8, hb8, hs8, hA8, hB8⟩ := two_box z7 (.slice ga gs.length gca) (.int .i64 gp) (.slice gb ge.length gcb) (.slice ka ks.length kca) (.int .i64 kp) (.slice kb ke.length kcb) 27
      rw [hz8]
      clear hz8
      have hZ8 := hZ7.trans (hb8.mono hZ7.size)
      replace P12 := P12.keeps hb8
      replace LI : Row z8 z8.heap.size la (intVals ps) := (LI.below hb8).grow hb8.size
      have P15 : PB z8 z7.heap.size ga gca gb gcb gs gp ge := ⟨hA8, ((u1.row (Nat.le_refl _)).below hb8).grow hb8.size, ((u2.row (Nat.le_refl _)).below hb8).grow hb8.size, by omega⟩
      have P16 : PB z8 (z7.heap.size + 1) ka kca kb kcb ks kp ke := ⟨hB8, ((u3.row (Nat.le_refl _)).below hb8).grow hb8.size, ((u4.row (Nat.le_refl _)).below hb8).grow hb8.size, hs8⟩
      have hgl : gs.length ≤ maxLen ∧ ks.length ≤ maxLen ∧ ge.length ≤ maxLen ∧ ke.length ≤ maxLen := ⟨by have := hG.len; unfold maxLen; omega, by have := hK.len; unfold maxLen; omega, by have := hG.edges; unfold maxLen; omega, by have := hK.edges; unfold maxLen; omega⟩
      have key8 : ∀ W, Below z8.heap.size z8 W → (PB W z5.heap.size ea eca eb ecb qs qp qe ∧ PB W z7.heap.size ga gca gb gcb gs gp ge ∧ PB W (z7.heap.size + 1) ka kca kb kcb ks kp ke) ∧ Row W W.heap.size la (intVals ps) ∧ Below w.heap.size w W := fun W h => ⟨⟨P12.keeps h, P15.keeps h, P16.keeps h⟩, (LI.below h).grow h.size, hZ8.trans (h.mono hZ8.size)⟩
      have all8 : ∀ W, Below z8.heap.size z8 W → Box3 W z5.heap.size (.slice ea qs.length eca) (.int .i64 qp) (.slice eb qe.length ecb) ∧ Box3 W z7.heap.size (.slice ga gs.length gca) (.int .i64 gp) (.slice gb ge.length gcb) ∧ Box3 W (z7.heap.size + 1) (.slice ka ks.length kca) (.int .i64 kp) (.slice kb ke.length kcb) := fun W h => ⟨(key8 W h).1.1.box, (key8 W h).1.2.1.box, (key8 W h).1.2.2.box⟩
      have KEY8 := Lib.hid key8
      have ALL8 := Lib.hid all8
      have HGL := Lib.hid hgl
      clear key8 all8 hgl P12 P15 P16 LI hZ8 hZ7 hZ6 hb8 hs8 hA8 hB8 u1 u2 u3 u4 hb7 hcode6 hG hK
      generalize z5.heap.size = X12 at *
      generalize z7.heap.size = X15 at *
      generalize hsm : sameProg gs ks gp kp ge ke = sb
      have HSM := Lib.hid hsm
      clear hsm
      go_loopw [17] (fun i wr => ∃ k : Nat, k ≤ ps.length ∧ i = .int .i64 (k : Int) ∧ Below z8.heap.size z8 wr) (fun i _ => ps.length - (intOf i).toNat)
      case atStart => exact ⟨0, Nat.zero_le _, rfl, Below.refl _ _⟩
      case round =>
        obtain ⟨k, hk, rfl, hbr⟩ := hrel
        by_cases hlt : k < ps.length
        · obtain ⟨lb, lo, rfl, _, hcl⟩ := (KEY8.out _ hbr).2.1 k _ (intVals_at ps k hlt)
          obtain ⟨j, hzj, hj, hjf⟩ := HMEM.out ps[k] (List.getElem_mem hlt)
          rw [hzj] at hcl
          obtain ⟨xb, xo, rfl, _, hE⟩ := (KEY8.out _ hbr).1.1.rb.edge j hj
          have hef := hE.f
          rw [hjf] at hef
          have hp2 := (KEY8.out _ hbr).1.1.box.2.2
          have i0 : (0 : Int) ≤ (j : Int) := by omega
          have i1 : (j : Int) < (qe.length : Int) := by omega
          have i2 : (0 : Int) ≤ (k : Int) := by omega
          have i3 : (k : Int) < (ps.length : Int) := by omega
          clear hE hjf hzj
          go_wp2
          go_quiet (fail)
          go_wp2
          go_roundw
          case rel => first | exact ⟨k + 1, by omega, by go_num, hbr.drew⟩ | exact ⟨k + 1, by omega, by go_num, below_draws hbr _⟩
          case measure => simp [intOf]; omega
        · have hkn : k = ps.length := by omega
          subst hkn
          go_wp2
          have hD8 : Below z8.heap.size z8 wr.drew := hbr.drew
          go_region_held3 (fun w' => (w'.cell? ⟨X12, 0, none⟩ = some (.slice ea qs.length eca) ∧ w'.cell? ⟨X12, 1, none⟩ = some (.int .i64 qp) ∧ w'.cell? ⟨X12, 2, none⟩ = some (.slice eb qe.length ecb)) ∧ (w'.cell? ⟨X15, 0, none⟩ = some (.slice ga gs.length gca) ∧ w'.cell? ⟨X15, 1, none⟩ = some (.int .i64 gp) ∧ w'.cell? ⟨X15, 2, none⟩ = some (.slice gb ge.length gcb)) ∧ (w'.cell? ⟨X15 + 1, 0, none⟩ = some (.slice ka ks.length kca) ∧ w'.cell? ⟨X15 + 1, 1, none⟩ = some (.int .i64 kp) ∧ w'.cell? ⟨X15 + 1, 2, none⟩ = some (.slice kb ke.length kcb)))
            (first | with_reducible exact ALL8.out _ hD8 | with_reducible exact ALL8.out _ G1 | with_reducible exact ALL8.out _ G2 | with_reducible exact ALL8.out _ G3 | with_reducible exact ALL8.out _ G4)
            (first
              | (go_at_call 19; (with_reducible refine (specEdgesFrom ea eb qs.length eca ecb qe qp pt _ hqe (KEY8.out _ hD8).1.1.rb).mono ?_); rw [HPS.out]; rintro e x1 ⟨ma, mc, rfl, hmc, hm1, hx1⟩; rw [intVals_length] at hm1 ⊢; have G1 := hD8.trans (hx1.mono hD8.size))
              | (go_at_call 18; (with_reducible refine (sameInts la ma lc mc ps _ (by unfold maxLen; omega) (KEY8.out _ G1).2.1 (Row.owned hm1)).mono ?_); rintro e x2 ⟨d1, rfl, rfl⟩; have G2 := below_draws G1 d1)
              | (go_at_call 12; (with_reducible refine (implEqual ga gb ka kb gca gcb kca kcb gs ks gp kp ge ke _ HGL.out.1 HGL.out.2.1 HGL.out.2.2.1 HGL.out.2.2.2 (KEY8.out _ G2).1.2.1.ra (KEY8.out _ G2).1.2.1.rb (KEY8.out _ G2).1.2.2.ra (KEY8.out _ G2).1.2.2.rb).mono ?_); rw [HSM.out]; rintro e x3 ⟨rfl, hx3⟩; have G3 := G2.trans (hx3.mono G2.size))
              | (go_at_call 20; (with_reducible refine (specEqual ga gb ka kb gca gcb kca kcb gs ks gp kp ge ke _ HGL.out.1 HGL.out.2.1 HGL.out.2.2.1 HGL.out.2.2.2 (KEY8.out _ G3).1.2.1.ra (KEY8.out _ G3).1.2.1.rb (KEY8.out _ G3).1.2.2.ra (KEY8.out _ G3).1.2.2.rb).mono ?_); rw [HSM.out]; rintro e x4 ⟨rfl, hx4⟩; have G4 := G3.trans (hx4.mono G3.size)))
          go_wp2
          go_ret
          exact ⟨rfl, (KEY8.out _ G4).2.2⟩
    | false =>
      have hZ4 := hZ3
      clear P8 e8 e8' e8'' hZ3 HP2 HG2
      have hcodeE := HCD.out _ hZ4
      go_wp2_with fail
      refine (drawEdgesFrom a n cap _ (by omega) hcodeE).mono ?_
      rintro e z5 ⟨ea, eca, eb, ecb, qs, qp, qe, pt, hS5, hpt0, hpt5, rfl, re1, re2, hb5⟩
      have hZ5 := (hZ4.trans (hb5.mono hZ4.size)).trans ((alloc_below z5 (.cells #[.slice ea qs.length eca, .int .i64 qp, .slice eb qe.length ecb] 27)).mono (hZ4.trans (hb5.mono hZ4.size)).size)
      have P12 : PB (z5.alloc (.cells #[.slice ea qs.length eca, .int .i64 qp, .slice eb qe.length ecb] 27)) z5.heap.size ea eca eb ecb qs qp qe := PB.new (re1.row (Nat.le_refl _)) (re2.row (Nat.le_refl _))
      obtain ⟨f0, f1, f2⟩ := P12.box
      have hqe : qe.length ≤ 1048576 := by have := hS5.edges; omega
      have HS5 := Lib.hid hS5
      clear re1 re2 hb5 hS5 hcodeE hZ4
      go_wp2_with fail
      refine (implEdgesFrom ea eb qs.length eca ecb qe qp pt _ hqe P12.rb).mono ?_
      clear f0 f1 f2
      have hmem : ∀ z ∈ posFrom pt 0 (fromsOf qe), ∃ j : Nat, z = (j : Int) ∧ ∃ h : j < qe.length, qe[j].f = pt := fun z hz => by
        obtain ⟨j, hj, hjl, hjf⟩ := posFrom_mem pt (fromsOf qe) 0 z hz
        have hjl' : j < qe.length := by rw [fromsOf_length] at hjl; exact hjl
        refine ⟨j, by rw [hj, Nat.zero_add], hjl', ?_⟩
        rw [← hjf, fromsOf_at qe j hjl' hjl]
      have hpl : (posFrom pt 0 (fromsOf qe)).length ≤ 1048576 := by have := posFrom_length pt (fromsOf qe) 0; rw [fromsOf_length] at this; omega
      generalize hps : posFrom pt 0 (fromsOf qe) = ps at *
      have HPS := Lib.hid hps
      have HMEM := Lib.hid hmem
      clear hps hmem
      rintro e z6 ⟨la, lc, rfl, hlc, hl6, hb6⟩
      rw [intVals_length] at *
      have hZ6 := hZ5.trans (hb6.mono hZ5.size)
      replace P12 := P12.keeps hb6
      have LI : Row z6 z6.heap.size la (intVals ps) := Row.owned hl6
      have hcode6 := HCD.out _ hZ6
      clear hb6 hl6 hZ5 hlc
      go_wp2_with fail
      refine (drawEqualProgram a n cap _ (by omega) hcode6).mono ?_
      rintro e z7 ⟨ga, gca, gb, gcb, gs, gp, ge, ka, kca, kb, kcb, ks, kp, ke, hG, hK, rfl, u1, u2, u3, u4, hb7⟩
      have hZ7 := hZ6.trans (hb7.mono hZ6.size)
      replace P12 := P12.keeps hb7
      replace LI : Row z7 z7.heap.size la (intVals ps) := (LI.below hb7).grow hb7.size
      go_wp2
      obtain ⟨z8, hz8, hb8, hs8, hA8, hB8⟩ := two_box z7 (.slice ga gs.length gca) (.int .i64 gp) (.slice gb ge.length gcb) (.slice ka ks.length kca) (.int .i64 kp) (.slice kb ke.length kcb) 27
      rw [hz8]
      clear hz8
      have hZ8 := hZ7.trans (hb8.mono hZ7.size)
      replace P12 := P12.keeps hb8
      replace LI : Row z8 z8.heap.size la (intVals ps) := (LI.below hb8).grow hb8.size
      have P15 : PB z8 z7.heap.size ga gca gb gcb gs gp ge := ⟨hA8, ((u1.row (Nat.le_refl _)).below hb8).grow hb8.size, ((u2.row (Nat.le_refl _)).below hb8).grow hb8.size, by omega⟩
      have P16 : PB z8 (z7.heap.size + 1) ka kca kb kcb ks kp ke := ⟨hB8, ((u3.row (Nat.le_refl _)).below hb8).grow hb8.size, ((u4.row (Nat.le_refl _)).below hb8).grow hb8.size, hs8⟩
      have hgl : gs.length ≤ maxLen ∧ ks.length ≤ maxLen ∧ ge.length ≤ maxLen ∧ ke.length ≤ maxLen := ⟨by have := hG.len; unfold maxLen; omega, by have := hK.len; unfold maxLen; omega, by have := hG.edges; unfold maxLen; omega, by have := hK.edges; unfold maxLen; omega⟩
      have key8 : ∀ W, Below z8.heap.size z8 W → (PB W z5.heap.size ea eca eb ecb qs qp qe ∧ PB W z7.heap.size ga gca gb gcb gs gp ge ∧ PB W (z7.heap.size + 1) ka kca kb kcb ks kp ke) ∧ Row W W.heap.size la (intVals ps) ∧ Below w.heap.size w W := fun W h => ⟨⟨P12.keeps h, P15.keeps h, P16.keeps h⟩, (LI.below h).grow h.size, hZ8.trans (h.mono hZ8.size)⟩
      have all8 : ∀ W, Below z8.heap.size z8 W → Box3 W z5.heap.size (.slice ea qs.length eca) (.int .i64 qp) (.slice eb qe.length ecb) ∧ Box3 W z7.heap.size (.slice ga gs.length gca) (.int .i64 gp) (.slice gb ge.length gcb) ∧ Box3 W (z7.heap.size + 1) (.slice ka ks.length kca) (.int .i64 kp) (.slice kb ke.length kcb) := fun W h => ⟨(key8 W h).1.1.box, (key8 W h).1.2.1.box, (key8 W h).1.2.2.box⟩
      have KEY8 := Lib.hid key8
      have ALL8 := Lib.hid all8
      have HGL := Lib.hid hgl
      clear key8 all8 hgl P12 P15 P16 LI hZ8 hZ7 hZ6 hb8 hs8 hA8 hB8 u1 u2 u3 u4 hb7 hcode6 hG hK
      generalize z5.heap.size = X12 at *
      generalize z7.heap.size = X15 at *
      generalize hsm : sameProg gs ks gp kp ge ke = sb
      have HSM := Lib.hid hsm
      clear hsm
      go_loopw [17] (fun i wr => ∃ k : Nat, k ≤ ps.length ∧ i = .int .i64 (k : Int) ∧ Below z8.heap.size z8 wr) (fun i _ => ps.length - (intOf i).toNat)
      case atStart => exact ⟨0, Nat.zero_le _, rfl, Below.refl _ _⟩
      case round =>
        obtain ⟨k, hk, rfl, hbr⟩ := hrel
        by_cases hlt : k < ps.length
        · obtain ⟨lb, lo, rfl, _, hcl⟩ := (KEY8.out _ hbr).2.1 k _ (intVals_at ps k hlt)
          obtain ⟨j, hzj, hj, hjf⟩ := HMEM.out ps[k] (List.getElem_mem hlt)
          rw [hzj] at hcl
          obtain ⟨xb, xo, rfl, _, hE⟩ := (KEY8.out _ hbr).1.1.rb.edge j hj
          have hef := hE.f
          rw [hjf] at hef
          have hp2 := (KEY8.out _ hbr).1.1.box.2.2
          have i0 : (0 : Int) ≤ (j : Int) := by omega
          have i1 : (j : Int) < (qe.length : Int) := by omega
          have i2 : (0 : Int) ≤ (k : Int) := by omega
          have i3 : (k : Int) < (ps.length : Int) := by omega
          clear hE hjf hzj
          go_wp2
          go_quiet (fail)
          go_wp2
          go_roundw
          case rel => first | exact ⟨k + 1, by omega, by go_num, hbr.drew⟩ | exact ⟨k + 1, by omega, by go_num, below_draws hbr _⟩
          case measure => simp [intOf]; omega
        · have hkn : k = ps.length := by omega
          subst hkn
          go_wp2
          have hD8 : Below z8.heap.size z8 wr.drew := hbr.drew
          go_region_held3 (fun w' => (w'.cell? ⟨X12, 0, none⟩ = some (.slice ea qs.length eca) ∧ w'.cell? ⟨X12, 1, none⟩ = some (.int .i64 qp) ∧ w'.cell? ⟨X12, 2, none⟩ = some (.slice eb qe.length ecb)) ∧ (w'.cell? ⟨X15, 0, none⟩ = some (.slice ga gs.length gca) ∧ w'.cell? ⟨X15, 1, none⟩ = some (.int .i64 gp) ∧ w'.cell? ⟨X15, 2, none⟩ = some (.slice gb ge.length gcb)) ∧ (w'.cell? ⟨X15 + 1, 0, none⟩ = some (.slice ka ks.length kca) ∧ w'.cell? ⟨X15 + 1, 1, none⟩ = some (.int .i64 kp) ∧ w'.cell? ⟨X15 + 1, 2, none⟩ = some (.slice kb ke.length kcb)))
            (first | with_reducible exact ALL8.out _ hD8 | with_reducible exact ALL8.out _ G1 | with_reducible exact ALL8.out _ G2 | with_reducible exact ALL8.out _ G3 | with_reducible exact ALL8.out _ G4)
            (first
              | (go_at_call 19; (with_reducible refine (specEdgesFrom ea eb qs.length eca ecb qe qp pt _ hqe (KEY8.out _ hD8).1.1.rb).mono ?_); rw [HPS.out]; rintro e x1 ⟨ma, mc, rfl, hmc, hm1, hx1⟩; rw [intVals_length] at hm1 ⊢; have G1 := hD8.trans (hx1.mono hD8.size))
              | (go_at_call 18; (with_reducible refine (sameInts la ma lc mc ps _ (by unfold maxLen; omega) (KEY8.out _ G1).2.1 (Row.owned hm1)).mono ?_); rintro e x2 ⟨d1, rfl, rfl⟩; have G2 := below_draws G1 d1)
              | (go_at_call 12; (with_reducible refine (implEqual ga gb ka kb gca gcb kca kcb gs ks gp kp ge ke _ HGL.out.1 HGL.out.2.1 HGL.out.2.2.1 HGL.out.2.2.2 (KEY8.out _ G2).1.2.1.ra (KEY8.out _ G2).1.2.1.rb (KEY8.out _ G2).1.2.2.ra (KEY8.out _ G2).1.2.2.rb).mono ?_); rw [HSM.out]; rintro e x3 ⟨rfl, hx3⟩; have G3 := G2.trans (hx3.mono G2.size))
              | (go_at_call 20; (with_reducible refine (specEqual ga gb ka kb gca gcb kca kcb gs ks gp kp ge ke _ HGL.out.1 HGL.out.2.1 HGL.out.2.2.1 HGL.out.2.2.2 (KEY8.out _ G3).1.2.1.ra (KEY8.out _ G3).1.2.1.rb (KEY8.out _ G3).1.2.2.ra (KEY8.out _ G3).1.2.2.rb).mono ?_); rw [HSM.out]; rintro e x4 ⟨rfl, hx4⟩; have G4 := G3.trans (hx4.mono G3.size)))
          go_wp2
          go_ret
          exact ⟨rfl, (KEY8.out _ G4).2.2⟩

theorem own : ownKnob Tryz.prog.godebug = none := by kernel_rfl
theorem laidOut : laidOutB Tryz.prog = true := by kernel_rfl
theorem cellsByte : Tryz.prog.cellsOf 5 = 1 := by kernel_rfl
set_option maxRecDepth 100000 in
theorem contract (H : Type) (enc : TypeId × Value → H) (W : World) (base : Nat) (args : Array Value) (ds gs : List (DataW H)) (before : List MemPlace)
    (hval : ∀ (j : Nat) t v, Tryz.f3.params[j]? = some t → args[j]? = some v → Value.okWide Tryz.prog W .any base t v)
    (hW : DataW.Whole enc Tryz.prog Tryz.f3.params.toList Rows.fnProgramsSpec.vars false W args.toList ds gs before)
    (hL : laidMetH Tryz.prog Rows.fnProgramsRow.laid W) (hSh : W.ShapedOpen Tryz.prog) :
    Calls Tryz.prog 3 args W fun e W' => ∃ v, e = .returned v ∧ Rows.fnProgramsSpec.post enc Tryz.prog Tryz.f3 false true false false W args v W' := by
  have hW' := hW
  have hlt : ∀ x ∈ before, x.block < W.heap.size := fun x hx => hW'.lt x hx
  have hpows : Pows W := pows_of hL
  have hsents : Sents W := sents_of4 hL
  have hswitch : Switch W := switch_of hSh
  have hnamesTable : HasNamesTable W := namesTable_of 6 hL rfl
  have hstmtSigns : HasSigns W := stmtSigns_of 7 hL rfl
  obtain ⟨p, q, hA0, hV, rfl, _, _⟩ := hW
  have hA : DataW.TrodAll enc Tryz.prog W 0 (fun _ => true) true Tryz.f3.params.toList args.toList ds p := hA0
  rw [Tryz.params3] at hA hval
  obtain ⟨v0, d0, rfl, rfl, t0⟩ := trodAll_one hA
  obtain ⟨g1, gs1, q1, rfl, hV1⟩ := gs_cons hV
  obtain ⟨g2, gs2, q2, rfl, hV2⟩ := gs_cons hV1
  obtain ⟨rfl, _⟩ := trodVars_none hV2
  obtain ⟨a0, n0, cap0, rfl, _, hn0, hcode0⟩ := open_codes Tryz.underlying22 Tryz.underlying5 cellsByte (fun x hx => hlt x (by simp [hx])) (base := base) (hval 0 22 v0 rfl rfl) t0
  refine (walk a0 n0 cap0 W hn0 hcode0 ⟨hswitch, hstmtSigns, hnamesTable, hpows, hsents⟩).mono fun e W' ⟨he, hb⟩ => ?_
  subst he
  exact ⟨_, rfl, law_post_vars laidOut (by kernel_rfl) (by kernel_rfl) (by kernel_rfl) Tryz.underlying4 hW' rfl hb⟩

/-- A world for the witness. -/
noncomputable def start (os : Os) : World :=
  { World.doorLaid Tryz.prog 4000 os with heap := (World.doorLaid Tryz.prog 4000 os).heap.modify 6 fun
      | .cells _ t frozen => .cells (Go.Pinned.utf8FirstZ.map fun (n : Nat) => Value.int .u8 (n : Int)).toArray t frozen
      | o => o }
theorem laid_met (os : Os) : laidMet Tryz.prog Rows.fnProgramsRow.laid ((start os).forCall (fun _ _ => 0) ⟨#[], #[.slice none 0 0], []⟩).memory :=
  laidMet_of_run' 8 (by kernel_rfl) (by kernel_rfl)
theorem reads (os : Os) {H : Type} (enc : TypeId × Value → H) : ∃ places, DataW.whole enc Tryz.prog ((start os).forCall (fun _ _ => 0) ⟨#[], #[.slice none 0 0], []⟩).memory Tryz.f3.params.toList Rows.fnProgramsSpec.vars false #[Value.slice none 0 0].toList 8 = some ([.nil], [Rows.laid_loop_example_g00590_impl_namesTable, Rows.laid_loop_example_g00590_impl_stmtSigns], places) :=
  ⟨[.cell 0 0, .cell 0 1, .cell 0 2, .cell 0 3, .cell 0 4, .cell 0 5, .cell 0 6, .cell 0 7, .cell 0 8, .cell 0 9, .cell 0 10, .cell 0 11, .cell 0 12, .cell 2 0, .cell 2 1, .cell 2 2], by kernel_rfl⟩

set_option maxRecDepth 100000 in
theorem lifted (os : Os) (started : os.Started) (H : Type) (enc : TypeId × Value → H) (F : Stop.Interp) :
    ReturnsInHanded {} Tryz.checked os 3 .any ((OpenSpec.ofChange Rows.fnProgramsSpec).preRow enc Tryz.prog Tryz.f3 Rows.fnProgramsRow.domain false Rows.fnProgramsRow.laid) (((OpenSpec.ofChange Rows.fnProgramsSpec).at F).post enc Tryz.prog Tryz.f3 false true false false) := by
  obtain ⟨places, hx⟩ := reads os enc
  refine returnsInHanded_of_row (C := Tryz.checked) (s := OpenSpec.ofChange Rows.fnProgramsSpec) own started (by kernel_rfl) Tryz.func3
    (witness_row_atRef (enc := enc) (C := Tryz.checked) false (start os) #[.slice none 0 0] rfl (by kernel_rfl) (by kernel_rfl) (by kernel_rfl)
      (OpenSpec.preRow_of_cond 8 hx (by kernel_rfl) (fun k hk => by cases hk) (by kernel_rfl) (laid_met os))) ?_
  intro W base args ds gs before hval hW _ _ _ hL hSh _
  exact contract H enc W base args ds gs before hval hW hL hSh

theorem said : Rows.FnProgramsSaid :=
  OpenClaim.holds_of_cond 3 Tryz.f3 rfl rfl rfl rfl rfl rfl rfl ⟨rfl, rfl, rfl, rfl, rfl⟩ rfl rfl rfl rfl rfl (by kernel_rfl) Tryz.func3 (by kernel_rfl)
    (of_decide_eq_true (by kernel_rfl)) (by unfold Func.isWrapper; first | (rw [if_pos (by decide +kernel)]; kernel_rfl) | (rw [if_neg (by decide +kernel)]; exact ⟨rfl, rfl⟩))
    (fun os started H enc _ F => by rw [OpenClaim.pre_eq_preRow]; exact lifted os started H enc F)

theorem plain (f : FuncId) (fn : Func) (hf : Tryz.pinned.checked.prog.funcNamed "loop.example/g00590/laws.FnPrograms" = some f) (hfn : Tryz.pinned.checked.prog.funcs[f]? = some fn) :
    Rows.fnProgramsCard.stood.looks = Tryz.pinned.checked.prog.looks [] ∧ ∀ (j : Nat) t, fn.params[j]? = some t → Tryz.pinned.checked.prog.wantsStandIn t = false := by
  obtain rfl : f = 3 := Option.some.inj ((show Tryz.prog.funcNamed "loop.example/g00590/laws.FnPrograms" = some 3 by kernel_rfl).symm.trans hf) |>.symm
  obtain rfl : fn = Tryz.f3 := (Option.some.inj (Tryz.func3.symm.trans hfn)).symm
  refine ⟨by kernel_rfl, fun j t ht => ?_⟩
  rw [Tryz.params3] at ht
  have hm : t ∈ [22] := by simpa using Array.mem_of_getElem? ht
  have hall : ([22].all fun u => !Tryz.prog.wantsStandIn u) = true := by kernel_rfl
  exact (show Tryz.prog.wantsStandIn t = false by simpa using List.all_eq_true.1 hall t hm)

/-- The card. -/
theorem card : Rows.FnProgramsCardSaid :=
  Claim7.holds_tied_plain_at .later [] _ _ _ _ said (fun _ h => by cases h) (by kernel_rfl) (fun _ h => by cases h) fnPrograms_row_tie rfl ⟨rfl, rfl⟩ (by kernel_rfl) rfl plain (by kernel_rfl)
#print axioms card
end Go.Proofs.YtabedmjaodinbaaGreatDoor.programs
