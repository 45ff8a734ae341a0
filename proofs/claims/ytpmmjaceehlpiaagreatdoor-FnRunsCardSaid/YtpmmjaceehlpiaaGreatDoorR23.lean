/-
  The program performs an edge from a state.
-/
import Derived.Test.YtpmmjaceehlpiaaGreatDoorR15
import Derived.Test.YtpmmjaceehlpiaaGreatDoorR18
namespace Go.Proofs.YtpmmjaceehlpiaaGreatDoor
open Go Go.RowKit Go.ChangeShapes Go.WideShapes Go.ChangeAt

theorem four_boxL (w : World) (xs ys us vs : List Value) (t t' t'' t3 : TypeId) : ∃ W0, (((w.alloc (.cells xs.toArray t)).alloc (.cells ys.toArray t')).alloc (.cells us.toArray t'')).alloc (.cells vs.toArray t3) = W0 ∧ Below w.heap.size w W0 ∧ BoxL W0 w.heap.size xs ∧ BoxL W0 (w.heap.size + 1) ys ∧ BoxL W0 (w.heap.size + 2) us ∧ BoxL W0 (w.heap.size + 3) vs := by
  obtain ⟨W1, h1, hb1, b1, b2, b3⟩ := three_boxL w xs ys us t t' t''
  have h4 := BoxL.new W1 vs t3
  have hs : W1.heap.size = w.heap.size + 3 := by rw [← h1]; simp
  have hb := (Below.refl W1.heap.size W1).alloc (Nat.le_refl _) (.cells vs.toArray t3)
  rw [hs] at h4
  exact ⟨_, rfl, by rw [h1]; exact hb1.trans (hb.mono hb1.size), by rw [h1]; exact b1.below hb, by rw [h1]; exact b2.below hb, by rw [h1]; exact b3.below hb, by rw [h1]; exact h4⟩
/-- What comes of it: r is what Exec comes to, t where the edge leads. -/
def PerfEnd (r : Act3) (t : Int) (w : World) (e : Ending) (w' : World) : Prop :=
  ∃ t' a ca b cb, (r.1 = 0 → t' = t) ∧ e = .returned (.tuple #[spC t' a r.2.1.length ca b r.2.2.length cb, .int .i64 r.1]) ∧ HeapIn w.heap.size w'.heap.size w' a ca b cb (intVals r.2.1) (intVals r.2.2) ∧ Below w.heap.size w w'
theorem turn3 (W : World) (Q : Nat) (x y z : Value) : Turn Q (Q + 1) W (((W.setCell ⟨Q, 0, none⟩ x).setCell ⟨Q, 1, none⟩ y).setCell ⟨Q, 2, none⟩ z) := ((turn_set _ _ _ _).trans (turn_set _ _ _ _)).trans (turn_set _ _ _ _)
theorem exec_zero {ss : List ByteArray} {k : Int} {a b : ByteArray} {vs zs : List Int} (h : (execS ss k a b vs zs).1 ≠ 0) : (execS ss k a b vs zs).2 = ([], []) := by
  unfold execS at h ⊢
  repeat' split
  all_goals first
    | rfl
    | (exfalso; apply h; simp_all; done)
    | skip
  all_goals simp_all
set_option maxRecDepth 100000 in
set_option maxHeartbeats 3200000 in
theorem implPerform (va : Option Addr) (vc : Nat) (ss : List ByteArray) (n : Int) (ba : Option Addr) (bc m : Nat) (p : Int) (a b : Option Addr) (ca cb : Nat) (vs zs : List Int) (x : Ed) (w : World) (hlen : ss.length ≤ maxLen) (hws : ∀ s ∈ ss, s.size ≤ maxLen) (hrow : Row w w.heap.size va (strVals ss))
    (hv : vs.length ≤ maxLen) (hz : zs.length ≤ maxLen) (h : HeapAt w a b vs zs) (hT : HasNamesTable w) :
    Calls Tryz.prog 55 #[.agg #[.slice va ss.length vc, .int .i64 n, .slice ba m bc], spC p a vs.length ca b zs.length cb, edV x.f x.t x.k x.a x.b] w (PerfEnd (execS ss x.k x.a x.b vs zs) x.t w) := by
  obtain ⟨c9, us, ys, hr⟩ : ∃ c us ys, execS ss x.k x.a x.b vs zs = (c, us, ys) := ⟨_, _, _, rfl⟩
  have hbad : c9 ≠ 0 → us = [] ∧ ys = [] := fun h => by
    have h1 := exec_zero (ss := ss) (k := x.k) (a := x.a) (b := x.b) (vs := vs) (zs := zs) (by rw [hr]; exact h)
    rw [hr] at h1
    exact ⟨congrArg Prod.fst h1, congrArg Prod.snd h1⟩
  rw [hr]
  have HR := Lib.hid hr
  have HBAD := Lib.hid hbad
  clear hr hbad
  go_enter Tryz.func55, Tryz.ntmps55
  go_wp2_with fail
  obtain ⟨W0, hW0, hb0, b1, b2, b3, b4⟩ := four_boxL w [.slice va ss.length vc, .int .i64 n, .slice ba m bc] [.int .i64 p, .slice a vs.length ca, .slice b zs.length cb] [.int .i64 x.f, .int .i64 x.t, .int .i64 x.k, .string x.a, .string x.b] [.int .i64 0, .slice none 0 0, .slice none 0 0] 27 34 85 34
  simp only [List.toArray] at hW0
  rw [hW0]
  clear hW0
  refine (implExec va vc ss x.k x.a x.b a b ca cb vs zs _ hlen hws ((hrow.below hb0).grow hb0.size) hv hz (h.below hb0 (Nat.le_refl _)) (hT.keeps hb0)).mono ?_
  rw [HR.out]
  rintro e w1 ⟨xa, xca, xb, xcb, rfl, hin1, hb1⟩
  have B3 := b3.below hb1
  have B4 := b4.below hb1
  have e1 := B3.c 1 _ rfl
  have r0 := B4.c 0 _ rfl
  have r1 := B4.c 1 _ rfl
  have r2 := B4.c 2 _ rfl
  have rf := B4.f
  have l3 := B3.lt
  have l4 := B4.lt
  have hB1 := hb0.trans (hb1.mono hb0.size)
  have HIN := Lib.hid hin1
  have HB1 := Lib.hid hB1
  have hz0 := hb0.size
  have hz1 := hb1.size
  have l40 := b4.lt
  clear hin1 hB1 hb1 b1 b2 b3 b4 B3 B4
  by_cases hc : c9 = 0
  · subst hc
    go_wp2
    refine bodyPost_ret (v := .tuple #[spC x.t xa us.length xca xb ys.length xcb, .int .i64 0]) (by simp [results, Tryz.results55, go_sem, r0, r1, r2, l4]) rfl ?_
    have tq := turn3 w1 (w.heap.size + 1 + 1 + 1) (.int .i64 x.t) (.slice xa us.length xca) (.slice xb ys.length xcb)
    generalize (((w1.setCell ⟨w.heap.size + 1 + 1 + 1, 0, none⟩ (.int .i64 x.t)).setCell ⟨w.heap.size + 1 + 1 + 1, 1, none⟩ (.slice xa us.length xca)).setCell ⟨w.heap.size + 1 + 1 + 1, 2, none⟩ (.slice xb ys.length xcb)) = W2 at *
    have ha := (Below.refl W2.heap.size W2).alloc (Nat.le_refl _) (.cells #[.slice xa us.length xca, .slice xb ys.length xcb] 30)
    have hin := ((HIN.out.turn tq (.inr (by omega))).below ha).mono (lo' := w.heap.size) hz0 (Nat.le_trans tq.size ha.size) (Nat.le_refl _)
    have hbl := tq.below HB1.out (by omega) HB1.out.size
    exact ⟨x.t, xa, xca, xb, xcb, fun _ => rfl, rfl, hin, hbl.trans (ha.mono hbl.size)⟩
  · obtain ⟨rfl, rfl⟩ := HBAD.out hc
    have hcb : (c9 == 0) = false := by simpa using hc
    go_wp2
    have tq := turn3 w1 (w.heap.size + 1 + 1 + 1) (.int .i64 0) (.slice none 0 0) (.slice none 0 0)
    have hbl := tq.below HB1.out (by omega) HB1.out.size
    refine bodyPost_ret (v := .tuple #[spC 0 none 0 0 none 0 0, .int .i64 c9]) (by simp [results, Tryz.results55, go_sem, r0, r1, r2, l4]) rfl ⟨0, none, 0, none, 0, fun h => absurd h hc, rfl, heapIn_nil (Nat.le_refl _), hbl.trans (Below.mono ((Below.refl _ _).alloc (Nat.le_refl _) _) hbl.size)⟩
end Go.Proofs.YtpmmjaceehlpiaaGreatDoor
