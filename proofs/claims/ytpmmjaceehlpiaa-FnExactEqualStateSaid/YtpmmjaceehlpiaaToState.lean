/-
  The law's own copy of a state.
-/
import Derived.Test.YtpmmjaceehlpiaaStateRows
import Derived.Test.YtpmmjaceehlpiaaBoxes
namespace Go.Proofs.Ytpmmjaceehlpiaa
open Go Go.RowKit Go.ChangeShapes Go.WideShapes Go.ChangeAt

def CopyState (p : Int) (vs zs : List Int) (w : World) (e : Ending) (w' : World) : Prop :=
  ∃ a b, e = .returned (spC p a vs.length vs.length b zs.length zs.length) ∧ HeapIn w.heap.size w'.heap.size w' a vs.length b zs.length (intVals vs) (intVals zs) ∧ Below w.heap.size w w'
theorem box3s (w : World) (xs ys us : List Value) (t t' t'' : TypeId) : ∃ W0, ((w.alloc (.cells xs.toArray t)).alloc (.cells ys.toArray t')).alloc (.cells us.toArray t'') = W0 ∧ Below w.heap.size w W0 ∧ BoxL W0 w.heap.size xs ∧ BoxL W0 (w.heap.size + 1) ys ∧ BoxL W0 (w.heap.size + 2) us := by
  obtain ⟨W1, h1, hb1, b1, b2⟩ := two_boxL w xs ys t t'
  have hs1 : W1.heap.size = w.heap.size + 2 := by rw [← h1]; simp
  rw [h1]
  have b3 := BoxL.new W1 us t''
  have ha := (Below.refl W1.heap.size W1).alloc (Nat.le_refl _) (.cells us.toArray t'')
  rw [hs1] at b3
  exact ⟨_, rfl, hb1.trans (ha.mono (by omega)), b1.below ha, b2.below ha, b3⟩
set_option maxHeartbeats 800000 in
theorem toState (p : Int) (a b : Option Addr) (ca cb : Nat) (vs zs : List Int) (w : World) (hn : vs.length ≤ 1099511627776) (hm : zs.length ≤ 1099511627776) (h : HeapAt w a b vs zs) :
    Calls Try.prog 12 #[spC p a vs.length ca b zs.length cb] w (CopyState p vs zs w) := by
  go_enter Try.func12, Try.ntmps12
  go_wp2_with fail
  obtain ⟨W0, hW0, hb0, bx0, br0, bo0⟩ := box3s w [.int .i64 p, .slice a vs.length ca, .slice b zs.length cb] [.int .i64 0, .slice none 0 0, .slice none 0 0] [.int .i64 p, .slice none 0 0, .slice none 0 0] 31 36 36
  simp only [List.toArray] at hW0
  rw [hW0]
  clear hW0
  refine (toHeap a b ca cb vs zs _ hn hm (h.below hb0 (Nat.le_refl _))).mono ?_
  rintro e w1 ⟨a1, b1, rfl, hin1, hb1⟩
  have br1 := br0.below hb1
  have bo1 := bo0.below hb1
  have r0 := br1.c 0 _ rfl
  have r1 := br1.c 1 _ rfl
  have r2 := br1.c 2 _ rfl
  have rf := br1.f
  have o0 := bo1.c 0 _ rfl
  have o1 := bo1.c 1 _ rfl
  have o2 := bo1.c 2 _ rfl
  have of := bo1.f
  have hl := bo1.lt
  have hB1 := hb0.trans (hb1.mono hb0.size)
  have HIN := Lib.hid hin1
  have HB1 := Lib.hid hB1
  have BR1 := Lib.hid br1
  have hz0 := bo0.lt
  clear hin1 hb1 hB1 br1 bo1 bx0 br0 bo0 hb0
  go_wp2
  have o1 : ∀ (W : World) (i : Nat) (u : Value), Only (fun k => k = w.heap.size + 1 ∨ k = w.heap.size + 2) W (W.setCell ⟨w.heap.size + 1, i, none⟩ u) := fun W i u => Only.set (.inl rfl)
  have o2 : ∀ (W : World) (i : Nat) (u : Value), Only (fun k => k = w.heap.size + 1 ∨ k = w.heap.size + 2) W (W.setCell ⟨w.heap.size + 2, i, none⟩ u) := fun W i u => Only.set (.inr rfl)
  have hT : Only (fun k => k = w.heap.size + 1 ∨ k = w.heap.size + 2) w1 (((((w1.setCell ⟨w.heap.size + 2, 1, none⟩ (.slice a1 vs.length vs.length)).setCell ⟨w.heap.size + 2, 2, none⟩ (.slice b1 zs.length zs.length)).setCell ⟨w.heap.size + 1, 0, none⟩ (.int .i64 p)).setCell ⟨w.heap.size + 1, 1, none⟩ (.slice a1 vs.length vs.length)).setCell ⟨w.heap.size + 1, 2, none⟩ (.slice b1 zs.length zs.length)) :=
    ((((o2 _ _ _).trans (o2 _ _ _)).trans (o1 _ _ _)).trans (o1 _ _ _)).trans (o1 _ _ _)
  have tR : ∀ (W : World) (i : Nat) (u : Value), Turn (w.heap.size + 2) (w.heap.size + 3) W (W.setCell ⟨w.heap.size + 2, i, none⟩ u) := fun W i u => turn_set W (w.heap.size + 2) i u
  have bV := ((((BR1.out.turn (tR _ 1 (.slice a1 vs.length vs.length)) (.inl (by omega))).turn (tR _ 2 (.slice b1 zs.length zs.length)) (.inl (by omega))).set 0 (.int .i64 p)).set 1 (.slice a1 vs.length vs.length)).set 2 (.slice b1 zs.length zs.length)
  obtain ⟨V, hV⟩ : ∃ V, (((((w1.setCell ⟨w.heap.size + 2, 1, none⟩ (.slice a1 vs.length vs.length)).setCell ⟨w.heap.size + 2, 2, none⟩ (.slice b1 zs.length zs.length)).setCell ⟨w.heap.size + 1, 0, none⟩ (.int .i64 p)).setCell ⟨w.heap.size + 1, 1, none⟩ (.slice a1 vs.length vs.length)).setCell ⟨w.heap.size + 1, 2, none⟩ (.slice b1 zs.length zs.length)) = V := ⟨_, rfl⟩
  rw [hV] at hT bV
  have hW : w.heap.size + 1 + 1 = w.heap.size + 2 := rfl
  rw [hW, hV]
  clear hV
  have s0 := bV.c 0 _ rfl
  have s1 := bV.c 1 _ rfl
  have s2 := bV.c 2 _ rfl
  have hN : Hp.In W0.heap.size w1.heap.size w1 ⟨a1, vs.length, b1, zs.length, vs, zs⟩ := HIN.out
  have hNV := hN.same hT.size (fun k hk => hT.block k (hN.has_lt hk).2 (by have := (hN.has_lt hk).1; omega))
  exact bodyPost_ret (v := spC p a1 vs.length vs.length b1 zs.length zs.length) (by simp [results, Try.results12, go_sem, s0, s1, s2]) rfl ⟨a1, b1, rfl, hNV.mono (lo' := w.heap.size) (by omega) hT.size (Nat.le_refl _), hT.below HB1.out HB1.out.size (fun k hk => by omega)⟩
end Go.Proofs.Ytpmmjaceehlpiaa
