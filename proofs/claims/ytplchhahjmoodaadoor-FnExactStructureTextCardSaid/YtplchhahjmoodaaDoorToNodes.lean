/-
  The law's own copy of a structure.
-/
import Derived.Test.YtplchhahjmoodaaDoorNodes
import Derived.Test.YtplchhahjmoodaaDoorToInts
namespace Go.Proofs.YtplchhahjmoodaaDoor
open Go Go.RowKit Go.ChangeShapes Go.WideShapes Go.ChangeAt

theorem box3n (w : World) (xs ys us : List Value) (t t' t'' : TypeId) : ∃ W0, ((w.alloc (.cells xs.toArray t)).alloc (.cells ys.toArray t')).alloc (.cells us.toArray t'') = W0 ∧ Below w.heap.size w W0 ∧ BoxL W0 w.heap.size xs ∧ BoxL W0 (w.heap.size + 1) ys ∧ BoxL W0 (w.heap.size + 2) us := by
  obtain ⟨W1, h1, hb1, b1, b2⟩ := two_boxL w xs ys t t'
  have hs1 : W1.heap.size = w.heap.size + 2 := by rw [← h1]; simp
  rw [h1]
  have b3 := BoxL.new W1 us t''
  have ha := (Below.refl W1.heap.size W1).alloc (Nat.le_refl _) (.cells us.toArray t'')
  rw [hs1] at b3
  exact ⟨_, rfl, hb1.trans (ha.mono (by omega)), b1.below ha, b2.below ha, b3⟩
def CopyNode (vs zs : List Int) (s q : Int) (w : World) (e : Ending) (w' : World) : Prop :=
  ∃ a b, e = .returned (ndC a vs.length vs.length b zs.length zs.length s q) ∧ HeapIn w.heap.size w'.heap.size w' a vs.length b zs.length (intVals vs) (intVals zs) ∧ Below w.heap.size w w'
set_option maxHeartbeats 1600000 in
theorem toNode (a b : Option Addr) (ca cb : Nat) (vs zs : List Int) (s q : Int) (w : World) (hn : vs.length ≤ 1099511627776) (hm : zs.length ≤ 1099511627776) (h : HeapAt w a b vs zs) :
    Calls Tryd.prog 65 #[ndC a vs.length ca b zs.length cb s q] w (CopyNode vs zs s q w) := by
  have key : ∀ W, Below w.heap.size w W → HeapAt W a b vs zs := fun W hb => h.below hb (Nat.le_refl _)
  go_enter Tryd.func65, Tryd.ntmps65
  go_wp2_with fail
  obtain ⟨W0, hW0, hb0, bx0, br0, bo0⟩ := box3n w [.slice a vs.length ca, .slice b zs.length cb, .int .i64 s, .int .i64 q] [.slice none 0 0, .slice none 0 0, .int .i64 0, .int .i64 0] [.slice none 0 0, .slice none 0 0, .int .i64 0, .int .i64 0] 85 66 66
  simp only [List.toArray] at hW0
  rw [hW0]
  clear hW0
  refine (toInts a ca vs _ hn (key _ hb0).v).mono ?_
  rintro e w1 ⟨rfl, ho1, hb1⟩
  have bx1 := bx0.below hb1
  have br1 := br0.below hb1
  have bo1 := bo0.below hb1
  have hB1 := hb0.trans (hb1.mono hb0.size)
  have x1 := bx1.c 1 _ rfl
  have of1 := bo1.f
  have o10 := bo1.c 0 _ rfl
  have hlo : w.heap.size + 2 < W0.heap.size := bo0.lt
  have Ho1 := Lib.hid (OwnIn.of ho1)
  have BX1 := Lib.hid bx1
  have BR1 := Lib.hid br1
  have BO1 := Lib.hid bo1
  have HB1 := Lib.hid hB1
  clear ho1 bx1 br1 bo1 hB1 bx0 br0 bo0
  go_wp2_with fail
  have hset : Below w.heap.size w1 (w1.setCell ⟨w.heap.size + 2, 0, none⟩ (.slice (some ⟨W0.heap.size, 0, none⟩) vs.length vs.length)) := (Below.refl _ _).setCell (by simp) _
  refine (toInts b cb zs _ hm (key _ (HB1.out.trans hset)).z).mono ?_
  rintro e w2 ⟨rfl, ho2, hb2⟩
  have t1 := turn_set w1 (w.heap.size + 2) 0 (.slice (some ⟨W0.heap.size, 0, none⟩) vs.length vs.length)
  have bx2 := (BX1.out.turn t1 (.inl (by omega))).below hb2
  have br2 := (BR1.out.turn t1 (.inl (by omega))).below hb2
  have bo2 := (BO1.out.set 0 (.slice (some ⟨W0.heap.size, 0, none⟩) vs.length vs.length)).below hb2
  have hB2 : Below w.heap.size w w2 := (HB1.out.trans hset).trans (hb2.mono (HB1.out.trans hset).size)
  have hv2 := (Ho1.out.turn t1 (.inr (by omega))).below hb2
  have hz2 := OwnIn.of ho2
  simp only [World.size_setCell] at hz2
  have hle : W0.heap.size ≤ w1.heap.size := hb1.size
  have hlt1 : w.heap.size + 2 < w1.heap.size := by omega
  have e0 := bo2.c 0 _ rfl
  have e1 := bo2.c 1 _ rfl
  have e2 := bo2.c 2 _ rfl
  have e3 := bo2.c 3 _ rfl
  have ef := bo2.f
  have y2 := bx2.c 2 _ rfl
  have y3 := bx2.c 3 _ rfl
  have r0 := br2.c 0 _ rfl
  have r1 := br2.c 1 _ rfl
  have r2 := br2.c 2 _ rfl
  have r3 := br2.c 3 _ rfl
  have rf := br2.f
  have BR2 := Lib.hid br2
  have HB2 := Lib.hid hB2
  have HV2 := Lib.hid hv2
  have HZ2 := Lib.hid hz2
  clear bx2 br2 bo2 hB2 hv2 hz2 hb2 ho2 x1 of1 o10 hset t1
  clear BX1 BR1 BO1 HB1 Ho1 key h
  go_wp2
  have hW : w.heap.size + 1 + 1 = w.heap.size + 2 := rfl
  rw [hW]
  have o1 : ∀ (W : World) (i : Nat) (u : Value), Only (fun k => k = w.heap.size + 1 ∨ k = w.heap.size + 2) W (W.setCell ⟨w.heap.size + 1, i, none⟩ u) := fun W i u => Only.set (.inl rfl)
  have o2 : ∀ (W : World) (i : Nat) (u : Value), Only (fun k => k = w.heap.size + 1 ∨ k = w.heap.size + 2) W (W.setCell ⟨w.heap.size + 2, i, none⟩ u) := fun W i u => Only.set (.inr rfl)
  obtain ⟨V1, hV1, bV1, hT1⟩ : ∃ V, ((w2.setCell ⟨w.heap.size + 2, 1, none⟩ (.slice (some ⟨w1.heap.size, 0, none⟩) zs.length zs.length)).setCell ⟨w.heap.size + 2, 2, none⟩ (.int .i64 s)).setCell ⟨w.heap.size + 2, 3, none⟩ (.int .i64 q) = V ∧ BoxL V (w.heap.size + 1) [.slice none 0 0, .slice none 0 0, .int .i64 0, .int .i64 0] ∧ Only (fun k => k = w.heap.size + 1 ∨ k = w.heap.size + 2) w2 V :=
    ⟨_, rfl, (((BR2.out.turn (turn_set _ _ 1 _) (.inl (by omega))).turn (turn_set _ _ 2 _) (.inl (by omega))).turn (turn_set _ _ 3 _) (.inl (by omega))), ((o2 _ _ _).trans (o2 _ _ _)).trans (o2 _ _ _)⟩
  rw [hV1]
  clear hV1
  have bV := (((bV1.set 0 (.slice (some ⟨W0.heap.size, 0, none⟩) vs.length vs.length)).set 1 (.slice (some ⟨w1.heap.size, 0, none⟩) zs.length zs.length)).set 2 (.int .i64 s)).set 3 (.int .i64 q)
  have hT := (((hT1.trans (o1 V1 0 (.slice (some ⟨W0.heap.size, 0, none⟩) vs.length vs.length))).trans (o1 _ 1 (.slice (some ⟨w1.heap.size, 0, none⟩) zs.length zs.length))).trans (o1 _ 2 (.int .i64 s))).trans (o1 _ 3 (.int .i64 q))
  obtain ⟨V, hV⟩ : ∃ V, (((V1.setCell ⟨w.heap.size + 1, 0, none⟩ (.slice (some ⟨W0.heap.size, 0, none⟩) vs.length vs.length)).setCell ⟨w.heap.size + 1, 1, none⟩ (.slice (some ⟨w1.heap.size, 0, none⟩) zs.length zs.length)).setCell ⟨w.heap.size + 1, 2, none⟩ (.int .i64 s)).setCell ⟨w.heap.size + 1, 3, none⟩ (.int .i64 q) = V := ⟨_, rfl⟩
  rw [hV] at hT bV ⊢
  clear hV
  have s0 := bV.c 0 _ rfl
  have s1 := bV.c 1 _ rfl
  have s2 := bV.c 2 _ rfl
  have s3 := bV.c 3 _ rfl
  have hle2 : w1.heap.size ≤ w2.heap.size := HV2.out.1
  have hN : Hp.In w.heap.size w2.heap.size w2 ⟨some ⟨W0.heap.size, 0, none⟩, vs.length, some ⟨w1.heap.size, 0, none⟩, zs.length, vs, zs⟩ := by
    have e1 := intVals_length vs
    have e2 := intVals_length zs
    refine ⟨?_, ?_, ?_⟩
    · show OwnIn _ _ _ _ _ (.slice _ (intVals vs).length _) (intVals vs).length _
      rw [e1]
      exact HV2.out.mono (by omega) hle2 (Nat.le_refl _)
    · show OwnIn _ _ _ _ _ (.slice _ (intVals zs).length _) (intVals zs).length _
      rw [e2]
      exact HZ2.out.mono (by omega) (Nat.le_refl _) (Nat.le_refl _)
    · intro j h1 h2
      have h1 : W0.heap.size = j := Option.some.inj h1
      have h2 : w1.heap.size = j := Option.some.inj h2
      have hlt : W0.heap.size < w1.heap.size := HV2.out.2.2 _ rfl
      omega
  have hoff : ∀ k, Hp.has ⟨some ⟨W0.heap.size, 0, none⟩, vs.length, some ⟨w1.heap.size, 0, none⟩, zs.length, vs, zs⟩ k → ¬ (k = w.heap.size + 1 ∨ k = w.heap.size + 2) := by
    intro k hk
    rcases hk with hk | hk
    · have hk : W0.heap.size = k := Option.some.inj hk
      omega
    · have hk : w1.heap.size = k := Option.some.inj hk
      omega
  have hNV := hN.same hT.size (fun k hk => hT.block k (hN.has_lt hk).2 (hoff k hk))
  exact bodyPost_ret (v := ndC (some ⟨W0.heap.size, 0, none⟩) vs.length vs.length (some ⟨w1.heap.size, 0, none⟩) zs.length zs.length s q) (by simp [results, Tryd.results65, go_sem, s0, s1, s2, s3]) rfl ⟨_, _, rfl, hNV.mono (Nat.le_refl _) hT.size (Nat.le_refl _), hT.below HB2.out HB2.out.size (fun k hk => by omega)⟩

/-- A copy of a row of nodes: a new row, each node with rows of its own; nothing old has turned. -/
def CopyNodes (ns : List Nd) (w : World) (e : Ending) (w' : World) : Prop :=
  ∃ ks : List Nd, ks.map Nd.body = ns.map Nd.body ∧ e = .returned (.slice (some ⟨w.heap.size, 0, none⟩) ks.length ks.length) ∧
    w'.ownsRow w.heap.size 66 4 (.slice (some ⟨w.heap.size, 0, none⟩) ks.length ks.length) ks.length (ndVals ks) ∧ HeapsIn (w.heap.size + 1) w' (ks.map Nd.h) ∧ Below w.heap.size w w'
theorem nodeInfo : (Tryd.prog.info? 66).map (fun i => (i.zero, i.size, i.bytes)) = some (some (.agg #[.slice none 0 0, .slice none 0 0, .int .i64 0, .int .i64 0]), 4, 64) := by kernel_rfl
set_option maxHeartbeats 1600000 in
theorem toNodes (a : Option Addr) (cap : Nat) (ns : List Nd) (w : World) (hn : ns.length ≤ 1099511627776) (hl : ∀ x ∈ ns, x.h.vs.length ≤ 1099511627776 ∧ x.h.zs.length ≤ 1099511627776) (hrow : NodesAt w a ns) :
    Calls Tryd.prog 33 #[.slice a ns.length cap] w (CopyNodes ns w) := by
  obtain ⟨i0, hi, hz0, hz1, hz2⟩ := info_parts nodeInfo
  go_enter Tryd.func33, Tryd.ntmps33
  go_wp2_with (at_make; refine wpList_make_full _ rfl _ _ 40 rfl w.heap.size 66 i0 _ 4 Tryd.underlying40 hi hz0 hz1 _ _ _ _ ns.length rfl rfl rfl rfl ?b2 ?b3 (Nat.le_refl _) ?_)
  case b2 => rw [hz2]; omega
  case b3 => unfold maxLen; omega
  intro w0 hown0 hgrow0
  go_wp2
  go_loopw [4] (fun i wr => ∃ (k : Nat) (ks : List Nd) (ys : List Value), k ≤ ns.length ∧ i = .int .i64 k ∧ ks.map Nd.body = (ns.take k).map Nd.body ∧ ys.take (k * 4) = ndVals ks ∧ ys.length = ns.length * 4 ∧
      wr.ownsRow w.heap.size 66 4 (.slice (some ⟨w.heap.size, 0, none⟩) ns.length ns.length) ns.length ys ∧ HeapsIn (w.heap.size + 1) wr (ks.map Nd.h) ∧ Below w.heap.size w wr)
    (fun i _ => ns.length - (intOf i).toNat)
  case atStart => exact ⟨0, [], _, Nat.zero_le _, rfl, rfl, by simp [fl], by simpa using hown0.1, hown0, HeapsIn.nil, (Below.refl _ _).grown hgrow0 (Nat.le_refl _) (fun k h => by cases h)⟩
  case round =>
    obtain ⟨k, ks, ys, hk, rfl, hbd, hys, hyl, hown, hks, hb⟩ := hrel
    by_cases hlt : k < ns.length
    · obtain ⟨b, o, rfl, hbW, ⟨c0, c1, c2, c3⟩, hat⟩ := (hrow.below hb).item k hlt
      have hx := hl _ (List.getElem_mem hlt)
      have htk := take_next ns k hlt
      generalize ns[k] = x at *
      have Hbd := Lib.hid hbd
      have Hys := Lib.hid hys
      have Hyl := Lib.hid hyl
      have Htk := Lib.hid htk
      have Hown := Lib.hid hown
      have Hks := Lib.hid hks
      have hgs : w.heap.size < wr.heap.size := (hown.lt _ rfl).2
      clear hbd hys hyl hown htk hks
      go_wp2_with fail
      refine (toNode x.h.a x.h.b x.h.ca x.h.cb x.h.vs x.h.zs x.s x.m _ hx.1 hx.2 hat).mono ?_
      rintro e w1 ⟨a1, b1, rfl, hin1, hb1⟩
      have ho1 := own_keeps Hown.out hb1
      have hB1 : Below w.heap.size w w1 := hb.trans (hb1.mono hb.size)
      have hl1 : ys.length = ns.length * 4 := Hyl.out
      have hold : ∀ j, j < 4 → ∃ old, w1.cell? ⟨w.heap.size, k * 4 + j, none⟩ = some old := fun j hj => ⟨_, (ho1.cellAt (k * 4 + j) (by omega)).trans (List.getElem?_eq_getElem (by omega))⟩
      obtain ⟨old0, hold0⟩ := hold 0 (by omega)
      obtain ⟨old1, hold1⟩ := hold 1 (by omega)
      obtain ⟨old2, hold2⟩ := hold 2 (by omega)
      obtain ⟨old3, hold3⟩ := hold 3 (by omega)
      have hf := fun j => ho1.frozenAt (k * 4 + j)
      have hf0 := ho1.frozenAt (k * 4)
      have hf1 := hf 1
      have hf2 := hf 2
      have hf3 := hf 3
      rw [Nat.add_zero] at hold0
      have hz1 := hb1.size
      have Ho := Lib.hid ho1
      have Hin := Lib.hid hin1
      have Hk1 := Lib.hid (Hks.out.below hb1)
      have Hnew := Lib.hid (show ∀ y ∈ ks.map Nd.h, ∀ j, y.has j → j < wr.heap.size from fun y hy j hj => (Hks.out.has_lt hy hj).2)
      clear ho1 hl1 hin1 hb1 c0 c1 c2 c3 hold hf
      go_wp2
      go_roundw
      case rel =>
        have h0 := (Ho.out.stored (k * 4) (.slice a1 x.h.vs.length x.h.vs.length)).1
        have h1 := (h0.stored (k * 4 + 1) (.slice b1 x.h.zs.length x.h.zs.length)).1
        have h2 := (h1.stored (k * 4 + 2) (.int .i64 x.s)).1
        have h3 := (h2.stored (k * 4 + 3) (.int .i64 x.m)).1
        have hg : w.heap.size ≤ w.heap.size := Nat.le_refl _
        have hy0 : Hp.In wr.heap.size w1.heap.size w1 ⟨a1, x.h.vs.length, b1, x.h.zs.length, x.h.vs, x.h.zs⟩ := Hin.out
        have hy1 : Hp.In (w.heap.size + 1) w1.heap.size w1 ⟨a1, x.h.vs.length, b1, x.h.zs.length, x.h.vs, x.h.zs⟩ := hy0.mono (by omega) (Nat.le_refl _) (Nat.le_refl _)
        have hs2 := (Hk1.out.snoc hy1 (fun y hy j hj hj2 => by have := Hnew.out y hy j hj; have := (hy0.has_lt hj2).1; omega))
        refine ⟨k + 1, ks ++ [⟨⟨a1, x.h.vs.length, b1, x.h.zs.length, x.h.vs, x.h.zs⟩, x.s, x.m⟩], (((ys.set (k * 4) (.slice a1 x.h.vs.length x.h.vs.length)).set (k * 4 + 1) (.slice b1 x.h.zs.length x.h.zs.length)).set (k * 4 + 2) (.int .i64 x.s)).set (k * 4 + 3) (.int .i64 x.m), by omega, by go_num, ?_, ?_, ?_, h3, ?_, (((hB1.setCell hg _).setCell hg _).setCell hg _).setCell hg _⟩
        · rw [Htk.out, List.map_append, List.map_append, Hbd.out]
          rfl
        · rw [Nat.add_mul, Nat.one_mul, set4_take _ _ _ _ _ _ (by rw [Hyl.out]; omega), Hys.out]
          exact (fl_snoc (c := ndCells) ks ⟨⟨a1, x.h.vs.length, b1, x.h.zs.length, x.h.vs, x.h.zs⟩, x.s, x.m⟩).symm
        · rw [List.length_set, List.length_set, List.length_set, List.length_set]
          exact Hyl.out
        · rw [List.map_append]
          exact (((hs2.store (Nat.lt_succ_self _)).store (Nat.lt_succ_self _)).store (Nat.lt_succ_self _)).store (Nat.lt_succ_self _)
      case measure => simp [intOf]; omega
    · have hk' : k = ns.length := by omega
      have hkl : ks.length = ns.length := by
        have h1 := congrArg List.length hbd
        simp at h1
        omega
      have hfull : ys = ndVals ks := by
        have h1 := hys
        rw [hk', List.take_of_length_le (by rw [hyl]; exact Nat.le_refl _)] at h1
        exact h1
      rw [hk', List.take_length] at hbd
      rw [hfull, ← hkl] at hown
      have HE := Lib.hid (show CopyNodes ns w (.returned (.slice (some ⟨w.heap.size, 0, none⟩) ns.length ns.length)) wr from ⟨ks, hbd, by rw [hkl], hown, hks, hb⟩)
      clear hk' hkl hfull hbd hys hyl hown hks
      go_wp2
      go_ret
      exact HE.out

/-- A copy of a structure: new rows throughout. -/
def CopySt (x : St) (w : World) (e : Ending) (w' : World) : Prop :=
  ∃ y : St, y.body = x.body ∧ e = .returned y.v ∧ y.At w' ∧ (y.ca = y.ns.length ∧ y.cb = y.zs.length) ∧ Below w.heap.size w w' ∧
    OwnIn w.heap.size w'.heap.size w' 66 4 (.slice y.a y.ns.length y.ca) y.ns.length (ndVals y.ns) ∧ HeapsIn w.heap.size w' (y.ns.map Nd.h) ∧ OwnIn w.heap.size w'.heap.size w' 3 1 (.slice y.b y.zs.length y.cb) y.zs.length (intVals y.zs)
set_option maxHeartbeats 1600000 in
theorem toStructure (x : St) (w : World) (hn : x.ns.length ≤ 1099511627776) (hm : x.zs.length ≤ 1099511627776) (hl : ∀ y ∈ x.ns, y.h.vs.length ≤ 1099511627776 ∧ y.h.zs.length ≤ 1099511627776) (h : x.At w) :
    Calls Tryd.prog 16 #[x.v] w (CopySt x w) := by
  obtain ⟨a, ca, ns, b, cb, zs⟩ := x
  simp only at hn hm hl
  have key := fun (W : World) (hb : Below w.heap.size w W) => h.below hb
  go_enter Tryd.func16, Tryd.ntmps16
  go_wp2_with fail
  obtain ⟨W0, hW0, hb0, bx0, br0, bo0⟩ := box3n w [.slice a ns.length ca, .slice b zs.length cb] [.slice none 0 0, .slice none 0 0] [.slice none 0 0, .slice none 0 0] 37 42 42
  simp only [List.toArray] at hW0
  rw [hW0]
  clear hW0
  refine (toNodes a ca ns _ hn hl (key _ hb0).nodes).mono ?_
  rintro e w1 ⟨ks, hbd, rfl, hown, hks, hb1⟩
  have bx1 := bx0.below hb1
  have br1 := br0.below hb1
  have bo1 := bo0.below hb1
  have hB1 := hb0.trans (hb1.mono hb0.size)
  have x1 := bx1.c 1 _ rfl
  have of1 := bo1.f
  have o10 := bo1.c 0 _ rfl
  have hlo : w.heap.size + 2 < W0.heap.size := bo0.lt
  have Ho1 := Lib.hid (OwnIn.of hown)
  have HKS := Lib.hid hks
  have HBD := Lib.hid hbd
  have BX1 := Lib.hid bx1
  have BR1 := Lib.hid br1
  have BO1 := Lib.hid bo1
  have HB1 := Lib.hid hB1
  clear hown bx1 br1 bo1 hB1 bx0 br0 bo0 hks hbd
  go_wp2_with fail
  have hset : Below w.heap.size w1 (w1.setCell ⟨w.heap.size + 2, 0, none⟩ (.slice (some ⟨W0.heap.size, 0, none⟩) ks.length ks.length)) := (Below.refl _ _).setCell (by simp) _
  refine (toInts b cb zs _ hm (key _ (HB1.out.trans hset)).next).mono ?_
  rintro e w2 ⟨rfl, ho2, hb2⟩
  have t1 := turn_set w1 (w.heap.size + 2) 0 (.slice (some ⟨W0.heap.size, 0, none⟩) ks.length ks.length)
  have bx2 := (BX1.out.turn t1 (.inl (by omega))).below hb2
  have br2 := (BR1.out.turn t1 (.inl (by omega))).below hb2
  have bo2 := (BO1.out.set 0 (.slice (some ⟨W0.heap.size, 0, none⟩) ks.length ks.length)).below hb2
  have hB2 : Below w.heap.size w w2 := (HB1.out.trans hset).trans (hb2.mono (HB1.out.trans hset).size)
  have hv2 := (Ho1.out.turn t1 (.inr (by omega))).below hb2
  have hk2 := (HKS.out.store (b := w.heap.size + 2) (i := 0) (u := .slice (some ⟨W0.heap.size, 0, none⟩) ks.length ks.length) (by omega)).below hb2
  have hz2 := OwnIn.of ho2
  simp only [World.size_setCell] at hz2
  have hle : W0.heap.size ≤ w1.heap.size := hb1.size
  have hlt1 : w.heap.size + 2 < w1.heap.size := by omega
  have e0 := bo2.c 0 _ rfl
  have e1 := bo2.c 1 _ rfl
  have ef := bo2.f
  have r0 := br2.c 0 _ rfl
  have r1 := br2.c 1 _ rfl
  have rf := br2.f
  have BR2 := Lib.hid br2
  have HB2 := Lib.hid hB2
  have HV2 := Lib.hid hv2
  have HZ2 := Lib.hid hz2
  have HK2 := Lib.hid hk2
  clear bx2 br2 bo2 hB2 hv2 hz2 hk2 hb2 ho2 x1 of1 o10 hset t1
  clear BX1 BR1 BO1 HB1 Ho1 HKS key h
  go_wp2
  have hW : w.heap.size + 1 + 1 = w.heap.size + 2 := rfl
  rw [hW]
  have o1 : ∀ (W : World) (i : Nat) (u : Value), Only (fun k => k = w.heap.size + 1 ∨ k = w.heap.size + 2) W (W.setCell ⟨w.heap.size + 1, i, none⟩ u) := fun W i u => Only.set (.inl rfl)
  have o2 : ∀ (W : World) (i : Nat) (u : Value), Only (fun k => k = w.heap.size + 1 ∨ k = w.heap.size + 2) W (W.setCell ⟨w.heap.size + 2, i, none⟩ u) := fun W i u => Only.set (.inr rfl)
  have bV := ((BR2.out.turn (turn_set w2 (w.heap.size + 2) 1 (.slice (some ⟨w1.heap.size, 0, none⟩) zs.length zs.length)) (.inl (by omega))).set 0 (.slice (some ⟨W0.heap.size, 0, none⟩) ks.length ks.length)).set 1 (.slice (some ⟨w1.heap.size, 0, none⟩) zs.length zs.length)
  have hT := ((o2 w2 1 (.slice (some ⟨w1.heap.size, 0, none⟩) zs.length zs.length)).trans (o1 _ 0 (.slice (some ⟨W0.heap.size, 0, none⟩) ks.length ks.length))).trans (o1 _ 1 (.slice (some ⟨w1.heap.size, 0, none⟩) zs.length zs.length))
  obtain ⟨V, hV⟩ : ∃ V, ((w2.setCell ⟨w.heap.size + 2, 1, none⟩ (.slice (some ⟨w1.heap.size, 0, none⟩) zs.length zs.length)).setCell ⟨w.heap.size + 1, 0, none⟩ (.slice (some ⟨W0.heap.size, 0, none⟩) ks.length ks.length)).setCell ⟨w.heap.size + 1, 1, none⟩ (.slice (some ⟨w1.heap.size, 0, none⟩) zs.length zs.length) = V := ⟨_, rfl⟩
  rw [hV] at hT bV ⊢
  clear hV
  have s0 := bV.c 0 _ rfl
  have s1 := bV.c 1 _ rfl
  have hle2 : w1.heap.size ≤ w2.heap.size := HV2.out.1
  have hnr : OwnIn w.heap.size V.heap.size V 66 4 (.slice (some ⟨W0.heap.size, 0, none⟩) ks.length ks.length) ks.length (ndVals ks) :=
    (HV2.out.same hT.size fun k hk => hT.block k (Nat.lt_of_lt_of_le (HV2.out.2.2 k hk) hle2) (by have hk : W0.heap.size = k := Option.some.inj hk; omega)).mono (by omega) (Nat.le_trans hle2 hT.size) (Nat.le_refl _)
  have hzr : OwnIn w.heap.size V.heap.size V 3 1 (.slice (some ⟨w1.heap.size, 0, none⟩) zs.length zs.length) zs.length (intVals zs) :=
    (HZ2.out.same hT.size fun k hk => hT.block k (HZ2.out.2.2 k hk) (by have hk : w1.heap.size = k := Option.some.inj hk; omega)).mono (by omega) hT.size (Nat.le_refl _)
  have hkr : HeapsIn w.heap.size V (ks.map Nd.h) := (HK2.out.same hT.size fun x hx k hk => hT.block k (HK2.out.has_lt hx hk).2 (by have := (HK2.out.has_lt hx hk).1; omega)).mono (by omega)
  refine bodyPost_ret (v := heV (some ⟨W0.heap.size, 0, none⟩) ks.length ks.length (some ⟨w1.heap.size, 0, none⟩) zs.length zs.length) (by simp [results, Tryd.results16, go_sem, s0, s1]) rfl ⟨⟨some ⟨W0.heap.size, 0, none⟩, ks.length, ks, some ⟨w1.heap.size, 0, none⟩, zs.length, zs⟩, ?_, rfl, ⟨⟨hnr.row, fun x hx => hkr.at_ (List.mem_map.2 ⟨x, hx, rfl⟩)⟩, hzr.row⟩, ⟨rfl, rfl⟩, hT.below HB2.out HB2.out.size (fun k hk => by omega), hnr, hkr, hzr⟩
  simp only [St.body, HBD.out]
end Go.Proofs.YtplchhahjmoodaaDoor
