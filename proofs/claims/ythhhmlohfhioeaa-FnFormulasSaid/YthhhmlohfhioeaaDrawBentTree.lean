/-
  A formula, drawn and bent; and its copy. (Printed by wip/tools/gen_draw_bent_tree.py.)
-/
import Derived.Test.YthhhmlohfhioeaaDrawTree
namespace Go.Proofs.Ythhhmlohfhioeaa
open Go Go.RowKit Go.ChangeAt Go.ChangeShapes Go.WideShapes

theorem drawTree : ∀ d : Nat, d ≤ 100 → ∀ (g : Nat) (w : World), Cur w g → Calls Try.prog 56 #[.pointer (some ⟨g, 0, none⟩), .int .i64 (d : Int)] w (TreeDrawn (treeB d) g w)
  | 0, _, g, w, h => drawTree_less 0 (by decide) g w h
  | 1, _, g, w, h => drawTree_less 1 (by decide) g w h
  | d + 2, hd, g, w, h => drawTree_more (d + 1) (by omega) (by omega) (fun g w h => drawTree (d + 1) (by omega) g w h) g w h
theorem Ft.mine_head {w : World} {lo hi : Nat} {t : Ft} (h : t.Mine w lo hi) (kd k u v : Int) : (Ft.mk kd k u v t.a t.cap t.args).Mine w lo hi := by
  rw [Ft.Mine]
  exact (Ft.mine_iff t).1 h
theorem Ft.size_head (t : Ft) (kd k u v : Int) : (Ft.mk kd k u v t.a t.cap t.args).er.size = t.er.size := by
  rw [Ft.size_er, Ft.size_er t]
  rfl
theorem beside_ints (w : World) {g : Nat} (ns : List Int) (t : TypeId) (hg : g < w.heap.size) : Beside (w.alloc (.cells (intVals ns).toArray t)) g (some ⟨w.heap.size, 0, none⟩) (intVals ns) := beside_new _ hg
def leafT : Ft := .mk 1 0 0 0 none 0 []
theorem Two.turnB {w W W' : World} {g b : Nat} {xs ys : List Value} (h : Two w g b xs ys W) {lo hi : Nat} (t : Turn lo hi W W') (hl : w.heap.size < lo) (hh : hi ≤ b) : Two w g b xs ys W' :=
  ⟨h.d.turn t (by omega), h.r.turn t (.inl hl), h.x.turn t (.inr hh), h.lt⟩
theorem mine_snoc {w' : World} {lo m n g9 cap9 : Nat} {r : Option Nat} {args : List Ft} (hn : args.length = n) (hk : Ft.Mines w' lo m r args) (hr : r = some g9 ∨ m ≤ g9) (hown : w'.ownsRow lo 26 5 (.slice (some ⟨g9, 0, none⟩) (n + 1) cap9) (n + 1) (fmVals args ++ leafT.cells)) (hm : m ≤ w'.heap.size) (kd k u v : Int) :
    (Ft.mk kd k u v (some ⟨g9, 0, none⟩) cap9 (args ++ [leafT])).Mine w' lo w'.heap.size := by
  subst hn
  rw [Ft.Mine]
  have hl : (args ++ [leafT]).length = args.length + 1 := by simp
  rw [hl, fmVals_snoc]
  refine ⟨OwnIn.of hown, ?_⟩
  have h4 : Ft.Mines w' lo m (some g9) args := Ft.Mines.rebind _ hk fun q hq => by
    cases hq
    rcases hr with h | h
    · exact .inl h
    · exact .inr (.inl h)
  have hlt := (hown.lt g9 rfl).2
  refine Ft.Mines.snoc (m1 := w'.heap.size) (m2 := w'.heap.size) hm (Ft.mine_leaf 1 0 0 0 (Nat.le_refl _) (Nat.le_refl _)) (fun q hq => ?_) (Nat.le_refl _) _ h4
  cases hq
  exact .inl hlt
set_option maxRecDepth 100000 in
set_option maxHeartbeats 3200000 in
theorem drawBentTree (g : Nat) (w : World) (hcur : Cur w g) : Calls Try.prog 29 #[.pointer (some ⟨g, 0, none⟩)] w (TreeDrawn 32 g w) := by
  obtain ⟨i0, hi, hz0, hz1, hz2⟩ := info_parts fmInfo
  have hg0 := hcur.lt
  obtain ⟨W0, hW0⟩ : ∃ W, w.alloc (.cells #[.int .i64 0, .int .i64 0, .int .i64 0, .int .i64 0, .slice none 0 0] 26) = W := ⟨_, rfl⟩
  have R0 : BoxL W0 w.heap.size zeroCells := by
    rw [← hW0]
    exact BoxL.new w zeroCells _
  have D0 : Dg w g W0 := by
    rw [← hW0]
    exact (Dg.start hcur).below ((Below.refl w.heap.size w).alloc (Nat.le_refl _) _)
  have hs0 : W0.heap.size = w.heap.size + 1 := by rw [← hW0]; simp
  have HW0 := Lib.hid hW0
  clear hW0 hcur
  go_enter Try.func29, Try.ntmps29
  go_wp2_with fail
  rw [HW0.out]
  refine (drawTree 4 (by omega) g _ D0.cur).mono ?_
  rintro e w1 ⟨t, rfl, hts, hdg, htm⟩
  have D1 := D0.draw hdg.cur hdg.grown
  have R1 := R0.turn (turn_drawn hdg.grown) (.inr (by omega))
  have hw1 := hdg.grown.size
  rw [hs0] at htm hw1
  obtain ⟨W2, hW2⟩ : ∃ W, w1.alloc (.cells #[.int .i64 t.kd, .int .i64 t.k, .int .i64 t.u, .int .i64 t.v, .slice t.a t.args.length t.cap] 26) = W := ⟨_, rfl⟩
  have T1 : Two w g w1.heap.size zeroCells [.int .i64 t.kd, .int .i64 t.k, .int .i64 t.u, .int .i64 t.v, .slice t.a t.args.length t.cap] W2 := by
    rw [← hW2]
    exact Two.new D1 R1 t.cells _
  have M1 : t.Mine W2 (w.heap.size + 1) w1.heap.size := by
    rw [← hW2]
    exact htm.below ((Below.refl _ _).alloc (Nat.le_refl _) _)
  have hs2 : W2.heap.size = w1.heap.size + 1 := by rw [← hW2]; simp
  have HW2 := Lib.hid hW2
  have HTS := Lib.hid (show t.er.size ≤ 31 from hts)
  clear hW2 D1 R1 D0 R0 HW0 hdg htm hts
  go_wp2_with fail
  rw [HW2.out]
  refine (drawBelow g 10 _ (by omega) (by omega) T1.d.cur).mono ?_
  rintro e w3 ⟨y, hy, rfl, hc, hw⟩
  have T3 := T1.draw hc hw
  have M3 := Ft.Mine.turn (turn_drawn hw) t M1 (.inl (by omega))
  have hw3 := hw.size
  rw [hs2] at hw3
  clear hc hw T1 M1 HW2 hs2
  generalize w1.heap.size = b at *
  by_cases y0 : y = 0
  · subst y0
    have f3 := T3.x.f
    have x3 := T3.x.c 0 _ rfl
    have l3 := T3.x.lt
    go_wp2_with fail
    refine (drawBelow g 15 _ (by omega) (by omega) T3.d.cur).mono ?_
    rintro e w4 ⟨z, hz, rfl, hc, hw⟩
    have T4 := T3.draw hc hw
    have M4 := Ft.Mine.turn (turn_drawn hw) t M3 (.inl (by omega))
    have hw4 := hw.size
    have x4 := T4.x.c 0 _ rfl
    have f4 := T4.x.f
    have hwr : IntKind.i64.wrap ((z : Int) - 1) = (z : Int) - 1 := wrap_less (by omega)
    have T5 := T4.put 0 (.int .i64 ((z : Int) - 1))
    simp only [List.set] at T5
    have M5 := Ft.Mine.turn (turn_set w4 b 0 (.int .i64 ((z : Int) - 1))) t M4 (.inr (by omega))
    clear hc hw T3 M3 x3 f3 T4 M4
    have q0 := T5.x.c 0 _ rfl
    have q1 := T5.x.c 1 _ rfl
    have q2 := T5.x.c 2 _ rfl
    have q3 := T5.x.c 3 _ rfl
    have q4 := T5.x.c 4 _ rfl
    have r0 := T5.r.c 0 _ rfl
    have r1 := T5.r.c 1 _ rfl
    have r2 := T5.r.c 2 _ rfl
    have r3 := T5.r.c 3 _ rfl
    have r4 := T5.r.c 4 _ rfl
    have rf := T5.r.f
    have rl := T5.r.lt
    have E0 := ((((T5.res 0 (.int .i64 ((z : Int) - 1))).res 1 (.int .i64 t.k)).res 2 (.int .i64 t.u)).res 3 (.int .i64 t.v)).res 4 (.slice t.a (t.args.length) t.cap)
    have hTT := ((((turn_set (w4.setCell ⟨b, 0, none⟩ (.int .i64 ((z : Int) - 1))) w.heap.size 0 (.int .i64 ((z : Int) - 1))).trans (turn_set _ w.heap.size 1 (.int .i64 t.k))).trans (turn_set _ w.heap.size 2 (.int .i64 t.u))).trans (turn_set _ w.heap.size 3 (.int .i64 t.v))).trans (turn_set _ w.heap.size 4 (.slice t.a (t.args.length) t.cap))
    have hM := Ft.Mine.turn hTT _ (Ft.mine_head M5 ((z : Int) - 1) t.k t.u t.v) (.inl (by omega))
    have HE := Lib.hid (And.intro E0.d hM)
    clear E0 hTT hM T5
    go_wp2_with fail
    refine bodyPost_ret (v := .agg #[.int .i64 ((z : Int) - 1), .int .i64 t.k, .int .i64 t.u, .int .i64 t.v, .slice t.a (t.args.length) t.cap]) (by simp [results, Try.results29, go_sem, r0, r1, r2, r3, r4]) rfl ⟨.mk ((z : Int) - 1) t.k t.u t.v t.a t.cap t.args, rfl, by rw [Ft.size_head]; have := HTS.out; omega, HE.out.1, ?_⟩
    have h := HE.out.2
    simp only [World.size_setCell] at h ⊢
    exact Ft.Mine.grow _ h (by omega) (by omega) (by simp)
  by_cases y1 : y = 1
  · subst y1
    have f3 := T3.x.f
    have x3 := T3.x.c 1 _ rfl
    have l3 := T3.x.lt
    have hg3 := T3.d.cur.lt
    go_wp2_with fail
    refine (drawPickInt g 3 (some (⟨w3.heap.size, 0, none⟩ : Addr)) [1, 3, -1] _ (by decide) (by decide) (T3.d.cur.alloc _) (beside_ints w3 [1, 3, -1] _ hg3)).mono ?_
    rintro e w4 ⟨z, hz, rfl, hc, hw⟩
    obtain ⟨z, rfl⟩ : ∃ n, z = .int .i64 n := by
      simp [intVals] at hz
      rcases hz with rfl | rfl | rfl <;> exact ⟨_, rfl⟩
    have hal := (Below.refl w3.heap.size w3).alloc (Nat.le_refl _) (.cells (intVals [1, 3, -1]).toArray 3)
    have T4 := (T3.below hal).draw hc hw
    have M4 := Ft.Mine.turn (turn_drawn hw) t (M3.below hal) (.inl (by omega))
    have hw4 := hw.size
    simp at hw4
    have x4 := T4.x.c 1 _ rfl
    have f4 := T4.x.f
    have T5 := T4.put 1 (.int .i64 z)
    simp only [List.set] at T5
    have M5 := Ft.Mine.turn (turn_set w4 b 1 (.int .i64 z)) t M4 (.inr (by omega))
    clear hc hw T3 M3 x3 f3 T4 M4 hal hz
    have q0 := T5.x.c 0 _ rfl
    have q1 := T5.x.c 1 _ rfl
    have q2 := T5.x.c 2 _ rfl
    have q3 := T5.x.c 3 _ rfl
    have q4 := T5.x.c 4 _ rfl
    have r0 := T5.r.c 0 _ rfl
    have r1 := T5.r.c 1 _ rfl
    have r2 := T5.r.c 2 _ rfl
    have r3 := T5.r.c 3 _ rfl
    have r4 := T5.r.c 4 _ rfl
    have rf := T5.r.f
    have rl := T5.r.lt
    have E0 := ((((T5.res 0 (.int .i64 t.kd)).res 1 (.int .i64 z)).res 2 (.int .i64 t.u)).res 3 (.int .i64 t.v)).res 4 (.slice t.a (t.args.length) t.cap)
    have hTT := ((((turn_set (w4.setCell ⟨b, 1, none⟩ (.int .i64 z)) w.heap.size 0 (.int .i64 t.kd)).trans (turn_set _ w.heap.size 1 (.int .i64 z))).trans (turn_set _ w.heap.size 2 (.int .i64 t.u))).trans (turn_set _ w.heap.size 3 (.int .i64 t.v))).trans (turn_set _ w.heap.size 4 (.slice t.a (t.args.length) t.cap))
    have hM := Ft.Mine.turn hTT _ (Ft.mine_head M5 t.kd z t.u t.v) (.inl (by omega))
    have HE := Lib.hid (And.intro E0.d hM)
    clear E0 hTT hM T5
    go_wp2_with fail
    refine bodyPost_ret (v := .agg #[.int .i64 t.kd, .int .i64 z, .int .i64 t.u, .int .i64 t.v, .slice t.a (t.args.length) t.cap]) (by simp [results, Try.results29, go_sem, r0, r1, r2, r3, r4]) rfl ⟨.mk t.kd z t.u t.v t.a t.cap t.args, rfl, by rw [Ft.size_head]; have := HTS.out; omega, HE.out.1, ?_⟩
    have h := HE.out.2
    simp only [World.size_setCell] at h ⊢
    exact Ft.Mine.grow _ h (by omega) (by omega) (by simp)
  by_cases y2 : y = 2
  · subst y2
    have f3 := T3.x.f
    have x3 := T3.x.c 2 _ rfl
    have l3 := T3.x.lt
    have hg3 := T3.d.cur.lt
    go_wp2_with fail
    refine (drawPickInt g 3 (some (⟨w3.heap.size, 0, none⟩ : Addr)) [3, 4, -1] _ (by decide) (by decide) (T3.d.cur.alloc _) (beside_ints w3 [3, 4, -1] _ hg3)).mono ?_
    rintro e w4 ⟨z, hz, rfl, hc, hw⟩
    obtain ⟨z, rfl⟩ : ∃ n, z = .int .i64 n := by
      simp [intVals] at hz
      rcases hz with rfl | rfl | rfl <;> exact ⟨_, rfl⟩
    have hal := (Below.refl w3.heap.size w3).alloc (Nat.le_refl _) (.cells (intVals [3, 4, -1]).toArray 3)
    have T4 := (T3.below hal).draw hc hw
    have M4 := Ft.Mine.turn (turn_drawn hw) t (M3.below hal) (.inl (by omega))
    have hw4 := hw.size
    simp at hw4
    have x4 := T4.x.c 2 _ rfl
    have f4 := T4.x.f
    have T5 := T4.put 2 (.int .i64 z)
    simp only [List.set] at T5
    have M5 := Ft.Mine.turn (turn_set w4 b 2 (.int .i64 z)) t M4 (.inr (by omega))
    clear hc hw T3 M3 x3 f3 T4 M4 hal hz
    have q0 := T5.x.c 0 _ rfl
    have q1 := T5.x.c 1 _ rfl
    have q2 := T5.x.c 2 _ rfl
    have q3 := T5.x.c 3 _ rfl
    have q4 := T5.x.c 4 _ rfl
    have r0 := T5.r.c 0 _ rfl
    have r1 := T5.r.c 1 _ rfl
    have r2 := T5.r.c 2 _ rfl
    have r3 := T5.r.c 3 _ rfl
    have r4 := T5.r.c 4 _ rfl
    have rf := T5.r.f
    have rl := T5.r.lt
    have E0 := ((((T5.res 0 (.int .i64 t.kd)).res 1 (.int .i64 t.k)).res 2 (.int .i64 z)).res 3 (.int .i64 t.v)).res 4 (.slice t.a (t.args.length) t.cap)
    have hTT := ((((turn_set (w4.setCell ⟨b, 2, none⟩ (.int .i64 z)) w.heap.size 0 (.int .i64 t.kd)).trans (turn_set _ w.heap.size 1 (.int .i64 t.k))).trans (turn_set _ w.heap.size 2 (.int .i64 z))).trans (turn_set _ w.heap.size 3 (.int .i64 t.v))).trans (turn_set _ w.heap.size 4 (.slice t.a (t.args.length) t.cap))
    have hM := Ft.Mine.turn hTT _ (Ft.mine_head M5 t.kd t.k z t.v) (.inl (by omega))
    have HE := Lib.hid (And.intro E0.d hM)
    clear E0 hTT hM T5
    go_wp2_with fail
    refine bodyPost_ret (v := .agg #[.int .i64 t.kd, .int .i64 t.k, .int .i64 z, .int .i64 t.v, .slice t.a (t.args.length) t.cap]) (by simp [results, Try.results29, go_sem, r0, r1, r2, r3, r4]) rfl ⟨.mk t.kd t.k z t.v t.a t.cap t.args, rfl, by rw [Ft.size_head]; have := HTS.out; omega, HE.out.1, ?_⟩
    have h := HE.out.2
    simp only [World.size_setCell] at h ⊢
    exact Ft.Mine.grow _ h (by omega) (by omega) (by simp)
  by_cases y3 : y = 3
  · subst y3
    have f3 := T3.x.f
    have x3 := T3.x.c 4 _ rfl
    have l3 := T3.x.lt
    have hmi := (Ft.mine_iff t).1 M3
    have hln := Fm.length_sizes (t.args.map Ft.er)
    have hse := t.size_er
    rw [List.length_map] at hln
    have hal31 : t.args.length ≤ 31 := by have := HTS.out; omega
    have HO := Lib.hid hmi.1
    have HMI := Lib.hid hmi.2
    clear hmi hln hse M3
    obtain ⟨n, hn⟩ : ∃ n, t.args.length = n := ⟨_, rfl⟩
    have HN := Lib.hid hn
    rw [hn] at HO hal31 T3 x3 HMI
    clear hn
    go_wp2_with (at_builtin; refine wpList_append_own_at _ rfl (.tmp 29) (.tmp 31) 24 rfl (w.heap.size + 1) 26 i0 _ 5 56 Try.underlying24 hi hz0 hz1 hz2 rfl (by decide) (.slice t.a n t.cap) n (fmVals t.args) rfl (HO.out.2.1.alloc _) ⟨w3.heap.size, 0, none⟩ 1 1 leafT.cells rfl rfl (news_cells w3 leafT _) (cells_one leafT) (by unfold maxLen; omega) (by omega) (by simp; omega) ?_; intro v6 w6 hown6 hg6 _ hloc6; obtain ⟨va6, vc6, rfl, _⟩ := own_form5 hown6; have t6 : Turn (w.heap.size + 1) b _ w6 := Turn.of_grown hg6 (fun q hq => ⟨(HO.out.2.1.lt q hq).1, HO.out.2.2 q hq⟩); have hal := (Below.refl w3.heap.size w3).alloc (Nat.le_refl _) (.cells leafT.cells.toArray 26); have T6 := (T3.below hal).turnB t6 (Nat.lt_succ_self _) (Nat.le_refl _); have M6 := Ft.Mines.grown (HMI.out.below hal) hg6; have hz6 := hg6.size; have d6 := T6.x.c 4 _ rfl; have d60 := T6.x.c 0 _ rfl; have d61 := T6.x.c 1 _ rfl; have d62 := T6.x.c 2 _ rfl; have d63 := T6.x.c 3 _ rfl; have f6 := T6.x.f; have r0 := T6.r.c 0 _ rfl; have r1 := T6.r.c 1 _ rfl; have r2 := T6.r.c 2 _ rfl; have r3 := T6.r.c 3 _ rfl; have r4 := T6.r.c 4 _ rfl; have rf := T6.r.f; have rl := T6.r.lt; clear x3 f3)
    simp at hz6
    obtain ⟨g9, rfl⟩ : ∃ g9, va6 = some ⟨g9, 0, none⟩ := by
      rcases hown6.2 with ⟨_, h0⟩ | ⟨g9, _, _, hv, _⟩
      · exact absurd h0 (by simp)
      · injection hv with hv _ _
        exact ⟨g9, hv⟩
    have hgb : (Value.slice t.a n t.cap).ownBlock = some g9 ∨ b < g9 := by
      rcases hloc6 with h | h
      · exact .inl h.symm
      · have h' := Option.some.inj h
        simp at h'
        exact .inr (by omega)
    have hgn : g9 < b ∨ b + 1 ≤ g9 := by
      rcases hgb with h | h
      · exact .inl (HO.out.2.2 g9 h)
      · exact .inr h
    have T5 := T6.put 4 (.slice (some ⟨g9, 0, none⟩) (n + 1) vc6)
    simp only [List.set] at T5
    have ts6 := turn_set w6 b 4 (.slice (some ⟨g9, 0, none⟩) (n + 1) vc6)
    have O5 := own_turn hown6 ts6 (fun q hq => by cases hq; exact hgn)
    have M5 := Ft.Mines.turn ts6 t.args M6 (.inr (Nat.le_refl _))
    have N5 := mine_snoc HN.out M5 (hgb.imp id Nat.le_of_lt) O5 (by simp; omega) t.kd t.k t.u t.v
    have hsz5 : (Ft.mk t.kd t.k t.u t.v (some ⟨g9, 0, none⟩) vc6 (t.args ++ [leafT])).er.size ≤ 32 := by
      rw [Ft.size_er]
      have h1 := HTS.out
      rw [Ft.size_er] at h1
      simp only [Ft.args, List.map_append, Fm.sizes_append, List.map_cons, List.map_nil, Fm.sizes, leafT, Ft.er, Ft.ers, Fm.size] at h1 ⊢
      omega
    have HS5 := Lib.hid hsz5
    clear T6 T3 hown6 hg6 t6 hal M6 hloc6 O5 M5 ts6 hgn hgb hsz5
    have hl5 : (t.args ++ [leafT]).length = n + 1 := by simp [HN.out]
    have hv5 : Ending.returned (.agg #[.int .i64 t.kd, .int .i64 t.k, .int .i64 t.u, .int .i64 t.v, .slice (some ⟨g9, 0, none⟩) (n + 1) vc6]) = .returned (Ft.mk t.kd t.k t.u t.v (some ⟨g9, 0, none⟩) vc6 (t.args ++ [leafT])).val := by
      show _ = Ending.returned (.agg #[.int .i64 t.kd, .int .i64 t.k, .int .i64 t.u, .int .i64 t.v, .slice (some ⟨g9, 0, none⟩) (t.args ++ [leafT]).length vc6])
      rw [hl5]
    have HV5 := Lib.hid hv5
    clear hl5 hv5
    have E0 := ((((T5.res 0 (.int .i64 t.kd)).res 1 (.int .i64 t.k)).res 2 (.int .i64 t.u)).res 3 (.int .i64 t.v)).res 4 (.slice (some ⟨g9, 0, none⟩) (n + 1) vc6)
    have hTT := ((((turn_set (w6.setCell ⟨b, 4, none⟩ (.slice (some ⟨g9, 0, none⟩) (n + 1) vc6)) w.heap.size 0 (.int .i64 t.kd)).trans (turn_set _ w.heap.size 1 (.int .i64 t.k))).trans (turn_set _ w.heap.size 2 (.int .i64 t.u))).trans (turn_set _ w.heap.size 3 (.int .i64 t.v))).trans (turn_set _ w.heap.size 4 (.slice (some ⟨g9, 0, none⟩) (n + 1) vc6))
    have hM := Ft.Mine.turn hTT _ (N5) (.inl (by omega))
    have HE := Lib.hid (And.intro E0.d hM)
    clear E0 hTT hM T5
    refine bodyPost_ret (v := .agg #[.int .i64 t.kd, .int .i64 t.k, .int .i64 t.u, .int .i64 t.v, .slice (some ⟨g9, 0, none⟩) (n + 1) vc6]) (by simp [results, Try.results29, go_sem, r0, r1, r2, r3, r4]) rfl ⟨.mk t.kd t.k t.u t.v (some ⟨g9, 0, none⟩) vc6 (t.args ++ [leafT]), HV5.out, HS5.out, HE.out.1, ?_⟩
    have h := HE.out.2
    simp only [World.size_setCell] at h ⊢
    exact Ft.Mine.grow _ h (by omega) (by omega) (by simp)
  · have hM := M3
    have T5 := T3
    have l3 := T3.x.lt
    clear T3 M3
    have y0' : ((y : Int) == 0) = false := by simp; omega
    have y1' : ((y : Int) == 1) = false := by simp; omega
    have y2' : ((y : Int) == 2) = false := by simp; omega
    have y3' : ((y : Int) == 3) = false := by simp; omega
    have q0 := T5.x.c 0 _ rfl
    have q1 := T5.x.c 1 _ rfl
    have q2 := T5.x.c 2 _ rfl
    have q3 := T5.x.c 3 _ rfl
    have q4 := T5.x.c 4 _ rfl
    have r0 := T5.r.c 0 _ rfl
    have r1 := T5.r.c 1 _ rfl
    have r2 := T5.r.c 2 _ rfl
    have r3 := T5.r.c 3 _ rfl
    have r4 := T5.r.c 4 _ rfl
    have rf := T5.r.f
    have rl := T5.r.lt
    have E0 := ((((T5.res 0 (.int .i64 t.kd)).res 1 (.int .i64 t.k)).res 2 (.int .i64 t.u)).res 3 (.int .i64 t.v)).res 4 (.slice t.a (t.args.length) t.cap)
    have hTT := ((((turn_set w3 w.heap.size 0 (.int .i64 t.kd)).trans (turn_set _ w.heap.size 1 (.int .i64 t.k))).trans (turn_set _ w.heap.size 2 (.int .i64 t.u))).trans (turn_set _ w.heap.size 3 (.int .i64 t.v))).trans (turn_set _ w.heap.size 4 (.slice t.a (t.args.length) t.cap))
    have hM := Ft.Mine.turn hTT _ (Ft.mine_head hM t.kd t.k t.u t.v) (.inl (by omega))
    have HE := Lib.hid (And.intro E0.d hM)
    clear E0 hTT hM T5
    go_wp2_with fail
    refine bodyPost_ret (v := .agg #[.int .i64 t.kd, .int .i64 t.k, .int .i64 t.u, .int .i64 t.v, .slice t.a (t.args.length) t.cap]) (by simp [results, Try.results29, go_sem, r0, r1, r2, r3, r4]) rfl ⟨.mk t.kd t.k t.u t.v t.a t.cap t.args, rfl, by rw [Ft.size_head]; have := HTS.out; omega, HE.out.1, ?_⟩
    have h := HE.out.2
    simp only [World.size_setCell] at h ⊢
    exact Ft.Mine.grow _ h (by omega) (by omega) (by simp)
end Go.Proofs.Ythhhmlohfhioeaa
