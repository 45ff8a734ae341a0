/-
  The model's copy of a formula.
-/
import Derived.Test.YthhhmlohfhioeaaDrawTree
import Derived.Test.YthhhmlohfhioeaaToTree
namespace Go.Proofs.Ythhhmlohfhioeaa
open Go Go.RowKit Go.ChangeAt Go.ChangeShapes Go.WideShapes

def CopyMine (x : Ft) (w : World) (e : Ending) (w' : World) : Prop :=
  ∃ y : Ft, e = .returned y.val ∧ y.er = x.er ∧ y.Mine w' w.heap.size w'.heap.size ∧ Below w.heap.size w w'
/-- The argument's box, the result's, the copy's. -/
structure Tri (w : World) (x : Ft) (ys zs : List Value) (W : World) : Prop where
  b : Below w.heap.size w W
  p : BoxL W w.heap.size x.cells
  r : BoxL W (w.heap.size + 1) ys
  c : BoxL W (w.heap.size + 2) zs
section
variable {w W W' : World} {x : Ft} {ys zs : List Value}
theorem Tri.below (h : Tri w x ys zs W) (hb : Below W.heap.size W W') : Tri w x ys zs W' := ⟨h.b.trans (hb.mono h.b.size), h.p.below hb, h.r.below hb, h.c.below hb⟩
theorem Tri.turn (h : Tri w x ys zs W) {lo hi : Nat} (t : Turn lo hi W W') (hl : w.heap.size + 2 < lo) : Tri w x ys zs W' :=
  ⟨Turn.below h.b t (by omega) h.b.size, h.p.turn t (.inl (by omega)), h.r.turn t (.inl (by omega)), h.c.turn t (.inl (by omega))⟩
theorem Tri.put (h : Tri w x ys zs W) (i : Nat) (u : Value) : Tri w x ys (zs.set i u) (W.setCell ⟨w.heap.size + 2, i, none⟩ u) :=
  have t := turn_set W (w.heap.size + 2) i u
  ⟨Turn.below h.b t (by omega) h.b.size, h.p.turn t (.inl (by omega)), h.r.turn t (.inl (by omega)), h.c.set i u⟩
theorem Tri.res (h : Tri w x ys zs W) (i : Nat) (u : Value) : Tri w x (ys.set i u) zs (W.setCell ⟨w.heap.size + 1, i, none⟩ u) :=
  have t := turn_set W (w.heap.size + 1) i u
  ⟨Turn.below h.b t (by omega) h.b.size, h.p.turn t (.inl (by omega)), h.r.set i u, h.c.turn t (.inr (by omega))⟩
end

set_option maxRecDepth 100000 in
set_option maxHeartbeats 3200000 in
theorem copyMine : ∀ x : Ft, ∀ (w : World), x.er.size ≤ 1099511627776 → x.In w w.heap.size → Calls Try.prog 35 #[x.val] w (CopyMine x w) := by
  apply Ft.ind
  intro x ih w hs hin
  obtain ⟨i0, hi, hz0, hz1, hz2⟩ := info_parts fmInfo
  have hz := x.size_er
  have hlen : x.args.length ≤ 1099511627776 := by
    have := Fm.length_sizes (x.args.map Ft.er)
    rw [List.length_map] at this
    omega
  have hsz : ∀ y ∈ x.args, y.er.size ≤ 1099511627776 := fun y hy => by
    have := Fm.size_mem (x.args.map Ft.er) y.er (List.mem_map.2 ⟨y, hy, rfl⟩)
    omega
  have IH := Lib.hid (fun y (hy : y ∈ x.args) (W : World) (h : y.In W W.heap.size) => ih y hy W (hsz y hy) h)
  have HIN := Lib.hid hin
  obtain ⟨W0, hW0⟩ : ∃ W, ((w.alloc (.cells #[.int .i64 x.kd, .int .i64 x.k, .int .i64 x.u, .int .i64 x.v, .slice x.a x.args.length x.cap] 26)).alloc (.cells #[.int .i64 0, .int .i64 0, .int .i64 0, .int .i64 0, .slice none 0 0] 26)).alloc (.cells #[.int .i64 x.kd, .int .i64 x.k, .int .i64 x.u, .int .i64 x.v, .slice none 0 0] 26) = W := ⟨_, rfl⟩
  have T0 : Tri w x zeroCells [.int .i64 x.kd, .int .i64 x.k, .int .i64 x.u, .int .i64 x.v, .slice none 0 0] W0 := by
    rw [← hW0]
    have b1 := (Below.refl w.heap.size w).alloc (Nat.le_refl _) (.cells #[.int .i64 x.kd, .int .i64 x.k, .int .i64 x.u, .int .i64 x.v, .slice x.a x.args.length x.cap] 26)
    have p1 := BoxL.new w x.cells 26
    have b2 := (Below.refl (w.alloc (.cells x.cells.toArray 26)).heap.size (w.alloc (.cells x.cells.toArray 26))).alloc (Nat.le_refl _) (.cells zeroCells.toArray 26)
    have p2 := BoxL.new (w.alloc (.cells x.cells.toArray 26)) zeroCells 26
    have s1 : (w.alloc (.cells x.cells.toArray 26)).heap.size = w.heap.size + 1 := by simp
    have s2 : ((w.alloc (.cells x.cells.toArray 26)).alloc (.cells zeroCells.toArray 26)).heap.size = w.heap.size + 2 := by simp
    have b3 := (Below.refl ((w.alloc (.cells x.cells.toArray 26)).alloc (.cells zeroCells.toArray 26)).heap.size ((w.alloc (.cells x.cells.toArray 26)).alloc (.cells zeroCells.toArray 26))).alloc (Nat.le_refl _) (.cells #[.int .i64 x.kd, .int .i64 x.k, .int .i64 x.u, .int .i64 x.v, .slice none 0 0] 26)
    have p3 := BoxL.new ((w.alloc (.cells x.cells.toArray 26)).alloc (.cells zeroCells.toArray 26)) [.int .i64 x.kd, .int .i64 x.k, .int .i64 x.u, .int .i64 x.v, .slice none 0 0] 26
    refine ⟨?_, (p1.below b2).below b3, ?_, ?_⟩
    · exact (b1.trans (b2.mono (by rw [s1]; omega))).trans (b3.mono (by rw [s2]; omega))
    · have h := p2.below b3
      rw [s1] at h
      exact h
    · rw [s2] at p3
      exact p3
  have HW0 := Lib.hid hW0
  have HE := Lib.hid x.er_eq
  have hs0 : w.heap.size + 2 < W0.heap.size := T0.c.lt
  have t0 := T0.p.c 4 _ rfl
  have ho0 := World.ownsRow_nil W0 (w.heap.size + 3) 26 5
  clear hW0 ih hin hsz hz hs
  go_enter Try.func35, Try.ntmps35
  go_wp2_with fail
  rw [HW0.out]
  go_loopw [4] (fun i wr => ∃ (j : Nat) (v : Value) (ts : List Ft), j ≤ x.args.length ∧ i = .int .i64 j ∧ ts.length = j ∧ ts.map Ft.er = (x.args.take j).map Ft.er ∧ Tri w x zeroCells [.int .i64 x.kd, .int .i64 x.k, .int .i64 x.u, .int .i64 x.v, v] wr ∧ wr.ownsRow (w.heap.size + 3) 26 5 v j (fmVals ts) ∧ Ft.Mines wr (w.heap.size + 3) wr.heap.size v.ownBlock ts) (fun i _ => x.args.length - (intOf i).toNat)
  case atStart => exact ⟨0, .slice none 0 0, [], Nat.zero_le _, rfl, rfl, rfl, T0, ho0, by rw [Ft.Mines]; omega⟩
  case round =>
    clear T0 ho0 hs0 t0
    obtain ⟨j, v, ts, hj, rfl, hjl, her, T, hown, hmi⟩ := hrel
    obtain ⟨va, vc, rfl, hvc⟩ := own_form5 hown
    have HJL := Lib.hid hjl
    have HER := Lib.hid her
    have a4 := T.p.c 4 _ rfl
    by_cases hlt : j < x.args.length
    · have hbw := T.c.lt
      have hrow := (HIN.out.to T.b).row
      obtain ⟨rb, ro, hra, hrb, hE⟩ := hrow.node j hlt
      have hnext := fun y => ers_next x.args ts j hlt y her
      have hI := IH.out x.args[j] (List.getElem_mem hlt)
      have hN := (HIN.out.to T.b).part (List.getElem_mem hlt)
      generalize x.args[j] = z at *
      have hED := hE.below (Below.drew (Below.refl _ _)) hrb
      have HND := Lib.hid (hN.to (Below.drew (Below.refl wr.heap.size wr)))
      have HI := Lib.hid hI
      have HNX := Lib.hid hnext
      have TD := Lib.hid (T.below (Below.drew (Below.refl _ _)))
      have OD := Lib.hid (own_keeps hown (Below.drew (Below.refl _ _)))
      have MD := Lib.hid (hmi.below (Below.drew (Below.refl _ _)))
      have OW := Lib.hid hown
      have c4 := T.c.c 4 _ rfl
      have d4 := TD.out.c.c 4 _ rfl
      have b4 := TD.out.p.c 4 _ rfl
      obtain ⟨n0, n1, n2, n3, n4⟩ := hED
      have f4 := T.c.f
      have e4 := TD.out.c.f
      have hra' := hra
      rw [hra] at a4 b4
      have HRA := Lib.hid hra
      clear hjl her T hown hmi hvc hrow hI hN hnext hE hra hra'
      go_wp2_with fail
      go_region_law
        (first
          | (go_simp; go_at_call 35; (refine (HI.out _ HND.out).mono ?_); rintro e w4 ⟨t, rfl, hte, htm, hb4⟩; have T4 := TD.out.below hb4; have O4 := own_keeps OD.out hb4; have M4 := MD.out.below hb4; have p4 := T4.c.c 4 _ rfl; have q4 := T4.c.f; have hw4 := hb4.size; have hbw4 := T4.c.lt; simp at hw4)
          | (refine step_append_lies _ rfl (.tmp 22) (.tmp 29) 24 rfl (w.heap.size + 3) 26 i0 _ 5 56 Try.underlying24 hi hz0 hz1 hz2 rfl (by decide) (.slice va j vc) j (fmVals ts) ?_ (O4.alloc _) ⟨w4.heap.size, 0, none⟩ 1 1 t.cells ?_ rfl ?_ ?_ (by omega) ?_ ?_ ?_ _ rfl ?_
             · simp [Act.eval]
             · simp [Act.eval]
             · exact news_cells w4 t _
             · exact cells_one t
             · unfold maxLen; omega
             · omega
             · simp; omega
             intro g9 cap9 w9 hown9 hg9 hat9 hlt9
             have hal := (Below.refl w4.heap.size w4).alloc (Nat.le_refl _) (.cells t.cells.toArray 26)
             have hz9 := hg9.size
             have hrb9 : ∀ q, (Value.slice va j vc).ownBlock = some q → w.heap.size + 3 ≤ q ∧ q < wr.heap.size := fun q hq => OW.out.lt q hq
             have t9 : Turn (w.heap.size + 3) wr.heap.size _ w9 := Turn.of_grown hg9 hrb9
             have T9 := (T4.below hal).turn t9 (by omega)
             have M9 := Ft.Mines.grown (M4.below hal) hg9
             have X9 := Ft.Mine.turn t9 t (htm.below hal) (.inl (by simp))
             have p9 := T9.c.c 4 _ rfl
             have q9 := T9.c.f))
      all_goals
        simp at hz9
        have hg9' : ∀ q, (some g9 : Option Nat) = some q → (Value.slice va j vc).ownBlock = some q ∨ wr.heap.size ≤ q ∨ q < w.heap.size + 3 := fun q hq => by
          have hq' := Option.some.inj hq
          subst hq'
          rcases hat9 with h | h
          · exact .inl h
          · simp at h
            exact .inr (.inl (by omega))
        have hg9'' : ∀ q, (some g9 : Option Nat) = some q → q < wr.heap.size ∨ w4.heap.size ≤ q := fun q hq => by
          have hq' := Option.some.inj hq
          subst hq'
          rcases hat9 with h | h
          · exact .inl (hrb9 g9 h).2
          · simp at h
            exact .inr (by omega)
        have M10 := Ft.Mines.snoc (by simp) X9 hg9'' (show w4.heap.size ≤ w9.heap.size by omega) ts (Ft.Mines.rebind ts M9 hg9')
        have ts9 := turn_set w9 (w.heap.size + 2) 4 (.slice (some ⟨g9, 0, none⟩) (j + 1) cap9)
        have M11 := Ft.Mines.turn ts9 (ts ++ [t]) M10 (.inl (Nat.le_refl _))
        have T11 := T9.put 4 (.slice (some ⟨g9, 0, none⟩) (j + 1) cap9)
        simp only [List.set] at T11
        have O11 := ownsRow_setCell_below hown9 (a := ⟨w.heap.size + 2, 4, none⟩) (Nat.lt_succ_self _) (.slice (some ⟨g9, 0, none⟩) (j + 1) cap9)
        have KEEP := Lib.hid (And.intro T11 (And.intro O11 M11))
        have HTE := Lib.hid hte
        clear T11 O11 M11 M10 ts9 hg9'' hg9' T9 M9 X9 t9 hown9 hg9 hte
        go_wp2_with fail
        go_roundw
        case rel => first | exact ⟨j + 1, _, ts ++ [t], by omega, by go_num, by simp [HJL.out], HNX.out t HTE.out, KEEP.out.1, by rw [fmVals_snoc]; exact KEEP.out.2.1, by have h := KEEP.out.2.2; simp at h ⊢; exact h⟩ | ((repeat apply Exists.intro); exact ⟨⟨j + 1, _, ts ++ [t], by omega, by go_num, by simp [HJL.out], HNX.out t HTE.out, KEEP.out.1, by rw [fmVals_snoc]; exact KEEP.out.2.1, by have h := KEEP.out.2.2; simp at h ⊢; exact h⟩, rfl⟩)
        case measure => simp [intOf]; omega
    · obtain rfl : j = x.args.length := by omega
      have q0 := T.c.c 0 _ rfl
      have q1 := T.c.c 1 _ rfl
      have q2 := T.c.c 2 _ rfl
      have q3 := T.c.c 3 _ rfl
      have q4 := T.c.c 4 _ rfl
      have r0 := T.r.c 0 _ rfl
      have r1 := T.r.c 1 _ rfl
      have r2 := T.r.c 2 _ rfl
      have r3 := T.r.c 3 _ rfl
      have r4 := T.r.c 4 _ rfl
      have rf := T.r.f
      have rl := T.r.lt
      have hTT := ((((turn_set wr (w.heap.size + 1) 0 (.int .i64 x.kd)).trans (turn_set _ (w.heap.size + 1) 1 (.int .i64 x.k))).trans (turn_set _ (w.heap.size + 1) 2 (.int .i64 x.u))).trans (turn_set _ (w.heap.size + 1) 3 (.int .i64 x.v))).trans (turn_set _ (w.heap.size + 1) 4 (.slice va x.args.length vc))
      have hM := Ft.Mines.turn hTT ts hmi (.inl (by omega))
      have hO := (OwnIn.of hown).turn hTT (.inr (by omega))
      have hB := Turn.below T.b hTT (by omega) T.b.size
      have HEN := Lib.hid (And.intro hB (And.intro hM hO))
      have hbw := T.c.lt
      clear T hTT hM hO hown hmi hjl her hlt hB
      go_wp2_with fail
      refine bodyPost_ret (v := .agg #[.int .i64 x.kd, .int .i64 x.k, .int .i64 x.u, .int .i64 x.v, .slice va x.args.length vc]) (by simp [results, Try.results35, go_sem, r0, r1, r2, r3, r4]) rfl ⟨.mk x.kd x.k x.u x.v va vc ts, by simp [Ft.val, Ft.kd, Ft.k, Ft.u, Ft.v, Ft.a, Ft.cap, Ft.args, HJL.out], ?_, ?_, HEN.out.1⟩
      · have h := HER.out
        rw [List.take_length] at h
        rw [HE.out, Ft.er_eq, ← h]
        rfl
      · rw [Ft.Mine, HJL.out]
        simp only [World.size_setCell]
        exact ⟨HEN.out.2.2.mono (by omega) (Nat.le_refl _) (by simp), Ft.Mines.grow ts HEN.out.2.1 (by omega) (Nat.le_refl _)⟩
end Go.Proofs.Ythhhmlohfhioeaa
