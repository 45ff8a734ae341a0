/-
  The model's reader: a pair of formulas, over what reads a formula. (Printed by wip/tools/gen_spec_two.py.)
-/
import Derived.Test.YtplchhahjmoodaaGreatDoorZ41
namespace Go.Proofs.YtplchhahjmoodaaGreatDoor
open Go Go.RowKit Go.ChangeAt Go.ChangeShapes Go.WideShapes

theorem two_bad {F : RdS → Fm × RdS} {r r1 r2 : RdS} {a : Fm} {kd : Int} (h1 : F r = (a, r1)) (h2 : (if (takeP [38] r1).1 = true then (9 : Int) else 10) = kd) (h3 : (if (takeP [38] r1).1 = true then (takeP [38] r1).2 else mustP [124] r1) = r2) (h4 : r2.2 = true) : twoP F r = (.mk kd 0 0 0 [], r2) := by
  unfold twoP
  simp only [h1, h2, h3]
  rw [if_pos h4]
theorem two_ok {F : RdS → Fm × RdS} {r r1 r2 r4 : RdS} {a c : Fm} {kd : Int} (h1 : F r = (a, r1)) (h2 : (if (takeP [38] r1).1 = true then (9 : Int) else 10) = kd) (h3 : (if (takeP [38] r1).1 = true then (takeP [38] r1).2 else mustP [124] r1) = r2) (h4 : r2.2 = false) (h5 : F r2 = (c, r4)) : twoP F r = (.mk kd 0 0 0 [a, c], mustP [41] r4) := by
  unfold twoP
  simp only [h1, h2, h3]
  rw [if_neg (by rw [h4]; simp), h5]
set_option maxRecDepth 100000 in
set_option maxHeartbeats 6400000 in
theorem specTwo (R : Nat) (va : Option Addr) (vca : Nat) (ss : List ByteArray) (s : ByteArray) (k : Nat) (b : Bool) (d : Int) (F : RdS → Fm × RdS) (W : World) (hs : s.size ≤ 1099511627776) (hrow : Row W R va (strVals ss)) (h : RdAt W R va vca ss.length s k b)
    (IH : ∀ (k : Nat) (b : Bool) (V : World), RdAt V R va vca ss.length s k b → Row V R va (strVals ss) → Calls Tryz.prog 42 #[.pointer (some ⟨R, 0, none⟩), .int .i64 d] V (ReadEnd R va vca ss.length s (F (rdS s k b)) V)) :
    Calls Tryz.prog 94 #[.pointer (some ⟨R, 0, none⟩), .int .i64 d] W (ReadEnd R va vca ss.length s (twoP F (rdS s k b)) W) := by
  obtain ⟨W0, hW0⟩ : ∃ V, W.alloc (.cells #[.int .i64 0, .int .i64 0, .int .i64 0, .int .i64 0, .slice none 0 0] 27) = V := ⟨_, rfl⟩
  have P0 : PS W R va vca ss.length s k b zero5 W0 := by rw [← hW0]; exact PS.start h zero5 _
  have hs0 : W0.heap.size = W.heap.size + 1 := by rw [← hW0]; simp
  have HS0 := Lib.hid hs0
  have HW0 := Lib.hid hW0
  have HI := Lib.hid IH
  have HROW := Lib.hid hrow
  have hlt := P0.lt
  clear hW0 h IH hrow hs0
  go_enter Tryz.func94, Tryz.ntmps94
  go_wp2_with fail
  rw [HW0.out]
  refine (HI.out k b W0 P0.rd (P0.row HROW.out)).mono ?_
  rintro e w1 ⟨t, rfl, hte, htm, s1⟩
  have hz1 := s1.turn.size
  obtain ⟨k1, b1, e1, P1⟩ := P0.step s1
  have HF := Lib.hid (show F (rdS s k b) = (t.er, rdS s k1 b1) from by rw [hte, ← e1])
  have hS0 := HS0.out
  obtain ⟨W2, hW2⟩ : ∃ V, (w1.alloc (.cells #[.int .i64 t.kd, .int .i64 t.k, .int .i64 t.u, .int .i64 t.v, .slice t.a t.args.length t.cap] 27)).alloc (.cells #[.int .i64 9, .int .i64 0, .int .i64 0, .int .i64 0, .slice none 0 0] 27) = V := ⟨_, rfl⟩
  obtain ⟨hb2, X5, X6⟩ : Below w1.heap.size w1 W2 ∧ BoxL W2 w1.heap.size t.cells ∧ BoxL W2 (w1.heap.size + 1) [.int .i64 9, .int .i64 0, .int .i64 0, .int .i64 0, .slice none 0 0] := by
    obtain ⟨V, e, h⟩ := two_boxL w1 t.cells [.int .i64 9, .int .i64 0, .int .i64 0, .int .i64 0, .slice none 0 0] 27 27
    have : V = W2 := by rw [← e, ← hW2]; rfl
    exact this ▸ h
  have P2 := P1.below hb2
  have M2 := htm.below hb2
  have hbx := P1.box.lt
  have HW2 := Lib.hid hW2
  clear P0 s1 hte htm e1 P1 hb2 hW2
  go_wp2_with fail
  rw [HW2.out]
  clear HW2
  generalize w1.heap.size = B at *
  have hx6 := X6.lt
  refine (specTake R va vca ss.length ⟨#[38]⟩ s k1 b1 W2 (by decide) hs P2.rd).mono ?_
  rintro e w3 htk
  obtain ⟨rfl, s3⟩ := htk.step
  have ht3 := s3.turn
  have hz3 := ht3.size
  obtain ⟨k3, b3, e3, P3⟩ := P2.step s3
  have X5' := X5.turn ht3 (.inr (by omega))
  have X6' := X6.turn ht3 (.inr (by omega))
  have M3 := Ft.Mine.turn ht3 t M2 (.inl (by omega))
  obtain ⟨c, hc⟩ : ∃ c, (takeP (⟨#[38]⟩ : ByteArray).data.toList (rdS s k1 b1)).1 = c := ⟨_, rfl⟩
  rw [hc]
  have HC := Lib.hid (show (takeP [38] (rdS s k1 b1)).1 = c from hc)
  have HE3 := Lib.hid (show (takeP [38] (rdS s k1 b1)).2 = rdS s k3 b3 from e3)
  clear htk s3 ht3 e3 hc P2 X5 X6 M2
  cases c with
  | true =>
    have H2 := Lib.hid (show (if (takeP [38] (rdS s k1 b1)).1 = true then (9 : Int) else 10) = 9 by rw [if_pos HC.out])
    have H3 := Lib.hid (show (if (takeP [38] (rdS s k1 b1)).1 = true then (takeP [38] (rdS s k1 b1)).2 else mustP [124] (rdS s k1 b1)) = rdS s k3 b3 by rw [if_pos HC.out, HE3.out])
    have d3 := P3.rd.box.c 3 _ rfl
    have x60 := X6'.c 0 _ rfl
    have x61 := X6'.c 1 _ rfl
    have x62 := X6'.c 2 _ rfl
    have x63 := X6'.c 3 _ rfl
    have x64 := X6'.c 4 _ rfl
    have xf := X6'.f
    have xl := X6'.lt
    cases b3 with
    | true =>
      have r0 := P3.box.c 0 _ rfl
      have r1 := P3.box.c 1 _ rfl
      have r2 := P3.box.c 2 _ rfl
      have r3 := P3.box.c 3 _ rfl
      have r4 := P3.box.c 4 _ rfl
      have rf := P3.box.f
      have rl := P3.box.lt
      have PE := Lib.hid (((((P3.res 0 (.int .i64 9)).res 1 (.int .i64 0)).res 2 (.int .i64 0)).res 3 (.int .i64 0)).res 4 (.slice none 0 0))
      have HT := Lib.hid (two_bad HF.out H2.out H3.out rfl)
      clear P3 X5' X6' M3
      go_wp2_with fail
      have hsz := PE.out.turn.size
      exact bodyPost_ret (v := .agg #[.int .i64 9, .int .i64 0, .int .i64 0, .int .i64 0, .slice none 0 0]) (by simp [results, Tryz.results94, go_sem, r0, r1, r2, r3, r4]) rfl ⟨.mk 9 0 0 0 none 0 [], rfl, by rw [HT.out]; rfl, Ft.mine_leaf _ _ _ _ hsz (Nat.le_refl _), by rw [HT.out]; exact PE.out.fin⟩
    | false =>
      have hdr := (Below.refl w3.heap.size w3).drew
      have PD := Lib.hid (P3.below hdr)
      have X5D := Lib.hid (X5'.below hdr)
      have X6D := Lib.hid (X6'.below hdr)
      have MD := Lib.hid (M3.below hdr)
      have y0 := X5'.c 0 _ rfl
      have y1 := X5'.c 1 _ rfl
      have y2 := X5'.c 2 _ rfl
      have y3 := X5'.c 3 _ rfl
      have y4 := X5'.c 4 _ rfl
      have z0 := X5D.out.c 0 _ rfl
      have z1 := X5D.out.c 1 _ rfl
      have z2 := X5D.out.c 2 _ rfl
      have z3 := X5D.out.c 3 _ rfl
      have z4 := X5D.out.c 4 _ rfl
      clear P3 X5' X6' M3 hdr
      go_wp2_with fail
      clear x60 x61 x62 x63 x64 xf d3
      go_region_law
        (first
          | (go_simp; go_at_call 42; (refine (HI.out k3 false _ PD.out.rd (PD.out.row HROW.out)).mono ?_); rintro e w7 ⟨t2, rfl, hte2, htm2, s7⟩; have ht7 := s7.turn; have hz7 := ht7.size; have hzw : (w3.drew).heap.size = w3.heap.size := rfl; obtain ⟨k7, b7, e7, P7⟩ := PD.out.step s7; have X57 := X5D.out.turn ht7 (.inr (by omega)); have X67 := X6D.out.turn ht7 (.inr (by omega)); have M7 := Ft.Mine.turn ht7 t MD.out (.inl (by omega)); have q0 := X57.c 0 _ rfl; have q1 := X57.c 1 _ rfl; have q2 := X57.c 2 _ rfl; have q3 := X57.c 3 _ rfl; have q4 := X57.c 4 _ rfl; have p4 := X67.c 4 _ rfl; have pf := X67.f; have pl := X67.lt; have HF2 := Lib.hid (show F (rdS s k3 false) = (t2.er, rdS s k7 b7) from by rw [hte2, ← e7])))
      all_goals
        rw [hzw] at hz7 htm2
        have T8 := turn_set w7 (B + 1) 4 (.slice (some ⟨w7.heap.size, 0, none⟩) 2 2)
        have P8 := P7.put T8 (by omega)
        have X68 := X67.set 4 (.slice (some ⟨w7.heap.size, 0, none⟩) 2 2)
        simp only [List.set] at X68
        have M8 := Ft.Mine.turn T8 t M7 (.inr (by omega))
        have N8 := Ft.Mine.turn T8 t2 htm2 (.inl (by omega))
        obtain ⟨V8, hV8⟩ : ∃ V, w7.setCell ⟨B + 1, 4, none⟩ (.slice (some ⟨w7.heap.size, 0, none⟩) 2 2) = V := ⟨_, rfl⟩
        have hVs : V8.heap.size = w7.heap.size := by rw [← hV8]; simp
        rw [hV8] at P8 X68 M8 N8
        have L8 := mine_lit [t, t2] (mines_two M8 (by omega) N8) (by rw [hVs]; exact Nat.le_refl _) (by unfold maxLen; simp) 9 0 0 0
        rw [hVs] at L8
        obtain ⟨V9, hV9⟩ : ∃ V, V8.alloc (.cells #[.int .i64 t.kd, .int .i64 t.k, .int .i64 t.u, .int .i64 t.v, .slice t.a t.args.length t.cap, .int .i64 t2.kd, .int .i64 t2.k, .int .i64 t2.u, .int .i64 t2.v, .slice t2.a t2.args.length t2.cap] 27) = V := ⟨_, rfl⟩
        have hb9 : Below V8.heap.size V8 V9 := by rw [← hV9]; exact (Below.refl _ _).alloc (Nat.le_refl _) _
        have L9 : (Ft.mk 9 0 0 0 (some ⟨w7.heap.size, 0, none⟩) 2 [t, t2]).Mine V9 W0.heap.size (w7.heap.size + 1) := by rw [← hV9]; exact L8
        have P9 := P8.below hb9
        have X69 := X68.below hb9
        have hz9 := hb9.size
        have hr9 : w7.heap.size + 1 ≤ V9.heap.size := by rw [← hV9]; simp [hVs]
        have HV := Lib.hid (show (w7.setCell ⟨B + 1, 4, none⟩ (.slice (some ⟨w7.heap.size, 0, none⟩) 2 2)).alloc (.cells #[.int .i64 t.kd, .int .i64 t.k, .int .i64 t.u, .int .i64 t.v, .slice t.a t.args.length t.cap, .int .i64 t2.kd, .int .i64 t2.k, .int .i64 t2.u, .int .i64 t2.v, .slice t2.a t2.args.length t2.cap] 27) = V9 by rw [hV8]; exact hV9)
        clear T8 P8 X68 M8 N8 L8 hV8 hV9 hb9 P7 X57 X67 M7 s7 ht7 hte2 htm2 e7 hVs
        go_wp2_with fail
        try rw [HV.out]
        clear q0 q1 q2 q3 q4 p4 pf
        refine (specMust R va vca ss.length ⟨#[41]⟩ s k7 b7 V9 (by decide) hs P9.rd).mono ?_
        rintro e v1 ⟨rfl, sA⟩
        have htA := sA.turn
        have hzA := htA.size
        obtain ⟨kA, bA, eA, PA⟩ := P9.step sA
        have XA := X69.turn htA (.inr (by omega))
        have LA := Ft.Mine.turn htA _ L9 (.inl (by omega))
        have u0 := XA.c 0 _ rfl
        have u1 := XA.c 1 _ rfl
        have u2 := XA.c 2 _ rfl
        have u3 := XA.c 3 _ rfl
        have u4 := XA.c 4 _ rfl
        have r0 := PA.box.c 0 _ rfl
        have r1 := PA.box.c 1 _ rfl
        have r2 := PA.box.c 2 _ rfl
        have r3 := PA.box.c 3 _ rfl
        have r4 := PA.box.c 4 _ rfl
        have rf := PA.box.f
        have rl := PA.box.lt
        have PE := ((((PA.res 0 (.int .i64 9)).res 1 (.int .i64 0)).res 2 (.int .i64 0)).res 3 (.int .i64 0)).res 4 (.slice (some ⟨w7.heap.size, 0, none⟩) 2 2)
        have hTT := ((((turn_set v1 W.heap.size 0 (.int .i64 9)).trans (turn_set _ W.heap.size 1 (.int .i64 0))).trans (turn_set _ W.heap.size 2 (.int .i64 0))).trans (turn_set _ W.heap.size 3 (.int .i64 0))).trans (turn_set _ W.heap.size 4 (.slice (some ⟨w7.heap.size, 0, none⟩) 2 2))
        have LE := Ft.Mine.turn hTT _ LA (.inl (by omega))
        have HT := Lib.hid (two_ok HF.out H2.out H3.out rfl HF2.out)
        have HEA := Lib.hid (show mustP [41] (rdS s k7 b7) = rdS s kA bA from eA)
        have HPE := Lib.hid (And.intro PE LE)
        clear PE LE hTT PA XA LA sA htA eA P9 X69 L9
        go_wp2_with fail
        refine bodyPost_ret (v := .agg #[.int .i64 9, .int .i64 0, .int .i64 0, .int .i64 0, .slice (some ⟨w7.heap.size, 0, none⟩) 2 2]) (by simp [results, Tryz.results94, go_sem, r0, r1, r2, r3, r4]) rfl ⟨.mk 9 0 0 0 (some ⟨w7.heap.size, 0, none⟩) 2 [t, t2], rfl, by rw [HT.out]; rfl, ?_, by rw [HT.out]; show Step R va vca ss.length s (mustP [41] (rdS s k7 b7)) W _; rw [HEA.out]; exact HPE.out.1.fin⟩
        have h := HPE.out.2
        simp only [World.size_setCell] at h ⊢
        exact Ft.Mine.grow _ h (by omega) (by omega) (by simp)
  | false =>
    have f6 := X6'.f
    have g6 := X6'.c 0 _ rfl
    have l6 := X6'.lt
    have T4 := turn_set w3 (B + 1) 0 (.int .i64 10)
    have P4 := P3.put T4 (by omega)
    have X5n := X5'.turn T4 (.inl (by omega))
    have X6n := X6'.set 0 (.int .i64 10)
    simp only [List.set] at X6n
    have M4 := Ft.Mine.turn T4 t M3 (.inr (by omega))
    obtain ⟨W4, hW4⟩ : ∃ V, w3.setCell ⟨B + 1, 0, none⟩ (.int .i64 10) = V := ⟨_, rfl⟩
    rw [hW4] at P4 X5n X6n M4
    have HW4 := Lib.hid hW4
    have hx6n := X6n.lt
    have hz4 : w3.heap.size ≤ W4.heap.size := by rw [← hW4]; simp
    clear P3 X5' X6' M3 T4 hW4
    go_wp2_with fail
    rw [HW4.out]
    clear HW4 f6 g6 l6
    have hk13 : rdS s k1 b1 = rdS s k3 b3 := by
      have h1 := HC.out
      have h2 := HE3.out
      unfold takeP at h1 h2
      by_cases hp : (rdS s k1 b1).2 = false ∧ ([38] : List UInt8).isPrefixOf (rdS s k1 b1).1 = true
      · rw [if_pos hp] at h1
        cases h1
      · rw [if_neg hp] at h2
        exact h2
    have HK13 := Lib.hid hk13
    clear hk13
    refine (specMust R va vca ss.length ⟨#[124]⟩ s k3 b3 W4 (by decide) hs P4.rd).mono ?_
    rintro e w5 ⟨rfl, s5⟩
    have ht5 := s5.turn
    have hz5 := ht5.size
    obtain ⟨k5, b5, e5, P3⟩ := P4.step s5
    have X5' := X5n.turn ht5 (.inr (by omega))
    have X6' := X6n.turn ht5 (.inr (by omega))
    have M3 := Ft.Mine.turn ht5 t M4 (.inl (by omega))
    have H2 := Lib.hid (show (if (takeP [38] (rdS s k1 b1)).1 = true then (9 : Int) else 10) = 10 by rw [if_neg (by rw [HC.out]; simp)])
    have H3 := Lib.hid (show (if (takeP [38] (rdS s k1 b1)).1 = true then (takeP [38] (rdS s k1 b1)).2 else mustP [124] (rdS s k1 b1)) = rdS s k5 b5 by rw [if_neg (by rw [HC.out]; simp), HK13.out, ← e5])
    clear s5 ht5 e5 P4 X5n X6n M4
    generalize k5 = k3 at *
    generalize b5 = b3 at *
    have d3 := P3.rd.box.c 3 _ rfl
    have x60 := X6'.c 0 _ rfl
    have x61 := X6'.c 1 _ rfl
    have x62 := X6'.c 2 _ rfl
    have x63 := X6'.c 3 _ rfl
    have x64 := X6'.c 4 _ rfl
    have xf := X6'.f
    have xl := X6'.lt
    cases b3 with
    | true =>
      have r0 := P3.box.c 0 _ rfl
      have r1 := P3.box.c 1 _ rfl
      have r2 := P3.box.c 2 _ rfl
      have r3 := P3.box.c 3 _ rfl
      have r4 := P3.box.c 4 _ rfl
      have rf := P3.box.f
      have rl := P3.box.lt
      have PE := Lib.hid (((((P3.res 0 (.int .i64 10)).res 1 (.int .i64 0)).res 2 (.int .i64 0)).res 3 (.int .i64 0)).res 4 (.slice none 0 0))
      have HT := Lib.hid (two_bad HF.out H2.out H3.out rfl)
      clear P3 X5' X6' M3
      go_wp2_with fail
      have hsz := PE.out.turn.size
      exact bodyPost_ret (v := .agg #[.int .i64 10, .int .i64 0, .int .i64 0, .int .i64 0, .slice none 0 0]) (by simp [results, Tryz.results94, go_sem, r0, r1, r2, r3, r4]) rfl ⟨.mk 10 0 0 0 none 0 [], rfl, by rw [HT.out]; rfl, Ft.mine_leaf _ _ _ _ hsz (Nat.le_refl _), by rw [HT.out]; exact PE.out.fin⟩
    | false =>
      have hdr := (Below.refl w5.heap.size w5).drew
      have PD := Lib.hid (P3.below hdr)
      have X5D := Lib.hid (X5'.below hdr)
      have X6D := Lib.hid (X6'.below hdr)
      have MD := Lib.hid (M3.below hdr)
      have y0 := X5'.c 0 _ rfl
      have y1 := X5'.c 1 _ rfl
      have y2 := X5'.c 2 _ rfl
      have y3 := X5'.c 3 _ rfl
      have y4 := X5'.c 4 _ rfl
      have z0 := X5D.out.c 0 _ rfl
      have z1 := X5D.out.c 1 _ rfl
      have z2 := X5D.out.c 2 _ rfl
      have z3 := X5D.out.c 3 _ rfl
      have z4 := X5D.out.c 4 _ rfl
      clear P3 X5' X6' M3 hdr
      go_wp2_with fail
      clear x60 x61 x62 x63 x64 xf d3
      go_region_law
        (first
          | (go_simp; go_at_call 42; (refine (HI.out k3 false _ PD.out.rd (PD.out.row HROW.out)).mono ?_); rintro e w7 ⟨t2, rfl, hte2, htm2, s7⟩; have ht7 := s7.turn; have hz7 := ht7.size; have hzw : (w5.drew).heap.size = w5.heap.size := rfl; obtain ⟨k7, b7, e7, P7⟩ := PD.out.step s7; have X57 := X5D.out.turn ht7 (.inr (by omega)); have X67 := X6D.out.turn ht7 (.inr (by omega)); have M7 := Ft.Mine.turn ht7 t MD.out (.inl (by omega)); have q0 := X57.c 0 _ rfl; have q1 := X57.c 1 _ rfl; have q2 := X57.c 2 _ rfl; have q3 := X57.c 3 _ rfl; have q4 := X57.c 4 _ rfl; have p4 := X67.c 4 _ rfl; have pf := X67.f; have pl := X67.lt; have HF2 := Lib.hid (show F (rdS s k3 false) = (t2.er, rdS s k7 b7) from by rw [hte2, ← e7])))
      all_goals
        rw [hzw] at hz7 htm2
        have T8 := turn_set w7 (B + 1) 4 (.slice (some ⟨w7.heap.size, 0, none⟩) 2 2)
        have P8 := P7.put T8 (by omega)
        have X68 := X67.set 4 (.slice (some ⟨w7.heap.size, 0, none⟩) 2 2)
        simp only [List.set] at X68
        have M8 := Ft.Mine.turn T8 t M7 (.inr (by omega))
        have N8 := Ft.Mine.turn T8 t2 htm2 (.inl (by omega))
        obtain ⟨V8, hV8⟩ : ∃ V, w7.setCell ⟨B + 1, 4, none⟩ (.slice (some ⟨w7.heap.size, 0, none⟩) 2 2) = V := ⟨_, rfl⟩
        have hVs : V8.heap.size = w7.heap.size := by rw [← hV8]; simp
        rw [hV8] at P8 X68 M8 N8
        have L8 := mine_lit [t, t2] (mines_two M8 (by omega) N8) (by rw [hVs]; exact Nat.le_refl _) (by unfold maxLen; simp) 10 0 0 0
        rw [hVs] at L8
        obtain ⟨V9, hV9⟩ : ∃ V, V8.alloc (.cells #[.int .i64 t.kd, .int .i64 t.k, .int .i64 t.u, .int .i64 t.v, .slice t.a t.args.length t.cap, .int .i64 t2.kd, .int .i64 t2.k, .int .i64 t2.u, .int .i64 t2.v, .slice t2.a t2.args.length t2.cap] 27) = V := ⟨_, rfl⟩
        have hb9 : Below V8.heap.size V8 V9 := by rw [← hV9]; exact (Below.refl _ _).alloc (Nat.le_refl _) _
        have L9 : (Ft.mk 10 0 0 0 (some ⟨w7.heap.size, 0, none⟩) 2 [t, t2]).Mine V9 W0.heap.size (w7.heap.size + 1) := by rw [← hV9]; exact L8
        have P9 := P8.below hb9
        have X69 := X68.below hb9
        have hz9 := hb9.size
        have hr9 : w7.heap.size + 1 ≤ V9.heap.size := by rw [← hV9]; simp [hVs]
        have HV := Lib.hid (show (w7.setCell ⟨B + 1, 4, none⟩ (.slice (some ⟨w7.heap.size, 0, none⟩) 2 2)).alloc (.cells #[.int .i64 t.kd, .int .i64 t.k, .int .i64 t.u, .int .i64 t.v, .slice t.a t.args.length t.cap, .int .i64 t2.kd, .int .i64 t2.k, .int .i64 t2.u, .int .i64 t2.v, .slice t2.a t2.args.length t2.cap] 27) = V9 by rw [hV8]; exact hV9)
        clear T8 P8 X68 M8 N8 L8 hV8 hV9 hb9 P7 X57 X67 M7 s7 ht7 hte2 htm2 e7 hVs
        go_wp2_with fail
        try rw [HV.out]
        clear q0 q1 q2 q3 q4 p4 pf
        refine (specMust R va vca ss.length ⟨#[41]⟩ s k7 b7 V9 (by decide) hs P9.rd).mono ?_
        rintro e v1 ⟨rfl, sA⟩
        have htA := sA.turn
        have hzA := htA.size
        obtain ⟨kA, bA, eA, PA⟩ := P9.step sA
        have XA := X69.turn htA (.inr (by omega))
        have LA := Ft.Mine.turn htA _ L9 (.inl (by omega))
        have u0 := XA.c 0 _ rfl
        have u1 := XA.c 1 _ rfl
        have u2 := XA.c 2 _ rfl
        have u3 := XA.c 3 _ rfl
        have u4 := XA.c 4 _ rfl
        have r0 := PA.box.c 0 _ rfl
        have r1 := PA.box.c 1 _ rfl
        have r2 := PA.box.c 2 _ rfl
        have r3 := PA.box.c 3 _ rfl
        have r4 := PA.box.c 4 _ rfl
        have rf := PA.box.f
        have rl := PA.box.lt
        have PE := ((((PA.res 0 (.int .i64 10)).res 1 (.int .i64 0)).res 2 (.int .i64 0)).res 3 (.int .i64 0)).res 4 (.slice (some ⟨w7.heap.size, 0, none⟩) 2 2)
        have hTT := ((((turn_set v1 W.heap.size 0 (.int .i64 10)).trans (turn_set _ W.heap.size 1 (.int .i64 0))).trans (turn_set _ W.heap.size 2 (.int .i64 0))).trans (turn_set _ W.heap.size 3 (.int .i64 0))).trans (turn_set _ W.heap.size 4 (.slice (some ⟨w7.heap.size, 0, none⟩) 2 2))
        have LE := Ft.Mine.turn hTT _ LA (.inl (by omega))
        have HT := Lib.hid (two_ok HF.out H2.out H3.out rfl HF2.out)
        have HEA := Lib.hid (show mustP [41] (rdS s k7 b7) = rdS s kA bA from eA)
        have HPE := Lib.hid (And.intro PE LE)
        clear PE LE hTT PA XA LA sA htA eA P9 X69 L9
        go_wp2_with fail
        refine bodyPost_ret (v := .agg #[.int .i64 10, .int .i64 0, .int .i64 0, .int .i64 0, .slice (some ⟨w7.heap.size, 0, none⟩) 2 2]) (by simp [results, Tryz.results94, go_sem, r0, r1, r2, r3, r4]) rfl ⟨.mk 10 0 0 0 (some ⟨w7.heap.size, 0, none⟩) 2 [t, t2], rfl, by rw [HT.out]; rfl, ?_, by rw [HT.out]; show Step R va vca ss.length s (mustP [41] (rdS s k7 b7)) W _; rw [HEA.out]; exact HPE.out.1.fin⟩
        have h := HPE.out.2
        simp only [World.size_setCell] at h ⊢
        exact Ft.Mine.grow _ h (by omega) (by omega) (by simp)
end Go.Proofs.YtplchhahjmoodaaGreatDoor
