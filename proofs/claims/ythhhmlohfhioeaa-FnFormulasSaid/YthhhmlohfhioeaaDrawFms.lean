/-
  The draws of the laws of formulas: a number and a formula, one formula, two formulas, a kind. (Printed by wip/tools/gen_draw_fms.py.)
-/
import Derived.Test.YthhhmlohfhioeaaDrawBentTree
import Derived.Test.YthhhmlohfhioeaaCopyTree
namespace Go.Proofs.Ythhhmlohfhioeaa
open Go Go.RowKit Go.ChangeAt Go.ChangeShapes Go.WideShapes

mutual
/-- No row of the formula lies in this block. -/
def Ft.Avoid (b : Nat) : Ft → Prop
  | .mk _ _ _ _ a cap pp => (∀ k, (Value.slice a pp.length cap).ownBlock = some k → k ≠ b) ∧ Ft.Avoids b pp
def Ft.Avoids (b : Nat) : List Ft → Prop
  | [] => True
  | t :: ts => t.Avoid b ∧ Ft.Avoids b ts
end
mutual
theorem Ft.Mine.apart {w w' : World} {b : Nat} (tw : Turn b (b + 1) w w') : ∀ (t : Ft) {lo hi : Nat}, t.Mine w lo hi → t.Avoid b → t.Mine w' lo hi
  | .mk _ _ _ _ a cap pp, lo, hi, h, hd => by
    rw [Ft.Mine] at h ⊢
    rw [Ft.Avoid] at hd
    exact ⟨h.1.keep tw (fun k hk => by have := hd.1 k hk; omega), Ft.Mines.apart tw pp h.2 hd.2⟩
theorem Ft.Mines.apart {w w' : World} {b : Nat} {r : Option Nat} (tw : Turn b (b + 1) w w') : ∀ (ts : List Ft) {lo hi : Nat}, Ft.Mines w lo hi r ts → Ft.Avoids b ts → Ft.Mines w' lo hi r ts
  | [], lo, hi, h, _ => h
  | t :: ts, lo, hi, h, hd => by
    rw [Ft.Mines] at h ⊢
    rw [Ft.Avoids] at hd
    obtain ⟨m1, m2, h0, h1, h2, h3⟩ := h
    exact ⟨m1, m2, h0, Ft.Mine.apart tw t h1 hd.1, h2, Ft.Mines.apart tw ts h3 hd.2⟩
end
mutual
theorem Ft.Mine.avoid {w : World} {b : Nat} : ∀ (t : Ft) {lo hi : Nat}, t.Mine w lo hi → (b < lo ∨ hi ≤ b) → t.Avoid b
  | .mk _ _ _ _ a cap pp, lo, hi, h, hd => by
    rw [Ft.Mine] at h
    rw [Ft.Avoid]
    exact ⟨fun k hk => by have h1 := (h.1.2.1.lt k hk).1; have h2 := h.1.2.2 k hk; omega, Ft.Mines.avoid pp h.2 hd⟩
theorem Ft.Mines.avoid {w : World} {b : Nat} {r : Option Nat} : ∀ (ts : List Ft) {lo hi : Nat}, Ft.Mines w lo hi r ts → (b < lo ∨ hi ≤ b) → Ft.Avoids b ts
  | [], _, _, _, _ => trivial
  | t :: ts, lo, hi, h, hd => by
    rw [Ft.Mines] at h
    rw [Ft.Avoids]
    obtain ⟨m1, m2, h0, h1, h2, h3⟩ := h
    have := Ft.Mine.le t h1
    have := Ft.Mines.le ts h3
    exact ⟨Ft.Mine.avoid t h1 (by omega), Ft.Mines.avoid ts h3 (by omega)⟩
end
theorem bentBelow {w w1 W : World} {g : Nat} (hB : Below w.heap.size w w1) (d : Dg w1 g W) (hg : w.heap.size ≤ g) : Below w.heap.size w W := below_only hB d.grown hB.size hg
def zero5 : List Value := zeroCells
/-- The negation of a formula that lies in a row of its own. -/
def notT (b : Nat) (t : Ft) : Ft := .mk 8 0 0 0 (some ⟨b, 0, none⟩) 1 [t]
theorem notT_size (b : Nat) (t : Ft) : (notT b t).er.size = t.er.size + 1 := by
  rw [notT, Ft.size_er]
  simp [Ft.args, Fm.sizes]
theorem notT_mine {W : World} {lo hi : Nat} {t : Ft} (h : t.Mine W lo hi) (hh : hi ≤ W.heap.size) : (notT W.heap.size t).Mine (W.alloc (.cells t.cells.toArray 26)) lo (W.heap.size + 1) := by
  have hb := (Below.refl W.heap.size W).alloc (Nat.le_refl _) (.cells t.cells.toArray 26)
  have hl := Ft.Mine.le t h
  have ho := World.ownsRow_lit (e := 26) (size := 5) (base := W.heap.size) W t.cells.toArray 1 (Nat.le_refl _) (by unfold maxLen; omega) (by simp [Ft.cells])
  rw [notT, Ft.Mine, Ft.Mines]
  have hf : fmVals [t] = t.cells := by simp [fmVals]
  refine ⟨⟨by simp, ?_, fun k hk => by cases hk; exact Nat.lt_succ_self _⟩, lo, hi, Nat.le_refl _, h.below hb, fun k hk => by cases hk; exact .inr hh, by rw [Ft.Mines]; omega⟩
  rw [hf]
  have hlh : lo ≤ W.heap.size := by omega
  exact own_base (by simpa using ho) hlh
theorem notT_avoid {b : Nat} {n : Nat} {t : Ft} (h : t.Avoid b) (hn : n ≠ b) : (notT n t).Avoid b := by
  rw [notT, Ft.Avoid, Ft.Avoids, Ft.Avoids]
  exact ⟨fun k hk => by cases hk; exact hn, h, trivial⟩

def SomeNumFm (w : World) (e : Ending) (w' : World) : Prop :=
  ∃ (n : Int) (t : Ft), e = .returned (.tuple #[.int .i64 n, t.val]) ∧ (2 ≤ n ∧ n ≤ 3) ∧ t.er.size ≤ 64 ∧ Solid w' t ∧ Below w.heap.size w w'
theorem num_end {w W : World} {r lo hi : Nat} {t : Ft} (hB : Below w.heap.size w W) (hr : r = w.heap.size) (hm : t.Mine W lo hi) (hl : r < lo) (hs : t.er.size ≤ 64) (u0 u1 u2 u3 u4 : Value) :
    Solid (((((W.setCell ⟨r, 0, none⟩ u0).setCell ⟨r, 1, none⟩ u1).setCell ⟨r, 2, none⟩ u2).setCell ⟨r, 3, none⟩ u3).setCell ⟨r, 4, none⟩ u4) t ∧ Below w.heap.size w (((((W.setCell ⟨r, 0, none⟩ u0).setCell ⟨r, 1, none⟩ u1).setCell ⟨r, 2, none⟩ u2).setCell ⟨r, 3, none⟩ u3).setCell ⟨r, 4, none⟩ u4) := by
  have hTT := ((((turn_set W r 0 u0).trans (turn_set _ r 1 u1)).trans (turn_set _ r 2 u2)).trans (turn_set _ r 3 u3)).trans (turn_set _ r 4 u4)
  have hh := Ft.Mine.turn hTT t hm (.inl (by omega))
  have hlw := ((Ft.mine_iff t).1 hh).1.1
  exact ⟨hh.solid hlw (by omega), Turn.below hB hTT (by omega) hB.size⟩
set_option maxRecDepth 100000 in
set_option maxHeartbeats 3200000 in
theorem drawIsFm (a : Option Addr) (n cap : Nat) (w : World) (hn : n ≤ 1099511627776) (hcode : Code8 w w.heap.size n a) : Calls Try.prog 6 #[.slice a n cap] w (SomeNumFm w) := by
  have hb0 := (Below.refl w.heap.size w).alloc (Nat.le_refl _) (.cells #[.int .i64 0, .int .i64 0, .int .i64 0, .int .i64 0, .slice none 0 0] 26)
  have bn0 := BoxL.new w zeroCells 26
  obtain ⟨W0, hW0⟩ : ∃ W, w.alloc (.cells #[.int .i64 0, .int .i64 0, .int .i64 0, .int .i64 0, .slice none 0 0] 26) = W := ⟨_, rfl⟩
  have bn0 : BoxL W0 w.heap.size zeroCells := by rw [← hW0]; exact bn0
  rw [hW0] at hb0
  have HW0 := Lib.hid hW0
  have hs0 := bn0.lt
  clear hW0
  go_enter Try.func6, Try.ntmps6
  go_wp2_with fail
  rw [HW0.out]
  refine (drawNew a n cap _ hn ((hcode.keeps fun p hp => hb0.cell hp).grow hb0.size)).mono ?_
  rintro e w1 ⟨g, rfl, hg, hc1, hb1⟩
  have bn1 := bn0.below hb1
  have hB1 := hb0.trans (hb1.mono hb0.size)
  have hz1 := hb1.size
  clear bn0 HW0
  go_wp2_with fail
  refine (drawBentTree g _ hc1).mono ?_
  rintro e w2 ⟨t, rfl, hts, hdg, htm⟩
  have hw2 := hdg.grown.size
  have hg1 := hc1.lt
  have bn2 := bn1.turn (turn_drawn hdg.grown) (.inl (by omega))
  obtain ⟨W3, hW3⟩ : ∃ W, w2.alloc (.cells #[.int .i64 t.kd, .int .i64 t.k, .int .i64 t.u, .int .i64 t.v, .slice t.a t.args.length t.cap] 26) = W := ⟨_, rfl⟩
  have hb3 : Below w2.heap.size w2 W3 := by rw [← hW3]; exact (Below.refl _ _).alloc (Nat.le_refl _) _
  have bx3 : BoxL W3 w2.heap.size t.cells := by rw [← hW3]; exact BoxL.new w2 t.cells _
  have D3 := hdg.below hb3
  have bn3 := bn2.below hb3
  have M3 := htm.below hb3
  have hs3 := bx3.lt
  have HW3 := Lib.hid hW3
  clear hW3 bn1 bn2 hdg htm hc1 hb3
  go_wp2_with fail
  rw [HW3.out]
  refine (drawOnce g 8 _ (by omega) (by omega) D3.cur).mono ?_
  rintro e w4 ⟨fl, rfl, hc4, hw4⟩
  have D4 := D3.draw hc4 hw4
  have bn4 := bn3.turn (turn_drawn hw4) (.inl (by omega))
  have bx4 := bx3.turn (turn_drawn hw4) (.inr (by omega))
  have M4 := Ft.Mine.turn (turn_drawn hw4) t M3 (.inl (by omega))
  have hz4 := hw4.size
  have hB1' := Lib.hid hB1
  clear D3 bn3 bx3 M3 hc4 hw4 HW3 hB1
  generalize w2.heap.size = b at *
  cases fl with
  | false =>
    have hts : t.er.size ≤ 64 := by omega
    have hal := ((Below.refl w4.heap.size w4).alloc (Nat.le_refl _) (.cells (intVals [3, 3, 2]).toArray 3)).drew
    have bes := beside_ints w4 [3, 3, 2] 3 D4.cur.lt
    have DD := Lib.hid (D4.below hal)
    have BN := Lib.hid (bn4.below hal)
    have BX := Lib.hid (bx4.below hal)
    have MM := Lib.hid (M4.below hal)
    have HTS := Lib.hid hts
    have BES := Lib.hid (show Beside (w4.alloc (.cells (intVals [3, 3, 2]).toArray 3)).drew g (some ⟨w4.heap.size, 0, none⟩) (intVals [3, 3, 2]) from bes)
    have x0 : ((w4.alloc (.cells #[.int .i64 3, .int .i64 3, .int .i64 2] 3)).drew).cell? ⟨b, 0, none⟩ = some (.int .i64 t.kd) := BX.out.c 0 _ rfl
    have z0 := bx4.c 0 _ rfl
    have x1 : ((w4.alloc (.cells #[.int .i64 3, .int .i64 3, .int .i64 2] 3)).drew).cell? ⟨b, 1, none⟩ = some (.int .i64 t.k) := BX.out.c 1 _ rfl
    have z1 := bx4.c 1 _ rfl
    have x2 : ((w4.alloc (.cells #[.int .i64 3, .int .i64 3, .int .i64 2] 3)).drew).cell? ⟨b, 2, none⟩ = some (.int .i64 t.u) := BX.out.c 2 _ rfl
    have z2 := bx4.c 2 _ rfl
    have x3 : ((w4.alloc (.cells #[.int .i64 3, .int .i64 3, .int .i64 2] 3)).drew).cell? ⟨b, 3, none⟩ = some (.int .i64 t.v) := BX.out.c 3 _ rfl
    have z3 := bx4.c 3 _ rfl
    have x4 : ((w4.alloc (.cells #[.int .i64 3, .int .i64 3, .int .i64 2] 3)).drew).cell? ⟨b, 4, none⟩ = some (.slice t.a t.args.length t.cap) := BX.out.c 4 _ rfl
    have z4 := bx4.c 4 _ rfl
    have hww := D4.grown.size
    have zl := bx4.lt
    clear D4 bn4 bx4 M4 hts bes hal
    go_wp2_with fail
    go_region_law
      (first
        | (go_simp; go_at_call 32; (refine (drawPickInt g 3 (some (⟨w4.heap.size, 0, none⟩ : Addr)) [3, 3, 2] _ (by decide) (by decide) DD.out.cur BES.out).mono ?_); rintro e w7 ⟨z, hz, rfl, hc7, hw7⟩; have D7 := DD.out.draw hc7 hw7; have bn7 := BN.out.turn (turn_drawn hw7) (.inl (by omega)); have bx7 := BX.out.turn (turn_drawn hw7) (.inr (by omega)); have M7 := Ft.Mine.turn (turn_drawn hw7) t MM.out (.inl (by omega)); have y0 := bx7.c 0 _ rfl; have y1 := bx7.c 1 _ rfl; have y2 := bx7.c 2 _ rfl; have y3 := bx7.c 3 _ rfl; have y4 := bx7.c 4 _ rfl; have n0 := bn7.c 0 _ rfl; have n1 := bn7.c 1 _ rfl; have n2 := bn7.c 2 _ rfl; have n3 := bn7.c 3 _ rfl; have n4 := bn7.c 4 _ rfl; have nf := bn7.f; have nl := bn7.lt))
    all_goals
      obtain ⟨z, rfl, hz23⟩ : ∃ m : Int, z = .int .i64 m ∧ 2 ≤ m ∧ m ≤ 3 := by
        simp [intVals] at hz
        rcases hz with rfl | rfl <;> exact ⟨_, rfl, by omega, by omega⟩
      have HE := Lib.hid (num_end (bentBelow hB1'.out D7 (by omega)) rfl M7 (by omega) HTS.out (.int .i64 t.kd) (.int .i64 t.k) (.int .i64 t.u) (.int .i64 t.v) (.slice t.a t.args.length t.cap))
      clear D7 bn7 bx7 M7 y0 y1 y2 y3 y4
      go_wp2_with fail
      exact bodyPost_ret (v := .tuple #[.int .i64 z, t.val]) (by simp [results, Try.results6, go_sem, n0, n1, n2, n3, n4]) rfl ⟨z, t, rfl, hz23, HTS.out, HE.out⟩
  | true =>
    go_wp2_with fail
    refine (drawBelow g 4 _ (by omega) (by omega) D4.cur).mono ?_
    rintro e w5 ⟨y, hy, rfl, hc5, hw5⟩
    have D5 := D4.draw hc5 hw5
    have bn5 := bn4.turn (turn_drawn hw5) (.inl (by omega))
    have bx5 := bx4.turn (turn_drawn hw5) (.inr (by omega))
    have M5 := Ft.Mine.turn (turn_drawn hw5) t M4 (.inl (by omega))
    have hz5 := hw5.size
    have hmm : (9 : Int) + (y : Int) = ((9 + y : Nat) : Int) := by omega
    obtain ⟨m, hm⟩ : ∃ m, 9 + y = m := ⟨_, rfl⟩
    rw [hm] at hmm
    have HMM := Lib.hid hmm
    have hmm2 : m ≤ 12 := by omega
    have A5 := Ft.Mine.avoid (b := b) t M5 (.inr (Nat.le_refl _))
    have M5' := Ft.Mine.grow t M5 (Nat.le_refl _) (show b ≤ w5.heap.size by omega) (Nat.le_refl _)
    clear D4 bn4 bx4 M4 M5 hc5 hw5 hmm
    go_wp2_with fail
    rw [HMM.out]
    go_loopw [7] (fun i wr => ∃ (j : Nat) (s : Ft), j ≤ m ∧ i = .int .i64 j ∧ s.er.size ≤ 32 + j ∧ Dg w1 g wr ∧ BoxL wr w.heap.size zeroCells ∧ BoxL wr b s.cells ∧ s.Mine wr w1.heap.size wr.heap.size ∧ s.Avoid b) (fun i _ => m - (intOf i).toNat)
    case atStart => exact ⟨0, t, Nat.zero_le _, rfl, hts, D5, bn5, bx5, M5', A5⟩
    case round =>
      clear D5 bn5 bx5 M5' A5 hz5 hz4 hs3
      obtain ⟨j, s, hj, rfl, hss, D, bn, bx, M, A⟩ := hrel
      have hbw := bx.lt
      have q0 := bx.c 0 _ rfl
      have q1 := bx.c 1 _ rfl
      have q2 := bx.c 2 _ rfl
      have q3 := bx.c 3 _ rfl
      have q4 := bx.c 4 _ rfl
      have qf := bx.f
      have hwr := D.grown.size
      by_cases hlt : j < m
      · have hTT := ((((turn_set wr b 0 (.int .i64 8)).trans (turn_set _ b 1 (.int .i64 0))).trans (turn_set _ b 2 (.int .i64 0))).trans (turn_set _ b 3 (.int .i64 0))).trans (turn_set _ b 4 (.slice (some ⟨wr.heap.size, 0, none⟩) 1 1))
        have bx' := ((((bx.set 0 (.int .i64 8)).set 1 (.int .i64 0)).set 2 (.int .i64 0)).set 3 (.int .i64 0)).set 4 (.slice (some ⟨wr.heap.size, 0, none⟩) 1 1)
        have D' := D.turn hTT (by omega)
        have bn' := bn.turn hTT (.inl (by omega))
        have M' := Ft.Mine.apart hTT s M A
        have hVs : (((((wr.setCell ⟨b, 0, none⟩ (.int .i64 8)).setCell ⟨b, 1, none⟩ (.int .i64 0)).setCell ⟨b, 2, none⟩ (.int .i64 0)).setCell ⟨b, 3, none⟩ (.int .i64 0)).setCell ⟨b, 4, none⟩ (.slice (some ⟨wr.heap.size, 0, none⟩) 1 1)).heap.size = wr.heap.size := by simp
        have A' := notT_avoid (n := wr.heap.size) A (by omega)
        generalize hVV : ((((wr.setCell ⟨b, 0, none⟩ (.int .i64 8)).setCell ⟨b, 1, none⟩ (.int .i64 0)).setCell ⟨b, 2, none⟩ (.int .i64 0)).setCell ⟨b, 3, none⟩ (.int .i64 0)).setCell ⟨b, 4, none⟩ (.slice (some ⟨wr.heap.size, 0, none⟩) 1 1) = V at *
        have hal := (Below.refl V.heap.size V).alloc (Nat.le_refl _) (.cells s.cells.toArray 26)
        have N' := notT_mine M' (show wr.heap.size ≤ V.heap.size by omega)
        rw [hVs] at N'
        have hs' : (notT wr.heap.size s).er.size ≤ 32 + (j + 1) := by rw [notT_size]; omega
        have hVa : (V.alloc (.cells s.cells.toArray 26)).heap.size = wr.heap.size + 1 := by simp [hVs]
        have KK := Lib.hid (And.intro hs' (And.intro (D'.below hal) (And.intro (bn'.below hal) (And.intro (bx'.below hal) (And.intro N' A')))))
        have HVV := Lib.hid hVV
        have HVA := Lib.hid hVa
        clear hs' D' bn' bx' N' A' M' hTT hal D bn bx M A hss hVV hVs hVa
        go_wp2_with fail
        go_roundw
        case rel =>
          have e1 := HVV.out
          refine ⟨j + 1, notT wr.heap.size s, by omega, by go_num, KK.out.1, ?_⟩
          rw [e1]
          have h := KK.out.2
          refine ⟨h.1, h.2.1, h.2.2.1, ?_, h.2.2.2.2⟩
          have e2 : (V.alloc (.cells #[.int .i64 s.kd, .int .i64 s.k, .int .i64 s.u, .int .i64 s.v, .slice s.a s.args.length s.cap] 26)).heap.size = wr.heap.size + 1 := HVA.out
          rw [e2]
          exact h.2.2.2.1
        case measure => simp [intOf]; omega
      · obtain rfl : j = m := by omega
        have hts : s.er.size ≤ 64 := by omega
        clear hss hlt q0 q1 q2 q3 q4 qf
        have hal := ((Below.refl wr.heap.size wr).alloc (Nat.le_refl _) (.cells (intVals [3, 3, 2]).toArray 3)).drew
        have bes := beside_ints wr [3, 3, 2] 3 D.cur.lt
        have DD := Lib.hid (D.below hal)
        have BN := Lib.hid (bn.below hal)
        have BX := Lib.hid (bx.below hal)
        have MM := Lib.hid (M.below hal)
        have HTS := Lib.hid hts
        have BES := Lib.hid (show Beside (wr.alloc (.cells (intVals [3, 3, 2]).toArray 3)).drew g (some ⟨wr.heap.size, 0, none⟩) (intVals [3, 3, 2]) from bes)
        have x0 : ((wr.alloc (.cells #[.int .i64 3, .int .i64 3, .int .i64 2] 3)).drew).cell? ⟨b, 0, none⟩ = some (.int .i64 s.kd) := BX.out.c 0 _ rfl
        have z0 := bx.c 0 _ rfl
        have x1 : ((wr.alloc (.cells #[.int .i64 3, .int .i64 3, .int .i64 2] 3)).drew).cell? ⟨b, 1, none⟩ = some (.int .i64 s.k) := BX.out.c 1 _ rfl
        have z1 := bx.c 1 _ rfl
        have x2 : ((wr.alloc (.cells #[.int .i64 3, .int .i64 3, .int .i64 2] 3)).drew).cell? ⟨b, 2, none⟩ = some (.int .i64 s.u) := BX.out.c 2 _ rfl
        have z2 := bx.c 2 _ rfl
        have x3 : ((wr.alloc (.cells #[.int .i64 3, .int .i64 3, .int .i64 2] 3)).drew).cell? ⟨b, 3, none⟩ = some (.int .i64 s.v) := BX.out.c 3 _ rfl
        have z3 := bx.c 3 _ rfl
        have x4 : ((wr.alloc (.cells #[.int .i64 3, .int .i64 3, .int .i64 2] 3)).drew).cell? ⟨b, 4, none⟩ = some (.slice s.a s.args.length s.cap) := BX.out.c 4 _ rfl
        have z4 := bx.c 4 _ rfl
        have hww := D.grown.size
        have zl := bx.lt
        clear D bn bx M hts bes hal
        go_wp2_with fail
        go_region_law
          (first
            | (go_simp; go_at_call 32; (refine (drawPickInt g 3 (some (⟨wr.heap.size, 0, none⟩ : Addr)) [3, 3, 2] _ (by decide) (by decide) DD.out.cur BES.out).mono ?_); rintro e w7 ⟨z, hz, rfl, hc7, hw7⟩; have D7 := DD.out.draw hc7 hw7; have bn7 := BN.out.turn (turn_drawn hw7) (.inl (by omega)); have bx7 := BX.out.turn (turn_drawn hw7) (.inr (by omega)); have M7 := Ft.Mine.turn (turn_drawn hw7) s MM.out (.inl (by omega)); have y0 := bx7.c 0 _ rfl; have y1 := bx7.c 1 _ rfl; have y2 := bx7.c 2 _ rfl; have y3 := bx7.c 3 _ rfl; have y4 := bx7.c 4 _ rfl; have n0 := bn7.c 0 _ rfl; have n1 := bn7.c 1 _ rfl; have n2 := bn7.c 2 _ rfl; have n3 := bn7.c 3 _ rfl; have n4 := bn7.c 4 _ rfl; have nf := bn7.f; have nl := bn7.lt))
        all_goals
          obtain ⟨z, rfl, hz23⟩ : ∃ m : Int, z = .int .i64 m ∧ 2 ≤ m ∧ m ≤ 3 := by
            simp [intVals] at hz
            rcases hz with rfl | rfl <;> exact ⟨_, rfl, by omega, by omega⟩
          have HE := Lib.hid (num_end (bentBelow hB1'.out D7 (by omega)) rfl M7 (by omega) HTS.out (.int .i64 s.kd) (.int .i64 s.k) (.int .i64 s.u) (.int .i64 s.v) (.slice s.a s.args.length s.cap))
          clear D7 bn7 bx7 M7 y0 y1 y2 y3 y4
          go_wp2_with fail
          exact bodyPost_ret (v := .tuple #[.int .i64 z, s.val]) (by simp [results, Try.results6, go_sem, n0, n1, n2, n3, n4]) rfl ⟨z, s, rfl, hz23, HTS.out, HE.out⟩
end Go.Proofs.Ythhhmlohfhioeaa
