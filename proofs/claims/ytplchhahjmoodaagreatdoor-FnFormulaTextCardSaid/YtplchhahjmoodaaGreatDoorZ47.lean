/-
  Several texts of one proof in one file, in the order in which they build.
-/
import Derived.Test.YtplchhahjmoodaaGreatDoorZ46
import Derived.Test.YtplchhahjmoodaaGreatDoorZ36
/-
  What ParseFormula answers: the formula whose text it was, or none.
-/
namespace Go.Proofs.YtplchhahjmoodaaGreatDoor
open Go Go.RowKit Go.ChangeAt Go.ChangeShapes Go.WideShapes

theorem stepP_size {ss : List ByteArray} {F : RdS → Fm × RdS} {N : Nat} (hF : ∀ r, (F r).1.size + 1 ≤ N) (hN : 2 ≤ N) (r : RdS) : (stepP ss F r).1.size + 1 ≤ 2 * N := by
  have l1 : ∀ kd k u v, (Fm.mk kd k u v []).size = 1 := fun _ _ _ _ => rfl
  have l2 : ∀ kd k u v a, (Fm.mk kd k u v [a]).size = a.size + 1 := fun _ _ _ _ _ => rfl
  have l3 : ∀ kd k u v a b, (Fm.mk kd k u v [a, b]).size = a.size + b.size + 1 := fun _ _ _ _ _ _ => rfl
  unfold stepP
  have one : ∀ q : Fm × RdS, q.1.size = 1 → q.1.size + 1 ≤ 2 * N := fun q h => by omega
  by_cases h : r.2 = true
  · rw [if_pos h]; exact one _ rfl
  rw [if_neg h]
  by_cases h0 : (takeP [116, 114, 117, 101] r).1 = true
  · rw [if_pos h0]
    exact one _ rfl
  rw [if_neg h0]
  by_cases h1 : (takeP [111, 110, 32] r).1 = true
  · rw [if_pos h1]
    exact one _ rfl
  rw [if_neg h1]
  by_cases h2 : (takeP [102, 114, 111, 109, 32] r).1 = true
  · rw [if_pos h2]
    exact one _ rfl
  rw [if_neg h2]
  by_cases h3 : (takeP [115, 104, 97, 114, 101, 100, 58] r).1 = true
  · rw [if_pos h3]
    exact one _ rfl
  rw [if_neg h3]
  by_cases h4 : (takeP [110, 101, 120, 116, 58] r).1 = true
  · rw [if_pos h4]
    exact one _ rfl
  rw [if_neg h4]
  by_cases h5 : (takeP [115, 97, 109, 101, 58] r).1 = true
  · rw [if_pos h5]
    exact one _ rfl
  rw [if_neg h5]
  by_cases h6 : (takeP [112, 97, 116, 104, 58] r).1 = true
  · rw [if_pos h6]
    exact one _ rfl
  rw [if_neg h6]
  by_cases h7 : (takeP [33] r).1 = true
  · rw [if_pos h7]
    have := hF (takeP [33] r).2
    exact Nat.le_trans (Nat.add_le_add_right (Nat.le_of_eq (l2 _ _ _ _ _)) 1) (by omega)
  rw [if_neg h7]
  by_cases h8 : (takeP [115, 111, 109, 101, 32] r).1 = true
  · rw [if_pos h8]
    have := hF (mustP [46] (varP (takeP [115, 111, 109, 101, 32] r).2).2)
    exact Nat.le_trans (Nat.add_le_add_right (Nat.le_of_eq (l2 _ _ _ _ _)) 1) (by omega)
  rw [if_neg h8]
  by_cases h9 : (takeP [97, 108, 108, 32] r).1 = true
  · rw [if_pos h9]
    have := hF (mustP [46] (varP (takeP [97, 108, 108, 32] r).2).2)
    exact Nat.le_trans (Nat.add_le_add_right (Nat.le_of_eq (l2 _ _ _ _ _)) 1) (by omega)
  rw [if_neg h9]
  by_cases hm : (mustP [40] r).2 = true
  · rw [if_pos hm]; exact one _ rfl
  rw [if_neg hm]
  obtain ⟨a, r1, h1⟩ : ∃ a r1, F (mustP [40] r) = (a, r1) := ⟨_, _, rfl⟩
  have ha := hF (mustP [40] r)
  rw [h1] at ha
  simp only at ha
  obtain ⟨kd, h2⟩ : ∃ kd, (if (takeP [38] r1).1 = true then (9 : Int) else 10) = kd := ⟨_, rfl⟩
  obtain ⟨r2, h3⟩ : ∃ r2, (if (takeP [38] r1).1 = true then (takeP [38] r1).2 else mustP [124] r1) = r2 := ⟨_, rfl⟩
  cases h4 : r2.2 with
  | true =>
    rw [two_bad h1 h2 h3 h4]
    simp only [l1]
    omega
  | false =>
    obtain ⟨c, r4, h5⟩ : ∃ c r4, F r2 = (c, r4) := ⟨_, _, rfl⟩
    have hc := hF r2
    rw [h5] at hc
    rw [two_ok h1 h2 h3 h4 h5]
    simp only [l3]
    simp only at hc
    omega
theorem allP_size (ss : List ByteArray) : ∀ (n : Nat) (r : RdS), (allP ss n r).1.size + 1 ≤ 2 ^ (n + 1)
  | 0, r => Nat.le_refl 2
  | n + 1, r => by
    rw [allP_succ, Nat.pow_succ, Nat.mul_comm]
    exact stepP_size (allP_size ss n) (by have := Nat.one_le_two_pow (n := n); rw [Nat.pow_succ]; omega) r
/-- What ParseFormula answers. -/
def Parsed (ss : List ByteArray) (s : ByteArray) (f : Fm) (ok : Bool) : Prop := (ok = true ∧ s ≠ ⟨#[]⟩ ∧ fmText ss f = s) ∨ (ok = false ∧ f = zeroF ∧ (s = ⟨#[]⟩ ∨ ∀ t, fmText ss t ≠ s))
theorem fm_right {ss : List ByteArray} {s : ByteArray} {t : Fm} (h : s ≠ ⟨#[]⟩) (ht : fmText ss t = s) : allP ss 12 (s.data.toList, false) = (t, ([], false)) := by
  unfold fmText at ht
  by_cases hg : goodVars ss = true ∧ isFmB ss.length t = true
  · rw [if_pos hg] at ht
    have hf := form_parts hg.2
    have hd : t.depth ≤ 12 := by
      have := hg.2
      unfold isFmB at this
      simp only [Bool.and_eq_true, decide_eq_true_eq] at this
      exact this.2.1
    have := all_text hg.1 t hf.1 12 [] hd
    rw [List.append_nil, ← text_list, ht] at this
    exact this
  · rw [if_neg hg] at ht
    exact (h ht.symm).elim
theorem Parsed.one {ss : List ByteArray} {s : ByteArray} {f g : Fm} {a b : Bool} (h : Parsed ss s f a) (k : Parsed ss s g b) : f = g ∧ a = b := by
  rcases h with ⟨rfl, h1, h2⟩ | ⟨rfl, rfl, h1⟩
  · rcases k with ⟨rfl, k1, k2⟩ | ⟨rfl, rfl, k1⟩
    · have e := (fm_right h1 h2).symm.trans (fm_right k1 k2)
      exact ⟨congrArg Prod.fst e, rfl⟩
    · rcases k1 with k1 | k1
      · exact (h1 k1).elim
      · exact (k1 _ h2).elim
  · rcases k with ⟨rfl, k1, k2⟩ | ⟨rfl, rfl, k1⟩
    · rcases h1 with h1 | h1
      · exact (k1 h1).elim
      · exact (h1 _ k2).elim
    · exact ⟨rfl, rfl⟩
end Go.Proofs.YtplchhahjmoodaaGreatDoor
/-
  The model's ParseFormula: its answer is the formula whose text it was, or none.
-/
namespace Go.Proofs.YtplchhahjmoodaaGreatDoor
open Go Go.RowKit Go.ChangeAt Go.ChangeShapes Go.WideShapes

set_option maxRecDepth 10000 in
theorem specAll12 (R : Nat) (va : Option Addr) (vca : Nat) (ss : List ByteArray) (s : ByteArray) (hs : s.size ≤ 1099511627776) (hl : ss.length ≤ maxLen) (P : Fm × RdS) (N : Nat) (hN : N = 12) (hP : allP ss N (rdS s 0 false) = P) (W : World) (h : RdAt W R va vca ss.length s 0 false) (hrow : Row W R va (strVals ss)) :
    Calls Tryz.prog 42 #[.pointer (some ⟨R, 0, none⟩), .int .i64 1] W (ReadEnd R va vca ss.length s P W) := by
  have h := specAll R va vca ss s hs hl N (by omega) 0 false W h hrow
  rw [hP, show (13 : Int) - (N : Int) = 1 by omega] at h
  exact h
/-- It answered so, with a formula that it made. -/
def ParseEnd (ss : List ByteArray) (s : ByteArray) (w : World) (e : Ending) (w' : World) : Prop := ∃ (t : Ft) (ok : Bool), e = .returned (.tuple #[t.val, .bool ok]) ∧ Parsed ss s t.er ok ∧ t.Mine w' w.heap.size w'.heap.size ∧ Below w.heap.size w w'
theorem zero_end {ss : List ByteArray} {s : ByteArray} {w V : World} (hb : Below w.heap.size w V) (hp : s = ⟨#[]⟩ ∨ ∀ t, fmText ss t ≠ s) : ParseEnd ss s w (.returned (.tuple #[Ft.val (.mk 0 0 0 0 none 0 []), .bool false])) V :=
  ⟨.mk 0 0 0 0 none 0 [], false, rfl, .inr ⟨rfl, rfl, hp⟩, Ft.mine_leaf _ _ _ _ hb.size (Nat.le_refl _), hb⟩
theorem zero_sets {w V : World} (hb : Below w.heap.size w V) : Below w.heap.size w (((((V.setCell ⟨w.heap.size, 0, none⟩ (.int .i64 0)).setCell ⟨w.heap.size, 1, none⟩ (.int .i64 0)).setCell ⟨w.heap.size, 2, none⟩ (.int .i64 0)).setCell ⟨w.heap.size, 3, none⟩ (.int .i64 0)).setCell ⟨w.heap.size, 4, none⟩ (.slice none 0 0)) := ((((hb.setCell (Nat.le_refl _) _).setCell (Nat.le_refl _) _).setCell (Nat.le_refl _) _).setCell (Nat.le_refl _) _).setCell (Nat.le_refl _) _
theorem full_end {ss : List ByteArray} {s : ByteArray} {w V : World} {t : Ft} {lo hi : Nat} (hb : Below w.heap.size w V) (hlo : w.heap.size + 1 ≤ lo) (hhi : hi ≤ V.heap.size) (M : t.Mine V lo hi) (h1 : s ≠ ⟨#[]⟩) (h2 : fmText ss t.er = s) : ParseEnd ss s w (.returned (.tuple #[t.val, .bool true])) (((((V.setCell ⟨w.heap.size, 0, none⟩ (.int .i64 t.kd)).setCell ⟨w.heap.size, 1, none⟩ (.int .i64 t.k)).setCell ⟨w.heap.size, 2, none⟩ (.int .i64 t.u)).setCell ⟨w.heap.size, 3, none⟩ (.int .i64 t.v)).setCell ⟨w.heap.size, 4, none⟩ (.slice t.a t.args.length t.cap)) := by
  have hTT := ((((turn_set V w.heap.size 0 (.int .i64 t.kd)).trans (turn_set _ w.heap.size 1 (.int .i64 t.k))).trans (turn_set _ w.heap.size 2 (.int .i64 t.u))).trans (turn_set _ w.heap.size 3 (.int .i64 t.v))).trans (turn_set _ w.heap.size 4 (.slice t.a t.args.length t.cap))
  have ME := Ft.Mine.turn hTT _ M (.inl (by omega))
  have hzz : (((((V.setCell ⟨w.heap.size, 0, none⟩ (.int .i64 t.kd)).setCell ⟨w.heap.size, 1, none⟩ (.int .i64 t.k)).setCell ⟨w.heap.size, 2, none⟩ (.int .i64 t.u)).setCell ⟨w.heap.size, 3, none⟩ (.int .i64 t.v)).setCell ⟨w.heap.size, 4, none⟩ (.slice t.a t.args.length t.cap)).heap.size = V.heap.size := by simp
  exact ⟨t, true, rfl, .inl ⟨rfl, h1, h2⟩, Ft.Mine.grow _ ME (by omega) (by rw [hzz]; exact hhi) (Nat.le_refl _), ((((hb.setCell (Nat.le_refl _) _).setCell (Nat.le_refl _) _).setCell (Nat.le_refl _) _).setCell (Nat.le_refl _) _).setCell (Nat.le_refl _) _⟩
set_option maxRecDepth 100000 in
set_option maxHeartbeats 6400000 in
theorem specParseF (ss : List ByteArray) (va : Option Addr) (vca : Nat) (s : ByteArray) (w : World) (hs : s.size ≤ 1099511627776) (hl : ss.length ≤ maxLen) (hz : ∀ s ∈ ss, s.size ≤ maxLen) (hrow : Row w w.heap.size va (strVals ss)) :
    Calls Tryz.prog 12 #[.slice va ss.length vca, .string s] w (ParseEnd ss s w) := by
  obtain ⟨W0, hW0⟩ : ∃ V, (w.alloc (.cells #[.int .i64 0, .int .i64 0, .int .i64 0, .int .i64 0, .slice none 0 0] 27)).alloc (.cells #[.slice va ss.length vca, .string s, .int .i64 0, .bool false] 72) = V := ⟨_, rfl⟩
  obtain ⟨hb0, X0, X1⟩ : Below w.heap.size w W0 ∧ BoxL W0 w.heap.size zero5 ∧ BoxL W0 (w.heap.size + 1) [.slice va ss.length vca, .string s, .int .i64 0, .bool false] := by
    obtain ⟨V, e, h⟩ := two_boxL w zero5 [.slice va ss.length vca, .string s, .int .i64 0, .bool false] 27 72
    have : V = W0 := by rw [← e, ← hW0]; rfl
    exact this ▸ h
  have hr0 : RdAt W0 (w.heap.size + 1) va vca ss.length s 0 false := ⟨X1, Nat.zero_le _⟩
  have hrw := (hrow.below hb0).grow (Nat.le_succ w.heap.size)
  have hsz0 : W0.heap.size = w.heap.size + 2 := by rw [← hW0]; simp
  have HRW := Lib.hid (hrow)
  have HB0 := Lib.hid hb0
  have HW0 := Lib.hid hW0
  clear hW0 hrow hb0
  go_enter Tryz.func12, Tryz.ntmps12
  go_wp2_with fail
  rw [HW0.out]
  obtain ⟨N, hN⟩ : ∃ N : Nat, N = 12 := ⟨12, rfl⟩
  obtain ⟨P, hP⟩ : ∃ P, allP ss N (rdS s 0 false) = P := ⟨_, rfl⟩
  refine (specAll12 (w.heap.size + 1) va vca ss s hs hl P N hN hP W0 hr0 hrw).mono ?_
  rintro e w3 ⟨t, rfl, hte, htm, s3⟩
  have ht3 := s3.turn
  obtain ⟨k, b, e3, h3, _⟩ := s3
  have X3 := X0.turn ht3 (.inl (Nat.lt_succ_self _))
  have hb3 := Turn.below HB0.out ht3 (Nat.le_succ _) (by omega)
  have hz3 := ht3.size
  have hsm : t.er.size ≤ 1099511627776 := by
    have := allP_size ss 12 (rdS s 0 false)
    rw [← hN, hP, ← hte, hN] at this
    omega
  have hright : ∀ f, s ≠ ⟨#[]⟩ → fmText ss f = s → P = (f, ([], false)) := fun f h1 h2 => by
    have := fm_right h1 h2
    rw [← hP, hN]
    exact this
  have HRT := Lib.hid hright
  have HE3 := Lib.hid e3
  clear hP hright e3
  have d3 := h3.box.c 3 _ rfl
  have d2 := h3.box.c 2 _ rfl
  have df := h3.box.f
  have dl := h3.box.lt
  have x0 := X3.c 0 _ rfl
  have x1 := X3.c 1 _ rfl
  have x2 := X3.c 2 _ rfl
  have x3 := X3.c 3 _ rfl
  have x4 := X3.c 4 _ rfl
  have xf := X3.f
  have xl := X3.lt
  have xne : ¬ w.heap.size = w3.heap.size := by omega
  have hk := h3.le
  cases b with
  | true =>
    by_cases hse : s = ⟨#[]⟩
    · have HEND := Lib.hid (zero_end (ss := ss) (s := s) ((zero_sets hb3).alloc (by simp; omega) (.cells #[.int .i64 t.kd, .int .i64 t.k, .int .i64 t.u, .int .i64 t.v, .slice t.a t.args.length t.cap] 27)) (.inl hse))
      clear h3 hb3 X3
      go_wp2_with fail
      exact bodyPost_ret (v := .tuple #[.agg #[.int .i64 0, .int .i64 0, .int .i64 0, .int .i64 0, .slice none 0 0], .bool false]) (by simp [results, Tryz.results12, go_sem, x0, x1, x2, x3, x4, xl]) rfl HEND.out
    have HEND := Lib.hid (zero_end (ss := ss) (s := s) ((zero_sets hb3).alloc (by simp; omega) (.cells #[.int .i64 t.kd, .int .i64 t.k, .int .i64 t.u, .int .i64 t.v, .slice t.a t.args.length t.cap] 27)) (.inr fun f hf => by have h1 := congrArg (fun q => q.2.2) (HRT.out f hse hf); have h2 := congrArg Prod.snd HE3.out; cases h1.symm.trans h2))
    clear h3 hb3 X3
    go_wp2_with fail
    exact bodyPost_ret (v := .tuple #[.agg #[.int .i64 0, .int .i64 0, .int .i64 0, .int .i64 0, .slice none 0 0], .bool false]) (by simp [results, Tryz.results12, go_sem, x0, x1, x2, x3, x4, xl]) rfl HEND.out
  | false =>
    by_cases hks : k = s.size
    · subst hks
      by_cases hse : s = ⟨#[]⟩
      · have HEND := Lib.hid (zero_end (ss := ss) (s := s) ((zero_sets hb3).alloc (by simp; omega) (.cells #[.int .i64 t.kd, .int .i64 t.k, .int .i64 t.u, .int .i64 t.v, .slice t.a t.args.length t.cap] 27)) (.inl hse))
        clear h3 hb3 X3
        go_wp2_with fail
        exact bodyPost_ret (v := .tuple #[.agg #[.int .i64 0, .int .i64 0, .int .i64 0, .int .i64 0, .slice none 0 0], .bool false]) (by simp [results, Tryz.results12, go_sem, x0, x1, x2, x3, x4, xl]) rfl HEND.out
      have hal := (Below.refl w3.heap.size w3).alloc (Nat.le_refl _) (.cells #[.int .i64 t.kd, .int .i64 t.k, .int .i64 t.u, .int .i64 t.v, .slice t.a t.args.length t.cap] 27)
      have bx := BoxL.new w3 t.cells 27
      obtain ⟨W4, hW4⟩ : ∃ V, w3.alloc (.cells #[.int .i64 t.kd, .int .i64 t.k, .int .i64 t.u, .int .i64 t.v, .slice t.a t.args.length t.cap] 27) = V := ⟨_, rfl⟩
      have bx4 : BoxL W4 w3.heap.size t.cells := by rw [← hW4]; exact bx
      rw [hW4] at hal
      have h4 := h3.below hal
      have X4 := X3.below hal
      have M4 := Ft.Mine.below htm hal
      have hb4 := hb3.trans (hal.mono (by omega))
      have hz4 := hal.size
      have HR4 := Lib.hid ((HRW.out.below hb4).grow hb4.size)
      have BB := Lib.hid (show Below w.heap.size w W4 ∧ w.heap.size < W4.heap.size from ⟨hb4, by omega⟩)
      have HX4 := Lib.hid (And.intro X4 (And.intro bx4 M4))
      have HW4 := Lib.hid hW4
      have hnl : ¬ s.toList = [] := fun h => hse (text_inj (by rw [ByteArray.toList_eq] at h; exact h))
      have hem : s.toList.isEmpty = false := by
        cases h : s.toList with
        | nil => exact (hnl h).elim
        | cons _ _ => rfl
      clear bx hal hW4 X0 X1 X3 htm hr0 hrw h3 ht3 hb3 hb4 x0 x1 x2 x3 x4 xf X4 bx4 M4 h4
      go_wp2_with fail
      rw [HW4.out]
      clear HW4
      refine (specFormulaText ss va vca t W4 hl hz HR4.out (Ft.Mine.in_ t HX4.out.2.2 (by omega)) hsm).mono ?_
      rintro e w5 ⟨rfl, hb5⟩
      have X5 := HX4.out.1.below hb5
      have bx5 := HX4.out.2.1.below hb5
      have M5 := Ft.Mine.below HX4.out.2.2 hb5
      have hb05 := BB.out.1.trans (hb5.mono BB.out.1.size)
      have hz5 := hb5.size
      obtain ⟨T, hT⟩ : ∃ T, fmText ss t.er = T := ⟨_, rfl⟩
      rw [hT]
      have x0 := X5.c 0 _ rfl
      have x1 := X5.c 1 _ rfl
      have x2 := X5.c 2 _ rfl
      have x3 := X5.c 3 _ rfl
      have x4 := X5.c 4 _ rfl
      have xf := X5.f
      have xl := X5.lt
      have c0 := bx5.c 0 _ rfl
      have c1 := bx5.c 1 _ rfl
      have c2 := bx5.c 2 _ rfl
      have c3 := bx5.c 3 _ rfl
      have c4 := bx5.c 4 _ rfl
      have M5h := Lib.hid M5
      by_cases hts : T = s
      · subst hts
        have HEND := Lib.hid (full_end (s := T) hb05 (by omega) (by omega) M5 hse hT)
        clear X5 bx5 M5 hb05 hT hb5 d2 d3 df dl
        go_wp2_with fail
        exact bodyPost_ret (v := .tuple #[.agg #[.int .i64 t.kd, .int .i64 t.k, .int .i64 t.u, .int .i64 t.v, .slice t.a t.args.length t.cap], .bool true]) (by simp [results, Tryz.results12, go_sem, x0, x1, x2, x3, x4]) rfl HEND.out
      · have HEND := Lib.hid (zero_end (ss := ss) (s := s) (zero_sets hb05) (.inr fun f hf => hts (by
          have h1 := congrArg Prod.fst (HRT.out f hse hf)
          have h2 : t.er = f := hte.trans h1
          rw [← hT, h2]
          exact hf)))
        have htl : ¬ T.toList = s.toList := fun h => hts (text_inj (by rw [ByteArray.toList_eq, ByteArray.toList_eq] at h; exact h))
        have htb : (T.toList == s.toList) = false := by simpa using htl
        clear X5 bx5 M5 hb05 hT hb5 d2 d3 df dl
        go_wp2_with fail
        exact bodyPost_ret (v := .tuple #[.agg #[.int .i64 0, .int .i64 0, .int .i64 0, .int .i64 0, .slice none 0 0], .bool false]) (by simp [results, Tryz.results12, go_sem, x0, x1, x2, x3, x4]) rfl HEND.out
    · have hkd : ¬ (k : Int) = (s.size : Int) := by omega
      have hkb : ((k : Int) != (s.size : Int)) = true := by simpa using hkd
      have HEND := Lib.hid (zero_end (ss := ss) (s := s) ((zero_sets hb3).alloc (by simp; omega) (.cells #[.int .i64 t.kd, .int .i64 t.k, .int .i64 t.u, .int .i64 t.v, .slice t.a t.args.length t.cap] 27)) (by
        by_cases hse : s = ⟨#[]⟩
        · exact .inl hse
        exact .inr fun f hf => by
          have h1 := congrArg (fun q => q.2.1) (HRT.out f hse hf)
          have h2 := congrArg Prod.fst HE3.out
          have h5 : s.data.toList.drop k = [] := h2.symm.trans h1
          have := List.drop_eq_nil_iff.1 h5
          simp at this
          omega))
      clear h3 hb3 X3
      go_wp2_with fail
      exact bodyPost_ret (v := .tuple #[.agg #[.int .i64 0, .int .i64 0, .int .i64 0, .int .i64 0, .slice none 0 0], .bool false]) (by simp [results, Tryz.results12, go_sem, x0, x1, x2, x3, x4, xl]) rfl HEND.out
end Go.Proofs.YtplchhahjmoodaaGreatDoor
