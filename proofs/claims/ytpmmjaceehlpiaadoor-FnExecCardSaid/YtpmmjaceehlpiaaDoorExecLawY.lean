/-
  Proved: for every list of bytes the law FnExec returns true and leaves its argument as it was, where the listed tables of the program read as its text lays them (the card ties them).
-/
import Derived.Test.YtpmmjaceehlpiaaDoorCards
import Derived.Test.YtpmmjaceehlpiaaDoorTie
import Derived.ChangeMaps5
import Derived.Deep.DeepWitnessRowRef
import Derived.LaidMore
import Derived.Test.YtpmmjaceehlpiaaDoorY21
import Derived.Test.YtpmmjaceehlpiaaDoorY20
import Derived.Test.YtpmmjaceehlpiaaDoorY22
import Derived.Test.YtpmmjaceehlpiaaDoorY09
import Derived.Test.YtpmmjaceehlpiaaDoorY19
import Derived.Test.YtpmmjaceehlpiaaDoorY08
namespace Go.Proofs.YtpmmjaceehlpiaaDoor.execLaw
open Go Go.RowKit Go.ChangeShapes Go.WideShapes Go.ChangeAt Go.Sort

/-- The law said true, and nothing old has turned. -/
def TrueEnd (w : World) (e : Ending) (w' : World) : Prop := e = .returned (.bool true) ∧ Below w.heap.size w w'

theorem same_selfE (vs zs : List Int) : sameH vs zs vs zs = true := by simp [sameH]

section
variable {ss : List ByteArray} {k c c' : Int} {a b : ByteArray} {vs zs ps qs us ys : List Int}
theorem exec_other (h : execS ss k a b vs zs = (c, ps, qs)) : c = 0 ∨ (ps = [] ∧ qs = []) := by
  have bad : ∀ x : Int, badC x = (c, ps, qs) → c = 0 ∨ (ps = [] ∧ qs = []) := fun x hx => .inr ⟨(congrArg (fun r => r.2.1) hx).symm, (congrArg (fun r => r.2.2) hx).symm⟩
  unfold execS at h
  rcases ite_parts h with ⟨_, h⟩ | ⟨_, h⟩
  · rcases ite_parts h with ⟨_, h⟩ | ⟨_, h⟩
    · rcases ite_parts h with ⟨_, h⟩ | ⟨_, h⟩
      · exact bad _ h
      · exact .inl (congrArg Prod.fst h).symm
    · exact bad _ h
  · exact bad _ h
theorem exec_lens (h : execS ss k a b vs zs = (c, ps, qs)) : ps.length ≤ maxLen ∧ qs.length ≤ maxLen := by
  rcases exec_other h with rfl | ⟨rfl, rfl⟩
  · obtain ⟨h1, h2, _⟩ := heapB_parts (exec_heap h)
    unfold maxLen
    omega
  · exact ⟨Nat.zero_le _, Nat.zero_le _⟩
theorem exec_both (ht : isTestS k = true) (h : execS ss k a b vs zs = (c, ps, qs)) (h7 : c ≠ 7) (h' : execS ss (oppS k) a b vs zs = (c', us, ys)) :
    (c = 0 ∧ ps = vs ∧ qs = zs ∧ c' ≠ 0) ∨ (c ≠ 0 ∧ c' = 0 ∧ us = vs ∧ ys = zs) := by
  by_cases hg : stmtB ss k a b = true ∧ heapB (ss.length : Int) vs zs = true
  · obtain ⟨h1, h2⟩ := hg
    rw [exec_test h1 h2 ht] at h
    rw [exec_test (by rw [opp_stmt ht]; exact h1) h2 (opp_test ht), test_opp ht] at h'
    cases hb : testB k (vs.getD (place ss a).toNat (-1)) (vs.getD (place ss b).toNat (-1))
    · rw [hb, if_neg (by decide)] at h
      rw [hb, if_pos (by decide)] at h'
      refine .inr ⟨?_, (congrArg Prod.fst h').symm, (congrArg (fun r => r.2.1) h').symm, (congrArg (fun r => r.2.2) h').symm⟩
      rw [← show (1 : Int) = c from congrArg Prod.fst h]
      decide
    · rw [hb, if_pos rfl] at h
      rw [hb, if_neg (by decide)] at h'
      refine .inl ⟨(congrArg Prod.fst h).symm, (congrArg (fun r => r.2.1) h).symm, (congrArg (fun r => r.2.2) h).symm, ?_⟩
      rw [← show (1 : Int) = c' from congrArg Prod.fst h']
      decide
  · unfold execS at h
    rw [if_neg hg] at h
    exact absurd (congrArg Prod.fst h).symm h7
end

/-- A code, drawn. -/
theorem drawExecName (a : Option Addr) (n cap : Nat) (w : World) (hn : n ≤ 1099511627776) (hcode : Code8 w w.heap.size n a) : Calls Tryd.prog 9 #[.slice a n cap] w fun e w' => ∃ x : Int, e = .returned (.int .i64 x) ∧ Below w.heap.size w w' := by
  go_enter Tryd.func9, Tryd.ntmps9
  go_wp2_with fail
  refine (drawNew a n cap _ hn hcode).mono ?_
  rintro e w1 ⟨g, rfl, hg, hc1, hb1⟩
  go_wp2_with fail
  refine (drawBelow g 10 _ (by omega) (by omega) hc1).mono ?_
  rintro e w2 ⟨x, hx, rfl, hc2, hw2⟩
  go_wp2
  go_ret
  exact ⟨(x : Int) - 1, rfl, below_only hb1 hw2 hb1.size hg⟩

/-- What stays through the law. -/
structure Kp (w : World) (o : Nat) (ha hb : Option Addr) (vs zs : List Int) (W : World) : Prop where
  row : Row W W.heap.size (some ⟨o, 0, none⟩) (strVals vars3)
  at_ : HeapAt W ha hb vs zs
  b : Below w.heap.size w W
theorem Kp.below {w W W' : World} {o : Nat} {ha hb : Option Addr} {vs zs : List Int} (h : Kp w o ha hb vs zs W) (hW : Below W.heap.size W W') : Kp w o ha hb vs zs W' :=
  ⟨(h.row.below hW).grow hW.size, h.at_.below hW (Nat.le_refl _), h.b.trans (hW.mono h.b.size)⟩
structure Kq (w : World) (T o : Nat) (k : Int) (sa sb : ByteArray) (ha : Option Addr) (hca : Nat) (hb : Option Addr) (hcb : Nat) (vs zs : List Int) (W : World) : Prop where
  kp : Kp w o ha hb vs zs W
  st : BoxL W T [.int .i64 k, .string sa, .string sb]
  he : BoxL W (T + 1) [.slice ha vs.length hca, .slice hb zs.length hcb]
theorem Kq.below {w W W' : World} {T o : Nat} {k : Int} {sa sb : ByteArray} {ha hb : Option Addr} {hca hcb : Nat} {vs zs : List Int} (h : Kq w T o k sa sb ha hca hb hcb vs zs W) (hW : Below W.heap.size W W') : Kq w T o k sa sb ha hca hb hcb vs zs W' :=
  ⟨h.kp.below hW, h.st.below hW, h.he.below hW⟩
/-- An answer in a box. -/
structure Bx (W : World) (X : Nat) (a : Option Addr) (ca : Nat) (b : Option Addr) (cb : Nat) (ps qs : List Int) : Prop where
  box : BoxL W X [.slice a ps.length ca, .slice b qs.length cb]
  at_ : HeapAt W a b ps qs
theorem Bx.below {W W' : World} {X : Nat} {a b : Option Addr} {ca cb : Nat} {ps qs : List Int} (h : Bx W X a ca b cb ps qs) (hW : Below W.heap.size W W') : Bx W' X a ca b cb ps qs :=
  ⟨h.box.below hW, h.at_.below hW (Nat.le_refl _)⟩
theorem alloc_belowE (w : World) (o : Obj) : Below w.heap.size w (w.alloc o) := (Below.refl _ _).alloc (Nat.le_refl _) _
theorem Bx.new {w : World} {t : TypeId} {a b : Option Addr} {ca cb : Nat} {ps qs : List Int} (h : HeapAt w a b ps qs) : Bx (w.alloc (.cells #[.slice a ps.length ca, .slice b qs.length cb] t)) w.heap.size a ca b cb ps qs :=
  ⟨BoxL.new w [.slice a ps.length ca, .slice b qs.length cb] t, h.below (alloc_belowE _ _) (Nat.le_refl _)⟩

set_option maxRecDepth 100000 in
set_option maxHeartbeats 8000000 in
theorem walk (a : Option Addr) (n cap : Nat) (w : World) (hn : n ≤ maxLen) (hcode : Code8 w w.heap.size n a) (hT : HasNamesTable w) (hC : HasCodeNames w) : Calls Tryd.prog 3 #[.slice a n cap] w (TrueEnd w) := by
  by_cases hbig : 1048576 < n
  · go_enter Tryd.func3, Tryd.ntmps3
    go_wp2_with fail
    refine (bigYes a n cap _ hn hbig).mono ?_
    rintro e w1 ⟨rfl, rfl⟩
    go_wp2
    go_ret
    exact ⟨rfl, Below.refl _ _⟩
  have hCode : ∀ W, Below w.heap.size w W → Code8 W W.heap.size n a := fun W h => (hcode.keeps fun p hp => h.cell hp).grow h.size
  have HCD := Lib.hid hCode
  have HNT := Lib.hid (fun W (h : Below w.heap.size w W) => hT.keeps h)
  have HCN := Lib.hid (fun W (h : Below w.heap.size w W) => hC.keeps h)
  go_enter Tryd.func3, Tryd.ntmps3
  go_wp2_with fail
  refine (bigNo a n cap _ (by omega)).mono ?_
  rintro e w1 ⟨rfl, rfl⟩
  clear hT hC hCode
  go_wp2_with fail
  refine (drawExec a n cap _ (by omega) hcode).mono ?_
  rintro e w1 ⟨k, sa, sb, o, ha, hca, hb, hcb, vs, zs, hk, hsz, hvl, hzl, rfl, hrow, ⟨lo, hi, hin⟩, hB1⟩
  have hkp : Kp w o ha hb vs zs w1 := ⟨hrow, hin.rows, hB1⟩
  have hna : ha = none → hca = 0 := own_none hin.v.2.1
  have hnb : hb = none → hcb = 0 := own_none hin.z.2.1
  have hvm : vs.length ≤ maxLen := by unfold maxLen; omega
  have hzm : zs.length ≤ maxLen := by unfold maxLen; omega
  obtain ⟨c, ps, qs, hE⟩ : ∃ c ps qs, execS vars3 k sa sb vs zs = (c, ps, qs) := ⟨_, _, _, rfl⟩
  clear hcode hrow hin hB1 hvl hzl hk hsz
  have hw3 : ∀ s ∈ vars3, s.size ≤ maxLen := by decide
  go_wp2_with fail
  obtain ⟨W2, hW2, hb2, bs2, bh2⟩ := two_boxL w1 [.int .i64 k, .string sa, .string sb] [.slice ha vs.length hca, .slice hb zs.length hcb] 26 29
  simp only [List.toArray] at hW2
  rw [hW2]
  have hkq2 : Kq w w1.heap.size o k sa sb ha hca hb hcb vs zs W2 := ⟨hkp.below hb2, bs2, bh2⟩
  clear hW2 hb2 hkp bs2 bh2
  generalize w1.heap.size = T at *
  have hkp2 := hkq2.kp
  refine (implExec (some ⟨o, 0, none⟩) 3 vars3 k sa sb ha hb hca hcb vs zs _ (by decide) hw3 hkp2.row hvm hzm hkp2.at_ (HNT.out _ hkp2.b)).mono ?_
  rw [hE]
  rintro e w3 ⟨xa, xca, xb, xcb, rfl, hinx, hb3⟩
  dsimp only at hinx
  have KEY := Lib.hid (fun W (h : Below W2.heap.size W2 W) => hkq2.below h)
  have hx4 : Bx (w3.alloc (.cells #[.slice xa ps.length xca, .slice xb qs.length xcb] 29)) w3.heap.size xa xca xb xcb ps qs := Bx.new hinx.rows
  have hb4 : Below W2.heap.size W2 (w3.alloc (.cells #[.slice xa ps.length xca, .slice xb qs.length xcb] 29)) := hb3.trans ((alloc_belowE _ _).mono hb3.size)
  have hk3 := KEY.out _ hb3
  have s0 := hk3.st.c 0 _ rfl
  have s1 := hk3.st.c 1 _ rfl
  have s2 := hk3.st.c 2 _ rfl
  have h0 := hk3.he.c 0 _ rfl
  have h1 := hk3.he.c 1 _ rfl
  have hl1 := hk3.st.lt
  have hl2 := hk3.he.lt
  have HX4 := Lib.hid hx4
  have HB4 := Lib.hid hb4
  clear hkp2 hkq2 hb3 hinx hk3 hx4 hb4
  dsimp only
  go_wp2_with fail
  have hx4 := HX4.out
  have hb4 := HB4.out
  clear HX4 HB4 s0 s1 s2 h0 h1 hl1 hl2
  obtain ⟨W4, hW4⟩ : ∃ W, w3.alloc (.cells #[.slice xa ps.length xca, .slice xb qs.length xcb] 29) = W := ⟨_, rfl⟩
  rw [hW4] at hx4 hb4 ⊢
  clear hW4
  generalize w3.heap.size = X at *
  clear w3
  have hk4 := KEY.out _ hb4
  refine (specExec (some ⟨o, 0, none⟩) 3 vars3 k sa sb ha hb hca hcb vs zs _ (by decide) hw3 hk4.kp.row hvm hzm hk4.kp.at_ hna hnb).mono ?_
  rw [hE]
  rintro e w5 ⟨ya, yca, yb, ycb, rfl, hiny, hb5⟩
  dsimp only at hiny
  have hy6 : Bx (w5.alloc (.cells #[.slice ya ps.length yca, .slice yb qs.length ycb] 29)) w5.heap.size ya yca yb ycb ps qs := Bx.new hiny.rows
  have hb6 : Below W4.heap.size W4 (w5.alloc (.cells #[.slice ya ps.length yca, .slice yb qs.length ycb] 29)) := hb5.trans ((alloc_belowE _ _).mono hb5.size)
  have HX4 := Lib.hid hx4
  have HY6 := Lib.hid hy6
  have HB6 := Lib.hid hb6
  clear hk4 hx4 hiny hb5 hy6 hb6
  dsimp only
  go_wp2_with fail
  have hx4 := HX4.out
  have hy6 := HY6.out
  have hb6 := HB6.out
  clear HX4 HY6 HB6
  obtain ⟨W6, hW6⟩ : ∃ W, w5.alloc (.cells #[.slice ya ps.length yca, .slice yb qs.length ycb] 29) = W := ⟨_, rfl⟩
  rw [hW6] at hy6 hb6 ⊢
  clear hW6
  generalize w5.heap.size = Y at *
  clear w5
  have hx6 := hx4.below hb6
  have hb26 : Below W2.heap.size W2 W6 := hb4.trans (hb6.mono hb4.size)
  have hk6 := KEY.out _ hb26
  have KX := Lib.hid (show ∀ W, Below W6.heap.size W6 W → Bx W X xa xca xb xcb ps qs ∧ Bx W Y ya yca yb ycb ps qs ∧ Below W2.heap.size W2 W ∧ Below w.heap.size w W from fun W h => ⟨hx6.below h, hy6.below h, hb26.trans (h.mono hb26.size), hk6.kp.b.trans (h.mono hk6.kp.b.size)⟩)
  clear hx4 hb4 hb6 hx6 hy6 hb26
  refine (drawExecName a n cap _ (by omega) (HCD.out _ hk6.kp.b)).mono ?_
  rintro e w7 ⟨x, rfl, hb7⟩
  clear hk6
  obtain ⟨hx7, hy7, _, hB7⟩ := KX.out _ hb7
  have x0 := hx7.box.c 0 _ rfl
  have x1 := hx7.box.c 1 _ rfl
  have y0 := hy7.box.c 0 _ rfl
  have y1 := hy7.box.c 1 _ rfl
  have HX7 := Lib.hid hx7.at_
  have HY7 := Lib.hid hy7.at_
  obtain ⟨hpl, hql⟩ := exec_lens hE
  have HE := Lib.hid hE
  clear hx7 hy7 hE
  go_wp2_with fail
  refine (implEqualHeap xa xb ya yb xca xcb yca ycb ps qs ps qs _ hpl hql HX7.out HY7.out).mono ?_
  rw [same_selfE]
  rintro e w8 ⟨rfl, hb8⟩
  have hb68 : Below W6.heap.size W6 w8 := hb7.trans (hb8.mono hb7.size)
  clear x0 x1 y0 y1 HX7 HY7 hb7 hb8
  go_wp2_with fail
  refine (implExecName x _ (HCN.out _ (KX.out _ hb68).2.2.2)).mono ?_
  rintro e w9 ⟨rfl, rfl⟩
  go_wp2_with fail
  refine (specExecName x _).mono ?_
  rintro e w9 ⟨rfl, hb9⟩
  have hb69 : Below W6.heap.size W6 w9 := hb68.trans (hb9.mono hb68.size)
  clear hb68 hb9
  go_wp2_with fail
  refine (implIsError x _).mono ?_
  rintro e w10 ⟨rfl, rfl⟩
  go_wp2_with fail
  refine (specIsError x _).mono ?_
  rintro e w10 ⟨rfl, rfl⟩
  obtain ⟨hx9, _, hb29, hB9⟩ := KX.out _ hb69
  have x0 := hx9.box.c 0 _ rfl
  have x1 := hx9.box.c 1 _ rfl
  have HX9 := Lib.hid hx9.at_
  clear hx9 hb29
  by_cases hc0 : c = 0
  case' pos =>
    have hh : heapB 3 ps qs = true := exec_heap (show execS vars3 k sa sb vs zs = (0, ps, qs) by rw [HE.out, hc0])
    have hct : (c == 0) = true := by simpa using hc0
    have HC0 := Lib.hid hc0
    clear hc0
    go_wp2_with fail
    refine (specIsHeap 3 xa xb xca xcb ps qs _ hpl hql HX9.out).mono ?_
    rw [hh]
    rintro e w11 ⟨rfl, hb11⟩
    have hb6V : Below W6.heap.size W6 w11 := hb69.trans (hb11.mono hb69.size)
    clear hb11 hb69 x0 x1 HX9 hh hB9
    generalize w11 = V at *
  case' neg =>
    have hct : (c == 0) = false := by simpa using hc0
    have HC0 := Lib.hid hc0
    have hb6V := hb69
    clear x0 x1 HX9 hb69 hB9 hc0
    generalize w9 = V at *
  all_goals
    obtain ⟨_, _, hb2V, hBV⟩ := KX.out _ hb6V
    have hkV := KEY.out _ hb2V
    have s0 := hkV.st.c 0 _ rfl
    have s1 := hkV.st.c 1 _ rfl
    have s2 := hkV.st.c 2 _ rfl
    clear hkV hb2V
    go_wp2_with fail
    cases ht : isTestS k
    case' false =>
      refine (specOppositeNo k sa sb _ ht).mono ?_
      rintro e w13 ⟨rfl, hb13⟩
      have hend := hBV.trans (hb13.mono hBV.size)
      have HEND := Lib.hid hend
      clear hend hb13 hBV hb6V s0 s1 s2
      go_wp2
      go_ret
      exact ⟨rfl, HEND.out.trans ((alloc_belowE _ _).mono HEND.out.size)⟩
    case' true =>
      refine (specOppositeYes k sa sb _ ht).mono ?_
      rintro e w13 ⟨rfl, hb13⟩
      have hb6_13 : Below W6.heap.size W6 w13 := hb6V.trans (hb13.mono hb6V.size)
      clear s0 s1 s2 hb13 hb6V hBV
      by_cases h7 : c = 7
      case' pos =>
        have h7t : (c == 7) = true := by simpa using h7
        have HEND := Lib.hid (KX.out _ hb6_13).2.2.2
        clear h7
        go_wp2
        go_ret
        exact ⟨rfl, HEND.out.trans ((alloc_belowE _ _).mono HEND.out.size)⟩
      case' neg =>
        have h7t : (c == 7) = false := by simpa using h7
        have H7 := Lib.hid h7
        have hk13 := KEY.out _ (KX.out _ hb6_13).2.2.1
        have h0 := hk13.he.c 0 _ rfl
        have h1 := hk13.he.c 1 _ rfl
        have hl1 := hk13.he.lt
        obtain ⟨c', us, ys, hE'⟩ : ∃ c us ys, execS vars3 (oppS k) sa sb vs zs = (c, us, ys) := ⟨_, _, _, rfl⟩
        have HE' := Lib.hid hE'
        have H613 := Lib.hid hb6_13
        clear h7 hk13 hE' hb6_13
        go_wp2_with fail
        have hb14 := H613.out.trans ((alloc_belowE w13 (.cells #[.int .i64 (oppS k), .string sa, .string sb] 26)).mono H613.out.size)
        clear h0 h1 hl1
        obtain ⟨W14, hW14⟩ : ∃ W, w13.alloc (.cells #[.int .i64 (oppS k), .string sa, .string sb] 26) = W := ⟨_, rfl⟩
        rw [hW14] at hb14 ⊢
        clear hW14
        generalize w13.heap.size = O at *
        clear H613 w13
        have hk14 := KEY.out _ (KX.out _ hb14).2.2.1
        refine (implExec (some ⟨o, 0, none⟩) 3 vars3 (oppS k) sa sb ha hb hca hcb vs zs _ (by decide) hw3 hk14.kp.row hvm hzm hk14.kp.at_ (HNT.out _ hk14.kp.b)).mono ?_
        rw [HE'.out]
        rintro e w15 ⟨za, zca, zb, zcb, rfl, hinz, hb15⟩
        dsimp only at hinz
        have hz16 : Bx (w15.alloc (.cells #[.slice za us.length zca, .slice zb ys.length zcb] 29)) w15.heap.size za zca zb zcb us ys := Bx.new hinz.rows
        have hb6_15 := hb14.trans (hb15.mono hb14.size)
        have hb16 := hb6_15.trans ((alloc_belowE w15 (.cells #[.slice za us.length zca, .slice zb ys.length zcb] 29)).mono hb6_15.size)
        obtain ⟨hx15, _, hb2_15, hB15⟩ := KX.out _ hb6_15
        have hk15 := KEY.out _ hb2_15
        have hx16 := (KX.out _ hb16).1
        have hk16 := KEY.out _ (KX.out _ hb16).2.2.1
        have h0 := hk15.he.c 0 _ rfl
        have h1 := hk15.he.c 1 _ rfl
        have hl1 := hk15.he.lt
        have x0 := hx15.box.c 0 _ rfl
        have x1 := hx15.box.c 1 _ rfl
        have hl2 := hx15.box.lt
        have HX16 := Lib.hid hx16.at_
        have HK16 := Lib.hid hk16.kp
        have HZ16 := Lib.hid hz16.at_
        clear hk14 hinz hb15 hb6_15 hx15 hb2_15 hB15 hk15 hx16 hk16 hz16 hb14 hb16
        dsimp only
        rcases exec_both ht HE.out H7.out HE'.out with ⟨e1, e2, e3, e4⟩ | ⟨e1, e2, e3, e4⟩
        · first
            | exact absurd e1 HC0.out
            | (subst e2
               subst e3
               have hcn : (c != 0) = false := by simpa using e1
               have hct' : (c' == 0) = false := by simpa using e4
               have hcn' : (c' != 0) = true := by simpa using e4
               clear e1 e4
               go_wp2_with fail
               refine (implEqualHeap xa xb ha hb xca xcb hca hcb _ _ _ _ _ hpl hql HX16.out HK16.out.at_).mono ?_
               rw [same_selfE]
               rintro e w17 ⟨rfl, hb17⟩
               have HEND := Lib.hid (HK16.out.b.trans (hb17.mono HK16.out.b.size))
               clear hb17 h0 h1 x0 x1
               go_wp2
               go_ret
               exact ⟨rfl, HEND.out⟩)
        · first
            | exact absurd HC0.out e1
            | (subst e3
               subst e4
               have hcn : (c != 0) = true := by simpa using e1
               have hct' : (c' == 0) = true := by simpa using e2
               have hcn' : (c' != 0) = false := by simpa using e2
               clear e1 e2
               go_wp2_with fail
               refine (implEqualHeap za zb ha hb zca zcb hca hcb _ _ _ _ _ hvm hzm HZ16.out HK16.out.at_).mono ?_
               rw [same_selfE]
               rintro e w17 ⟨rfl, hb17⟩
               have HEND := Lib.hid (HK16.out.b.trans (hb17.mono HK16.out.b.size))
               clear hb17 h0 h1 x0 x1
               go_wp2
               go_ret
               exact ⟨rfl, HEND.out⟩)

theorem own : ownKnob Tryd.prog.godebug = none := by kernel_rfl
theorem laidOut : laidOutB Tryd.prog = true := by kernel_rfl
theorem cellsByte : Tryd.prog.cellsOf 5 = 1 := by kernel_rfl
set_option maxRecDepth 100000 in
theorem contract (H : Type) (enc : TypeId × Value → H) (W : World) (base : Nat) (args : Array Value) (ds gs : List (DataW H)) (before : List MemPlace)
    (hval : ∀ (j : Nat) t v, Tryd.f3.params[j]? = some t → args[j]? = some v → Value.okWide Tryd.prog W .any base t v)
    (hW : DataW.Whole enc Tryd.prog Tryd.f3.params.toList Rows.fnExecSpec.vars false W args.toList ds gs before)
    (hL : laidMetH Tryd.prog Rows.fnExecRow.laid W) (_hSh : W.ShapedOpen Tryd.prog) :
    Calls Tryd.prog 3 args W fun e W' => ∃ v, e = .returned v ∧ Rows.fnExecSpec.post enc Tryd.prog Tryd.f3 false true false false W args v W' := by
  have hW' := hW
  have hlt : ∀ x ∈ before, x.block < W.heap.size := fun x hx => hW'.lt x hx
  have hnamesTable : HasNamesTable W := namesTable_of 0 hL rfl
  have hcodeNames : HasCodeNames W := codeNames_of 1 hL rfl
  obtain ⟨p, q, hA0, hV, rfl, _, _⟩ := hW
  have hA : DataW.TrodAll enc Tryd.prog W 0 (fun _ => true) true Tryd.f3.params.toList args.toList ds p := hA0
  rw [Tryd.params3] at hA hval
  obtain ⟨v0, d0, rfl, rfl, t0⟩ := trodAll_one hA
  obtain ⟨g1, gs1, q1, rfl, hV1⟩ := gs_cons hV
  obtain ⟨g2, gs2, q2, rfl, hV2⟩ := gs_cons hV1
  obtain ⟨rfl, _⟩ := trodVars_none hV2
  obtain ⟨a0, n0, cap0, rfl, _, hn0, hcode0⟩ := open_codes Tryd.underlying22 Tryd.underlying5 cellsByte (fun x hx => hlt x (by simp [hx])) (base := base) (hval 0 22 v0 rfl rfl) t0
  refine (walk a0 n0 cap0 W hn0 hcode0 hnamesTable hcodeNames).mono fun e W' ⟨he, hb⟩ => ?_
  subst he
  exact ⟨_, rfl, law_post_vars laidOut (by kernel_rfl) (by kernel_rfl) (by kernel_rfl) Tryd.underlying4 hW' rfl hb⟩

/-- A world for the witness. -/
noncomputable def start (os : Os) : World := World.doorLaid Tryd.prog 4000 os
theorem laid_met (os : Os) : laidMet Tryd.prog Rows.fnExecRow.laid ((start os).forCall (fun _ _ => 0) ⟨#[], #[.slice none 0 0], []⟩).memory :=
  laidMet_of_run' 8 (by kernel_rfl) (by kernel_rfl)
theorem reads (os : Os) {H : Type} (enc : TypeId × Value → H) : ∃ places, DataW.whole enc Tryd.prog ((start os).forCall (fun _ _ => 0) ⟨#[], #[.slice none 0 0], []⟩).memory Tryd.f3.params.toList Rows.fnExecSpec.vars false #[Value.slice none 0 0].toList 8 = some ([.nil], [Rows.laid_loop_example_g00590_impl_namesTable, Rows.laid_loop_example_g00590_impl_codeNames], places) :=
  ⟨[.cell 1 0, .cell 1 1, .cell 1 2, .cell 1 3, .cell 1 4, .cell 1 5, .cell 1 6, .cell 1 7, .cell 1 8, .cell 1 9, .cell 1 10, .cell 1 11, .cell 1 12, .cell 0 0, .cell 0 1, .cell 0 2, .cell 0 3, .cell 0 4, .cell 0 5, .cell 0 6, .cell 0 7], by kernel_rfl⟩

set_option maxRecDepth 100000 in
theorem lifted (os : Os) (started : os.Started) (H : Type) (enc : TypeId × Value → H) (F : Stop.Interp) :
    ReturnsInHanded {} Tryd.checked os 3 .any ((OpenSpec.ofChange Rows.fnExecSpec).preRow enc Tryd.prog Tryd.f3 Rows.fnExecRow.domain false Rows.fnExecRow.laid) (((OpenSpec.ofChange Rows.fnExecSpec).at F).post enc Tryd.prog Tryd.f3 false true false false) := by
  obtain ⟨places, hx⟩ := reads os enc
  refine returnsInHanded_of_row (C := Tryd.checked) (s := OpenSpec.ofChange Rows.fnExecSpec) own started (by kernel_rfl) Tryd.func3
    (witness_row_atRef (enc := enc) (C := Tryd.checked) false (start os) #[.slice none 0 0] rfl (by kernel_rfl) (by kernel_rfl) (by kernel_rfl)
      (OpenSpec.preRow_of_cond 8 hx (by kernel_rfl) (fun k hk => by cases hk) (by kernel_rfl) (laid_met os))) ?_
  intro W base args ds gs before hval hW _ _ _ hL hSh _
  exact contract H enc W base args ds gs before hval hW hL hSh

theorem said : Rows.FnExecSaid :=
  OpenClaim.holds_of_cond 3 Tryd.f3 rfl rfl rfl rfl rfl rfl rfl ⟨rfl, rfl, rfl, rfl, rfl⟩ rfl rfl rfl rfl rfl (by kernel_rfl) Tryd.func3 (by kernel_rfl)
    (of_decide_eq_true (by kernel_rfl)) (by unfold Func.isWrapper; first | (rw [if_pos (by decide +kernel)]; kernel_rfl) | (rw [if_neg (by decide +kernel)]; exact ⟨rfl, rfl⟩))
    (fun os started H enc _ F => by rw [OpenClaim.pre_eq_preRow]; exact lifted os started H enc F)

theorem plain (f : FuncId) (fn : Func) (hf : Tryd.pinned.checked.prog.funcNamed "loop.example/g00590/laws.FnExec" = some f) (hfn : Tryd.pinned.checked.prog.funcs[f]? = some fn) :
    Rows.fnExecCard.stood.looks = Tryd.pinned.checked.prog.looks [] ∧ ∀ (j : Nat) t, fn.params[j]? = some t → Tryd.pinned.checked.prog.wantsStandIn t = false := by
  obtain rfl : f = 3 := Option.some.inj ((show Tryd.prog.funcNamed "loop.example/g00590/laws.FnExec" = some 3 by kernel_rfl).symm.trans hf) |>.symm
  obtain rfl : fn = Tryd.f3 := (Option.some.inj (Tryd.func3.symm.trans hfn)).symm
  refine ⟨by kernel_rfl, fun j t ht => ?_⟩
  rw [Tryd.params3] at ht
  have hm : t ∈ [22] := by simpa using Array.mem_of_getElem? ht
  have hall : ([22].all fun u => !Tryd.prog.wantsStandIn u) = true := by kernel_rfl
  exact (show Tryd.prog.wantsStandIn t = false by simpa using List.all_eq_true.1 hall t hm)

/-- The card. -/
theorem card : Rows.FnExecCardSaid :=
  Claim7.holds_tied_plain_at .later [] _ _ _ _ said (fun _ h => by cases h) (by kernel_rfl) (fun _ h => by cases h) fnExec_row_tie rfl ⟨rfl, rfl⟩ (by kernel_rfl) rfl plain (by kernel_rfl)
#print axioms card
end Go.Proofs.YtpmmjaceehlpiaaDoor.execLaw
