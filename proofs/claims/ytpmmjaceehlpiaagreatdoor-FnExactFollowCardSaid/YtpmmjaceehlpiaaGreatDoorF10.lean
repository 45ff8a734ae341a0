/-
  Which action the program takes for a kind of statement, and what it comes to.
-/
import Derived.Conc.MuLone
import Derived.Test.YtpmmjaceehlpiaaGreatDoorF04
import Derived.Test.YtpmmjaceehlpiaaGreatDoorF09
namespace Go.Proofs.YtpmmjaceehlpiaaGreatDoor
open Go Go.RowKit Go.ChangeShapes Go.WideShapes Go.ChangeAt

/-- A function that performs the statements of kind k. -/
def ActOk (w : World) (k : Int) (f : FuncId) (caps : Array Value) : Prop :=
  ∀ (W : World) (lo hi : Nat) (a : Option Addr) (ca : Nat) (b : Option Addr) (cb : Nat) (vs zs : List Int) (x y : Int), Below w.heap.size w W → HeapIn lo hi W a ca b cb (intVals vs) (intVals zs) → vs.length ≤ 4 → zs.length ≤ 6 → goodB zs vs = true → goodB zs zs = true →
    (1 ≤ namesN k → 0 ≤ x ∧ x < (vs.length : Int)) → (2 ≤ namesN k → 0 ≤ y ∧ y < (vs.length : Int)) → Calls Tryz.prog f (#[heV a vs.length ca b zs.length cb, .int .i64 x, .int .i64 y] ++ caps) W (Acted lo hi (blocksH a b vs.length ca zs.length cb) (doS k x.toNat y.toNat vs zs) W)
theorem nat_of {x : Int} {n : Nat} (h : 0 ≤ x ∧ x < (n : Int)) : ∃ k : Nat, x = (k : Int) ∧ k < n := ⟨x.toNat, by omega, by omega⟩
/-- The action for a kind. -/
def ActionEnd (k : Int) (w : World) (e : Ending) (w' : World) : Prop := ∃ f caps, e = .returned (.func (.func f) #[] caps) ∧ ActOk w' k f caps ∧ Below w.heap.size w w' ∧ ∀ (args : Array Value) (W : World), (callFunc f args).run Tryz.prog W = .ok (.enter f args) W
theorem actOk_1 (w : World) : ActOk w 1 147 #[] := by
  intro W lo hi a ca b cb vs zs x y _ h hv4 hz6 hgv hgz hx hy
  exact implDoSkip x y h
theorem actOk_2 (w : World) : ActOk w 2 148 #[] := by
  intro W lo hi a ca b cb vs zs x y _ h hv4 hz6 hgv hgz hx hy
  obtain ⟨pa, rfl, hp⟩ := nat_of (hx (by decide))
  exact implDoNull y h hp
theorem actOk_3 (w : World) : ActOk w 3 149 #[] := by
  intro W lo hi a ca b cb vs zs x y _ h hv4 hz6 hgv hgz hx hy
  obtain ⟨pa, rfl, hp⟩ := nat_of (hx (by decide))
  exact implDoNew y h hp hz6
theorem actOk_4 (w : World) : ActOk w 4 150 #[] := by
  intro W lo hi a ca b cb vs zs x y _ h hv4 hz6 hgv hgz hx hy
  obtain ⟨pa, rfl, hp⟩ := nat_of (hx (by decide))
  obtain ⟨pb, rfl, hq⟩ := nat_of (hy (by decide))
  exact implDoCopy h hp hq
theorem actOk_5 (w : World) : ActOk w 5 151 #[] := by
  intro W lo hi a ca b cb vs zs x y _ h hv4 hz6 hgv hgz hx hy
  obtain ⟨pa, rfl, hp⟩ := nat_of (hx (by decide))
  obtain ⟨pb, rfl, hq⟩ := nat_of (hy (by decide))
  exact implDoNext h hp hq hgv
theorem actOk_6 (w : World) : ActOk w 6 152 #[] := by
  intro W lo hi a ca b cb vs zs x y _ h hv4 hz6 hgv hgz hx hy
  obtain ⟨pa, rfl, hp⟩ := nat_of (hx (by decide))
  exact implDoCut y h hp hgv
theorem actOk_7 (w : World) : ActOk w 7 153 #[] := by
  intro W lo hi a ca b cb vs zs x y _ h hv4 hz6 hgv hgz hx hy
  obtain ⟨pa, rfl, hp⟩ := nat_of (hx (by decide))
  obtain ⟨pb, rfl, hq⟩ := nat_of (hy (by decide))
  exact implDoLink h hp hq hgv hz6
theorem actOk_8 (w : World) : ActOk w 8 154 #[] := by
  intro W lo hi a ca b cb vs zs x y _ h hv4 hz6 hgv hgz hx hy
  obtain ⟨pa, rfl, hp⟩ := nat_of (hx (by decide))
  exact implDoFree y h hp hv4 hz6 hgv hgz
theorem actOk_9 {w : World} {c d : Nat} (hc : CondAt w c d 156 true) : ActOk w 9 165 #[.pointer (some ⟨c, 0, none⟩), .pointer (some ⟨d, 0, none⟩)] := by
  intro W lo hi a ca b cb vs zs x y hb h hv4 hz6 hgv hgz hx hy
  obtain ⟨pa, rfl, hp⟩ := nat_of (hx (by decide))
  have hc' : CondAt W c d 156 true := ⟨(hb.cell (p := ⟨c, 0, none⟩) hc.lq).trans hc.q, (hb.cell (p := ⟨d, 0, none⟩) hc.lt).trans hc.t, Nat.lt_of_lt_of_le hc.lq hb.size, Nat.lt_of_lt_of_le hc.lt hb.size⟩
  have hh := implTestNull (pa : Int) y h hc' (r := decide (vs.getD pa (-1) = -1)) (fun W hW => implIsNull y hW hp)
  have e : doS 9 (pa : Int).toNat y.toNat vs zs = if decide (vs.getD pa (-1) = -1) = true then (0, vs, zs) else badC 1 := by
    simp [doS]
  rw [e]
  exact hh
theorem actOk_10 {w : World} {c d : Nat} (hc : CondAt w c d 156 false) : ActOk w 10 165 #[.pointer (some ⟨c, 0, none⟩), .pointer (some ⟨d, 0, none⟩)] := by
  intro W lo hi a ca b cb vs zs x y hb h hv4 hz6 hgv hgz hx hy
  obtain ⟨pa, rfl, hp⟩ := nat_of (hx (by decide))
  have hc' : CondAt W c d 156 false := ⟨(hb.cell (p := ⟨c, 0, none⟩) hc.lq).trans hc.q, (hb.cell (p := ⟨d, 0, none⟩) hc.lt).trans hc.t, Nat.lt_of_lt_of_le hc.lq hb.size, Nat.lt_of_lt_of_le hc.lt hb.size⟩
  have hh := implTestNull (pa : Int) y h hc' (r := decide (vs.getD pa (-1) = -1)) (fun W hW => implIsNull y hW hp)
  have e : doS 10 (pa : Int).toNat y.toNat vs zs = if decide (vs.getD pa (-1) = -1) = false then (0, vs, zs) else badC 1 := by
    simp [doS]
  rw [e]
  exact hh
theorem actOk_11 {w : World} {c d : Nat} (hc : CondAt w c d 157 true) : ActOk w 11 165 #[.pointer (some ⟨c, 0, none⟩), .pointer (some ⟨d, 0, none⟩)] := by
  intro W lo hi a ca b cb vs zs x y hb h hv4 hz6 hgv hgz hx hy
  obtain ⟨pa, rfl, hp⟩ := nat_of (hx (by decide))
  obtain ⟨pb, rfl, hq⟩ := nat_of (hy (by decide))
  have hc' : CondAt W c d 157 true := ⟨(hb.cell (p := ⟨c, 0, none⟩) hc.lq).trans hc.q, (hb.cell (p := ⟨d, 0, none⟩) hc.lt).trans hc.t, Nat.lt_of_lt_of_le hc.lq hb.size, Nat.lt_of_lt_of_le hc.lt hb.size⟩
  have hh := implTestSame (pa : Int) (pb : Int) h hc' (r := decide (vs.getD pa (-1) = vs.getD pb (-1))) (fun W hW => implAreSame hW hp hq)
  have e : doS 11 (pa : Int).toNat (pb : Int).toNat vs zs = if decide (vs.getD pa (-1) = vs.getD pb (-1)) = true then (0, vs, zs) else badC 1 := by
    simp [doS]
  rw [e]
  exact hh
theorem actOk_12 {w : World} {c d : Nat} (hc : CondAt w c d 157 false) : ActOk w 12 165 #[.pointer (some ⟨c, 0, none⟩), .pointer (some ⟨d, 0, none⟩)] := by
  intro W lo hi a ca b cb vs zs x y hb h hv4 hz6 hgv hgz hx hy
  obtain ⟨pa, rfl, hp⟩ := nat_of (hx (by decide))
  obtain ⟨pb, rfl, hq⟩ := nat_of (hy (by decide))
  have hc' : CondAt W c d 157 false := ⟨(hb.cell (p := ⟨c, 0, none⟩) hc.lq).trans hc.q, (hb.cell (p := ⟨d, 0, none⟩) hc.lt).trans hc.t, Nat.lt_of_lt_of_le hc.lq hb.size, Nat.lt_of_lt_of_le hc.lt hb.size⟩
  have hh := implTestSame (pa : Int) (pb : Int) h hc' (r := decide (vs.getD pa (-1) = vs.getD pb (-1))) (fun W hW => implAreSame hW hp hq)
  have e : doS 12 (pa : Int).toNat (pb : Int).toNat vs zs = if decide (vs.getD pa (-1) = vs.getD pb (-1)) = false then (0, vs, zs) else badC 1 := by
    simp [doS]
  rw [e]
  exact hh

def OnIf (f : FuncId) (t : Bool) (w : World) (e : Ending) (w' : World) : Prop :=
  e = .returned (.func (.func 165) #[] #[.pointer (some ⟨w.heap.size, 0, none⟩), .pointer (some ⟨w.heap.size + 1, 0, none⟩)]) ∧ CondAt w' w.heap.size (w.heap.size + 1) f t ∧ Below w.heap.size w w'
theorem implGoOnIf (f : FuncId) (t : Bool) (w : World) : Calls Tryz.prog 155 #[.func (.func f) #[] #[], .bool t] w (OnIf f t w) := by
  have hmf : ∀ (fn : Fn) (first cap : Array Value) (w : World), (Instr.makeFunc fn first cap).run Tryz.prog w = .ok (.func fn first cap) w := fun _ _ _ _ => rfl
  go_enter Tryz.func155, Tryz.ntmps155
  go_wp2
  go_ret
  exact ⟨rfl, ⟨by simp [go_sem], by simp [go_sem], by simp; omega, by simp⟩, two_below _ _ _⟩
theorem CondAt.keeps {w w' : World} {c d : Nat} {f : FuncId} {t : Bool} (h : CondAt w c d f t) (hb : Below w.heap.size w w') : CondAt w' c d f t :=
  ⟨(hb.cell (p := ⟨c, 0, none⟩) h.lq).trans h.q, (hb.cell (p := ⟨d, 0, none⟩) h.lt).trans h.t, Nat.lt_of_lt_of_le h.lq hb.size, Nat.lt_of_lt_of_le h.lt hb.size⟩
set_option maxRecDepth 100000 in
set_option maxHeartbeats 3200000 in
theorem implActionOf (k : Int) (hk : 1 ≤ k ∧ k ≤ 12) (w : World) : Calls Tryz.prog 134 #[.int .i64 k] w (ActionEnd k w) := by
  have hsf := fun (fn : Fn) (a : Addr) (c : Array Value) (w : World) => run_store Tryz.prog w a (.func fn #[] c) .plain rfl
  have hsn := fun (a : Addr) (w : World) => run_store Tryz.prog w a .nilFunc .plain rfl
  go_enter Tryz.func134, Tryz.ntmps134
  go_wp2_with fail
  refine (implGoOnIf 156 true _).mono ?_
  rintro e w1 ⟨rfl, h1, hb1⟩
  go_wp2_with fail
  refine (implGoOnIf 156 false _).mono ?_
  rintro e w2 ⟨rfl, h2, hb2⟩
  go_wp2_with fail
  refine (implGoOnIf 157 true _).mono ?_
  rintro e w3 ⟨rfl, h3, hb3⟩
  go_wp2_with fail
  refine (implGoOnIf 157 false _).mono ?_
  rintro e w4 ⟨rfl, h4, hb4⟩
  have hb34 := hb3.trans (hb4.mono hb3.size)
  have hb24 := hb2.trans (hb34.mono hb2.size)
  have hb := hb1.trans (hb24.mono hb1.size)
  replace h1 := h1.keeps hb24
  replace h2 := h2.keeps hb34
  replace h3 := h3.keeps hb4
  generalize hs0 : w.heap.size = s0 at *
  generalize w1.heap.size = s1 at *
  generalize w2.heap.size = s2 at *
  generalize w3.heap.size = s3 at *
  clear hb1 hb2 hb3 hb4 hb24 hb34
  have hB : ∀ o, Below s0 w (w4.alloc o) := fun o => hb.alloc (hs0 ▸ hb.size) o
  have hC : ∀ o, Below w4.heap.size w4 (w4.alloc o) := fun o => (Below.refl _ _).alloc (Nat.le_refl _) o
  have HB := Lib.hid hB
  have HC := Lib.hid hC
  clear hB hC hb
  rcases kinds hk with rfl | rfl | rfl | rfl | rfl | rfl | rfl | rfl | rfl | rfl | rfl | rfl
  case' inl => have HA := fun o => Lib.hid (actOk_1 (w4.alloc o)); have HE := Lib.hid (fun args W => Go.MuLone.run_callFunc_enter (P := Tryz.prog) Tryz.func147 (by kernel_rfl) rfl args W)
  case' inr.inl => have HA := fun o => Lib.hid (actOk_2 (w4.alloc o)); have HE := Lib.hid (fun args W => Go.MuLone.run_callFunc_enter (P := Tryz.prog) Tryz.func148 (by kernel_rfl) rfl args W)
  case' inr.inr.inl => have HA := fun o => Lib.hid (actOk_3 (w4.alloc o)); have HE := Lib.hid (fun args W => Go.MuLone.run_callFunc_enter (P := Tryz.prog) Tryz.func149 (by kernel_rfl) rfl args W)
  case' inr.inr.inr.inl => have HA := fun o => Lib.hid (actOk_4 (w4.alloc o)); have HE := Lib.hid (fun args W => Go.MuLone.run_callFunc_enter (P := Tryz.prog) Tryz.func150 (by kernel_rfl) rfl args W)
  case' inr.inr.inr.inr.inl => have HA := fun o => Lib.hid (actOk_5 (w4.alloc o)); have HE := Lib.hid (fun args W => Go.MuLone.run_callFunc_enter (P := Tryz.prog) Tryz.func151 (by kernel_rfl) rfl args W)
  case' inr.inr.inr.inr.inr.inl => have HA := fun o => Lib.hid (actOk_6 (w4.alloc o)); have HE := Lib.hid (fun args W => Go.MuLone.run_callFunc_enter (P := Tryz.prog) Tryz.func152 (by kernel_rfl) rfl args W)
  case' inr.inr.inr.inr.inr.inr.inl => have HA := fun o => Lib.hid (actOk_7 (w4.alloc o)); have HE := Lib.hid (fun args W => Go.MuLone.run_callFunc_enter (P := Tryz.prog) Tryz.func153 (by kernel_rfl) rfl args W)
  case' inr.inr.inr.inr.inr.inr.inr.inl => have HA := fun o => Lib.hid (actOk_8 (w4.alloc o)); have HE := Lib.hid (fun args W => Go.MuLone.run_callFunc_enter (P := Tryz.prog) Tryz.func154 (by kernel_rfl) rfl args W)
  case' inr.inr.inr.inr.inr.inr.inr.inr.inl => have HA := fun o => Lib.hid (actOk_9 (h1.keeps (HC.out o))); have HE := Lib.hid (fun args W => Go.MuLone.run_callFunc_enter (P := Tryz.prog) Tryz.func165 (by kernel_rfl) rfl args W)
  case' inr.inr.inr.inr.inr.inr.inr.inr.inr.inl => have HA := fun o => Lib.hid (actOk_10 (h2.keeps (HC.out o))); have HE := Lib.hid (fun args W => Go.MuLone.run_callFunc_enter (P := Tryz.prog) Tryz.func165 (by kernel_rfl) rfl args W)
  case' inr.inr.inr.inr.inr.inr.inr.inr.inr.inr.inl => have HA := fun o => Lib.hid (actOk_11 (h3.keeps (HC.out o))); have HE := Lib.hid (fun args W => Go.MuLone.run_callFunc_enter (P := Tryz.prog) Tryz.func165 (by kernel_rfl) rfl args W)
  case' inr.inr.inr.inr.inr.inr.inr.inr.inr.inr.inr => have HA := fun o => Lib.hid (actOk_12 (h4.keeps (HC.out o))); have HE := Lib.hid (fun args W => Go.MuLone.run_callFunc_enter (P := Tryz.prog) Tryz.func165 (by kernel_rfl) rfl args W)
  all_goals
    clear h1 h2 h3 h4 HC hk
    go_wp2
    go_ret
    exact ⟨_, _, rfl, (HA _).out, hs0 ▸ HB.out _, HE.out⟩
end Go.Proofs.YtpmmjaceehlpiaaGreatDoor
