/-
  The model's reader: two logic variables; a bound formula; a pair of formulas, each over what reads a formula.
-/
import Derived.Deep.RegionLaw
import Derived.Test.YtplchhahjmoodaaGreatDoorZ40
import Derived.Test.YtplchhahjmoodaaGreatDoorZ23
namespace Go.Proofs.YtplchhahjmoodaaGreatDoor
open Go Go.RowKit Go.ChangeAt Go.ChangeShapes Go.WideShapes

def zero5 : List Value := [.int .i64 0, .int .i64 0, .int .i64 0, .int .i64 0, .slice none 0 0]
/-- It returned a formula that it made; the reader went on. -/
def ReadEnd (R : Nat) (va : Option Addr) (vca n : Nat) (s : ByteArray) (res : Fm × RdS) (W : World) (e : Ending) (W' : World) : Prop :=
  ∃ t : Ft, e = .returned t.val ∧ t.er = res.1 ∧ t.Mine W' W.heap.size W'.heap.size ∧ Step R va vca n s res.2 W W'
theorem Turn.over {lo hi a : Nat} {W V V' : World} (h : Turn lo hi W V) (t : Turn a (a + 1) V V') (ha : W.heap.size ≤ a) : Turn lo hi W V' :=
  ⟨t.os.trans h.os, t.tape.trans h.tape, t.output.trans h.output, Nat.le_trans h.size t.size, fun k hk hd => (t.block k (Nat.lt_of_lt_of_le hk h.size) (by omega)).trans (h.block k hk hd)⟩
theorem Step.turn {R : Nat} {va : Option Addr} {vca n : Nat} {s : ByteArray} {r' : RdS} {W W' : World} (h : Step R va vca n s r' W W') : Turn R (R + 1) W W' := by
  obtain ⟨_, _, _, _, t⟩ := h
  exact t
/-- In a walk: the reader, the result's box, and that nothing else old has turned. -/
structure PS (W : World) (R : Nat) (va : Option Addr) (vca n : Nat) (s : ByteArray) (k : Nat) (b : Bool) (xs : List Value) (V : World) : Prop where
  rd : RdAt V R va vca n s k b
  box : BoxL V W.heap.size xs
  turn : Turn R (R + 1) W V
  lt : R < W.heap.size
section
variable {W V V' : World} {R : Nat} {va : Option Addr} {vca n : Nat} {s : ByteArray} {k : Nat} {b : Bool} {xs : List Value} {r' : RdS}
theorem PS.start (h : RdAt W R va vca n s k b) (xs : List Value) (t : TypeId) : PS W R va vca n s k b xs (W.alloc (.cells xs.toArray t)) :=
  have hb := (Below.refl W.heap.size W).alloc (Nat.le_refl _) (.cells xs.toArray t)
  ⟨h.below hb, BoxL.new W xs t, Turn.of_below hb, h.box.lt⟩
theorem PS.step (h : PS W R va vca n s k b xs V) (st : Step R va vca n s r' V V') : ∃ k' b', r' = rdS s k' b' ∧ PS W R va vca n s k' b' xs V' := by
  obtain ⟨k', b', e, hr, ht⟩ := st
  exact ⟨k', b', e, hr, h.box.turn ht (.inr h.lt), h.turn.trans ht, h.lt⟩
theorem PS.below (h : PS W R va vca n s k b xs V) (hb : Below V.heap.size V V') : PS W R va vca n s k b xs V' := ⟨h.rd.below hb, h.box.below hb, h.turn.trans (Turn.of_below hb), h.lt⟩
theorem PS.put (h : PS W R va vca n s k b xs V) {a : Nat} (t : Turn a (a + 1) V V') (ha : W.heap.size < a) : PS W R va vca n s k b xs V' :=
  have hl := h.lt
  ⟨h.rd.turn t (.inl (by omega)), h.box.turn t (.inl (by omega)), h.turn.over t (by omega), h.lt⟩
theorem PS.res (h : PS W R va vca n s k b xs V) (i : Nat) (u : Value) : PS W R va vca n s k b (xs.set i u) (V.setCell ⟨W.heap.size, i, none⟩ u) :=
  have hl := h.lt
  ⟨h.rd.turn (turn_set V W.heap.size i u) (.inl hl), h.box.set i u, h.turn.over (turn_set V W.heap.size i u) (Nat.le_refl _), h.lt⟩
theorem PS.fin (h : PS W R va vca n s k b xs V) : Step R va vca n s (rdS s k b) W V := ⟨k, b, rfl, h.rd, h.turn⟩
theorem PS.row (h : PS W R va vca n s k b xs V) {ys : List Value} (hr : Row W R va ys) : Row V R va ys := fun i v hi => by
  obtain ⟨rb, ro, e, hb, hc⟩ := hr i v hi
  have hl := h.lt
  exact ⟨rb, ro, e, hb, (World.cell?_of_block (h.turn.block rb (by omega) (.inl hb))).trans hc⟩
end
theorem mine_lit {V : World} {lo hi : Nat} (ts : List Ft) (h : Ft.Mines V lo hi none ts) (hh : hi ≤ V.heap.size) (hn : ts.length ≤ maxLen) (kd k u v : Int) : (Ft.mk kd k u v (some ⟨V.heap.size, 0, none⟩) ts.length ts).Mine (V.alloc (.cells (fmVals ts).toArray 27)) lo (V.heap.size + 1) := by
  have hb := (Below.refl V.heap.size V).alloc (Nat.le_refl _) (.cells (fmVals ts).toArray 27)
  have hle := Ft.Mines.le ts h
  have ho := World.ownsRow_lit (e := 27) (size := 5) (base := V.heap.size) V (fmVals ts).toArray ts.length (Nat.le_refl _) hn (by simp [fmVals_length])
  have hlo : lo ≤ V.heap.size := by omega
  have h1 := Ft.Mines.rebind (r' := some V.heap.size) ts (Ft.Mines.grow ts (h.below hb) (Nat.le_refl _) hh) (fun q hq => by cases hq; exact .inr (.inl (Nat.le_refl _)))
  rw [Ft.Mine]
  exact ⟨⟨by simp, own_base (by simpa using ho) hlo, fun q hq => by cases hq; exact Nat.lt_succ_self _⟩, Ft.Mines.grow ts h1 (Nat.le_refl _) (Nat.le_succ _)⟩
theorem mines_one {V : World} {lo hi : Nat} {t : Ft} (h : t.Mine V lo hi) : Ft.Mines V lo hi none [t] := by
  rw [Ft.Mines]
  exact ⟨lo, hi, Nat.le_refl _, h, (fun k hk => by cases hk), by rw [Ft.Mines]; exact Nat.le_refl _⟩
theorem mines_two {V : World} {lo m m' hi : Nat} {t u : Ft} (h : t.Mine V lo m) (hm : m ≤ m') (g : u.Mine V m' hi) : Ft.Mines V lo hi none [t, u] := by
  rw [Ft.Mines]
  refine ⟨lo, m, Nat.le_refl _, h, (fun k hk => by cases hk), ?_⟩
  rw [Ft.Mines]
  exact ⟨m', hi, hm, g, (fun k hk => by cases hk), by rw [Ft.Mines]; exact Nat.le_refl _⟩

set_option maxRecDepth 100000 in
set_option maxHeartbeats 1600000 in
theorem specPair (R : Nat) (va : Option Addr) (vca n : Nat) (s : ByteArray) (k : Nat) (b : Bool) (kd : Int) (W : World) (hs : s.size ≤ 1099511627776) (h : RdAt W R va vca n s k b) :
    Calls Tryz.prog 91 #[.pointer (some ⟨R, 0, none⟩), .int .i64 kd] W (ReadEnd R va vca n s (pairP kd (rdS s k b)) W) := by
  obtain ⟨W0, hW0⟩ : ∃ V, W.alloc (.cells #[.int .i64 0, .int .i64 0, .int .i64 0, .int .i64 0, .slice none 0 0] 27) = V := ⟨_, rfl⟩
  have P0 : PS W R va vca n s k b zero5 W0 := by rw [← hW0]; exact PS.start h zero5 _
  have HW0 := Lib.hid hW0
  clear hW0 h
  go_enter Tryz.func91, Tryz.ntmps91
  go_wp2_with fail
  rw [HW0.out]
  refine (specVar R va vca n s k b W0 hs P0.rd).mono ?_
  rintro e w1 ⟨rfl, s1⟩
  obtain ⟨k1, b1, e1, P1⟩ := P0.step s1
  obtain ⟨u, hu⟩ : ∃ u, (varP (rdS s k b)).1 = u := ⟨_, rfl⟩
  rw [hu]
  have HU := Lib.hid (And.intro hu e1)
  clear P0 s1 hu e1
  go_wp2_with fail
  refine (specVar R va vca n s k1 b1 w1 hs P1.rd).mono ?_
  rintro e w2 ⟨rfl, s2⟩
  obtain ⟨k2, b2, e2, P2⟩ := P1.step s2
  obtain ⟨v, hv⟩ : ∃ v, (varP (rdS s k1 b1)).1 = v := ⟨_, rfl⟩
  rw [hv]
  have HV := Lib.hid (And.intro hv e2)
  have r0 := P2.box.c 0 _ rfl
  have r1 := P2.box.c 1 _ rfl
  have r2 := P2.box.c 2 _ rfl
  have r3 := P2.box.c 3 _ rfl
  have r4 := P2.box.c 4 _ rfl
  have rf := P2.box.f
  have rl := P2.box.lt
  have PE := Lib.hid (((((P2.res 0 (.int .i64 kd)).res 1 (.int .i64 0)).res 2 (.int .i64 u)).res 3 (.int .i64 v)).res 4 (.slice none 0 0))
  clear P1 P2 s2 hv e2
  go_wp2_with fail
  have hsz := PE.out.turn.size
  exact bodyPost_ret (v := Ft.val (.mk kd 0 u v none 0 [])) (by simp [results, Tryz.results91, go_sem, Ft.val, Ft.kd, Ft.k, Ft.u, Ft.v, Ft.a, Ft.cap, Ft.args, r0, r1, r2, r3, r4]) rfl ⟨.mk kd 0 u v none 0 [], rfl, by simp [Ft.er, Ft.ers, pairP, HU.out.1, HU.out.2, HV.out.1], Ft.mine_leaf _ _ _ _ hsz (Nat.le_refl _), by
    have := PE.out.fin
    rw [← HV.out.2, ← HU.out.2] at this
    exact this⟩

set_option maxRecDepth 100000 in
set_option maxHeartbeats 1600000 in
theorem specBind (R : Nat) (va : Option Addr) (vca : Nat) (ss : List ByteArray) (s : ByteArray) (k : Nat) (b : Bool) (kd d : Int) (F : RdS → Fm × RdS) (W : World) (hs : s.size ≤ 1099511627776) (hrow : Row W R va (strVals ss)) (h : RdAt W R va vca ss.length s k b)
    (IH : ∀ (k : Nat) (b : Bool) (V : World), RdAt V R va vca ss.length s k b → Row V R va (strVals ss) → Calls Tryz.prog 42 #[.pointer (some ⟨R, 0, none⟩), .int .i64 d] V (ReadEnd R va vca ss.length s (F (rdS s k b)) V)) :
    Calls Tryz.prog 92 #[.pointer (some ⟨R, 0, none⟩), .int .i64 kd, .int .i64 d] W (ReadEnd R va vca ss.length s (bindP kd F (rdS s k b)) W) := by
  obtain ⟨W0, hW0⟩ : ∃ V, W.alloc (.cells #[.int .i64 0, .int .i64 0, .int .i64 0, .int .i64 0, .slice none 0 0] 27) = V := ⟨_, rfl⟩
  have P0 : PS W R va vca ss.length s k b zero5 W0 := by rw [← hW0]; exact PS.start h zero5 _
  have HW0 := Lib.hid hW0
  have HI := Lib.hid IH
  have HROW := Lib.hid hrow
  clear hW0 h IH hrow
  go_enter Tryz.func92, Tryz.ntmps92
  go_wp2_with fail
  rw [HW0.out]
  refine (specVar R va vca ss.length s k b W0 hs P0.rd).mono ?_
  rintro e w1 ⟨rfl, s1⟩
  obtain ⟨k1, b1, e1, P1⟩ := P0.step s1
  obtain ⟨u, hu⟩ : ∃ u, (varP (rdS s k b)).1 = u := ⟨_, rfl⟩
  rw [hu]
  have HU := Lib.hid (And.intro hu e1)
  obtain ⟨W2, hW2⟩ : ∃ V, w1.alloc (.cells #[.int .i64 kd, .int .i64 0, .int .i64 u, .int .i64 0, .slice none 0 0] 27) = V := ⟨_, rfl⟩
  have hb2 : Below w1.heap.size w1 W2 := by rw [← hW2]; exact (Below.refl _ _).alloc (Nat.le_refl _) _
  have X2 : BoxL W2 w1.heap.size [.int .i64 kd, .int .i64 0, .int .i64 u, .int .i64 0, .slice none 0 0] := by rw [← hW2]; exact BoxL.new w1 [.int .i64 kd, .int .i64 0, .int .i64 u, .int .i64 0, .slice none 0 0] _
  have P2 := P1.below hb2
  have hw1 := P1.turn.size
  have hlt := P1.lt
  have hbx := P1.box.lt
  have HW2 := Lib.hid hW2
  clear P0 s1 hu e1 hW2 P1 hb2
  go_wp2_with fail
  rw [HW2.out]
  clear HW2
  generalize w1.heap.size = B at *
  refine (specMust R va vca ss.length ⟨#[46]⟩ s k1 b1 W2 (by decide) hs P2.rd).mono ?_
  rintro e w3 ⟨rfl, s3⟩
  have ht3 := s3.turn
  obtain ⟨k3, b3, e3, P3⟩ := P2.step s3
  have X3 := X2.turn ht3 (.inr (by omega))
  have HM := Lib.hid e3
  have hz3 := ht3.size
  have hx2 := X2.lt
  clear P2 X2 s3 ht3 e3
  go_wp2_with fail
  refine (HI.out k3 b3 w3 P3.rd (P3.row HROW.out)).mono ?_
  rintro e w4 ⟨t, rfl, hte, htm, s4⟩
  have ht4 := s4.turn
  obtain ⟨k4, b4, e4, P4⟩ := P3.step s4
  have X4 := X3.turn ht4 (.inr (by omega))
  have HE := Lib.hid (And.intro hte e4)
  have hz4 := ht4.size
  have x4 := X4.c 4 _ rfl
  have xf := X4.f
  have xl := X4.lt
  have q0 := X4.c 0 _ rfl
  have q1 := X4.c 1 _ rfl
  have q2 := X4.c 2 _ rfl
  have q3 := X4.c 3 _ rfl
  have r0 := P4.box.c 0 _ rfl
  have r1 := P4.box.c 1 _ rfl
  have r2 := P4.box.c 2 _ rfl
  have r3 := P4.box.c 3 _ rfl
  have r4 := P4.box.c 4 _ rfl
  have rf := P4.box.f
  have rl := P4.box.lt
  have T6 := turn_set w4 B 4 (.slice (some ⟨w4.heap.size, 0, none⟩) 1 1)
  have P6 := P4.put T6 (by omega)
  have hTT := ((((turn_set (w4.setCell ⟨B, 4, none⟩ (.slice (some ⟨w4.heap.size, 0, none⟩) 1 1)) W.heap.size 0 (.int .i64 kd)).trans (turn_set _ W.heap.size 1 (.int .i64 0))).trans (turn_set _ W.heap.size 2 (.int .i64 u))).trans (turn_set _ W.heap.size 3 (.int .i64 0))).trans (turn_set _ W.heap.size 4 (.slice (some ⟨w4.heap.size, 0, none⟩) 1 1))
  have PE := ((((P6.res 0 (.int .i64 kd)).res 1 (.int .i64 0)).res 2 (.int .i64 u)).res 3 (.int .i64 0)).res 4 (.slice (some ⟨w4.heap.size, 0, none⟩) 1 1)
  have M6 := Ft.Mine.turn hTT _ (Ft.Mine.turn T6 _ htm (.inl (by omega))) (.inl (by omega))
  obtain ⟨V, hV⟩ : ∃ V, (((((w4.setCell ⟨B, 4, none⟩ (.slice (some ⟨w4.heap.size, 0, none⟩) 1 1)).setCell ⟨W.heap.size, 0, none⟩ (.int .i64 kd)).setCell ⟨W.heap.size, 1, none⟩ (.int .i64 0)).setCell ⟨W.heap.size, 2, none⟩ (.int .i64 u)).setCell ⟨W.heap.size, 3, none⟩ (.int .i64 0)).setCell ⟨W.heap.size, 4, none⟩ (.slice (some ⟨w4.heap.size, 0, none⟩) 1 1) = V := ⟨_, rfl⟩
  have hVs : V.heap.size = w4.heap.size := by rw [← hV]; simp
  rw [hV] at PE M6
  have M7 := mine_lit [t] (mines_one M6) (by rw [hVs]; exact Nat.le_refl _) (by unfold maxLen; simp) kd 0 u 0
  rw [hVs] at M7
  have P7 := PE.below ((Below.refl V.heap.size V).alloc (Nat.le_refl _) (.cells (fmVals [t]).toArray 27))
  have HEND := Lib.hid (show ReadEnd R va vca ss.length s (bindP kd F (rdS s k b)) W (.returned (Ft.val (.mk kd 0 u 0 (some ⟨w4.heap.size, 0, none⟩) 1 [t]))) (V.alloc (.cells #[.int .i64 t.kd, .int .i64 t.k, .int .i64 t.u, .int .i64 t.v, .slice t.a t.args.length t.cap] 27)) from by
    refine ⟨_, rfl, ?_, ?_, ?_⟩
    · unfold bindP
      rw [HU.out.1, HU.out.2, HM.out, ← hte]
      simp [Ft.er, Ft.ers]
    · have e1 : (V.alloc (.cells #[.int .i64 t.kd, .int .i64 t.k, .int .i64 t.u, .int .i64 t.v, .slice t.a t.args.length t.cap] 27)).heap.size = w4.heap.size + 1 := by simp [hVs]
      rw [e1]
      exact Ft.Mine.grow _ M7 (by omega) (Nat.le_refl _) (by rw [e1]; exact Nat.le_refl _)
    · have := P7.fin
      unfold bindP
      rw [HU.out.2, HM.out, e4]
      exact this)
  have HV := Lib.hid hV
  clear P3 P4 P6 X3 X4 T6 M6 M7 PE P7 hTT s4 ht4 hte e4 htm hV hVs HE
  go_wp2_with fail
  have e := HEND.out
  rw [← HV.out] at e
  have hne : ¬ W.heap.size = w4.heap.size := Nat.ne_of_lt rl
  exact bodyPost_ret (v := .agg #[.int .i64 kd, .int .i64 0, .int .i64 u, .int .i64 0, .slice (some ⟨w4.heap.size, 0, none⟩) 1 1]) (by simp [results, Tryz.results92, go_sem, r0, r1, r2, r3, r4, rl]) rfl e
end Go.Proofs.YtplchhahjmoodaaGreatDoor
