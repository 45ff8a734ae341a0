/-
  The program's reader of parts: taking the next part.
-/
import Derived.Test.YtplchhahjmoodaaGreatDoorZ42
import Derived.Test.YtplchhahjmoodaaGreatDoorZ41
import Derived.Test.YtplchhahjmoodaaGreatDoorZ23
namespace Go.Proofs.YtplchhahjmoodaaGreatDoor
open Go Go.RowKit

/-- The parts as lists of bytes. -/
def listsP (ps : List ByteArray) : List (List UInt8) := ps.map (·.data.toList)
theorem listsP_tail (ps : List ByteArray) : listsP ps.tail = (listsP ps).tail := by
  cases ps <;> rfl
theorem listsP_head (ps : List ByteArray) : (⟨((listsP ps).headD []).toArray⟩ : ByteArray) = ps.headD ⟨#[]⟩ := by
  cases ps <;> rfl
/-- A reader in its box R: the variables, and the parts that are left, in blocks below B; w0 is a world in which the variables and the tables lie. -/
structure RdGx (w0 W : World) (B R : Nat) (ss : List ByteArray) (va : Option Addr) (vca : Nat) (pa : Option Addr) (pca : Nat) (ps : List ByteArray) : Prop where
  box : BoxL W R [.slice va ss.length vca, .slice pa ps.length pca]
  row : Row W B pa (strVals ps)
  off : ∀ b o s, pa = some ⟨b, o, s⟩ → b ≠ R
  cap : ps.length ≤ pca
  sz : ∀ s ∈ ps, s.size ≤ 1048576
  len : ps.length ≤ 1048576
  base : Below w0.heap.size w0 W
  lt : w0.heap.size ≤ R
  rb : R < B
  bw : B ≤ W.heap.size
def RdG (w0 W : World) (B R : Nat) (ss : List ByteArray) (va : Option Addr) (vca : Nat) (ps : List ByteArray) : Prop := ∃ pa pca, RdGx w0 W B R ss va vca pa pca ps
section
variable {w0 W W' : World} {B R lo hi : Nat} {ss : List ByteArray} {va : Option Addr} {vca : Nat} {pa : Option Addr} {pca : Nat} {ps : List ByteArray}
theorem RdGx.turn (h : RdGx w0 W B R ss va vca pa pca ps) (t : Turn lo hi W W') (hlo : B ≤ lo) : RdGx w0 W' B R ss va vca pa pca ps := by
  have hrb := h.rb
  have hlt := h.lt
  have hbw := h.bw
  refine ⟨h.box.turn t (.inl (by omega)), fun k x hx => ?_, h.off, h.cap, h.sz, h.len, ?_, h.lt, h.rb, Nat.le_trans h.bw t.size⟩
  · obtain ⟨b, o, e, hb, hc⟩ := h.row k x hx
    exact ⟨b, o, e, hb, (World.cell?_of_block (t.block b (by omega) (.inl (by omega)))).trans hc⟩
  · refine ⟨t.os.trans h.base.os, t.tape.trans h.base.tape, t.output.trans h.base.output, Nat.le_trans h.base.size t.size, fun k hk => ?_⟩
    exact (t.block k (by have := h.base.size; omega) (.inl (by omega))).trans (h.base.block k hk)
theorem RdGx.below (h : RdGx w0 W B R ss va vca pa pca ps) (hb : Below W.heap.size W W') : RdGx w0 W' B R ss va vca pa pca ps := h.turn (lo := B) (hi := B) (Turn.of_below hb) (Nat.le_refl _)
theorem RdG.turn (h : RdG w0 W B R ss va vca ps) (t : Turn lo hi W W') (hlo : B ≤ lo) : RdG w0 W' B R ss va vca ps := by
  obtain ⟨pa, pca, h⟩ := h
  exact ⟨pa, pca, h.turn t hlo⟩
theorem RdG.below (h : RdG w0 W B R ss va vca ps) (hb : Below W.heap.size W W') : RdG w0 W' B R ss va vca ps := h.turn (lo := B) (hi := B) (Turn.of_below hb) (Nat.le_refl _)
theorem RdG.bounds (h : RdG w0 W B R ss va vca ps) : R < B ∧ B ≤ W.heap.size ∧ w0.heap.size ≤ R ∧ ps.length ≤ 1048576 ∧ (∀ s ∈ ps, s.size ≤ 1048576) ∧ Below w0.heap.size w0 W := by
  obtain ⟨pa, pca, h⟩ := h
  exact ⟨h.rb, h.bw, h.lt, h.len, h.sz, h.base⟩
end
/-- What part leaves. -/
def PartEnd (w0 : World) (B R : Nat) (ss : List ByteArray) (va : Option Addr) (vca : Nat) (ps : List ByteArray) (W : World) (e : Ending) (W' : World) : Prop :=
  e = .returned (.string (ps.headD ⟨#[]⟩)) ∧ RdG w0 W' B R ss va vca ps.tail ∧ Turn R (R + 1) W W' ∧ W'.heap.size = W.heap.size
theorem elemStr : Tryz.prog.elem 24 = 9 := by kernel_rfl
theorem sizeStr1 (V : World) : (sizeOf 9).run Tryz.prog V = .ok 1 V := by kernel_rfl
/-- All but the first of a row of strings. -/
theorem run_tail (V : World) (b o len cap : Nat) (h : 1 ≤ len) :
    (Instr.slice 24 (.slice (some ⟨b, o, none⟩) len cap) (some (.int .i64 1)) none none).run Tryz.prog V = .ok (.slice (some ⟨b, if cap = 1 then o else o + 1, none⟩) (len - 1) (cap - 1)) V := by
  have h1 := run_slice_l (P := Tryz.prog) (w := V) 24 (some ⟨b, o, none⟩) len cap (by rw [elemStr]; exact Tryz.underlying24) .i64 1 (by omega) (by omega)
  rw [h1, elemStr, sizeStr1]
  show Result.ok (sliced (some ⟨b, o, none⟩) 1 len cap 1) V = _
  unfold sliced
  by_cases hc : cap = 1
  · rw [if_pos hc, if_pos hc]
  · rw [if_neg hc, if_neg hc]
    simp [Addr.add]
set_option maxRecDepth 100000 in
set_option maxHeartbeats 1600000 in
theorem implPart (w0 : World) (B R : Nat) (ss : List ByteArray) (va : Option Addr) (vca : Nat) (ps : List ByteArray) (W : World) (h : RdG w0 W B R ss va vca ps) :
    Calls Tryz.prog 118 #[.pointer (some ⟨R, 0, none⟩)] W (PartEnd w0 B R ss va vca ps W) := by
  obtain ⟨pa, pca, h⟩ := h
  cases ps with
  | nil =>
    have HE := Lib.hid (show PartEnd w0 B R ss va vca [] W (.returned (.string ⟨#[]⟩)) W from ⟨rfl, ⟨pa, pca, h⟩, Turn.refl _ _ _, rfl⟩)
    have c1 := h.box.c 1 _ rfl
    clear h
    simp only [List.length_nil] at c1
    go_enter Tryz.func118, Tryz.ntmps118
    go_wp2
    go_ret
    exact HE.out
  | cons s rest =>
    obtain ⟨b, o, rfl, hbB, hc0⟩ := h.row 0 (.string s) rfl
    have hlen : (s :: rest).length = rest.length + 1 := rfl
    have hll := h.len
    have hcap := h.cap
    rw [hlen] at hll hcap
    have c1 := h.box.c 1 _ rfl
    have cf := h.box.f
    rw [hlen] at c1
    have hne := h.off b o none rfl
    have hsl := fun V => run_tail V b o (rest.length + 1) pca (by omega)
    rw [Nat.add_sub_cancel] at hsl
    have hz : ((((rest.length + 1 : Nat) : Int)) == 0) = false := beq_eq_false_iff_ne.2 (by omega)
    have hbx := h.box.set 1 (.slice (some ⟨b, if pca = 1 then o else o + 1, none⟩) rest.length (pca - 1))
    have hrow : Row (W.setCell ⟨R, 1, none⟩ (.slice (some ⟨b, if pca = 1 then o else o + 1, none⟩) rest.length (pca - 1))) B (some ⟨b, if pca = 1 then o else o + 1, none⟩) (strVals rest) := by
      intro k x hx
      obtain ⟨b', o', e, hb', hc⟩ := h.row (k + 1) x hx
      injection e with e
      injection e with e1 e2 _
      subst e1 e2
      have hk : k < rest.length := by
        have := (List.getElem?_eq_some_iff.1 hx).1
        simpa [strVals] using this
      refine ⟨b, _, rfl, hbB, ?_⟩
      rw [if_neg (by omega)]
      rw [World.cell?_of_block (Below.heap_setCell _ _ _ _ (by show b ≠ R; exact hne))]
      rw [show o + 1 + k = o + (k + 1) by omega]
      exact hc
    have hG : RdGx w0 (W.setCell ⟨R, 1, none⟩ (.slice (some ⟨b, if pca = 1 then o else o + 1, none⟩) rest.length (pca - 1))) B R ss va vca (some ⟨b, if pca = 1 then o else o + 1, none⟩) (pca - 1) rest := by
      refine ⟨hbx, hrow, fun b' o' s' e => ?_, by omega, fun x hx => h.sz x (List.mem_cons_of_mem _ hx), by omega, h.base.setCell h.lt _, h.lt, h.rb, by simpa using h.bw⟩
      injection e with e
      injection e with e1 _ _
      rw [← e1]
      exact hne
    have HE := Lib.hid (show PartEnd w0 B R ss va vca (s :: rest) W (.returned (.string s)) (W.setCell ⟨R, 1, none⟩ (.slice (some ⟨b, if pca = 1 then o else o + 1, none⟩) rest.length (pca - 1))) from ⟨rfl, ⟨_, _, hG⟩, turn_set W R 1 _, by simp⟩)
    rw [Nat.add_zero] at hc0
    clear h hbx hrow hG hlen
    generalize (if pca = 1 then o else o + 1) = o2 at hsl HE
    go_enter Tryz.func118, Tryz.ntmps118
    go_wp2
    go_ret
    exact HE.out
theorem Turn.put {lo hi : Nat} {W X : World} (t : Turn lo hi W X) {b : Nat} (hb : W.heap.size ≤ b) (i : Nat) (u : Value) : Turn lo hi W (X.setCell ⟨b, i, none⟩ u) :=
  ⟨t.os, t.tape, t.output, by simpa using t.size, fun k hk hd => (Below.heap_setCell _ _ _ _ (by show k ≠ b; omega)).trans (t.block k hk hd)⟩
theorem Turn.news {lo hi : Nat} {W X : World} (t : Turn lo hi W X) (o : Obj) : Turn lo hi W (X.alloc o) := t.trans (Turn.of_below ((Below.refl _ _).alloc (Nat.le_refl _) o))
/-- What formula leaves. -/
def GotF (w0 : World) (B R : Nat) (ss : List ByteArray) (va : Option Addr) (vca n : Nat) (ps : List ByteArray) (W : World) (e : Ending) (W' : World) : Prop :=
  ∃ (t : Ft) (qs : List ByteArray), e = .returned t.val ∧ t.er = (guessF ss n (listsP ps)).1 ∧ listsP qs = (guessF ss n (listsP ps)).2 ∧ t.Mine W' W.heap.size W'.heap.size ∧ RdG w0 W' B R ss va vca qs ∧ Turn R (R + 1) W W'
theorem guessF_none (ss : List ByteArray) : ∀ n, guessF ss n [] = (guessN ss [], [])
  | 0 => rfl
  | _ + 1 => rfl
theorem guessN_nil (ss : List ByteArray) : guessN ss [] = .mk 0 0 0 0 [] := by
  rw [guessN_of (kd := 0) (cutW_none (h := []) (by simp)) (place_word rfl)]
  rfl
theorem guessN_args (ss : List ByteArray) (l : List UInt8) : (guessN ss l).args = [] := by
  unfold guessN
  simp only
  repeat' split
  all_goals rfl
theorem leaf_er (f : Fm) (h : f.args = []) : (Ft.mk f.kd f.k f.u f.v none 0 []).er = f := by
  cases f
  rename_i kd k u v args
  have : args = [] := h
  subst this
  simp [Ft.er, Ft.ers, Fm.kd, Fm.k, Fm.u, Fm.v]
set_option maxRecDepth 100000 in
set_option maxHeartbeats 1000000 in
theorem implPairF (w0 : World) (B R : Nat) (ss : List ByteArray) (va : Option Addr) (vca m : Nat) (ps : List ByteArray) (W : World) (hwt : HasFormulaWords w0)
    (IH : ∀ (V : World) (ps : List ByteArray), ps.length ≤ m → RdG w0 V B R ss va vca ps → Calls Tryz.prog 80 #[.pointer (some ⟨R, 0, none⟩)] V (GotF w0 B R ss va vca m ps V)) (hm : ps.length ≤ m) (h : RdG w0 W B R ss va vca ps) :
    Calls Tryz.prog 119 #[.pointer (some ⟨R, 0, none⟩)] W (GotF w0 B R ss va vca (m + 1) (⟨#[40]⟩ :: ps) W) := by
  obtain ⟨hRB, hBW, hwR, _, _, _⟩ := h.bounds
  have HI := Lib.hid IH
  clear IH
  go_enter Tryz.func119, Tryz.ntmps119
  go_wp2_with fail
  obtain ⟨W0, hW0, hb0, br0⟩ := one_boxL5 W [.int .i64 0, .int .i64 0, .int .i64 0, .int .i64 0, .slice none 0 0] 27
  simp only [List.toArray] at hW0
  rw [hW0]
  clear hW0
  have h0 := h.below hb0
  refine (HI.out W0 ps hm h0).mono ?_
  rintro e w1 ⟨t1, qs1, rfl, he1, hq1, hm1, h1, tn1⟩
  have HE1 := Lib.hid he1
  have HQ1 := Lib.hid hq1
  clear he1 hq1
  have br1 := br0.turn tn1 (.inr (by omega))
  obtain ⟨W1, hW1, hb1, X1⟩ := one_boxL5 w1 [.int .i64 t1.kd, .int .i64 t1.k, .int .i64 t1.u, .int .i64 t1.v, .slice t1.a t1.args.length t1.cap] 27
  simp only [List.toArray] at hW1
  have h1' := h1.below hb1
  have hz0 := hb0.size
  have hz1 := tn1.size
  have hzb := hb1.size
  have br1' := br1.below hb1
  have m1' := hm1.below hb1
  have hWW0 := br0.lt
  go_wp2_with fail
  clear hW1
  have hP := implPart w0 B R ss va vca qs1 W1 h1'
  unfold PartEnd at hP
  obtain ⟨hd, hhd⟩ : ∃ hd, qs1.headD ⟨#[]⟩ = hd := ⟨_, rfl⟩
  rw [hhd] at hP
  have HHD := Lib.hid hhd
  clear hhd
  refine hP.mono ?_
  clear hP
  rintro e w2 ⟨rfl, h2, tn2, -⟩
  have hz2 := tn2.size
  have br2 := br1'.turn tn2 (.inr (by omega))
  have X2 := X1.turn tn2 (.inr (by omega))
  have m2 := Ft.Mine.turn tn2 t1 m1' (.inl (by omega))
  have hbase2 := (h2.bounds).2.2.2.2.2
  go_wp2_with fail
  refine (implKindOfWord hd _ (hwt.keeps hbase2)).mono ?_
  rintro e w2' ⟨rfl, hw2'⟩
  obtain rfl := hw2'
  obtain ⟨kd, hkd⟩ : ∃ kd, place formWords hd = kd := ⟨_, rfl⟩
  rw [hkd]
  have HKD := Lib.hid hkd
  clear hkd
  have hq1 := HQ1.out
  have hq1l : qs1.tail.length ≤ m := by
    have a := (guessF_size ss m (listsP ps)).1
    have b : (listsP qs1).length = qs1.length := by simp [listsP]
    have c : (listsP ps).length = ps.length := by simp [listsP]
    rw [← hq1, b, c] at a
    rw [List.length_tail]
    omega
  clear hq1
  go_wp2_with fail
  refine (HI.out w2 qs1.tail hq1l h2).mono ?_
  rintro e w3 ⟨t2, qs2, rfl, he2, hq2, hm2, h3, tn3⟩
  have HE2 := Lib.hid he2
  have HQ2 := Lib.hid hq2
  clear he2 hq2
  have hz3 := tn3.size
  have br3 := br2.turn tn3 (.inr (by omega))
  have X3 := X2.turn tn3 (.inr (by omega))
  have m3 := Ft.Mine.turn tn3 t1 m2 (.inl (by omega))
  obtain ⟨W3, hW3, hb3, Y3⟩ := one_boxL5 w3 [.int .i64 t2.kd, .int .i64 t2.k, .int .i64 t2.u, .int .i64 t2.v, .slice t2.a t2.args.length t2.cap] 27
  simp only [List.toArray] at hW3
  have hzc := hb3.size
  have h3' := h3.below hb3
  go_wp2_with fail
  clear hW3
  have hP := implPart w0 B R ss va vca qs2 W3 h3'
  unfold PartEnd at hP
  generalize qs2.headD ⟨#[]⟩ = hd2 at hP
  refine hP.mono ?_
  clear hP
  rintro e w4 ⟨rfl, h4, tn4, -⟩
  have hz4 := tn4.size
  have br4 := (br3.below hb3).turn tn4 (.inr (by omega))
  have X4 := (X3.below hb3).turn tn4 (.inr (by omega))
  have Y4 := Y3.turn tn4 (.inr (by omega))
  have m4 := Ft.Mine.turn tn4 t1 (m3.below hb3) (.inl (by omega))
  have n4 := Ft.Mine.turn tn4 t2 (hm2.below hb3) (.inl (by omega))
  have TW : Turn R (R + 1) W w4 := (((((Turn.of_below hb0).trans tn1).trans (Turn.of_below hb1)).trans tn2).trans tn3).trans ((Turn.of_below hb3).trans tn4)
  have x0 := X4.c 0 _ rfl
  have x1 := X4.c 1 _ rfl
  have x2 := X4.c 2 _ rfl
  have x3 := X4.c 3 _ rfl
  have x4 := X4.c 4 _ rfl
  have y0 := Y4.c 0 _ rfl
  have y1 := Y4.c 1 _ rfl
  have y2 := Y4.c 2 _ rfl
  have y3 := Y4.c 3 _ rfl
  have y4 := Y4.c 4 _ rfl
  have r0 := br4.c 0 _ rfl
  have r1 := br4.c 1 _ rfl
  have r2 := br4.c 2 _ rfl
  have r3 := br4.c 3 _ rfl
  have r4 := br4.c 4 _ rfl
  have rf := br4.f
  have rl := br4.lt
  go_wp2_with fail
  have hTT := ((((turn_set w4 W.heap.size 0 (.int .i64 kd)).trans (turn_set _ W.heap.size 1 (.int .i64 0))).trans (turn_set _ W.heap.size 2 (.int .i64 0))).trans (turn_set _ W.heap.size 3 (.int .i64 0))).trans (turn_set _ W.heap.size 4 (.slice (some ⟨w4.heap.size, 0, none⟩) 2 2))
  have m5 := Ft.Mine.turn hTT t1 m4 (.inl (by omega))
  have n5 := Ft.Mine.turn hTT t2 n4 (.inl (by omega))
  have h5 := h4.turn hTT hBW
  have TV := ((((TW.put (Nat.le_refl _) 0 (.int .i64 kd)).put (Nat.le_refl _) 1 (.int .i64 0)).put (Nat.le_refl _) 2 (.int .i64 0)).put (Nat.le_refl _) 3 (.int .i64 0)).put (Nat.le_refl _) 4 (.slice (some ⟨w4.heap.size, 0, none⟩) 2 2)
  have b5 := set5 br4 (.int .i64 kd) (.int .i64 0) (.int .i64 0) (.int .i64 0) (.slice (some ⟨w4.heap.size, 0, none⟩) 2 2) rfl
  obtain ⟨V, hV⟩ : ∃ V, ((((w4.setCell ⟨W.heap.size, 0, none⟩ (.int .i64 kd)).setCell ⟨W.heap.size, 1, none⟩ (.int .i64 0)).setCell ⟨W.heap.size, 2, none⟩ (.int .i64 0)).setCell ⟨W.heap.size, 3, none⟩ (.int .i64 0)).setCell ⟨W.heap.size, 4, none⟩ (.slice (some ⟨w4.heap.size, 0, none⟩) 2 2) = V := ⟨_, rfl⟩
  have hVs : V.heap.size = w4.heap.size := by rw [← hV]; simp
  rw [hV] at hTT m5 n5 h5 TV b5 ⊢
  clear hV
  have M7 := mine_lit [t1, t2] (mines_two m5 (by omega) n5) (by rw [hVs]; omega) (by unfold maxLen; simp) kd 0 0 0
  rw [hVs] at M7
  have hbx := (Below.refl V.heap.size V).alloc (Nat.le_refl _) (.cells (fmVals [t1, t2]).toArray 27)
  have b6 := b5.below hbx
  have h6 := h5.below hbx
  have T6 := TV.news (.cells (fmVals [t1, t2]).toArray 27)
  have hX : V.alloc (.cells (fmVals [t1, t2]).toArray 27) = V.alloc (.cells #[.int .i64 t1.kd, .int .i64 t1.k, .int .i64 t1.u, .int .i64 t1.v, .slice t1.a t1.args.length t1.cap, .int .i64 t2.kd, .int .i64 t2.k, .int .i64 t2.u, .int .i64 t2.v, .slice t2.a t2.args.length t2.cap] 27) := rfl
  have hXs : (V.alloc (.cells (fmVals [t1, t2]).toArray 27)).heap.size = w4.heap.size + 1 := by simp [hVs]
  have g1 : guessF ss m (listsP ps) = (t1.er, listsP qs1) := Prod.ext HE1.out.symm HQ1.out.symm
  have g2 : guessF ss m (listsP qs1).tail = (t2.er, listsP qs2) := by rw [← listsP_tail]; exact Prod.ext HE2.out.symm HQ2.out.symm
  have g3 := guessF_two g1 g2
  rw [listsP_head, HHD.out, HKD.out] at g3
  have HG : GotF w0 B R ss va vca (m + 1) (⟨#[40]⟩ :: ps) W (.returned (.agg #[.int .i64 kd, .int .i64 0, .int .i64 0, .int .i64 0, .slice (some ⟨w4.heap.size, 0, none⟩) 2 2])) (V.alloc (.cells (fmVals [t1, t2]).toArray 27)) := by
    refine ⟨.mk kd 0 0 0 (some ⟨w4.heap.size, 0, none⟩) 2 [t1, t2], qs2.tail, rfl, ?_, ?_, ?_, h6, T6⟩
    · show _ = (guessF ss (m + 1) ([40] :: listsP ps)).1
      rw [g3]
      simp [Ft.er, Ft.ers]
    · show _ = (guessF ss (m + 1) ([40] :: listsP ps)).2
      rw [g3, listsP_tail]
    · rw [hXs]
      exact Ft.Mine.grow _ M7 (by omega) (Nat.le_refl _) (by rw [hXs]; exact Nat.le_refl _)
  rw [hX] at HG b6
  have s0 := b6.c 0 _ rfl
  have s1 := b6.c 1 _ rfl
  have s2 := b6.c 2 _ rfl
  have s3 := b6.c 3 _ rfl
  have s4 := b6.c 4 _ rfl
  exact bodyPost_ret (v := .agg #[.int .i64 kd, .int .i64 0, .int .i64 0, .int .i64 0, .slice (some ⟨w4.heap.size, 0, none⟩) 2 2]) (by simp only [results, Tryz.results119]; simp [go_sem, s0, s1, s2, s3, s4]) rfl HG
end Go.Proofs.YtplchhahjmoodaaGreatDoor
